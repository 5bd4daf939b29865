/- Contracts of functions that the laws of this seat call, or the evaluator of closed calls and its runs. Conditions: as each theorem states them. -/
import Derived.Test.YtdfhkimjpnnobaaGreatDoorGC
set_option linter.unusedVariables false
set_option linter.unusedSimpArgs false
namespace Go.Kn
open Go Go.Proofs Go.RowKit

def ndR (x : N2) : List UInt8 := rowL nodeW (ndL x)
def ouR (x : O3) : List UInt8 := rowL outletW (ouL x)
def headR (f : Int) : List UInt8 := rowL droughtW [f]
/-- the lines of a tree, but for the last one -/
def rowsD (f : Int) (ln lo : Nat) (N : Nat → N2) (U : Nat → O3) : List (List UInt8) := headR f :: ((upto N ln).map ndR ++ (upto U lo).map ouR)
theorem rowsD_len (f : Int) (ln lo : Nat) (N : Nat → N2) (U : Nat → O3) : (rowsD f ln lo N U).length = ln + lo + 1 := by simp [rowsD, upto_length]
theorem rowsD_n {f : Int} {ln lo k : Nat} {N : Nat → N2} {U : Nat → O3} (h : k < ln) : (rowsD f ln lo N U)[k + 1]? = some (ndR (N k)) := by
  rw [rowsD, List.getElem?_cons_succ, List.getElem?_append_left (by simp [upto_length]; omega)]
  simp [upto, h]
theorem rowsD_o {f : Int} {ln lo j : Nat} {N : Nat → N2} {U : Nat → O3} (h : j < lo) : (rowsD f ln lo N U)[ln + j + 1]? = some (ouR (U j)) := by
  rw [rowsD, List.getElem?_cons_succ, List.getElem?_append_right (by simp [upto_length])]
  simp [upto, h]
theorem take_snoc {α : Type} {l : List α} {k : Nat} {x : α} (h : l[k]? = some x) : l.take (k + 1) = l.take k ++ [x] := by
  rw [List.take_add_one, h]; rfl

theorem tree_f {f : Int} {ln lo : Nat} {N : Nat → N2} {U : Nat → O3} (H : TreeP f ln lo N U) : 0 ≤ f ∧ f ≤ 200 := by
  have := H.ff; simp only [fromB, decide_eq_true_eq] at this; exact this
theorem tree_n {f : Int} {ln lo : Nat} {N : Nat → N2} {U : Nat → O3} (H : TreeP f ln lo N U) {i : Nat} (hi : i < ln) : (0 ≤ (N i).p ∧ (N i).p ≤ i) ∧ 0 ≤ (N i).c ∧ (N i).c ≤ 200 := by
  have := H.nk i hi; simp only [nodeB, fromB, Bool.and_eq_true, decide_eq_true_eq] at this; exact this
theorem tree_o {f : Int} {ln lo : Nat} {N : Nat → N2} {U : Nat → O3} (H : TreeP f ln lo N U) {i : Nat} (hi : i < lo) : (0 ≤ (U i).n ∧ (U i).n ≤ ln) ∧ (1 ≤ (U i).c ∧ (U i).c ≤ 200) ∧ 0 ≤ (U i).k ∧ (U i).k ≤ 3 := by
  have := H.ok i hi; simp only [outB, fromB, Bool.and_eq_true, decide_eq_true_eq] at this; exact ⟨this.1.1, this.1.2, this.2⟩

theorem meth1 (v : Value) (w : World) : (method 327 123 v "quinaria/drought.text").run Tryz.prog w = .ok (223, v) w := by kernel_rfl
theorem meth2 (v : Value) (w : World) : (method 327 124 v "quinaria/drought.text").run Tryz.prog w = .ok (225, v) w := by kernel_rfl

theorem rows_shortD {f : Int} {ln lo : Nat} {N : Nat → N2} {U : Nat → O3} (H : TreeP f ln lo N U) : ∀ x ∈ rowsD f ln lo N U, x.length ≤ 1000 := by
  intro x hx
  have hl := H.l6
  have hl2 := H.lo2
  have hff := tree_f H
  simp only [rowsD, List.mem_cons, List.mem_append, List.mem_map] at hx
  rcases hx with rfl | ⟨y, hy, rfl⟩ | ⟨y, hy, rfl⟩
  · have h := rowL_len droughtW [f] (by intro x hx; simp at hx; subst hx; omega)
    have e1 : droughtW.length = 7 := rfl
    rw [e1] at h
    simp at h
    unfold headR
    omega
  · obtain ⟨i, hi, rfl⟩ : ∃ i, i < ln ∧ N i = y := by simpa [upto] using hy
    obtain ⟨⟨b1, b2⟩, b3, b4⟩ := tree_n H hi
    have h := rowL_len nodeW (ndL (N i)) (by intro z hz; simp only [ndL, List.mem_cons, List.not_mem_nil, or_false] at hz; rcases hz with rfl | rfl <;> omega)
    have e1 : nodeW.length = 4 := rfl
    have e2 : (ndL (N i)).length = 2 := rfl
    rw [e1, e2] at h
    unfold ndR
    omega
  · obtain ⟨i, hi, rfl⟩ : ∃ i, i < lo ∧ U i = y := by simpa [upto] using hy
    obtain ⟨⟨b1, b2⟩, ⟨b3, b4⟩, b5, b6⟩ := tree_o H hi
    have h := rowL_len outletW (ouL (U i)) (by intro z hz; simp only [ouL, List.mem_cons, List.not_mem_nil, or_false] at hz; rcases hz with rfl | rfl | rfl <;> omega)
    have e1 : outletW.length = 6 := rfl
    have e2 : (ouL (U i)).length = 3 := rfl
    rw [e1, e2] at h
    unfold ouR
    omega

set_option maxRecDepth 100000 in
set_option maxHeartbeats 4000000 in
theorem print_w (f : Int) (na oa : Option Addr) (ln cn lo co : Nat) (N : Nat → N2) (U : Nat → O3) (w : World) (H : Hid (Tr7 w na oa ln lo N U)) (HR : Hid (TreeP f ln lo N U)) (hp : Hid (Pow w)) (hT : Hid ((textL (rowsD f ln lo N U)).length ≤ 1000000)) :
    Calls Tryz.prog 21 #[.agg #[.int .i64 f, .slice na ln cn, .slice oa lo co]] w
      fun e w' => e = .returned (.tuple #[.string (bs (textL (rowsD f ln lo N U))), .int .i64 0]) ∧ Below w.heap.size w w' := by
  obtain ⟨W0, hW0⟩ : ∃ W0, W0 = w.alloc (.cells #[.int .i64 f, .slice na ln cn, .slice oa lo co] 25) := ⟨_, rfl⟩
  have hz : W0.heap.size = w.heap.size + 1 := by rw [hW0]; simp
  have hB0 : Below w.heap.size w W0 := by rw [hW0]; exact (Below.refl _ _).alloc (Nat.le_refl _) _
  have FX : Hid (∀ w', Below W0.heap.size W0 w' → w'.cell? ⟨w.heap.size, 0, none⟩ = some (.int .i64 f) ∧ w'.cell? ⟨w.heap.size, 1, none⟩ = some (.slice na ln cn) ∧ w'.cell? ⟨w.heap.size, 2, none⟩ = some (.slice oa lo co) ∧ Tr7 w' na oa ln lo N U ∧ Pow w' ∧ w.heap.size < w'.heap.size) := Lib.hid fun w' h => by
    have q : ∀ b o, b < W0.heap.size → w'.cell? ⟨b, o, none⟩ = W0.cell? ⟨b, o, none⟩ := (bcell h).1
    have hall := hB0.trans (h.mono (by omega))
    exact ⟨(q _ _ (by omega)).trans (by rw [hW0]; simp), (q _ _ (by omega)).trans (by rw [hW0]; simp), (q _ _ (by omega)).trans (by rw [hW0]; simp), H.out.below hall, hp.out.on hall, (by have := h.size; omega)⟩
  have q1 := HR.out.l6
  have q2 := HR.out.lo2
  have q3 := HR.out.lo1
  have hff := tree_f HR.out
  have HIT : Hid (Calls Tryz.prog 39 #[.agg #[.int .i64 f, .slice na ln cn, .slice oa lo co]] W0 fun e w' => e = .returned (.bool true) ∧ Below W0.heap.size W0 w') := Lib.hid ((isTree_w f na oa ln cn lo co N U W0 (by omega) (by omega) (Lib.hid (FX.out _ (Below.refl _ _)).2.2.2.1)).mono fun e w' ⟨⟨rb, he, hrb⟩, hb⟩ => ⟨by rw [he, hrb.2 HR.out], hb⟩)
  have HPO : Hid (∀ w', Below W0.heap.size W0 w' → Calls Tryz.prog 57 #[.agg #[.int .i64 f, .slice na ln cn, .slice oa lo co]] w' fun e w2 => (∃ v, e = .returned v ∧ w2.ownsRow w'.heap.size 94 1 v (ln + lo) (partsL ln lo N U)) ∧ Below w'.heap.size w' w2) := Lib.hid fun w' h => partsOf_w f na oa ln cn lo co N U w' (by omega) (by omega) (Lib.hid (FX.out _ h).2.2.2.1)
  have HL : Hid (∀ (W : World) (B : Nat), Below W0.heap.size W0 W → W.heap.size = B → Calls Tryz.prog 55 #[.string (bs droughtW), .slice (some ⟨B, 0, none⟩) 1 1] (W.alloc (.cells #[.int .i64 f] 3)) fun e w' => e = .returned (.string (bs (headR f))) ∧ Below W.heap.size W w') := Lib.hid (fun W B hW hB => lineLit_w droughtW [f] 1 B W (by decide) rfl (by decide) hB (Lib.hid fun i hi => by
    match i, hi with
    | 0, _ => exact ⟨hff.1, by show f ≤ _; omega⟩) (Lib.hid (FX.out _ hW).2.2.2.2.1))
  obtain ⟨RW, hRW⟩ : ∃ RW, rowsD f ln lo N U = RW := ⟨_, rfl⟩
  have HRN : Hid (∀ k, k < ln → RW[k + 1]? = some (ndR (N k))) := Lib.hid fun k hk => by rw [← hRW]; exact rowsD_n hk
  have HRO : Hid (∀ j, j < lo → RW[ln + j + 1]? = some (ouR (U j))) := Lib.hid fun k hk => by rw [← hRW]; exact rowsD_o hk
  have HRL : Hid (RW.length = ln + lo + 1) := Lib.hid (by rw [← hRW]; exact rowsD_len f ln lo N U)
  have HR0 : Hid (RW.take 1 = [headR f]) := Lib.hid (by rw [← hRW]; rfl)
  have HSH : Hid (∀ x ∈ RW, x.length ≤ 1000) := Lib.hid (by rw [← hRW]; exact rows_shortD HR.out)
  rw [hRW] at hT ⊢
  clear hRW
  obtain ⟨x0, x1, x2, _, _, x5⟩ := FX.out _ (Below.refl _ _)
  go_enter Tryz.func21, Tryz.ntmps21
  go_wp2_with (first
    | (go_at_call 39; rw [← hW0]; refine HIT.out.mono ?_; rintro e w1 ⟨rfl, hb1⟩; clear x0 x1 x2; obtain ⟨x0, x1, x2, _, _, x6⟩ := FX.out _ hb1))
  have HD : Hid (Below W0.heap.size W0 w1.drew) := Lib.hid (below_drew hb1)
  have hz1 := hb1.size
  clear x5 hb1
  go_region_law ((first
    | (go_simp; go_at_call 56; refine (word0_w _).mono ?_; rintro e w2 ⟨rfl, rfl⟩)
    | (go_simp; go_at_call 55; refine (HL.out _ _ HD.out (by simp)).mono ?_; rintro e w2 ⟨rfl, hb2⟩; have hz2 := hb2.size; simp at hz2; obtain ⟨y0, y1, y2, _, _, y6⟩ := FX.out _ (HD.out.trans (hb2.mono HD.out.size)))))
  all_goals
    obtain ⟨W3, hW3⟩ : ∃ W3, W3 = w2.alloc (.cells #[.string (bs (headR f))] 9) := ⟨_, rfl⟩
    have HOL := Lib.hid (own_lit (w := w2) (base := W0.heap.size) (by omega) (.string (bs (headR f))) 9)
    have HB3 : Hid (Below W0.heap.size W0 W3) := Lib.hid (by rw [hW3]; exact (HD.out.trans (hb2.mono HD.out.size)).alloc (by omega) _)
    rw [← hW3] at HOL
    have hz3 : W3.heap.size = w2.heap.size + 1 := by rw [hW3]; simp
    have hz30 := HB3.out.size
    have a0 : W3.cell? ⟨w.heap.size, 0, none⟩ = some (.int .i64 f) := (FX.out _ HB3.out).1
    have a1 : W3.cell? ⟨w.heap.size, 1, none⟩ = some (.slice na ln cn) := (FX.out _ HB3.out).2.1
    have a2 : W3.cell? ⟨w.heap.size, 2, none⟩ = some (.slice oa lo co) := (FX.out _ HB3.out).2.2.1
    have HS : Hid (∃ g cap, (Value.slice (some ⟨w2.heap.size, 0, none⟩) 1 1) = .slice (some ⟨g, 0, none⟩) 1 cap) := Lib.hid ⟨_, _, rfl⟩
    go_wp2_with (go_at_call 57; rw [← hW3]; refine (HPO.out _ HB3.out).mono ?_; rintro e w4 ⟨⟨v4, rfl, hown4⟩, hb4⟩; obtain ⟨G, cap, rfl, g1, g2, g3, hcellG⟩ := vals_of_owns hown4 (by omega))
    have hz4 := hb4.size
    have HB4 : Hid (Below W0.heap.size W0 w4) := Lib.hid (HB3.out.trans (hb4.mono HB3.out.size))
    have HOL4 : Hid (w4.ownsRow W0.heap.size 9 1 (.slice (some ⟨w2.heap.size, 0, none⟩) 1 1) 1 [.string (bs (headR f))]) := Lib.hid (owns_below HOL.out hb4)
    have HG : Hid (∀ w' : World, w'.heap[G]? = w4.heap[G]? → ∀ (j : Nat) (x : Value), (partsL ln lo N U)[j]? = some x → w'.cell? ⟨G, j, none⟩ = some x) := Lib.hid fun w' h j x hj => by rw [World.cell?_of_block (w := w4) (a := ⟨G, j, none⟩) h]; exact hcellG j x hj
    have HT1 : Hid (∀ k, k < ln → ∀ w', Below W0.heap.size W0 w' → Calls Tryz.prog 223 #[ndV (N k)] w' fun e w2 => e = .returned (.string (bs (ndR (N k)))) ∧ Below w'.heap.size w' w2) := Lib.hid fun k hk w' h => by
      obtain ⟨⟨b1, b2⟩, b3, b4⟩ := tree_n HR.out hk
      exact ndText_w (N k) w' (Lib.hid ⟨⟨b1, by omega⟩, b3, by omega⟩) (Lib.hid (FX.out _ h).2.2.2.2.1)
    have HT2 : Hid (∀ k, k < lo → ∀ w', Below W0.heap.size W0 w' → Calls Tryz.prog 225 #[ouV (U k)] w' fun e w2 => e = .returned (.string (bs (ouR (U k)))) ∧ Below w'.heap.size w' w2) := Lib.hid fun k hk w' h => by
      obtain ⟨⟨b1, b2⟩, ⟨b3, b4⟩, b5, b6⟩ := tree_o HR.out hk
      exact ouText_w (U k) w' (Lib.hid ⟨⟨b1, by omega⟩, ⟨by omega, by omega⟩, b5, by omega⟩) (Lib.hid (FX.out _ h).2.2.2.2.1)
    obtain ⟨i9, hi9, h90, h91, h92⟩ := info_parts info9'
    have hGg : w2.heap.size ≠ G := by omega
    clear hcellG hb4 x0 x1 x2 y0 y1 y2 a0 a1 a2 hown4
    go_loopw [4, 19] (fun v ii wr => ∃ k : Nat, k ≤ ln + lo ∧ ii = .int .i64 (k : Int) ∧ wr.ownsRow W0.heap.size 9 1 v (k + 1) ((RW.take (k + 1)).map strV) ∧ Below W0.heap.size W0 wr ∧ v.ownBlock ≠ some G ∧ G < wr.heap.size ∧ wr.heap[G]? = w4.heap[G]?) (fun _ ii _ => ln + lo - (intOf ii).toNat)
    case atStart => exact ⟨0, Nat.zero_le _, rfl, by rw [HR0.out]; exact HOL4.out, HB4.out, by simpa [Value.ownBlock] using hGg, g3, rfl⟩
    case round =>
      obtain ⟨k, hk, rfl, hown, hbw, hne, hGl, hGe⟩ := hrel
      have HO := Lib.hid hown
      have HBW := Lib.hid hbw
      have HNE := Lib.hid hne
      have HGE := Lib.hid hGe
      have hzw := hbw.size
      by_cases hlt : k < ln + lo
      · have n1 : (0 : Int) ≤ (k : Int) := by omega
        have n2 : (k : Int) < ((ln + lo : Nat) : Int) := by omega
        have n3 : (k : Int) < (ln : Int) + (lo : Int) := by omega
        clear hown hbw hne hGe
        by_cases hkn : k < ln
        · have c0 := HG.out _ HGE.out k _ (partsL_n hkn)
          have hm1 := meth1 (ndV (N k))
          go_wp2_with (first
            | (go_at_call 223; refine (HT1.out k hkn _ HBW.out).mono ?_; rintro e w5 ⟨rfl, hb5⟩; have hz5 := hb5.size)
            | (at_builtin; refine wpList_append_own_at _ rfl (.tmp 23) (.tmp 26) 90 rfl W0.heap.size 9 i9 (.string ByteArray.empty) 1 16 Tryz.underlying90 hi9 h90 h91 h92 rfl (by decide) _ (k + 1) _ rfl ((owns_below HO.out hb5).alloc _) ⟨_, 0, none⟩ 1 1 [.string (bs (ndR (N k)))] rfl rfl (lies_any (by first | exact al_top rfl _ _ | exact al_top (by simp) _ _)) (by intro u hu; simp at hu; subst hu; rfl) (by unfold maxLen; omega) (by omega) (by simp; omega) ?_; intro v7 w7 hown7 hgrow7 _ hloc7))
          have HB7 : Hid (Below W0.heap.size W0 w7) := Lib.hid (((HBW.out.trans (hb5.mono HBW.out.size)).alloc (by omega) _).grown hgrow7 (by simp; omega) (fun r e => by have := own_ge HO.out r e; omega))
          have HO7 := Lib.hid hown7
          have HN7 : Hid (v7.ownBlock ≠ some G) := Lib.hid (by rcases hloc7 with h | h <;> rw [h]; exact HNE.out; simp; omega)
          have HS7 : Hid (G < w7.heap.size) := Lib.hid (by have := hgrow7.size; simp at this; omega)
          have HE7 : Hid (w7.heap[G]? = w4.heap[G]?) := Lib.hid (by
            rw [hgrow7.block G (by simp; omega) (fun e => HNE.out e.symm), ← HGE.out, ← hb5.block G hGl]
            show (w5.heap.push _)[G]? = _
            rw [Array.getElem?_push, if_neg (by omega)])
          clear hown7 hgrow7 hloc7
          go_roundw
          case rel => exact ⟨k + 1, by omega, by go_num, by rw [take_snoc (HRN.out k hkn), List.map_append]; exact HO7.out, HB7.out, HN7.out, HS7.out, HE7.out⟩
          case measure => simp [intOf]; omega
        · obtain ⟨j, rfl⟩ : ∃ j, k = ln + j := ⟨k - ln, by omega⟩
          have hjl : j < lo := by omega
          have c0 := HG.out _ HGE.out (ln + j) _ (partsL_o hjl)
          have hm1 := meth2 (ouV (U j))
          go_wp2_with (first
            | (go_at_call 225; refine (HT2.out j hjl _ HBW.out).mono ?_; rintro e w5 ⟨rfl, hb5⟩; have hz5 := hb5.size)
            | (at_builtin; refine wpList_append_own_at _ rfl (.tmp 23) (.tmp 26) 90 rfl W0.heap.size 9 i9 (.string ByteArray.empty) 1 16 Tryz.underlying90 hi9 h90 h91 h92 rfl (by decide) _ (ln + j + 1) _ rfl ((owns_below HO.out hb5).alloc _) ⟨_, 0, none⟩ 1 1 [.string (bs (ouR (U j)))] rfl rfl (lies_any (by first | exact al_top rfl _ _ | exact al_top (by simp) _ _)) (by intro u hu; simp at hu; subst hu; rfl) (by unfold maxLen; omega) (by omega) (by simp; omega) ?_; intro v7 w7 hown7 hgrow7 _ hloc7))
          have HB7 : Hid (Below W0.heap.size W0 w7) := Lib.hid (((HBW.out.trans (hb5.mono HBW.out.size)).alloc (by omega) _).grown hgrow7 (by simp; omega) (fun r e => by have := own_ge HO.out r e; omega))
          have HO7 := Lib.hid hown7
          have HN7 : Hid (v7.ownBlock ≠ some G) := Lib.hid (by rcases hloc7 with h | h <;> rw [h]; exact HNE.out; simp; omega)
          have HS7 : Hid (G < w7.heap.size) := Lib.hid (by have := hgrow7.size; simp at this; omega)
          have HE7 : Hid (w7.heap[G]? = w4.heap[G]?) := Lib.hid (by
            rw [hgrow7.block G (by simp; omega) (fun e => HNE.out e.symm), ← HGE.out, ← hb5.block G hGl]
            show (w5.heap.push _)[G]? = _
            rw [Array.getElem?_push, if_neg (by omega)])
          clear hown7 hgrow7 hloc7
          go_roundw
          case rel => exact ⟨ln + j + 1, by omega, by go_num, by rw [take_snoc (HRO.out j hjl), List.map_append]; exact HO7.out, HB7.out, HN7.out, HS7.out, HE7.out⟩
          case measure => simp [intOf]; omega
      · obtain rfl : k = ln + lo := by omega
        have hO := HO.out
        rw [List.take_of_length_le (by rw [HRL.out]; exact Nat.le_refl _)] at hO
        have hrl := HRL.out
        obtain ⟨G2, cap2, hu, e1, e2, e3, e4, e5⟩ := strSl_of_owns hO (by omega)
        subst hu
        have HTX : Hid (Calls Tryz.prog 58 #[.slice (some ⟨G2, 0, none⟩) (ln + lo + 1) cap2, .int .i64 163] wr fun e w' => e = .returned (.string (bs (textL RW))) ∧ Below wr.heap.size wr w') := Lib.hid (by
          have h := text_w G2 0 cap2 RW wr (by omega) (by omega) HSH e4 (Lib.hid e5) (Lib.hid (FX.out _ HBW.out).2.2.2.2.1) hT.out
          rw [hrl] at h
          exact h)
        clear hO e5 e1 hown hbw hne hGe
        go_wp2_with (go_at_call 58; refine HTX.out.mono ?_; rintro e w9 ⟨rfl, hb9⟩)
        refine bodyPost_ret (v := .tuple #[.string (bs (textL RW)), .int .i64 0]) (by simp [results, Tryz.results21, go_sem]) rfl ⟨rfl, ?_⟩
        exact hB0.trans ((HBW.out.trans (hb9.mono HBW.out.size)).mono (by omega))
end Go.Kn
