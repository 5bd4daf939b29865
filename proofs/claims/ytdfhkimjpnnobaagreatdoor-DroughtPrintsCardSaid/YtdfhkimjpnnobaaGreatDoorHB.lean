/- Contracts of functions that the laws of this seat call, or the evaluator of closed calls and its runs. Conditions: as each theorem states them. -/
import Derived.Test.YtdfhkimjpnnobaaGreatDoorHA
set_option linter.unusedVariables false
set_option linter.unusedSimpArgs false
namespace Go.Kn
open Go Go.Proofs Go.RowKit

theorem rowLit_w (wd : List UInt8) (l : List Int) (n B : Nat) (w : World) (hwd : wd.length ≤ 100) (hn : l.length = n) (hn2 : n ≤ 10) (hB : w.heap.size = B) (hf : Hid (∀ i, i < n → 0 ≤ l.getD i 0 ∧ l.getD i 0 ≤ 1000000)) :
    Calls Tryz.prog 61 #[.string (bs wd), .slice (some ⟨B, 0, none⟩) n n] (w.alloc (.cells (l.map (Value.int .i64)).toArray 3))
      fun e w' => e = .returned (.string (bs (rowL wd l))) ∧ Below w.heap.size w w' := by
  subst hB; subst hn
  have hal : Below w.heap.size w (w.alloc (.cells (l.map (Value.int .i64)).toArray 3)) := (Below.refl _ _).alloc (Nat.le_refl _) _
  have hu : upto (fun i => l.getD i 0) l.length = l := upto_getD l
  have h := row_w wd (some ⟨w.heap.size, 0, none⟩) l.length l.length (fun i => l.getD i 0) (w.alloc (.cells (l.map (Value.int .i64)).toArray 3)) hwd (by omega) hf (Lib.hid (.inr ⟨w.heap.size, 0, rfl, by simp, fun i hi => by
    have hg : (w.alloc (.cells (l.map (Value.int .i64)).toArray 3)).heap[w.heap.size]? = some (.cells (l.map (Value.int .i64)).toArray 3) := by
      show (w.heap.push _)[w.heap.size]? = _
      simp
    rw [Nat.zero_add]
    unfold World.cell?
    simp only []
    rw [hg]
    simp [List.getD, hi]⟩))
  rw [hu] at h
  exact h.mono fun e w' ⟨he, hb⟩ => ⟨he, hal.trans (hb.mono hal.size)⟩

set_option maxRecDepth 100000 in
set_option maxHeartbeats 4000000 in
theorem rprint_w (f : Int) (na oa : Option Addr) (ln cn lo co : Nat) (N : Nat → N2) (U : Nat → O3) (w : World) (H : Hid (Tr7 w na oa ln lo N U)) (HR : Hid (TreeP f ln lo N U)) :
    Calls Tryz.prog 23 #[.agg #[.int .i64 f, .slice na ln cn, .slice oa lo co]] w
      fun e w' => e = .returned (.string (bs (textL (rowsD f ln lo N U)))) ∧ Below w.heap.size w w' := by
  obtain ⟨W0, hW0⟩ : ∃ W0, W0 = w.alloc (.cells #[.int .i64 f, .slice na ln cn, .slice oa lo co] 25) := ⟨_, rfl⟩
  have hz : W0.heap.size = w.heap.size + 1 := by rw [hW0]; simp
  have hB0 : Below w.heap.size w W0 := by rw [hW0]; exact (Below.refl _ _).alloc (Nat.le_refl _) _
  have FX : Hid (∀ w', Below W0.heap.size W0 w' → w'.cell? ⟨w.heap.size, 0, none⟩ = some (.int .i64 f) ∧ w'.cell? ⟨w.heap.size, 1, none⟩ = some (.slice na ln cn) ∧ w'.cell? ⟨w.heap.size, 2, none⟩ = some (.slice oa lo co) ∧ Tr7 w' na oa ln lo N U ∧ w.heap.size < w'.heap.size) := Lib.hid fun w' h => by
    have q : ∀ b o, b < W0.heap.size → w'.cell? ⟨b, o, none⟩ = W0.cell? ⟨b, o, none⟩ := (bcell h).1
    have hall := hB0.trans (h.mono (by omega))
    exact ⟨(q _ _ (by omega)).trans (by rw [hW0]; simp), (q _ _ (by omega)).trans (by rw [hW0]; simp), (q _ _ (by omega)).trans (by rw [hW0]; simp), H.out.below hall, (by have := h.size; omega)⟩
  have q1 := HR.out.l6
  have q2 := HR.out.lo2
  have q3 := HR.out.lo1
  have hff := tree_f HR.out
  have HRW0 : Hid (∀ (W : World) (B : Nat), W.heap.size = B → Calls Tryz.prog 61 #[.string ⟨#[100, 114, 111, 117, 103, 104, 116]⟩, .slice (some ⟨B, 0, none⟩) 1 1] (W.alloc (.cells #[.int .i64 f] 3)) fun e w' => e = .returned (.string (bs (headR f))) ∧ Below W.heap.size W w') := Lib.hid (fun W B hB => rowLit_w droughtW [f] 1 B W (by decide) rfl (by decide) hB (Lib.hid fun i hi => by
    match i, hi with
    | 0, _ => exact ⟨hff.1, by show f ≤ _; omega⟩))
  have HRW1 : Hid (∀ k, k < ln → ∀ (W : World) (B : Nat), W.heap.size = B → Calls Tryz.prog 61 #[.string ⟨#[110, 111, 100, 101]⟩, .slice (some ⟨B, 0, none⟩) 2 2] (W.alloc (.cells #[.int .i64 (N k).p, .int .i64 (N k).c] 3)) fun e w' => e = .returned (.string (bs (ndR (N k)))) ∧ Below W.heap.size W w') := Lib.hid (fun k hk W B hB => rowLit_w nodeW (ndL (N k)) 2 B W (by decide) rfl (by decide) hB (Lib.hid fun i hi => by
    obtain ⟨⟨b1, b2⟩, b3, b4⟩ := tree_n HR.out hk
    match i, hi with
    | 0, _ => exact ⟨b1, by show (N k).p ≤ _; omega⟩
    | 1, _ => exact ⟨b3, by show (N k).c ≤ _; omega⟩))
  have HRW2 : Hid (∀ k, k < lo → ∀ (W : World) (B : Nat), W.heap.size = B → Calls Tryz.prog 61 #[.string ⟨#[111, 117, 116, 108, 101, 116]⟩, .slice (some ⟨B, 0, none⟩) 3 3] (W.alloc (.cells #[.int .i64 (U k).n, .int .i64 (U k).c, .int .i64 (U k).k] 3)) fun e w' => e = .returned (.string (bs (ouR (U k)))) ∧ Below W.heap.size W w') := Lib.hid (fun k hk W B hB => rowLit_w outletW (ouL (U k)) 3 B W (by decide) rfl (by decide) hB (Lib.hid fun i hi => by
    obtain ⟨⟨b1, b2⟩, ⟨b3, b4⟩, b5, b6⟩ := tree_o HR.out hk
    match i, hi with
    | 0, _ => exact ⟨b1, by show (U k).n ≤ _; omega⟩
    | 1, _ => exact ⟨by show 0 ≤ (U k).c; omega, by show (U k).c ≤ _; omega⟩
    | 2, _ => exact ⟨b5, by show (U k).k ≤ _; omega⟩))
  obtain ⟨i9, hi9, h90, h91, h92⟩ := info_parts info9'
  obtain ⟨RW, hRW⟩ : ∃ RW, rowsD f ln lo N U = RW := ⟨_, rfl⟩
  have HRN : Hid (∀ k, k < ln → RW[k + 1]? = some (ndR (N k))) := Lib.hid fun k hk => by rw [← hRW]; exact rowsD_n hk
  have HRO : Hid (∀ j, j < lo → RW[ln + j + 1]? = some (ouR (U j))) := Lib.hid fun k hk => by rw [← hRW]; exact rowsD_o hk
  have HRL : Hid (RW.length = ln + lo + 1) := Lib.hid (by rw [← hRW]; exact rowsD_len f ln lo N U)
  have HR0 : Hid (RW.take 1 = [headR f]) := Lib.hid (by rw [← hRW]; rfl)
  have HSH : Hid (∀ x ∈ RW, x.length ≤ 1000) := Lib.hid (by rw [← hRW]; exact rows_shortD HR.out)
  rw [hRW]
  clear hRW
  obtain ⟨x0, x1, x2, _, x5⟩ := FX.out _ (Below.refl _ _)
  go_enter Tryz.func23, Tryz.ntmps23
  go_wp2_with (go_at_call 61; rw [← hW0]; refine (HRW0.out W0 _ (by omega)).mono ?_; rintro e w1 ⟨rfl, hb1⟩)
  have hz1 := hb1.size
  have HOL := Lib.hid (own_lit (w := w1) (base := w.heap.size + 1) (by omega) (.string (bs (headR f))) 9)
  have HB1 : Hid (Below W0.heap.size W0 (w1.alloc (.cells #[.string (bs (headR f))] 9))) := Lib.hid (hb1.alloc (by omega) _)
  clear x0 x1 x2 x5 hb1
  go_loopw [3, 4] (fun v ii wr => ∃ k : Nat, k ≤ ln ∧ ii = .int .i64 (k : Int) ∧ wr.ownsRow (w.heap.size + 1) 9 1 v (k + 1) ((RW.take (k + 1)).map strV) ∧ Below W0.heap.size W0 wr) (fun _ ii _ => ln - (intOf ii).toNat)
  case atStart => exact ⟨0, Nat.zero_le _, rfl, by rw [HR0.out]; exact HOL.out, HB1.out⟩
  case round =>
    obtain ⟨k, hk, rfl, hown, hbw⟩ := hrel
    obtain ⟨x0, x1, x2, x3, x5⟩ := FX.out _ hbw
    have HO := Lib.hid hown
    have HBW := Lib.hid hbw
    have hzw := hbw.size
    clear hown hbw
    by_cases hlt : k < ln
    · obtain ⟨A, O, rfl, hA, hcells⟩ := x3.hn.resolve_left (by omega)
      obtain ⟨c0, c1⟩ := hcells k hlt
      have n1 : (0 : Int) ≤ (k : Int) := by omega
      have n2 : (k : Int) < (ln : Int) := by omega
      clear x3 hcells
      go_wp2
      go_region_law ((first
        | (go_simp; go_at_call 61; refine (HRW1.out k hlt wr.drew _ (by simp)).mono ?_; rintro e w5 ⟨rfl, hb5⟩; have hz5 := hb5.size; simp at hz5)
        | (refine step_append_lies _ rfl (.tmp 19) (.tmp 34) 90 rfl (w.heap.size + 1) 9 i9 _ 1 16 Tryz.underlying90 hi9 h90 h91 h92 rfl (by decide) _ (k + 1) _ rfl ((owns_below HO.out.drew hb5).alloc _) ⟨_, 0, none⟩ 1 1 [.string (bs (ndR (N k)))] rfl rfl (lies_any (by first | exact al_top rfl _ _ | exact al_top (by simp) _ _)) (by intro u hu; simp at hu; subst hu; rfl) (by decide) (by unfold maxLen; omega) (by omega) (by simp; omega) _ rfl ?_; intro g6 cap6 w6 hown6 hgrow6 hat6 hlt6)))
      all_goals
        have HB6 : Hid (Below W0.heap.size W0 w6) := Lib.hid ((((below_drew HBW.out).trans (hb5.mono (by simp; omega))).alloc (by omega) _).grown hgrow6 (by simp; omega) (fun r e => by have := own_ge HO.out r e; omega))
        have HO6 := Lib.hid hown6
        clear hown6 hgrow6 hat6
        go_wp2
        go_roundw
        case rel => exact ⟨k + 1, by omega, by go_num, by rw [take_snoc (HRN.out k hlt), List.map_append]; exact HO6.out, HB6.out⟩
        case measure => simp [intOf]; omega
    · obtain rfl : k = ln := by omega
      obtain ⟨wm, rfl⟩ : ∃ wm, wm = wr := ⟨_, rfl⟩
      clear x3
      go_wp2
      go_loopw [3, 5] (fun v ii wr => ∃ j : Nat, j ≤ lo ∧ ii = .int .i64 (j : Int) ∧ wr.ownsRow (w.heap.size + 1) 9 1 v (k + j + 1) ((RW.take (k + j + 1)).map strV) ∧ Below W0.heap.size W0 wr) (fun _ ii _ => lo - (intOf ii).toNat)
      case atStart => exact ⟨0, Nat.zero_le _, rfl, HO.out, HBW.out⟩
      case round =>
        obtain ⟨j, hj, rfl, hown, hbw⟩ := hrel
        clear x0 x1 x2 x5
        obtain ⟨x0, x1, x2, x3, x5⟩ := FX.out _ hbw
        have HO2 := Lib.hid hown
        have HBW2 := Lib.hid hbw
        have hzw2 := hbw.size
        clear hown hbw
        by_cases hlt : j < lo
        · obtain ⟨A, O, rfl, hA, hcells⟩ := x3.ho.resolve_left (by omega)
          obtain ⟨c0, c1, c2⟩ := hcells j hlt
          have n1 : (0 : Int) ≤ (j : Int) := by omega
          have n2 : (j : Int) < (lo : Int) := by omega
          clear x3 hcells
          have HCA := Lib.hid (HRW2.out j hlt (wr.alloc (.cells #[.int .i64 (U j).n, .int .i64 (U j).c, .int .i64 (U j).k] 81)) (wr.heap.size + 1) (by simp))
          have hba : Below wr.heap.size wr (wr.alloc (.cells #[.int .i64 (U j).n, .int .i64 (U j).c, .int .i64 (U j).k] 81)) := (Below.refl _ _).alloc (Nat.le_refl _) _
          have HBA := Lib.hid hba
          clear hba
          go_wp2_with (first
            | (go_at_call 61; refine HCA.out.mono ?_; rintro e w5 ⟨rfl, hb5⟩; have hb6 := HBA.out.trans (hb5.mono HBA.out.size); have hz6 := hb6.size)
            | (at_builtin; refine wpList_append_own_at _ rfl (.tmp 48) (.tmp 57) 90 rfl (w.heap.size + 1) 9 i9 (.string ByteArray.empty) 1 16 Tryz.underlying90 hi9 h90 h91 h92 rfl (by decide) _ (k + j + 1) _ rfl ((owns_below HO2.out hb6).alloc _) ⟨_, 0, none⟩ 1 1 [.string (bs (ouR (U j)))] rfl rfl (lies_any (by first | exact al_top rfl _ _ | exact al_top (by simp) _ _)) (by intro u hu; simp at hu; subst hu; rfl) (by unfold maxLen; omega) (by omega) (by simp; omega) ?_; intro v7 w7 hown7 hgrow7 _ hloc7))
          have HB7 : Hid (Below W0.heap.size W0 w7) := Lib.hid (((HBW2.out.trans (hb6.mono HBW2.out.size)).alloc (by omega) _).grown hgrow7 (by simp; omega) (fun r e => by have := own_ge HO2.out r e; omega))
          have HO7 := Lib.hid hown7
          clear hown7 hgrow7 hloc7
          go_roundw
          case rel => exact ⟨j + 1, by omega, by go_num, by rw [show k + (j + 1) + 1 = k + j + 1 + 1 by omega, take_snoc (HRO.out j hlt), List.map_append]; exact HO7.out, HB7.out⟩
          case measure => simp [intOf]; omega
        · obtain rfl : j = lo := by omega
          have hO := HO2.out
          rw [List.take_of_length_le (by rw [HRL.out]; exact Nat.le_refl _)] at hO
          have hrl := HRL.out
          obtain ⟨G2, cap2, hu, e1, e2, e3, e4, e5⟩ := strSl_of_owns hO (by omega)
          subst hu
          have HTX : Hid (Calls Tryz.prog 62 #[.slice (some ⟨G2, 0, none⟩) (k + j + 1) cap2, .int .i64 163] wr fun e w' => e = .returned (.string (bs (textL RW))) ∧ Below wr.heap.size wr w') := Lib.hid (by
            have h := sealed_w (some ⟨G2, 0, none⟩) cap2 RW wr (by omega) HSH (Lib.hid (.inr ⟨G2, 0, rfl, e4, e5⟩))
            rw [hrl] at h
            exact h)
          clear hO e5 e1 x3
          go_wp2_with (go_at_call 62; refine HTX.out.mono ?_; rintro e w9 ⟨rfl, hb9⟩)
          go_ret
          exact ⟨rfl, hB0.trans ((HBW2.out.trans (hb9.mono HBW2.out.size)).mono (by omega))⟩
end Go.Kn
