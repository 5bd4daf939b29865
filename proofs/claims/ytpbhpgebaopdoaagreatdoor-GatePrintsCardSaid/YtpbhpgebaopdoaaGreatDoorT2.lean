/- Contracts of functions that the laws of this seat call, or the evaluator of closed calls and its runs. Conditions: as each theorem states them. -/
import Derived.Test.YtpbhpgebaopdoaaGreatDoorT1
import Derived.Test.YtpbhpgebaopdoaaGreatDoorJ0
import Derived.Test.YtpbhpgebaopdoaaGreatDoorG3
import Derived.Deep.QuietTactic
import Derived.KernelRfl
import Derived.Defers
import Derived.Recover
set_option linter.unusedVariables false
set_option linter.unusedSimpArgs false
namespace Go.Kn
open Go Go.Proofs Go.RowKit

/-- the lines of a network, but for the last one -/
def rowsG (ln lo : Nat) (N : Nat → P8) (U : Nat → C8) : List (List UInt8) := (upto N ln).map ptR ++ (upto U lo).map chR
theorem rowsG_len (ln lo : Nat) (N : Nat → P8) (U : Nat → C8) : (rowsG ln lo N U).length = ln + lo := by simp [rowsG, upto_length]
theorem rowsG_n {ln lo k : Nat} {N : Nat → P8} {U : Nat → C8} (h : k < ln) : (rowsG ln lo N U)[k]? = some (ptR (N k)) := by
  rw [rowsG, List.getElem?_append_left (by simp [upto_length]; omega)]
  simp [upto, h]
theorem rowsG_o {ln lo j : Nat} {N : Nat → P8} {U : Nat → C8} (h : j < lo) : (rowsG ln lo N U)[ln + j]? = some (chR (U j)) := by
  rw [rowsG, List.getElem?_append_right (by simp [upto_length])]
  simp [upto, h]
theorem take_snoc {α : Type} {l : List α} {k : Nat} {x : α} (h : l[k]? = some x) : l.take (k + 1) = l.take k ++ [x] := by
  rw [List.take_add_one, h]; rfl

theorem meth1 (v : Value) (w : World) : (method 349 142 v "quinaria/gate.text").run Tryz.prog w = .ok (233, v) w := by kernel_rfl
theorem meth2 (v : Value) (w : World) : (method 349 143 v "quinaria/gate.text").run Tryz.prog w = .ok (235, v) w := by kernel_rfl

theorem ptOk_of {ln lo : Nat} {N : Nat → P8} {U : Nat → C8} (H : NetP ln N lo U) {k : Nat} (hk : k < ln) : P8Ok (N k) := by
  have := H.p hk; exact ⟨by omega, by omega, by omega⟩
theorem chOk_of {ln lo : Nat} {N : Nat → P8} {U : Nat → C8} (H : NetP ln N lo U) {k : Nat} (hk : k < lo) : C8Ok (U k) := by
  have h1 := H.c hk; have h2 := H.l7; exact ⟨by omega, by omega, by omega⟩
theorem rows_shortG {ln lo : Nat} {N : Nat → P8} {U : Nat → C8} (H : NetP ln N lo U) : ∀ x ∈ rowsG ln lo N U, x.length ≤ 100 := by
  intro x hx
  simp only [rowsG, List.mem_append, List.mem_map] at hx
  rcases hx with ⟨y, hy, rfl⟩ | ⟨y, hy, rfl⟩
  · obtain ⟨i, hi, rfl⟩ : ∃ i, i < ln ∧ N i = y := by simpa [upto] using hy
    have hb := ptOk_of H hi
    have h := rowL_len pointW (ptLn (N i)) (by intro z hz; simp only [ptLn, List.mem_cons, List.not_mem_nil, or_false] at hz; rcases hz with rfl | rfl | rfl; exact hb.1; exact hb.2.1; exact hb.2.2)
    have e1 : pointW.length = 5 := rfl
    have e2 : (ptLn (N i)).length = 3 := rfl
    rw [e1, e2] at h
    unfold ptR
    omega
  · obtain ⟨i, hi, rfl⟩ : ∃ i, i < lo ∧ U i = y := by simpa [upto] using hy
    have hb := chOk_of H hi
    have h := rowL_len (chWd (U i)) (chLn (U i)) (by intro z hz; simp only [chLn, List.mem_cons, List.not_mem_nil, or_false] at hz; rcases hz with rfl | rfl | rfl; exact hb.1; exact hb.2.1; exact hb.2.2)
    have e1 : (chWd (U i)).length ≤ 7 := by unfold chWd; split <;> decide
    have e2 : (chLn (U i)).length = 3 := rfl
    rw [e2] at h
    unfold chR
    omega

set_option maxRecDepth 100000 in
set_option maxHeartbeats 4000000 in
theorem print_w (na oa : Option Addr) (ln cn lo co : Nat) (N : Nat → P8) (U : Nat → C8) (w : World) (H : Hid (Ne8 w na oa ln lo N U)) (HR : Hid (NetP ln N lo U)) (hp : Hid (Pow w)) (hT : Hid ((textL (rowsG ln lo N U)).length ≤ 1000000)) :
    Calls Tryz.prog 32 #[.agg #[.slice na ln cn, .slice oa lo co]] w
      fun e w' => e = .returned (.tuple #[.string (bs (textL (rowsG ln lo N U))), .int .i64 0]) ∧ Below w.heap.size w w' := by
  obtain ⟨W0, hW0⟩ : ∃ W0, W0 = w.alloc (.cells #[.slice na ln cn, .slice oa lo co] 25) := ⟨_, rfl⟩
  have hz : W0.heap.size = w.heap.size + 1 := by rw [hW0]; simp
  have hB0 : Below w.heap.size w W0 := by rw [hW0]; exact (Below.refl _ _).alloc (Nat.le_refl _) _
  have FX : Hid (∀ w', Below W0.heap.size W0 w' → w'.cell? ⟨w.heap.size, 0, none⟩ = some (.slice na ln cn) ∧ w'.cell? ⟨w.heap.size, 1, none⟩ = some (.slice oa lo co) ∧ Ne8 w' na oa ln lo N U ∧ Pow w' ∧ w.heap.size < w'.heap.size) := Lib.hid fun w' h => by
    have q : ∀ b o, b < W0.heap.size → w'.cell? ⟨b, o, none⟩ = W0.cell? ⟨b, o, none⟩ := (bcell h).1
    have hall := hB0.trans (h.mono (by omega))
    exact ⟨(q _ _ (by omega)).trans (by rw [hW0]; simp), (q _ _ (by omega)).trans (by rw [hW0]; simp), H.out.below hall, hp.out.on hall, (by have := h.size; omega)⟩
  have q1 := HR.out.l7
  have q2 := HR.out.c10
  have q3 := HR.out.l1
  have HIT : Hid (Calls Tryz.prog 49 #[.agg #[.slice na ln cn, .slice oa lo co]] W0 fun e w' => e = .returned (.bool true) ∧ Below W0.heap.size W0 w') := Lib.hid (by
    have h := isNet_w na oa ln cn lo co N U W0 (by omega) (by omega) (Lib.hid (FX.out _ (Below.refl _ _)).2.2.1)
    rw [netV_iff.2 HR.out] at h; exact h)
  have HPO : Hid (∀ w', Below W0.heap.size W0 w' → Calls Tryz.prog 73 #[.agg #[.slice na ln cn, .slice oa lo co]] w' fun e w2 => (∃ v, e = .returned v ∧ w2.ownsRow w'.heap.size 111 1 v (ln + lo) (linL ln lo N U)) ∧ Below w'.heap.size w' w2) := Lib.hid fun w' h => linesOf_w na oa ln cn lo co N U w' (by omega) (by omega) (Lib.hid (FX.out _ h).2.2.1)
  obtain ⟨RW, hRW⟩ : ∃ RW, rowsG ln lo N U = RW := ⟨_, rfl⟩
  have HRN : Hid (∀ k, k < ln → RW[k]? = some (ptR (N k))) := Lib.hid fun k hk => by rw [← hRW]; exact rowsG_n hk
  have HRO : Hid (∀ j, j < lo → RW[ln + j]? = some (chR (U j))) := Lib.hid fun k hk => by rw [← hRW]; exact rowsG_o hk
  have HRL : Hid (RW.length = ln + lo) := Lib.hid (by rw [← hRW]; exact rowsG_len ln lo N U)
  have HSH : Hid (∀ x ∈ RW, x.length ≤ 1000) := Lib.hid (by rw [← hRW]; exact fun x hx => by have := rows_shortG HR.out x hx; omega)
  rw [hRW] at hT ⊢
  clear hRW
  obtain ⟨x0, x1, _, _, x5⟩ := FX.out _ (Below.refl _ _)
  go_enter Tryz.func32, Tryz.ntmps32
  go_wp2_with (first
    | (go_at_call 49; rw [← hW0]; refine HIT.out.mono ?_; rintro e w1 ⟨rfl, hb1⟩; clear x0 x1; obtain ⟨x0, x1, _, _, x6⟩ := FX.out _ hb1)
    | (go_at_call 73; refine (HPO.out _ hb1).mono ?_; rintro e w4 ⟨⟨v4, rfl, hown4⟩, hb4⟩; obtain ⟨G, cap, rfl, g1, g2, g3, hcellG⟩ := vals_of_owns hown4 (by omega)))
  have hz4 := hb4.size
  have hz1 := hb1.size
  have HB4 : Hid (Below W0.heap.size W0 w4) := Lib.hid (hb1.trans (hb4.mono hb1.size))
  have HG : Hid (∀ w' : World, w'.heap[G]? = w4.heap[G]? → ∀ (j : Nat) (x : Value), (linL ln lo N U)[j]? = some x → w'.cell? ⟨G, j, none⟩ = some x) := Lib.hid fun w' h j x hj => by rw [World.cell?_of_block (w := w4) (a := ⟨G, j, none⟩) h]; exact hcellG j x hj
  have HT1 : Hid (∀ k, k < ln → ∀ w', Below W0.heap.size W0 w' → Calls Tryz.prog 233 #[ptV (N k)] w' fun e w2 => e = .returned (.string (bs (ptR (N k)))) ∧ Below w'.heap.size w' w2) := Lib.hid fun k hk w' h => ptText_w (N k) w' (Lib.hid (ptOk_of HR.out hk)) (Lib.hid (FX.out _ h).2.2.2.1)
  have HT2 : Hid (∀ k, k < lo → ∀ w', Below W0.heap.size W0 w' → Calls Tryz.prog 235 #[chV (U k)] w' fun e w2 => e = .returned (.string (bs (chR (U k)))) ∧ Below w'.heap.size w' w2) := Lib.hid fun k hk w' h => chText_w (U k) w' (Lib.hid (chOk_of HR.out hk)) (Lib.hid (FX.out _ h).2.2.2.1)
  obtain ⟨i9, hi9, h90, h91, h92⟩ := info_parts info9'
  clear hcellG hb4 hb1 x0 x1 x5 x6 hown4
  go_loopw [4, 13] (fun v ii wr => ∃ k : Nat, k ≤ ln + lo ∧ ii = .int .i64 (k : Int) ∧ wr.ownsRow W0.heap.size 9 1 v k ((RW.take k).map strV) ∧ Below W0.heap.size W0 wr ∧ v.ownBlock ≠ some G ∧ G < wr.heap.size ∧ wr.heap[G]? = w4.heap[G]?) (fun _ ii _ => ln + lo - (intOf ii).toNat)
  case atStart => exact ⟨0, Nat.zero_le _, rfl, ⟨rfl, .inl ⟨rfl, rfl⟩⟩, HB4.out, by simp [Value.ownBlock], g3, rfl⟩
  case round =>
    obtain ⟨k, hk, rfl, hown, hbw, hne, hGl, hGe⟩ := hrel
    have HO := Lib.hid hown
    have HBW := Lib.hid hbw
    have HNE := Lib.hid hne
    have HGE := Lib.hid hGe
    have hzw := hbw.size
    by_cases hlt : k < ln + lo
    · have n1 : (0 : Int) ≤ (k : Int) := by omega
      have n2 : (k : Int) < ((ln + lo : Nat) : Int) := by omega
      have n3 : (k : Int) < (ln : Int) + (lo : Int) := by omega
      clear hown hbw hne hGe
      by_cases hkn : k < ln
      · have c0 := HG.out _ HGE.out k _ (linL_n hkn)
        have hm1 := meth1 (ptV (N k))
        go_wp2_with (first
          | (go_at_call 233; refine (HT1.out k hkn _ HBW.out).mono ?_; rintro e w5 ⟨rfl, hb5⟩; have hz5 := hb5.size)
          | (at_builtin; refine wpList_append_own_at _ rfl (.tmp 17) (.tmp 20) 107 rfl W0.heap.size 9 i9 (.string ByteArray.empty) 1 16 Tryz.underlying107 hi9 h90 h91 h92 rfl (by decide) _ k _ rfl ((owns_below HO.out hb5).alloc _) ⟨_, 0, none⟩ 1 1 [.string (bs (ptR (N k)))] rfl rfl (lies_any (by first | exact al_top rfl _ _ | exact al_top (by simp) _ _)) (by intro u hu; simp at hu; subst hu; rfl) (by unfold maxLen; omega) (by omega) (by simp; omega) ?_; intro v7 w7 hown7 hgrow7 _ hloc7))
        have HB7 : Hid (Below W0.heap.size W0 w7) := Lib.hid (((HBW.out.trans (hb5.mono HBW.out.size)).alloc (by omega) _).grown hgrow7 (by simp; omega) (fun r e => by have := own_ge HO.out r e; omega))
        have HO7 := Lib.hid hown7
        have HN7 : Hid (v7.ownBlock ≠ some G) := Lib.hid (by rcases hloc7 with h | h <;> rw [h]; exact HNE.out; simp; omega)
        have HS7 : Hid (G < w7.heap.size) := Lib.hid (by have := hgrow7.size; simp at this; omega)
        have HE7 : Hid (w7.heap[G]? = w4.heap[G]?) := Lib.hid (by
          rw [hgrow7.block G (by simp; omega) (fun e => HNE.out e.symm), ← HGE.out, ← hb5.block G hGl]
          show (w5.heap.push _)[G]? = _
          rw [Array.getElem?_push, if_neg (by omega)])
        clear hown7 hgrow7 hloc7
        go_roundw
        case rel => exact ⟨k + 1, by omega, by go_num, by rw [take_snoc (HRN.out k hkn), List.map_append]; exact HO7.out, HB7.out, HN7.out, HS7.out, HE7.out⟩
        case measure => simp [intOf]; omega
      · obtain ⟨j, rfl⟩ : ∃ j, k = ln + j := ⟨k - ln, by omega⟩
        have hjl : j < lo := by omega
        have c0 := HG.out _ HGE.out (ln + j) _ (linL_o hjl)
        have hm1 := meth2 (chV (U j))
        go_wp2_with (first
          | (go_at_call 235; refine (HT2.out j hjl _ HBW.out).mono ?_; rintro e w5 ⟨rfl, hb5⟩; have hz5 := hb5.size)
          | (at_builtin; refine wpList_append_own_at _ rfl (.tmp 17) (.tmp 20) 107 rfl W0.heap.size 9 i9 (.string ByteArray.empty) 1 16 Tryz.underlying107 hi9 h90 h91 h92 rfl (by decide) _ (ln + j) _ rfl ((owns_below HO.out hb5).alloc _) ⟨_, 0, none⟩ 1 1 [.string (bs (chR (U j)))] rfl rfl (lies_any (by first | exact al_top rfl _ _ | exact al_top (by simp) _ _)) (by intro u hu; simp at hu; subst hu; rfl) (by unfold maxLen; omega) (by omega) (by simp; omega) ?_; intro v7 w7 hown7 hgrow7 _ hloc7))
        have HB7 : Hid (Below W0.heap.size W0 w7) := Lib.hid (((HBW.out.trans (hb5.mono HBW.out.size)).alloc (by omega) _).grown hgrow7 (by simp; omega) (fun r e => by have := own_ge HO.out r e; omega))
        have HO7 := Lib.hid hown7
        have HN7 : Hid (v7.ownBlock ≠ some G) := Lib.hid (by rcases hloc7 with h | h <;> rw [h]; exact HNE.out; simp; omega)
        have HS7 : Hid (G < w7.heap.size) := Lib.hid (by have := hgrow7.size; simp at this; omega)
        have HE7 : Hid (w7.heap[G]? = w4.heap[G]?) := Lib.hid (by
          rw [hgrow7.block G (by simp; omega) (fun e => HNE.out e.symm), ← HGE.out, ← hb5.block G hGl]
          show (w5.heap.push _)[G]? = _
          rw [Array.getElem?_push, if_neg (by omega)])
        clear hown7 hgrow7 hloc7
        go_roundw
        case rel => exact ⟨ln + j + 1, by omega, by go_num, by rw [take_snoc (HRO.out j hjl), List.map_append]; exact HO7.out, HB7.out, HN7.out, HS7.out, HE7.out⟩
        case measure => simp [intOf]; omega
    · obtain rfl : k = ln + lo := by omega
      have hO := HO.out
      rw [List.take_of_length_le (by rw [HRL.out]; exact Nat.le_refl _)] at hO
      have hrl := HRL.out
      obtain ⟨G2, cap2, hu, e1, e2, e3, e4, e5⟩ := strSl_of_owns hO (by omega)
      subst hu
      have HTX : Hid (Calls Tryz.prog 74 #[.slice (some ⟨G2, 0, none⟩) (ln + lo) cap2, .int .i64 149] wr fun e w' => e = .returned (.string (bs (textL RW))) ∧ Below wr.heap.size wr w') := Lib.hid (by
        have h := text_w G2 0 cap2 RW wr (by omega) (by omega) HSH e4 (Lib.hid e5) (Lib.hid (FX.out _ HBW.out).2.2.2.1) hT.out
        rw [hrl] at h
        exact h)
      clear hO e5 e1 hown hbw hne hGe
      go_wp2_with (go_at_call 74; refine HTX.out.mono ?_; rintro e w9 ⟨rfl, hb9⟩)
      refine bodyPost_ret (v := .tuple #[.string (bs (textL RW)), .int .i64 0]) (by simp [results, Tryz.results32, go_sem]) rfl ⟨rfl, ?_⟩
      exact hB0.trans ((HBW.out.trans (hb9.mono HBW.out.size)).mono (by omega))
end Go.Kn

namespace Go.Kn
open Go Go.Proofs Go.RowKit

/-- a text that its last line's check does not fit -/
structure BadT (ys : List (List UInt8)) (z : List UInt8) : Prop where
  n1 : 1 ≤ ys.length
  n2 : ys.length ≤ 1000
  len : ∀ x ∈ ys, x.length ≤ 1000
  nl : ∀ y ∈ ys ++ [z], (10 : UInt8) ∉ y
  tot : (Lib.join (ys ++ [z]) [10]).length ≤ 399
  bad : z ≠ endL ys

def unl (ys : List (List UInt8)) : List UInt8 := ys.flatMap (fun l => l ++ [10])
theorem unl_cons (l : List UInt8) (r : List (List UInt8)) : unl (l :: r) = l ++ 10 :: unl r := by simp [unl]
theorem unl_join : ∀ (ys : List (List UInt8)), ys ≠ [] → Lib.join ys [10] ++ [10] = unl ys
  | [], h => (h rfl).elim
  | [y], _ => by simp [join_one, unl]
  | y :: z :: r, _ => by
    rw [join_cons2, unl_cons, ← unl_join (z :: r) (by simp)]
    simp

theorem set_unl : ∀ (all : List (List UInt8)) (p : Nat) (c : UInt8), (unl all)[p]? = some c → c ≠ 10 →
    ∃ pre l post k, all = pre ++ l :: post ∧ l[k]? = some c ∧ ∀ d, (unl all).set p d = unl (pre ++ l.set k d :: post)
  | [], p, c, h, _ => by simp [unl] at h
  | l :: r, p, c, h, hc => by
    rw [unl_cons] at h ⊢
    by_cases h1 : p < l.length
    · refine ⟨[], l, r, p, rfl, ?_, fun d => ?_⟩
      · rwa [List.getElem?_append_left h1] at h
      · rw [List.nil_append, unl_cons, List.set_append_left _ _ h1]
    · rw [List.getElem?_append_right (by omega)] at h
      by_cases h2 : p = l.length
      · subst h2
        simp at h
        exact (hc h.symm).elim
      · obtain ⟨q, hq⟩ : ∃ q, p - l.length = q + 1 := ⟨p - l.length - 1, by omega⟩
        rw [hq, List.getElem?_cons_succ] at h
        obtain ⟨pre, l', post, k, e1, e2, e3⟩ := set_unl r q c h hc
        refine ⟨l :: pre, l', post, k, by rw [e1]; rfl, e2, fun d => ?_⟩
        rw [List.set_append_right _ _ (by omega), hq, List.set_cons_succ, e3 d, List.cons_append, unl_cons]

theorem sumRow_set (i : Nat) (l : List UInt8) (k : Nat) (c d : UInt8) (hk : l[k]? = some c) : ∀ m,
    (m ≤ k → sumRow i (l.set k d) m = sumRow i l m) ∧ (k < m → sumRow i (l.set k d) m + c.toNat * (k + 1) * (i + 1) = sumRow i l m + d.toNat * (k + 1) * (i + 1))
  | 0 => ⟨fun _ => rfl, fun h => by omega⟩
  | m + 1 => by
    obtain ⟨h1, h2⟩ := sumRow_set i l k c d hk m
    have hkl : k < l.length := (List.getElem?_eq_some_iff.1 hk).1
    refine ⟨fun h => ?_, fun h => ?_⟩
    · have e : (l.set k d).getD m 0 = l.getD m 0 := by simp [List.getD, List.getElem?_set_ne (by omega : k ≠ m)]
      rw [sumRow, sumRow, h1 (by omega), e]
    · by_cases e : k = m
      · subst e
        have e1 : (l.set k d).getD k 0 = d := by simp [List.getD, hkl]
        have e2 : l.getD k 0 = c := by simp [List.getD, hk]
        rw [sumRow, sumRow, h1 (Nat.le_refl _), e1, e2]
        omega
      · have e' : (l.set k d).getD m 0 = l.getD m 0 := by simp [List.getD, List.getElem?_set_ne e]
        have h3 := h2 (by omega)
        rw [sumRow, sumRow, e']
        omega

theorem sumAll_set (pre : List (List UInt8)) (l : List UInt8) (post : List (List UInt8)) (k : Nat) (c d : UInt8) (hk : l[k]? = some c) : ∀ m,
    (m ≤ pre.length → sumAll (pre ++ l.set k d :: post) m = sumAll (pre ++ l :: post) m) ∧
    (pre.length < m → sumAll (pre ++ l.set k d :: post) m + c.toNat * (k + 1) * (pre.length + 1) = sumAll (pre ++ l :: post) m + d.toNat * (k + 1) * (pre.length + 1))
  | 0 => ⟨fun _ => rfl, fun h => by omega⟩
  | m + 1 => by
    obtain ⟨h1, h2⟩ := sumAll_set pre l post k c d hk m
    have hkl : k < l.length := (List.getElem?_eq_some_iff.1 hk).1
    refine ⟨fun h => ?_, fun h => ?_⟩
    · have e : (pre ++ l.set k d :: post).getD m [] = (pre ++ l :: post).getD m [] := by
        simp [List.getD, List.getElem?_append_left (by omega : m < pre.length)]
      rw [sumAll, sumAll, h1 (by omega), e]
    · by_cases e : pre.length = m
      · subst e
        have e1 : (pre ++ l.set k d :: post).getD pre.length [] = l.set k d := by simp [List.getD]
        have e2 : (pre ++ l :: post).getD pre.length [] = l := by simp [List.getD]
        have h3 := (sumRow_set pre.length l k c d hk l.length).2 hkl
        rw [sumAll, sumAll, h1 (Nat.le_refl _), e1, e2, List.length_set]
        omega
      · have e' : (pre ++ l.set k d :: post).getD m [] = (pre ++ l :: post).getD m [] := by
          obtain ⟨q, hq⟩ : ∃ q, m - pre.length = q + 1 := ⟨m - pre.length - 1, by omega⟩
          simp [List.getD, List.getElem?_append_right (by omega : pre.length ≤ m), hq]
        have h3 := h2 (by omega)
        rw [sumAll, sumAll, e']
        omega

theorem cop149 : ∀ x : Nat, 0 < x → x < 149 → Nat.Coprime 149 x := by
  have h : ∀ x : Fin 149, 0 < x.val → Nat.gcd 149 x.val = 1 := by decide +kernel
  intro x h1 h2
  exact h ⟨x, h2⟩ h1

theorem not_dvd149 {a b c : Nat} (ha : 0 < a ∧ a < 149) (hb : 0 < b ∧ b < 149) (hc : 0 < c ∧ c < 149) : ¬ 149 ∣ a * b * c := by
  intro h
  have h1 : 149 ∣ a * b := (cop149 c hc.1 hc.2).dvd_of_dvd_mul_right h
  have h2 : 149 ∣ a := (cop149 b hb.1 hb.2).dvd_of_dvd_mul_right h1
  have := Nat.le_of_dvd ha.1 h2
  omega

theorem rest_ne {A B c d k i : Nat} (h : A + c * (k + 1) * (i + 1) = B + d * (k + 1) * (i + 1)) (hcd : c ≠ d) (h1 : c < d + 149) (h2 : d < c + 149) (hk : k < 148) (hi : i < 148) : A % 149 ≠ B % 149 := by
  intro he
  rcases Nat.lt_or_gt_of_ne hcd with hlt | hgt
  · obtain ⟨x, rfl⟩ : ∃ x, d = c + x := ⟨d - c, by omega⟩
    have e : (c + x) * (k + 1) * (i + 1) = c * (k + 1) * (i + 1) + x * (k + 1) * (i + 1) := by rw [Nat.add_mul, Nat.add_mul]
    rw [e] at h
    refine not_dvd149 (a := x) (b := k + 1) (c := i + 1) ⟨by omega, by omega⟩ ⟨by omega, by omega⟩ ⟨by omega, by omega⟩ ?_
    generalize x * (k + 1) * (i + 1) = Y at h
    exact Nat.dvd_of_mod_eq_zero (by omega)
  · obtain ⟨x, rfl⟩ : ∃ x, c = d + x := ⟨c - d, by omega⟩
    have e : (d + x) * (k + 1) * (i + 1) = d * (k + 1) * (i + 1) + x * (k + 1) * (i + 1) := by rw [Nat.add_mul, Nat.add_mul]
    rw [e] at h
    refine not_dvd149 (a := x) (b := k + 1) (c := i + 1) ⟨by omega, by omega⟩ ⟨by omega, by omega⟩ ⟨by omega, by omega⟩ ?_
    generalize x * (k + 1) * (i + 1) = Y at h
    exact Nat.dvd_of_mod_eq_zero (by omega)
theorem itoa_nat (n : Nat) : Lib.itoa (n : Int) = Lib.decDigits n := by
  unfold Lib.itoa; rw [if_neg (by omega)]; rfl
theorem itoa_pos {x : Int} (h : 0 ≤ x) : Lib.itoa x = Lib.decDigits x.toNat := by
  unfold Lib.itoa; rw [if_neg (by omega)]

theorem dec_len : ∀ (u : Nat), u < 10000 → (Lib.decDigits u).length ≤ 4 ∧ (u < 1000 → (Lib.decDigits u).length ≤ 3) := by
  intro u hu
  rw [Lib.decDigits_length]
  by_cases h1 : u < 10
  · rw [Lib.nDigits_small h1]; omega
  rw [Lib.nDigits_big h1]
  by_cases h2 : u / 10 < 10
  · rw [Lib.nDigits_small h2]; omega
  rw [Lib.nDigits_big h2]
  by_cases h3 : u / 10 / 10 < 10
  · rw [Lib.nDigits_small h3]; omega
  rw [Lib.nDigits_big h3, Lib.nDigits_small (by omega)]
  omega

theorem dec_mem (u : Nat) : ∀ b ∈ Lib.decDigits u, 48 ≤ b.toNat ∧ b.toNat ≤ 57 := by
  induction u using Nat.strongRecOn with
  | ind u ih =>
    intro b hb
    have hd : ∀ r, r < 10 → (UInt8.ofNat (48 + r)).toNat = 48 + r := fun r hr => by
      rw [UInt8.toNat_ofNat']; omega
    rw [Lib.decDigits] at hb
    split at hb
    · rename_i h
      rw [List.mem_singleton] at hb
      rw [hb, hd u h]; omega
    · rename_i h
      rw [List.mem_append, List.mem_singleton] at hb
      rcases hb with hb | hb
      · exact ih (u / 10) (by omega) b hb
      · rw [hb, hd _ (Nat.mod_lt _ (by decide))]; omega

theorem no10_dec (u : Nat) : (10 : UInt8) ∉ Lib.decDigits u := fun h => by
  have := dec_mem u _ h
  simp at this

theorem dec_val (u : Nat) : (Lib.decDigits u).foldl (fun n (b : UInt8) => 10 * n + (b.toNat - 48)) 0 = u := by
  induction u using Nat.strongRecOn with
  | ind u ih =>
    have hd : ∀ r, r < 10 → (UInt8.ofNat (48 + r)).toNat = 48 + r := fun r hr => by
      rw [UInt8.toNat_ofNat']; omega
    rw [Lib.decDigits]
    split
    · rename_i h
      simp only [List.foldl_cons, List.foldl_nil, hd u h]; omega
    · rename_i h
      rw [List.foldl_append, ih (u / 10) (by omega)]
      simp only [List.foldl_cons, List.foldl_nil, hd _ (Nat.mod_lt u (by decide : 0 < 10))]
      omega

theorem rep_val : ∀ c, (Lib.repeatL [48] c).foldl (fun n (b : UInt8) => 10 * n + (b.toNat - 48)) 0 = 0
  | 0 => by simp [Lib.repeatL]
  | c + 1 => by simp [Lib.repeatL, rep_val c]

theorem rep_mem : ∀ c, ∀ b ∈ Lib.repeatL [48] c, b = 48
  | 0, b, h => by simp [Lib.repeatL] at h
  | c + 1, b, h => by
    simp only [Lib.repeatL, List.mem_append, List.mem_singleton] at h
    rcases h with h | h
    · exact h
    · exact rep_mem c b h

theorem endL_inj {xs ys : List (List UInt8)} (h : endL xs = endL ys) : sumAll xs xs.length % 149 = sumAll ys ys.length % 149 := by
  have h1 := List.append_cancel_left h
  have h2 := congrArg (fun l => l.foldl (fun n (b : UInt8) => 10 * n + (b.toNat - 48)) 0) h1
  simp only [List.foldl_append, rep_val, itoa_nat, dec_val] at h2
  exact h2

theorem endL_len (xs : List (List UInt8)) : (endL xs).length = 7 := by
  have h := digits_le3 (sumAll xs xs.length % 149) (Nat.mod_lt _ (by decide))
  simp only [endL, List.length_append, List.length_cons, List.length_nil, repeat_len]
  omega

theorem endL_no10 (xs : List (List UInt8)) : (10 : UInt8) ∉ endL xs := by
  intro h
  simp only [endL, List.mem_append] at h
  rcases h with h | h | h
  · simp at h
  · have := rep_mem _ _ h; simp at this
  · rw [itoa_nat] at h; exact no10_dec _ h

theorem rowL_no10 {wd : List UInt8} (hw : (10 : UInt8) ∉ wd) {l : List Int} (hl : ∀ x ∈ l, 0 ≤ x) : (10 : UInt8) ∉ rowL wd l := by
  intro h
  simp only [rowL, List.mem_append, List.mem_flatMap, List.mem_cons] at h
  rcases h with h | ⟨x, hx, h | h⟩
  · exact hw h
  · simp at h
  · rw [itoa_pos (hl x hx)] at h; exact no10_dec _ h

theorem rowL_len' (wd : List UInt8) (B : Nat) : ∀ (l : List Int), (∀ x ∈ l, (Lib.itoa x).length ≤ B) → (rowL wd l).length ≤ wd.length + (B + 1) * l.length
  | [], _ => by simp [rowL]
  | x :: l, h => by
    have h1 := rowL_len' wd B l (fun y hy => h y (List.mem_cons_of_mem _ hy))
    have h2 := h x List.mem_cons_self
    simp only [rowL, List.flatMap_cons, List.length_append, List.length_cons] at h1 ⊢
    rw [Nat.mul_add]
    omega

theorem unl_len (B : Nat) : ∀ (rs : List (List UInt8)), (∀ x ∈ rs, x.length ≤ B) → (unl rs).length ≤ (B + 1) * rs.length
  | [], _ => by simp [unl]
  | x :: rs, h => by
    have h1 := unl_len B rs (fun y hy => h y (List.mem_cons_of_mem _ hy))
    have h2 := h x List.mem_cons_self
    rw [unl_cons, List.length_append, List.length_cons, List.length_cons, Nat.mul_add]
    omega

theorem text_unl (xs : List (List UInt8)) : textL xs = unl (xs ++ [endL xs]) := unl_join _ (by simp)

theorem bad_of_change {xs : List (List UInt8)} (hok : ∀ x ∈ xs, x.length ≤ 100 ∧ (10 : UInt8) ∉ x) (hx1 : 1 ≤ xs.length) (hx2 : xs.length ≤ 100) (hT : (textL xs).length ≤ 400) {p : Nat} {c d : UInt8} (hp : (textL xs)[p]? = some c) (hc : c ≠ 10) (hd : d ≠ 10) (hcd : c ≠ d) (h1 : c.toNat < d.toNat + 149) (h2 : d.toNat < c.toNat + 149) :
    ∃ ys z, BadT ys z ∧ (textL xs).set p d = Lib.join (ys ++ [z]) [10] ++ [10] := by
  rw [text_unl] at hp hT ⊢
  obtain ⟨pre, l, post, k, e1, e2, e3⟩ := set_unl _ p c hp hc
  have hlen : (unl (pre ++ l.set k d :: post)).length ≤ 400 := by rw [← e3 d, List.length_set]; exact hT
  rcases List.eq_nil_or_concat post with rfl | ⟨post', y, rfl⟩
  · obtain ⟨ea, eb⟩ := List.append_inj' e1 rfl
    have eb' : endL xs = l := by simpa using eb
    subst ea
    refine ⟨xs, l.set k d, ⟨by omega, by omega, fun x hx => by have := (hok x hx).1; omega, fun y hy => ?_, ?_, ?_⟩, ?_⟩
    · rw [List.mem_append, List.mem_singleton] at hy
      rcases hy with hy | rfl
      · exact (hok y hy).2
      · intro hm
        rcases List.mem_or_eq_of_mem_set hm with hm | hm
        · rw [← eb'] at hm; exact endL_no10 _ hm
        · exact hd hm.symm
    · have h5 := unl_join (xs ++ [l.set k d]) (by simp)
      rw [← h5, List.length_append] at hlen
      simp at hlen ⊢
      omega
    · rw [eb']
      intro h
      have : (l.set k d)[k]? = some d := by
        have := (List.getElem?_eq_some_iff.1 e2).1
        simp [this]
      rw [h, e2] at this
      exact hcd (by simpa using this)
    · rw [e3 d, unl_join _ (by simp)]
  · have e1' : xs ++ [endL xs] = (pre ++ l :: post') ++ [y] := by rw [e1]; simp
    obtain ⟨ea, eb⟩ := List.append_inj' e1' rfl
    have eb' : endL xs = y := by simpa using eb
    have el : xs.length = pre.length + 1 + post'.length := by rw [ea]; simp; omega
    have hkl : k < l.length := (List.getElem?_eq_some_iff.1 e2).1
    have hl := hok l (by rw [ea]; simp)
    refine ⟨pre ++ l.set k d :: post', y, ⟨by simp; omega, by simp; omega, fun x hx => ?_, fun x hx => ?_, ?_, ?_⟩, ?_⟩
    · rw [List.mem_append, List.mem_cons] at hx
      rcases hx with hx | rfl | hx
      · have := (hok x (by rw [ea]; simp [hx])).1; omega
      · rw [List.length_set]; omega
      · have := (hok x (by rw [ea]; simp [hx])).1; omega
    · rw [List.mem_append, List.mem_append, List.mem_cons, List.mem_singleton] at hx
      rcases hx with (hx | rfl | hx) | rfl
      · exact (hok x (by rw [ea]; simp [hx])).2
      · intro hm
        rcases List.mem_or_eq_of_mem_set hm with hm | hm
        · exact hl.2 hm
        · exact hd hm.symm
      · exact (hok x (by rw [ea]; simp [hx])).2
      · rw [← eb']; exact endL_no10 _
    · have h5 := unl_join ((pre ++ l.set k d :: post') ++ [y]) (by simp)
      have hlen' : (unl ((pre ++ l.set k d :: post') ++ [y])).length ≤ 400 := by simpa using hlen
      rw [← h5, List.length_append] at hlen'
      simp at hlen' ⊢
      omega
    · rw [← eb', ea]
      intro h
      have hr := endL_inj h
      have hs := (sumAll_set pre l post' k c d e2 (pre ++ l :: post').length).2 (by simp)
      have hlen2 : (pre ++ l.set k d :: post').length = (pre ++ l :: post').length := by simp
      rw [hlen2] at hr
      exact rest_ne hs (fun e => hcd (UInt8.toNat_inj.1 e)) h1 h2 (by omega) (by omega) hr.symm
    · rw [e3 d, unl_join _ (by simp)]
      simp

theorem dec_len5 (u : Nat) (h : u ≤ 10000) : (Lib.decDigits u).length ≤ 5 := by
  by_cases h1 : u < 10000
  · have := (dec_len u h1).1; omega
  · obtain rfl : u = 10000 := by omega
    decide +kernel
theorem ptR_ok {ln lo : Nat} {N : Nat → P8} {U : Nat → C8} (H : NetP ln N lo U) {i : Nat} (hi : i < ln) : (ptR (N i)).length ≤ 23 ∧ (10 : UInt8) ∉ ptR (N i) := by
  have hb := H.p hi
  have hd : ∀ z : Int, 0 ≤ z → z ≤ 10000 → (Lib.itoa z).length ≤ 5 := fun z h0 h1 => by rw [itoa_pos h0]; exact dec_len5 _ (by omega)
  refine ⟨?_, rowL_no10 (by decide) (by intro z hz; simp only [ptLn, List.mem_cons, List.not_mem_nil, or_false] at hz; rcases hz with rfl | rfl | rfl <;> omega)⟩
  have h := rowL_len' pointW 5 (ptLn (N i)) (by intro z hz; simp only [ptLn, List.mem_cons, List.not_mem_nil, or_false] at hz; rcases hz with rfl | rfl | rfl <;> exact hd _ (by omega) (by omega))
  have e1 : pointW.length = 5 := rfl
  have e2 : (ptLn (N i)).length = 3 := rfl
  rw [e1, e2] at h
  unfold ptR
  omega
theorem chR_ok {ln lo : Nat} {N : Nat → P8} {U : Nat → C8} (H : NetP ln N lo U) {i : Nat} (hi : i < lo) : (chR (U i)).length ≤ 17 ∧ (10 : UInt8) ∉ chR (U i) := by
  have hb := H.c hi
  have hl := H.l7
  have hd : ∀ z : Int, 0 ≤ z → z ≤ 10000 → (Lib.itoa z).length ≤ 5 := fun z h0 h1 => by rw [itoa_pos h0]; exact dec_len5 _ (by omega)
  have hd1 : ∀ z : Int, 0 ≤ z → z ≤ 9 → (Lib.itoa z).length = 1 := fun z h0 h1 => by
    rw [itoa_pos h0]
    have : ∀ n : Fin 10, (Lib.decDigits n.val).length = 1 := by decide +kernel
    exact this ⟨z.toNat, by omega⟩
  refine ⟨?_, rowL_no10 (by unfold chWd; split <;> decide) (by intro z hz; simp only [chLn, List.mem_cons, List.not_mem_nil, or_false] at hz; rcases hz with rfl | rfl | rfl <;> omega)⟩
  have e1 : (chWd (U i)).length ≤ 7 := by unfold chWd; split <;> decide
  have h1 := hd1 (U i).fr (by omega) (by omega)
  have h2 := hd1 (U i).to (by omega) (by omega)
  have h3 := hd (U i).cu (by omega) (by omega)
  unfold chR rowL chLn
  simp only [List.flatMap_cons, List.flatMap_nil, List.length_append, List.length_cons, List.length_nil, h1, h2]
  omega
theorem rows_okG {ln lo : Nat} {N : Nat → P8} {U : Nat → C8} (H : NetP ln N lo U) : ∀ x ∈ rowsG ln lo N U, x.length ≤ 100 ∧ (10 : UInt8) ∉ x := by
  intro x hx
  simp only [rowsG, List.mem_append, List.mem_map] at hx
  rcases hx with ⟨y, hy, rfl⟩ | ⟨y, hy, rfl⟩
  · obtain ⟨i, hi, rfl⟩ : ∃ i, i < ln ∧ N i = y := by simpa [upto] using hy
    exact ⟨by have := (ptR_ok H hi).1; omega, (ptR_ok H hi).2⟩
  · obtain ⟨i, hi, rfl⟩ : ∃ i, i < lo ∧ U i = y := by simpa [upto] using hy
    exact ⟨by have := (chR_ok H hi).1; omega, (chR_ok H hi).2⟩
theorem unl_app (a b : List (List UInt8)) : unl (a ++ b) = unl a ++ unl b := by simp [unl]
theorem text_lenG {ln lo : Nat} {N : Nat → P8} {U : Nat → C8} (H : NetP ln N lo U) : (textL (rowsG ln lo N U)).length ≤ 400 := by
  have hl := H.l7
  have hl2 := H.c10
  have h1 := unl_len 23 ((upto N ln).map ptR) (fun x hx => by
    simp only [List.mem_map] at hx
    obtain ⟨y, hy, rfl⟩ := hx
    obtain ⟨i, hi, rfl⟩ : ∃ i, i < ln ∧ N i = y := by simpa [upto] using hy
    exact (ptR_ok H hi).1)
  have h2 := unl_len 17 ((upto U lo).map chR) (fun x hx => by
    simp only [List.mem_map] at hx
    obtain ⟨y, hy, rfl⟩ := hx
    obtain ⟨i, hi, rfl⟩ : ∃ i, i < lo ∧ U i = y := by simpa [upto] using hy
    exact (chR_ok H hi).1)
  rw [List.length_map, upto_length] at h1 h2
  rw [text_unl, unl_app]
  have e : unl [endL (rowsG ln lo N U)] = endL (rowsG ln lo N U) ++ [10] := by simp [unl]
  have e2 : unl (rowsG ln lo N U) = unl ((upto N ln).map ptR) ++ unl ((upto U lo).map chR) := unl_app _ _
  rw [e, e2]
  simp only [List.length_append, List.length_cons, List.length_nil, endL_len]
  omega
end Go.Kn

namespace Go.Kn
open Go Go.Proofs Go.RowKit

/-- the library's variable MaxLen stands in the memory's first block -/
def ML (w : World) : Prop := ∃ m, w.cell? ⟨0, 0, none⟩ = some (.int .i64 m)
theorem ML.on {w w1 : World} (h : ML w) (hb : Below w.heap.size w w1) : ML w1 := by
  obtain ⟨m, hm⟩ := h
  exact ⟨m, ((bcell hb).1 _ _ (World.block_lt_of_cell? _ _ hm)).trans hm⟩

theorem suffix_w (J : List UInt8) (w : World) (hJ : J.length ≤ 1000000) :
    Calls Tryz.prog 162 #[.string (bs (J ++ [10])), .string ⟨#[10]⟩] w fun e w' => e = .returned (.tuple #[.string (bs J), .bool true]) ∧ w' = w := by
  have h := Tryz.strings_CutSuffix (bs (J ++ [10])) ⟨#[10]⟩ w (by rw [bs_size]; simp; omega)
  have e : (⟨#[10]⟩ : ByteArray).data.toList = [10] := rfl
  rw [bs_list, e, trimSuffix_nl, hasSuffix_nl] at h
  exact h

theorem split_w (ys : List (List UInt8)) (hne : ys ≠ []) (hy : ∀ y ∈ ys, (10 : UInt8) ∉ y) (w : World) (hT : (Lib.join ys [10]).length ≤ 1000000) (hm : ML w) :
    Calls Tryz.prog 163 #[.string (bs (Lib.join ys [10])), .string ⟨#[10]⟩] w fun e w' =>
      e = .returned (.slice (some ⟨w.heap.size, 0, none⟩) ys.length ys.length) ∧ w' = w.alloc (.cells (ys.map strV).toArray 9) := by
  obtain ⟨m, hm⟩ := hm
  obtain ⟨h1, h2⟩ := splitB_join ys hne hy
  have h := Tryz.strings_Split (bs (Lib.join ys [10])) ⟨#[10]⟩ m w (by rw [bs_size]; omega) hm (by decide)
  rw [h1, h2] at h
  have e : (ys.map bs).map Value.string = ys.map strV := by simp [strV]
  rw [e] at h
  exact h

theorem strAt_alloc (ys : List (List UInt8)) (w : World) (T : TypeId) : StrAt (w.alloc (.cells (ys.map strV).toArray T)) w.heap.size 0 ys := by
  intro j hj
  have : (ys.map strV)[j]? = some (.string (bs (ys.getD j []))) := by simp [List.getD, hj, strV]
  have hg : (w.alloc (.cells (ys.map strV).toArray T)).heap[w.heap.size]? = some (.cells (ys.map strV).toArray T) := by
    show (w.heap.push _)[w.heap.size]? = _
    simp
  rw [Nat.zero_add]
  unfold World.cell?
  simp only []
  rw [hg]
  simp [List.getD, hj, strV]

theorem slice_to (B n : Nat) (w' : World) : (Instr.slice 107 (.slice (some ⟨B, 0, none⟩) (n + 1) (n + 1)) none (some (.int .i64 (n : Int))) none).run Tryz.prog w' = .ok (.slice (some ⟨B, 0, none⟩) n (n + 1)) w' := by
  have h1 : ¬ ((n : Int) < 0) := by omega
  have h2 : ¬ ((n : Int) + 1 < (n : Int)) := by omega
  simp [Instr.slice, run_underlying Tryz.underlying107, Instr.sliceBounds, Instr.sliceBound, asIntOf, h1, h2, Result.andThen]
  rfl

set_option maxRecDepth 100000 in
set_option maxHeartbeats 2000000 in
theorem linesN_bad (ys : List (List UInt8)) (z : List UInt8) (w : World) (hn1 : 1 ≤ ys.length) (hn : ys.length ≤ 1000) (hl : Hid (∀ x ∈ ys, x.length ≤ 1000)) (hy : Hid (∀ y ∈ ys ++ [z], (10 : UInt8) ∉ y)) (hT : (Lib.join (ys ++ [z]) [10]).length ≤ 1000000) (hz : Hid (z ≠ endL ys)) (hp : Hid (Pow w)) (hm : Hid (ML w)) :
    Calls Tryz.prog 126 #[.string (bs (Lib.join (ys ++ [z]) [10] ++ [10])), .int .i64 149] w fun e w' => e = .returned (.tuple #[.slice none 0 0, .bool false]) ∧ Below w.heap.size w w' := by
  have HS1 : Hid (Calls Tryz.prog 162 #[.string (bs (Lib.join (ys ++ [z]) [10] ++ [10])), .string ⟨#[10]⟩] w fun e w' => e = .returned (.tuple #[.string (bs (Lib.join (ys ++ [z]) [10])), .bool true]) ∧ w' = w) := Lib.hid (suffix_w _ w hT)
  have HS2 : Hid (Calls Tryz.prog 163 #[.string (bs (Lib.join (ys ++ [z]) [10])), .string ⟨#[10]⟩] w fun e w' => e = .returned (.slice (some ⟨w.heap.size, 0, none⟩) (ys.length + 1) (ys.length + 1)) ∧ w' = w.alloc (.cells ((ys ++ [z]).map strV).toArray 9)) := Lib.hid (by
    have h := split_w (ys ++ [z]) (by simp) hy.out w hT hm.out
    rw [List.length_append] at h
    exact h)
  obtain ⟨J, hJ⟩ : ∃ J, Lib.join (ys ++ [z]) [10] = J := ⟨_, rfl⟩
  rw [hJ] at HS1 HS2 ⊢
  clear hJ hT
  obtain ⟨W1, hW1⟩ : ∃ W1, W1 = w.alloc (.cells ((ys ++ [z]).map strV).toArray 9) := ⟨_, rfl⟩
  rw [← hW1] at HS2
  have hb1 : Below w.heap.size w W1 := by rw [hW1]; exact (Below.refl _ _).alloc (Nat.le_refl _) _
  have hz1 : W1.heap.size = w.heap.size + 1 := by rw [hW1]; simp
  have hat : Hid (StrAt W1 w.heap.size 0 (ys ++ [z])) := Lib.hid (by rw [hW1]; exact strAt_alloc _ _ _)
  have hat1 : StrAt W1 w.heap.size 0 ys := fun j hj => by
    have := hat.out j (by rw [List.length_append]; omega)
    rw [this]
    simp [List.getD, List.getElem?_append_left hj]
  have hlast : W1.cell? ⟨w.heap.size, ys.length, none⟩ = some (.string (bs z)) := by
    have := hat.out ys.length (by simp)
    rw [Nat.zero_add] at this
    rw [this]
    simp [List.getD]
  have HEN : Hid (∀ w1, Below W1.heap.size W1 w1 → Calls Tryz.prog 124 #[.slice (some ⟨w.heap.size, 0, none⟩) ys.length (ys.length + 1), .int .i64 149] w1 fun e w' => e = .returned (.string (bs (endL ys))) ∧ Below w1.heap.size w1 w') := Lib.hid fun w1 h => endOf_w _ _ ys w1 hn hl (Lib.hid (.inr ⟨w.heap.size, 0, rfl, Nat.lt_of_lt_of_le (by omega) h.size, hat1.below (by omega) h⟩)) (Lib.hid (hp.out.on (hb1.trans (h.mono hb1.size))))
  have FZ : Hid (∀ w', Below W1.heap.size W1 w' → w'.cell? ⟨w.heap.size, ys.length, none⟩ = some (.string (bs z))) := Lib.hid fun w' h => by
    rw [(bcell h).1 _ _ (by omega)]; exact hlast
  obtain ⟨n, hnn⟩ : ∃ n, ys.length = n := ⟨_, rfl⟩
  rw [hnn] at hn1 hn HS2 HEN FZ
  have HB1 := Lib.hid hb1
  obtain ⟨E, hE⟩ : ∃ E, endL ys = E := ⟨_, rfl⟩
  rw [hE] at hz HEN
  have hneb : ((bs z).toList == (bs E).toList) = false := by simp only [bs, ByteArray.toList_mk]; simpa using hz.out
  have hneq : ¬ (bs z).toList = (bs E).toList := by simp only [bs, ByteArray.toList_mk]; exact hz.out
  clear hW1 hlast hat1 hb1 hnn hE hz hz1
  go_enter Tryz.func126, Tryz.ntmps126
  go_wp2_with (first
    | (go_at_call 162; refine HS1.out.mono ?_; rintro e w2 ⟨rfl, hw⟩; obtain rfl := hw.symm)
    | (go_at_call 163; refine HS2.out.mono ?_; rintro e w2 ⟨rfl, hw⟩; obtain rfl := hw.symm))
  have hn0 : ((n : Int) == 0) = false := by simp; omega
  have hn00 : (n : Int) ≠ 0 := by omega
  have hnn0 : (0 : Int) ≤ (n : Int) := by omega
  have hA1 : (n : Int) < ((n + 1 : Nat) : Int) := by omega
  have hB1 : (n : Int) < (n : Int) + 1 := by omega
  have hsl : ∀ w' : World, (Instr.slice 107 (.slice (some ⟨w.heap.size, 0, none⟩) (n + 1) (n + 1)) none (some (.int .i64 (n : Int))) none).run Tryz.prog w' = .ok (.slice (some ⟨w.heap.size, 0, none⟩) n (n + 1)) w' := slice_to w.heap.size n
  refine wp_region_calm (W := W1) (by kernel_rfl) (by kernel_rfl) (Below.refl _ _) ?_
  repeat (first
    | (refine calm_no (by rfl) ?_
       (try simp only [Act.put, List.setIfInBounds_toArray, List.set_cons_zero, List.set_cons_succ]))
    | (apply calm_yes
       focus rfl
       focus
         intro w' hw'
         have z1 := FZ.out w' hw'
         go_simp
         first
           | done
           | with_reducible rfl
           | (go_at_call 124; refine (HEN.out w' hw').mono ?_; rintro e w8 ⟨rfl, hb8⟩; exact ⟨rfl, hw'.trans (hb8.mono hw'.size)⟩)
           | fail
       (try simp only [Act.put, List.setIfInBounds_toArray, List.set_cons_zero, List.set_cons_succ])))
  refine calm_nil ?_
  intro w20 hb20
  have HB20 := Lib.hid hb20
  clear hb20
  go_wp2
  refine bodyPost_ret (v := .tuple #[.slice none 0 0, .bool false]) (by simp [results, Tryz.results126, go_sem]) rfl ⟨rfl, ?_⟩
  exact HB1.out.trans (HB20.out.mono HB1.out.size)

theorem ta_text1 (w : World) : (Instr.typeAssert (Value.iface 148 (.agg #[])) 20 147 true).run Tryz.prog w = .ok (.tuple #[.agg #[], .bool false]) w := by kernel_rfl
theorem ta_text2 (w : World) : (Instr.typeAssert (Value.iface 148 (.agg #[])) 20 148 true).run Tryz.prog w = .ok (.tuple #[.agg #[], .bool true]) w := by kernel_rfl

set_option maxRecDepth 100000 in
set_option maxHeartbeats 1000000 in
theorem catch_text (p : Addr) (x : Int) (older : List PanicEntry) (w : World) (hc : w.cell? p = some (.int .i64 x)) (hz : w.frozen? p = false) :
    CallsD Tryz.prog 125 #[.pointer (some p)] (.panicking ({ v := .iface 148 (.agg #[]), recovered := false } :: older)) w fun e u' w' =>
      e = .returned (.tuple #[]) ∧ u' = .panicking ({ v := .iface 148 (.agg #[]), recovered := true } :: older) ∧ w' = w.setCell p (.int .i64 4) := by
  refine callsD_of_wpS Tryz.func125 rfl fun c₀ cs hu => ?_
  have h1 := ta_text1
  have h2 := ta_text2
  apply wpS_seq
  apply wpS_region
  simp [wpOpsS, go_sem, recoverD, hu, Tryz.ntmps125, Exit.thenS]
  refine wpS_of_wp ?_
  go_wp2
  simp [bodyPostS, results, Tryz.results125]

set_option maxRecDepth 100000 in
set_option maxHeartbeats 1000000 in
theorem netOf_f (ys : List (List UInt8)) (z : List UInt8) (w : World) (hB : Hid (BadT ys z)) (hp : Hid (Pow w)) (hm : Hid (ML w)) :
    Calls Tryz.prog 77 #[.string (bs (Lib.join (ys ++ [z]) [10] ++ [10]))] w fun e w' => e = .panicked [{ v := .iface 148 (.agg #[]), recovered := false }] ∧ Below w.heap.size w w' := by
  have hal : Below w.heap.size w (w.alloc (.cells #[.slice none 0 0, .slice none 0 0] 25)) := (Below.refl _ _).alloc (Nat.le_refl _) _
  have HL : Hid (Calls Tryz.prog 126 #[.string (bs (Lib.join (ys ++ [z]) [10] ++ [10])), .int .i64 149] (w.alloc (.cells #[.slice none 0 0, .slice none 0 0] 25)) fun e w' => e = .returned (.tuple #[.slice none 0 0, .bool false]) ∧ Below w.heap.size w w') :=
    Lib.hid ((linesN_bad ys z _ hB.out.n1 hB.out.n2 (Lib.hid hB.out.len) (Lib.hid hB.out.nl) (by have := hB.out.tot; omega) (Lib.hid hB.out.bad) (Lib.hid (hp.out.on hal)) (Lib.hid (hm.out.on hal))).mono fun e w' ⟨he, hb⟩ => ⟨he, hal.trans (hb.mono hal.size)⟩)
  obtain ⟨T, hT⟩ : ∃ T, bs (Lib.join (ys ++ [z]) [10] ++ [10]) = T := ⟨_, rfl⟩
  rw [hT] at HL ⊢
  clear hT hal
  go_enter Tryz.func77, Tryz.ntmps77
  go_wp2_with (first
    | (go_at_call 126; refine HL.out.mono ?_; rintro e w1 ⟨rfl, hb1⟩)
    | (go_at_call 127; refine (must_f _ _ _).mono ?_; rintro e w2 ⟨rfl, rfl⟩))
  exact ⟨rfl, rfl, hb1⟩

def txt (ys : List (List UInt8)) (z : List UInt8) : ByteArray := bs (Lib.join (ys ++ [z]) [10] ++ [10])

set_option maxRecDepth 100000 in
set_option maxHeartbeats 1000000 in
theorem read1_f (a b : Nat) (ys : List (List UInt8)) (z : List UInt8) (w : World) (hB : Hid (BadT ys z)) (hp : Hid (Pow w)) (hm : Hid (ML w)) (hc : w.cell? ⟨a, 0, none⟩ = some (.string (txt ys z))) :
    Calls Tryz.prog 76 #[.pointer (some ⟨a, 0, none⟩), .pointer (some ⟨b, 0, none⟩)] w fun e w' => e = .panicked [{ v := .iface 148 (.agg #[]), recovered := false }] ∧ Below w.heap.size w w' := by
  have HL := Lib.hid (netOf_f ys z w hB hp hm)
  rw [show bs (Lib.join (ys ++ [z]) [10] ++ [10]) = txt ys z from rfl] at HL
  obtain ⟨T, hT⟩ : ∃ T, txt ys z = T := ⟨_, rfl⟩
  rw [hT] at HL hc
  clear hT
  go_enter Tryz.func76, Tryz.ntmps76
  go_wp2_with (go_at_call 77; refine HL.out.mono ?_; rintro e w1 ⟨rfl, hb⟩)
  exact ⟨rfl, rfl, hb⟩

set_option maxRecDepth 100000 in
set_option maxHeartbeats 1000000 in
theorem attempt_bad (a b : Nat) (ys : List (List UInt8)) (z : List UInt8) (w : World) (hB : Hid (BadT ys z)) (hp : Hid (Pow w)) (hm : Hid (ML w)) (hc : w.cell? ⟨a, 0, none⟩ = some (.string (txt ys z))) :
    Calls Tryz.prog 75 #[.func (.func 76) #[] #[.pointer (some ⟨a, 0, none⟩), .pointer (some ⟨b, 0, none⟩)]] w fun e w' => e = .returned (.int .i64 4) ∧ Below w.heap.size w w' := by
  have hmf : ∀ (fn : Fn) (first cap : Array Value) (w : World), (Instr.makeFunc fn first cap).run Tryz.prog w = .ok (.func fn first cap) w := fun _ _ _ _ => rfl
  have hA : Below w.heap.size w (w.alloc (.cells #[.int .i64 0] 32)) := (Below.refl _ _).alloc (Nat.le_refl _) _
  have ha : a < w.heap.size := World.block_lt_of_cell? _ _ hc
  have HR : Hid (Calls Tryz.prog 76 #[.pointer (some ⟨a, 0, none⟩), .pointer (some ⟨b, 0, none⟩)] (w.alloc (.cells #[.int .i64 0] 32)) fun e w' => e = .panicked [{ v := .iface 148 (.agg #[]), recovered := false }] ∧ Below (w.alloc (.cells #[.int .i64 0] 32)).heap.size (w.alloc (.cells #[.int .i64 0] 32)) w') :=
    Lib.hid (read1_f a b ys z _ hB (Lib.hid (hp.out.on hA)) (Lib.hid (hm.out.on hA)) (((bcell hA).1 _ _ ha).trans hc))
  have c0 : (w.alloc (.cells #[.int .i64 0] 32)).cell? ⟨w.heap.size, 0, none⟩ = some (.int .i64 0) := by simp
  have f0 : (w.alloc (.cells #[.int .i64 0] 32)).frozen? ⟨w.heap.size, 0, none⟩ = false := by simp
  have l0 : w.heap.size < (w.alloc (.cells #[.int .i64 0] 32)).heap.size := by simp
  have HC : Hid (∀ w1, Below (w.alloc (.cells #[.int .i64 0] 32)).heap.size (w.alloc (.cells #[.int .i64 0] 32)) w1 → w1.cell? ⟨w.heap.size, 0, none⟩ = some (.int .i64 0) ∧ w1.frozen? ⟨w.heap.size, 0, none⟩ = false) := Lib.hid fun w1 hb => by
    obtain ⟨c, f⟩ := bcell hb
    exact ⟨(c _ _ l0).trans c0, (f _ _ l0).trans f0⟩
  have HA := Lib.hid hA
  clear hc hA c0 f0 l0
  go_enter_defers Tryz.func75, Tryz.ntmps75
  go_wp2_with (go_at_call 76; refine HR.out.mono ?_; rintro e w2 ⟨rfl, hb⟩; obtain ⟨y1, y2⟩ := HC.out _ hb)
  refine leaves_cons (f := 125) (args := #[.pointer (some ⟨w.heap.size, 0, none⟩)]) (by simp) (by simp [go_sem]) ?_
  refine (catch_text ⟨w.heap.size, 0, none⟩ 0 [] _ y1 y2).mono ?_
  rintro e u' w'' ⟨rfl, rfl, rfl⟩
  simp [Leaves, settle, results, Tryz.results75, go_sem, y1]
  exact (HA.out.trans (hb.mono HA.out.size)).setCell (Nat.le_refl _) _

def zT : Value := .agg #[.slice none 0 0, .slice none 0 0]

set_option maxRecDepth 100000 in
set_option maxHeartbeats 1000000 in
theorem read_f (ys : List (List UInt8)) (z : List UInt8) (w : World) (hB : Hid (BadT ys z)) (hp : Hid (Pow w)) (hm : Hid (ML w)) :
    Calls Tryz.prog 33 #[.string (txt ys z)] w fun e w' => e = .returned (.tuple #[.agg #[.slice none 0 0, .slice none 0 0], .int .i64 4]) ∧ Below w.heap.size w w' := by
  have hsz : (txt ys z).size ≤ 400 := by
    have := hB.out.tot
    unfold txt
    rw [bs_size]; simp; omega
  obtain ⟨W, hW⟩ : ∃ W, W = (w.alloc (.cells #[.string (txt ys z)] 9)).alloc (.cells #[.slice none 0 0, .slice none 0 0] 25) := ⟨_, rfl⟩
  have hbW : Below w.heap.size w W := by rw [hW]; exact ((Below.refl _ _).alloc (Nat.le_refl _) _).alloc (by simp) _
  have hzW : W.heap.size = w.heap.size + 1 + 1 := by rw [hW]; simp
  have c0 : W.cell? ⟨w.heap.size, 0, none⟩ = some (.string (txt ys z)) := by rw [hW]; simp
  have c1 : W.cell? ⟨w.heap.size + 1, 0, none⟩ = some (.slice none 0 0) := by rw [hW]; simp
  have c2 : W.cell? ⟨w.heap.size + 1, 1, none⟩ = some (.slice none 0 0) := by rw [hW]; simp
  have f1 : W.frozen? ⟨w.heap.size + 1, 0, none⟩ = false := by rw [hW]; simp
  have f2 : W.frozen? ⟨w.heap.size + 1, 1, none⟩ = false := by rw [hW]; simp
  have HAT : Hid (Calls Tryz.prog 75 #[.func (.func 76) #[] #[.pointer (some ⟨w.heap.size, 0, none⟩), .pointer (some ⟨w.heap.size + 1, 0, none⟩)]] W fun e w' => e = .returned (.int .i64 4) ∧ Below W.heap.size W w') := Lib.hid (attempt_bad _ _ ys z W hB (Lib.hid (hp.out.on hbW)) (Lib.hid (hm.out.on hbW)) c0)
  have HC : Hid (∀ w1, Below W.heap.size W w1 → w1.cell? ⟨w.heap.size + 1, 0, none⟩ = some (.slice none 0 0) ∧ w1.cell? ⟨w.heap.size + 1, 1, none⟩ = some (.slice none 0 0) ∧ w1.frozen? ⟨w.heap.size + 1, 0, none⟩ = false ∧ w1.frozen? ⟨w.heap.size + 1, 1, none⟩ = false) := Lib.hid fun w1 hb => by
    obtain ⟨c, f⟩ := bcell hb
    exact ⟨(c _ _ (by omega)).trans c1, (c _ _ (by omega)).trans c2, (f _ _ (by omega)).trans f1, (f _ _ (by omega)).trans f2⟩
  have HBW := Lib.hid hbW
  have hmf : ∀ (fn : Fn) (first cap : Array Value) (w : World), (Instr.makeFunc fn first cap).run Tryz.prog w = .ok (.func fn first cap) w := fun _ _ _ _ => rfl
  have hs3 : ¬ ((400 : Int) < ((txt ys z).size : Int)) := by omega
  obtain ⟨T, hT⟩ : ∃ T, txt ys z = T := ⟨_, rfl⟩
  rw [hT] at hW hs3 ⊢
  clear hT c0 c1 c2 f1 f2 hbW hzW hsz
  go_enter Tryz.func33, Tryz.ntmps33
  go_wp2_with (go_at_call 75; rw [← hW]; refine HAT.out.mono ?_; rintro e w2 ⟨rfl, hb⟩; obtain ⟨y1, y2, y3, y4⟩ := HC.out _ hb)
  have hn : ∀ i j : Nat, i ≠ j → (⟨w.heap.size + 1, i, none⟩ : Addr) ≠ ⟨w.heap.size + 1, j, none⟩ := fun i j h e => h (by cases e; rfl)
  have e1 : ((w2.setCell ⟨w.heap.size + 1, 0, none⟩ (.slice none 0 0)).setCell ⟨w.heap.size + 1, 1, none⟩ (.slice none 0 0)).cell? ⟨w.heap.size + 1, 0, none⟩ = some (.slice none 0 0) := by
    rw [World.cell?_setCell_other _ _ _ _ (hn 1 0 (by decide))]; exact World.cell?_setCell_same' _ _ _ (by rw [y1]; rfl)
  have e2 : ((w2.setCell ⟨w.heap.size + 1, 0, none⟩ (.slice none 0 0)).setCell ⟨w.heap.size + 1, 1, none⟩ (.slice none 0 0)).cell? ⟨w.heap.size + 1, 1, none⟩ = some (.slice none 0 0) :=
    World.cell?_setCell_same' _ _ _ (by rw [World.cell?_setCell_other _ _ _ _ (hn 0 1 (by decide)), y2]; rfl)
  refine bodyPost_ret (v := .tuple #[.agg #[.slice none 0 0, .slice none 0 0], .int .i64 4]) (by simp [results, Tryz.results33, go_sem, e1, e2]) rfl ⟨rfl, ?_⟩
  exact ((HBW.out.trans (hb.mono HBW.out.size)).setCell (by simp) _).setCell (by simp) _
end Go.Kn
