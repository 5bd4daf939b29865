/- Contracts of functions that the laws of this seat call, or the evaluator of closed calls and its runs. Conditions: as each theorem states them. -/
import Derived.Test.YtamoigfafgfimaaGreatDoorIB
import Derived.Test.YtamoigfafgfimaaGreatDoorIO
set_option linter.unusedVariables false
set_option linter.unusedSimpArgs false
namespace Go.Kn
open Go Go.Proofs Go.RowKit

theorem whyR_5 {f : Int} {ln lo : Nat} {N : Nat → N2} {U : Nat → O3} {t : Nat → Int} {i : Nat} {rn re : Int} (h : WhyR f ln lo N U t i rn re) (he : t i = (U i).c) : re = 5 ∧ rn = 0 := by
  rcases h with ⟨h1, h2, _⟩ | ⟨_, h2, _⟩
  · exact ⟨h1, h2⟩
  · exact (h2 he).elim
theorem whyR_0 {f : Int} {ln lo : Nat} {N : Nat → N2} {U : Nat → O3} {t : Nat → Int} {i n : Nat} {rn re : Int} (h : WhyR f ln lo N U t i rn re) (he : t i ≠ (U i).c) (hp : BindP f lo N U t i n) (hl : ∀ m, m < n → ¬ BindP f lo N U t i m) : re = 0 ∧ rn = (n : Int) := by
  rcases h with ⟨_, _, h3⟩ | ⟨h1, _, k, h3, h4, h5, h6⟩
  · exact (he h3).elim
  · refine ⟨h1, ?_⟩
    rcases Nat.lt_trichotomy n k with e | e | e
    · exact absurd hp (h6 n e)
    · rw [h3, e]
    · exact absurd h5 (hl k e)
theorem least_of (P : Nat → Prop) {b : Nat} (h : ∃ n, n ≤ b ∧ P n) : ∃ n, n ≤ b ∧ P n ∧ ∀ m, m < n → ¬ P m := by
  obtain ⟨n, hn, hp⟩ := h
  have key : ∀ k, k ≤ b → P k → ∃ n, n ≤ b ∧ P n ∧ ∀ m, m < n → ¬ P m := by
    intro k
    induction k using Nat.strongRecOn with
    | ind k ih =>
      intro hk hp
      by_cases h : ∃ m, m < k ∧ P m
      · obtain ⟨m, hm, hpm⟩ := h
        exact ih m hm (by omega) hpm
      · exact ⟨k, hk, hp, fun m hm hpm => h ⟨m, hm, hpm⟩⟩
  exact key n hn hp

set_option maxRecDepth 100000 in
set_option maxHeartbeats 4000000 in
theorem lawbd_a (f : Int) (na oa : Option Addr) (ln cn lo co : Nat) (N : Nat → N2) (U : Nat → O3) (z y : Int) (w : World) (hls : ln ≤ maxLen) (hlt : lo ≤ maxLen) (H : Hid (Tr7 w na oa ln lo N U)) (K : Hid KnownOk) (hq : ¬ (ln ≤ 8 ∧ lo ≤ 10)) :
    Calls Tryz.prog 6 #[.agg #[.int .i64 f, .slice na ln cn, .slice oa lo co], .int .i64 z, .int .i64 y] w
      fun e w' => e = .returned (.bool true) ∧ Below w.heap.size w w' := by
  have hsh : decide (ln ≤ 8 ∧ lo ≤ 10) = false := decide_eq_false hq
  have BX := Lib.hid (fun (w1 : World) (hb : Below (w.alloc (.cells #[.int .i64 f, .slice na ln cn, .slice oa lo co] 25)).heap.size (w.alloc (.cells #[.int .i64 f, .slice na ln cn, .slice oa lo co] 25)) w1) => box7 hb)
  have HN : Hid (∀ w1, Below (w.alloc (.cells #[.int .i64 f, .slice na ln cn, .slice oa lo co] 25)).heap.size (w.alloc (.cells #[.int .i64 f, .slice na ln cn, .slice oa lo co] 25)) w1 → Hid (Tr7 w1 na oa ln lo N U)) := Lib.hid fun w1 h => Lib.hid (H.out.below (below_al h))
  have hb : Below (w.alloc (.cells #[.int .i64 f, .slice na ln cn, .slice oa lo co] 25)).heap.size (w.alloc (.cells #[.int .i64 f, .slice na ln cn, .slice oa lo co] 25)) (w.alloc (.cells #[.int .i64 f, .slice na ln cn, .slice oa lo co] 25)) := Below.refl _ _
  obtain ⟨x1, x2, x3, x4⟩ := BX.out _ hb
  clear H
  go_enter Tryz.func6, Tryz.ntmps6
  go_wp2_with (first
    | (go_at_call 14; refine (short_w _ _ _ _ _ _ _ _ hls hlt).mono ?_; rw [hsh]; rintro e wl ⟨rfl, hv⟩; (try replace hbs := hbs.trans (hv.mono hbs.size)); replace hb := hb.trans (hv.mono hb.size); clear x1 x2 x3 x4; obtain ⟨x1, x2, x3, x4⟩ := BX.out _ hb)
    | (go_at_call 15; refine (K.out _).mono ?_; rintro e wl ⟨rfl, hv⟩; (try replace hbs := hbs.trans (hv.mono hbs.size)); replace hb := hb.trans (hv.mono hb.size); clear x1 x2 x3 x4; obtain ⟨x1, x2, x3, x4⟩ := BX.out _ hb))
  go_ret
  exact ⟨rfl, below_al hb⟩

set_option maxRecDepth 100000 in
set_option maxHeartbeats 4000000 in
theorem lawbd_b (f : Int) (na oa : Option Addr) (ln cn lo co : Nat) (N : Nat → N2) (U : Nat → O3) (z y : Int) (w : World) (hls : ln ≤ 1000000) (hlt : lo ≤ 1000000) (H : Hid (Tr7 w na oa ln lo N U)) (K : Hid KnownOk) (hq : ln ≤ 8 ∧ lo ≤ 10) (HR : Hid (¬ TreeP f ln lo N U)) :
    Calls Tryz.prog 6 #[.agg #[.int .i64 f, .slice na ln cn, .slice oa lo co], .int .i64 z, .int .i64 y] w
      fun e w' => e = .returned (.bool true) ∧ Below w.heap.size w w' := by
  have hsh : decide (ln ≤ 8 ∧ lo ≤ 10) = true := decide_eq_true hq
  have BX := Lib.hid (fun (w1 : World) (hb : Below (w.alloc (.cells #[.int .i64 f, .slice na ln cn, .slice oa lo co] 25)).heap.size (w.alloc (.cells #[.int .i64 f, .slice na ln cn, .slice oa lo co] 25)) w1) => box7 hb)
  have HN : Hid (∀ w1, Below (w.alloc (.cells #[.int .i64 f, .slice na ln cn, .slice oa lo co] 25)).heap.size (w.alloc (.cells #[.int .i64 f, .slice na ln cn, .slice oa lo co] 25)) w1 → Hid (Tr7 w1 na oa ln lo N U)) := Lib.hid fun w1 h => Lib.hid (H.out.below (below_al h))
  have hb : Below (w.alloc (.cells #[.int .i64 f, .slice na ln cn, .slice oa lo co] 25)).heap.size (w.alloc (.cells #[.int .i64 f, .slice na ln cn, .slice oa lo co] 25)) (w.alloc (.cells #[.int .i64 f, .slice na ln cn, .slice oa lo co] 25)) := Below.refl _ _
  obtain ⟨x1, x2, x3, x4⟩ := BX.out _ hb
  clear H
  go_enter Tryz.func6, Tryz.ntmps6
  go_wp2_with (first
    | (go_at_call 14; refine (short_w _ _ _ _ _ _ _ _ (by unfold maxLen; omega) (by unfold maxLen; omega)).mono ?_; rw [hsh]; rintro e wl ⟨rfl, hv⟩; (try replace hbs := hbs.trans (hv.mono hbs.size)); replace hb := hb.trans (hv.mono hb.size); clear x1 x2 x3 x4; obtain ⟨x1, x2, x3, x4⟩ := BX.out _ hb)
    | (go_at_call 18; refine (tree_w _ _ _ _ _ _ _ N U _ hls hlt (HN.out _ hb)).mono ?_; rintro e wl ⟨⟨rb, rfl, hrb⟩, hv⟩; obtain rfl : rb = false := (by cases rb <;> first | rfl | exact (HR.out (hrb.1 rfl)).elim); clear hrb; (try replace hbs := hbs.trans (hv.mono hbs.size)); replace hb := hb.trans (hv.mono hb.size); clear x1 x2 x3 x4; obtain ⟨x1, x2, x3, x4⟩ := BX.out _ hb)
    | (go_at_call 15; refine (K.out _).mono ?_; rintro e wl ⟨rfl, hv⟩; (try replace hbs := hbs.trans (hv.mono hbs.size)); replace hb := hb.trans (hv.mono hb.size); clear x1 x2 x3 x4; obtain ⟨x1, x2, x3, x4⟩ := BX.out _ hb))
  go_ret
  exact ⟨rfl, below_al hb⟩

set_option maxRecDepth 100000 in
set_option maxHeartbeats 4000000 in
theorem lawbd_c (f : Int) (na oa : Option Addr) (ln cn lo co : Nat) (N : Nat → N2) (U : Nat → O3) (z y : Int) (w : World) (hls : ln ≤ 1000000) (hlt : lo ≤ 1000000) (H : Hid (Tr7 w na oa ln lo N U)) (K : Hid KnownOk) (hq : ln ≤ 8 ∧ lo ≤ 10) (HR : Hid (TreeP f ln lo N U)) (HO : Hid (fromB 0 ((lo : Int) - 1) z = false)) :
    Calls Tryz.prog 6 #[.agg #[.int .i64 f, .slice na ln cn, .slice oa lo co], .int .i64 z, .int .i64 y] w
      fun e w' => e = .returned (.bool true) ∧ Below w.heap.size w w' := by
  have hsh : decide (ln ≤ 8 ∧ lo ≤ 10) = true := decide_eq_true hq
  have BX := Lib.hid (fun (w1 : World) (hb : Below (w.alloc (.cells #[.int .i64 f, .slice na ln cn, .slice oa lo co] 25)).heap.size (w.alloc (.cells #[.int .i64 f, .slice na ln cn, .slice oa lo co] 25)) w1) => box7 hb)
  have HN : Hid (∀ w1, Below (w.alloc (.cells #[.int .i64 f, .slice na ln cn, .slice oa lo co] 25)).heap.size (w.alloc (.cells #[.int .i64 f, .slice na ln cn, .slice oa lo co] 25)) w1 → Hid (Tr7 w1 na oa ln lo N U)) := Lib.hid fun w1 h => Lib.hid (H.out.below (below_al h))
  have hb : Below (w.alloc (.cells #[.int .i64 f, .slice na ln cn, .slice oa lo co] 25)).heap.size (w.alloc (.cells #[.int .i64 f, .slice na ln cn, .slice oa lo co] 25)) (w.alloc (.cells #[.int .i64 f, .slice na ln cn, .slice oa lo co] 25)) := Below.refl _ _
  obtain ⟨x1, x2, x3, x4⟩ := BX.out _ hb
  clear H
  go_enter Tryz.func6, Tryz.ntmps6
  go_wp2_with (first
    | (go_at_call 14; refine (short_w _ _ _ _ _ _ _ _ (by unfold maxLen; omega) (by unfold maxLen; omega)).mono ?_; rw [hsh]; rintro e wl ⟨rfl, hv⟩; (try replace hbs := hbs.trans (hv.mono hbs.size)); replace hb := hb.trans (hv.mono hb.size); clear x1 x2 x3 x4; obtain ⟨x1, x2, x3, x4⟩ := BX.out _ hb)
    | (go_at_call 18; refine (tree_w _ _ _ _ _ _ _ N U _ hls hlt (HN.out _ hb)).mono ?_; rintro e wl ⟨⟨rb, rfl, hrb⟩, hv⟩; obtain rfl : rb = true := hrb.2 HR.out; clear hrb; (try replace hbs := hbs.trans (hv.mono hbs.size)); replace hb := hb.trans (hv.mono hb.size); clear x1 x2 x3 x4; obtain ⟨x1, x2, x3, x4⟩ := BX.out _ hb)
    | (go_at_call 29; refine (outlet_w _ _ _ _ _ _ _ _ _ hlt).mono ?_; rw [HO.out]; rintro e wl ⟨rfl, hv⟩; (try replace hbs := hbs.trans (hv.mono hbs.size)); replace hb := hb.trans (hv.mono hb.size); clear x1 x2 x3 x4; obtain ⟨x1, x2, x3, x4⟩ := BX.out _ hb)
    | (go_at_call 15; refine (K.out _).mono ?_; rintro e wl ⟨rfl, hv⟩; (try replace hbs := hbs.trans (hv.mono hbs.size)); replace hb := hb.trans (hv.mono hb.size); clear x1 x2 x3 x4; obtain ⟨x1, x2, x3, x4⟩ := BX.out _ hb))
  go_ret
  exact ⟨rfl, below_al hb⟩

set_option maxRecDepth 100000 in
set_option maxHeartbeats 4000000 in
theorem lawbd_d (f : Int) (na oa : Option Addr) (ln cn lo co : Nat) (N : Nat → N2) (U : Nat → O3) (z y : Int) (w : World) (hls : ln ≤ 1000000) (hlt : lo ≤ 1000000) (H : Hid (Tr7 w na oa ln lo N U)) (K : Hid KnownOk) (hq : ln ≤ 8 ∧ lo ≤ 10) (HR : Hid (TreeP f ln lo N U)) (HO : Hid (fromB 0 ((lo : Int) - 1) z = true)) (HM : Hid (fromB 0 (ln : Int) y = false)) :
    Calls Tryz.prog 6 #[.agg #[.int .i64 f, .slice na ln cn, .slice oa lo co], .int .i64 z, .int .i64 y] w
      fun e w' => e = .returned (.bool true) ∧ Below w.heap.size w w' := by
  have hsh : decide (ln ≤ 8 ∧ lo ≤ 10) = true := decide_eq_true hq
  have BX := Lib.hid (fun (w1 : World) (hb : Below (w.alloc (.cells #[.int .i64 f, .slice na ln cn, .slice oa lo co] 25)).heap.size (w.alloc (.cells #[.int .i64 f, .slice na ln cn, .slice oa lo co] 25)) w1) => box7 hb)
  have HN : Hid (∀ w1, Below (w.alloc (.cells #[.int .i64 f, .slice na ln cn, .slice oa lo co] 25)).heap.size (w.alloc (.cells #[.int .i64 f, .slice na ln cn, .slice oa lo co] 25)) w1 → Hid (Tr7 w1 na oa ln lo N U)) := Lib.hid fun w1 h => Lib.hid (H.out.below (below_al h))
  have hb : Below (w.alloc (.cells #[.int .i64 f, .slice na ln cn, .slice oa lo co] 25)).heap.size (w.alloc (.cells #[.int .i64 f, .slice na ln cn, .slice oa lo co] 25)) (w.alloc (.cells #[.int .i64 f, .slice na ln cn, .slice oa lo co] 25)) := Below.refl _ _
  obtain ⟨x1, x2, x3, x4⟩ := BX.out _ hb
  clear H
  go_enter Tryz.func6, Tryz.ntmps6
  go_wp2_with (first
    | (go_at_call 14; refine (short_w _ _ _ _ _ _ _ _ (by unfold maxLen; omega) (by unfold maxLen; omega)).mono ?_; rw [hsh]; rintro e wl ⟨rfl, hv⟩; (try replace hbs := hbs.trans (hv.mono hbs.size)); replace hb := hb.trans (hv.mono hb.size); clear x1 x2 x3 x4; obtain ⟨x1, x2, x3, x4⟩ := BX.out _ hb)
    | (go_at_call 18; refine (tree_w _ _ _ _ _ _ _ N U _ hls hlt (HN.out _ hb)).mono ?_; rintro e wl ⟨⟨rb, rfl, hrb⟩, hv⟩; obtain rfl : rb = true := hrb.2 HR.out; clear hrb; (try replace hbs := hbs.trans (hv.mono hbs.size)); replace hb := hb.trans (hv.mono hb.size); clear x1 x2 x3 x4; obtain ⟨x1, x2, x3, x4⟩ := BX.out _ hb)
    | (go_at_call 29; refine (outlet_w _ _ _ _ _ _ _ _ _ hlt).mono ?_; rw [HO.out]; rintro e wl ⟨rfl, hv⟩; (try replace hbs := hbs.trans (hv.mono hbs.size)); replace hb := hb.trans (hv.mono hb.size); clear x1 x2 x3 x4; obtain ⟨x1, x2, x3, x4⟩ := BX.out _ hb)
    | (go_at_call 31; refine (node_w _ _ _ _ _ _ _ _ _).mono ?_; rw [HM.out]; rintro e wl ⟨rfl, hv⟩; (try replace hbs := hbs.trans (hv.mono hbs.size)); replace hb := hb.trans (hv.mono hb.size); clear x1 x2 x3 x4; obtain ⟨x1, x2, x3, x4⟩ := BX.out _ hb)
    | (go_at_call 15; refine (K.out _).mono ?_; rintro e wl ⟨rfl, hv⟩; (try replace hbs := hbs.trans (hv.mono hbs.size)); replace hb := hb.trans (hv.mono hb.size); clear x1 x2 x3 x4; obtain ⟨x1, x2, x3, x4⟩ := BX.out _ hb))
  go_ret
  exact ⟨rfl, below_al hb⟩
end Go.Kn

namespace Go.Kn
open Go Go.Proofs Go.RowKit

set_option maxRecDepth 100000 in
set_option maxHeartbeats 4000000 in
theorem lawbd_e (f : Int) (na oa : Option Addr) (ln cn lo co : Nat) (N : Nat → N2) (U : Nat → O3) (i m : Nat) (w : World) (hls : ln ≤ 1000000) (hlt : lo ≤ 1000000) (H : Hid (Tr7 w na oa ln lo N U)) (K : Hid KnownOk) (hq : ln ≤ 8 ∧ lo ≤ 10) (HR : Hid (TreeP f ln lo N U)) (hi : i < lo) (hm : m ≤ ln) (t : Nat → Int) (HT : Hid (Ord f lo N U (fun _ => 0) [0, 1, 2, 3] t)) (HE : Hid (t i = (U i).c)) (HB : Hid (¬ BindP f lo N U t i m)) :
    Calls Tryz.prog 6 #[.agg #[.int .i64 f, .slice na ln cn, .slice oa lo co], .int .i64 (i : Int), .int .i64 (m : Int)] w
      fun e w' => e = .returned (.bool true) ∧ Below w.heap.size w w' := by
  have hsh : decide (ln ≤ 8 ∧ lo ≤ 10) = true := decide_eq_true hq
  have hoz : fromB 0 ((lo : Int) - 1) (i : Int) = true := by simp only [fromB, decide_eq_true_eq]; omega
  have hoy : fromB 0 (ln : Int) (m : Int) = true := by simp only [fromB, decide_eq_true_eq]; omega
  have HO := Lib.hid hoz
  have HM := Lib.hid hoy
  have hmx : Tryz.prog.follows .mixedOrders = true := by kernel_rfl
  have HSP : Hid (SharesP lo lo t U) := Lib.hid (sharesP_of (HT.out.vd (vd_zero HR.out)))
  have hlo3 : lo ≤ maxLen := by unfold maxLen; omega
  obtain ⟨C, P, hoa, hC, hn⟩ := H.out.ho.resolve_left (by omega)
  have HCL : Hid (∀ w2, Below (w.alloc (.cells #[.int .i64 f, .slice na ln cn, .slice oa lo co] 25)).heap.size (w.alloc (.cells #[.int .i64 f, .slice na ln cn, .slice oa lo co] 25)) w2 → w2.cell? ⟨C, P + i * 3 + 1, none⟩ = some (.int .i64 (U i).c)) := Lib.hid fun w2 h => ((below_al h).cell (p := ⟨C, P + i * 3 + 1, none⟩) hC).trans (hn i hi).2.1
  have n1 : (0 : Int) ≤ (i : Int) := by omega
  have n2 : (i : Int) < (lo : Int) := by omega
  subst hoa
  clear hn hoz hoy
  have d5 : (t i == (U i).c) = true := by have := HE.out; simp [this]
  have BX := Lib.hid (fun (w1 : World) (hb : Below (w.alloc (.cells #[.int .i64 f, .slice na ln cn, .slice (some ⟨C, P, none⟩) lo co] 25)).heap.size (w.alloc (.cells #[.int .i64 f, .slice na ln cn, .slice (some ⟨C, P, none⟩) lo co] 25)) w1) => box7 hb)
  have HN : Hid (∀ w1, Below (w.alloc (.cells #[.int .i64 f, .slice na ln cn, .slice (some ⟨C, P, none⟩) lo co] 25)).heap.size (w.alloc (.cells #[.int .i64 f, .slice na ln cn, .slice (some ⟨C, P, none⟩) lo co] 25)) w1 → Hid (Tr7 w1 na (some ⟨C, P, none⟩) ln lo N U)) := Lib.hid fun w1 h => Lib.hid (H.out.below (below_al h))
  have hb : Below (w.alloc (.cells #[.int .i64 f, .slice na ln cn, .slice (some ⟨C, P, none⟩) lo co] 25)).heap.size (w.alloc (.cells #[.int .i64 f, .slice na ln cn, .slice (some ⟨C, P, none⟩) lo co] 25)) (w.alloc (.cells #[.int .i64 f, .slice na ln cn, .slice (some ⟨C, P, none⟩) lo co] 25)) := Below.refl _ _
  obtain ⟨x1, x2, x3, x4⟩ := BX.out _ hb
  clear H
  go_enter Tryz.func6, Tryz.ntmps6
  go_wp2_with (first
    | (go_at_call 14; refine (short_w _ _ _ _ _ _ _ _ (by unfold maxLen; omega) (by unfold maxLen; omega)).mono ?_; rw [hsh]; rintro e wl ⟨rfl, hv⟩; (try replace hbs := hbs.trans (hv.mono hbs.size)); replace hb := hb.trans (hv.mono hb.size); clear x1 x2 x3 x4; obtain ⟨x1, x2, x3, x4⟩ := BX.out _ hb)
    | (go_at_call 18; refine (tree_w _ _ _ _ _ _ _ N U _ hls hlt (HN.out _ hb)).mono ?_; rintro e wl ⟨⟨rb, rfl, hrb⟩, hv⟩; obtain rfl : rb = true := hrb.2 HR.out; clear hrb; (try replace hbs := hbs.trans (hv.mono hbs.size)); replace hb := hb.trans (hv.mono hb.size); clear x1 x2 x3 x4; obtain ⟨x1, x2, x3, x4⟩ := BX.out _ hb)
    | (go_at_call 29; refine (outlet_w _ _ _ _ _ _ _ _ _ hlt).mono ?_; rw [HO.out]; rintro e wl ⟨rfl, hv⟩; (try replace hbs := hbs.trans (hv.mono hbs.size)); replace hb := hb.trans (hv.mono hb.size); clear x1 x2 x3 x4; obtain ⟨x1, x2, x3, x4⟩ := BX.out _ hb)
    | (go_at_call 31; refine (node_w _ _ _ _ _ _ _ _ _).mono ?_; rw [HM.out]; rintro e wl ⟨rfl, hv⟩; (try replace hbs := hbs.trans (hv.mono hbs.size)); replace hb := hb.trans (hv.mono hb.size); clear x1 x2 x3 x4; obtain ⟨x1, x2, x3, x4⟩ := BX.out _ hb)
    | (go_at_call 21; refine (shares_w f na _ ln cn lo co N U _ HR (HN.out _ hb)).mono ?_; rintro e wl ⟨⟨sa, qc, t', rfl, hs, ho⟩, hv⟩; obtain rfl : t' = t := ho.det HT.out; (try replace hbs := hbs.trans (hv.mono hbs.size)); replace hb := hb.trans (hv.mono hb.size); clear x1 x2 x3 x4; obtain ⟨x1, x2, x3, x4⟩ := BX.out _ hb; obtain ⟨A, O, rfl, hA, hnm⟩ := hs.resolve_left (by omega); have HNM : Hid (∀ w2, Below wl.heap.size wl w2 → IntSl w2 (some ⟨A, O, none⟩) lo t' ∧ w2.cell? ⟨A, O + i, none⟩ = some (.int .i64 (t' i))) := Lib.hid (fun w2 h => ⟨.inr ⟨_, _, rfl, Nat.lt_of_lt_of_le hA h.size, hnm.below hA h⟩, (hnm.below hA h) i hi⟩); have hbs := Below.refl wl.heap.size wl; clear ho hs hnm hA)
    | (go_at_call 28; refine (dwhy_w f na _ ln cn lo co i N U t' _ hi HR (HN.out _ hb) HT).mono ?_; rintro e wl ⟨⟨rn, re, rfl, hwr⟩, hv⟩; (try replace hbs := hbs.trans (hv.mono hbs.size)); replace hb := hb.trans (hv.mono hb.size); clear x1 x2 x3 x4; obtain ⟨x1, x2, x3, x4⟩ := BX.out _ hb; obtain ⟨rfl, rfl⟩ := whyR_5 hwr HE.out; clear hwr)
    | (go_at_call_of 27 m; refine (dbinds_w f na _ ln cn lo co i m N U t' _ hi hm HR (HN.out _ hb) HT).mono ?_; rintro e wl ⟨⟨rb, rfl, hrb⟩, hv⟩; obtain rfl : rb = false := (by cases rb <;> first | rfl | exact (HB.out (hrb.1 rfl)).elim); clear hrb; (try replace hbs := hbs.trans (hv.mono hbs.size)); replace hb := hb.trans (hv.mono hb.size); clear x1 x2 x3 x4; obtain ⟨x1, x2, x3, x4⟩ := BX.out _ hb))
  obtain ⟨wq, hwq⟩ : ∃ wq, wq = wl := ⟨_, rfl⟩
  subst hwq
  have HQ : Hid (∀ w', Below wq.heap.size wq w' → w'.cell? ⟨w.heap.size, 0, none⟩ = some (.int .i64 f) ∧ w'.cell? ⟨w.heap.size, 1, none⟩ = some (.slice na ln cn) ∧ w'.cell? ⟨w.heap.size, 2, none⟩ = some (.slice (some ⟨C, P, none⟩) lo co) ∧ w'.cell? ⟨A, O + i, none⟩ = some (.int .i64 (t' i)) ∧ w'.cell? ⟨C, P + i * 3 + 1, none⟩ = some (.int .i64 (U i).c)) := Lib.hid fun w' h => by
    have h2 := hb.trans (h.mono hb.size)
    obtain ⟨z1, z2, z3, _⟩ := BX.out w' h2
    exact ⟨z1, z2, z3, (HNM.out w' (hbs.trans (h.mono hbs.size))).2, HCL.out w' h2⟩
  have HLS : Hid (∀ w', Below wq.heap.size wq w' → Calls Tryz.prog 19 #[.agg #[.int .i64 f, .slice na ln cn, .slice (some ⟨C, P, none⟩) lo co], .slice (some ⟨A, O, none⟩) lo qc] w' fun e w'' => e = .returned (.bool true) ∧ Below wq.heap.size wq w'') := Lib.hid fun w' h =>
    (list_w _ _ _ _ _ _ _ _ _ _ N U t' _ hlt hlo3 (HN.out _ (hb.trans (h.mono hb.size))) (Lib.hid (HNM.out _ (hbs.trans (h.mono hbs.size))).1)).mono fun e w'' ⟨⟨rb, he, hrb⟩, hb3⟩ => ⟨by rw [he, hrb.2 HSP.out], h.trans (hb3.mono h.size)⟩
  have HBQ := Lib.hid hb
  clear hb hbs x1 x2 x3 x4
  refine wp_region_calm (W := wq) hmx (by kernel_rfl) (Below.refl _ _) ?_
  repeat (first
    | (refine calm_no (by rfl) ?_
       (try simp only [Act.put, List.setIfInBounds_toArray, List.set_cons_zero, List.set_cons_succ]))
    | (apply calm_yes
       focus rfl
       focus
         intro w' hw'
         obtain ⟨z1, z2, z3, z4, z5⟩ := HQ.out w' hw'
         go_simp
         first
           | done
           | with_reducible rfl
           | (go_at_call 19; exact HLS.out w' hw')
           | fail
       (try simp only [Act.put, List.setIfInBounds_toArray, List.set_cons_zero, List.set_cons_succ])))
  refine calm_nil ?_
  intro w7 hqw7
  have HB7 := Lib.hid hqw7
  clear hqw7
  obtain ⟨x1, x2, x3, _, _⟩ := HQ.out w7 HB7.out
  go_wp2
  clear x1 x2 x3
  refine wp_region_calm (W := wq) hmx (by kernel_rfl) HB7.out ?_
  repeat (first
    | (refine calm_no (by rfl) ?_
       (try simp only [Act.put, List.setIfInBounds_toArray, List.set_cons_zero, List.set_cons_succ]))
    | (apply calm_yes
       focus rfl
       focus
         intro w' hw'
         obtain ⟨z1, z2, z3, z4, z5⟩ := HQ.out w' hw'
         go_simp
         first
           | done
           | with_reducible rfl
           | fail
       (try simp only [Act.put, List.setIfInBounds_toArray, List.set_cons_zero, List.set_cons_succ])))
  refine calm_nil ?_
  intro w8 hqw8
  have HB8 := Lib.hid hqw8
  have hb := HBQ.out.trans (hqw8.mono HBQ.out.size)
  clear hqw8
  obtain ⟨x1, x2, x3, x4⟩ := BX.out _ hb
  go_wp2_with (first
    | (go_at_call 15; refine (K.out _).mono ?_; rintro e wl ⟨rfl, hv⟩; (try replace hbs := hbs.trans (hv.mono hbs.size)); replace hb := hb.trans (hv.mono hb.size); clear x1 x2 x3 x4; obtain ⟨x1, x2, x3, x4⟩ := BX.out _ hb))
  go_ret
  exact ⟨rfl, below_al hb⟩

set_option maxRecDepth 100000 in
set_option maxHeartbeats 4000000 in
theorem lawbd_f (f : Int) (na oa : Option Addr) (ln cn lo co : Nat) (N : Nat → N2) (U : Nat → O3) (i m : Nat) (w : World) (hls : ln ≤ 1000000) (hlt : lo ≤ 1000000) (H : Hid (Tr7 w na oa ln lo N U)) (K : Hid KnownOk) (hq : ln ≤ 8 ∧ lo ≤ 10) (HR : Hid (TreeP f ln lo N U)) (hi : i < lo) (hm : m ≤ ln) (t : Nat → Int) (HT : Hid (Ord f lo N U (fun _ => 0) [0, 1, 2, 3] t)) (HE : Hid (t i = (U i).c)) (HB : Hid (BindP f lo N U t i m)) :
    Calls Tryz.prog 6 #[.agg #[.int .i64 f, .slice na ln cn, .slice oa lo co], .int .i64 (i : Int), .int .i64 (m : Int)] w
      fun e w' => e = .returned (.bool true) ∧ Below w.heap.size w w' := by
  have hsh : decide (ln ≤ 8 ∧ lo ≤ 10) = true := decide_eq_true hq
  have hoz : fromB 0 ((lo : Int) - 1) (i : Int) = true := by simp only [fromB, decide_eq_true_eq]; omega
  have hoy : fromB 0 (ln : Int) (m : Int) = true := by simp only [fromB, decide_eq_true_eq]; omega
  have HO := Lib.hid hoz
  have HM := Lib.hid hoy
  have hmx : Tryz.prog.follows .mixedOrders = true := by kernel_rfl
  have HSP : Hid (SharesP lo lo t U) := Lib.hid (sharesP_of (HT.out.vd (vd_zero HR.out)))
  have hlo3 : lo ≤ maxLen := by unfold maxLen; omega
  obtain ⟨C, P, hoa, hC, hn⟩ := H.out.ho.resolve_left (by omega)
  have HCL : Hid (∀ w2, Below (w.alloc (.cells #[.int .i64 f, .slice na ln cn, .slice oa lo co] 25)).heap.size (w.alloc (.cells #[.int .i64 f, .slice na ln cn, .slice oa lo co] 25)) w2 → w2.cell? ⟨C, P + i * 3 + 1, none⟩ = some (.int .i64 (U i).c)) := Lib.hid fun w2 h => ((below_al h).cell (p := ⟨C, P + i * 3 + 1, none⟩) hC).trans (hn i hi).2.1
  have n1 : (0 : Int) ≤ (i : Int) := by omega
  have n2 : (i : Int) < (lo : Int) := by omega
  subst hoa
  clear hn hoz hoy
  have d5 : (t i == (U i).c) = true := by have := HE.out; simp [this]
  have HBE : Hid (m ∈ path N (U i).n.toNat ∧ sumB N U t m lo = capN f N m) := Lib.hid ⟨HB.out.1, HB.out.2.1⟩
  have BX := Lib.hid (fun (w1 : World) (hb : Below (w.alloc (.cells #[.int .i64 f, .slice na ln cn, .slice (some ⟨C, P, none⟩) lo co] 25)).heap.size (w.alloc (.cells #[.int .i64 f, .slice na ln cn, .slice (some ⟨C, P, none⟩) lo co] 25)) w1) => box7 hb)
  have HN : Hid (∀ w1, Below (w.alloc (.cells #[.int .i64 f, .slice na ln cn, .slice (some ⟨C, P, none⟩) lo co] 25)).heap.size (w.alloc (.cells #[.int .i64 f, .slice na ln cn, .slice (some ⟨C, P, none⟩) lo co] 25)) w1 → Hid (Tr7 w1 na (some ⟨C, P, none⟩) ln lo N U)) := Lib.hid fun w1 h => Lib.hid (H.out.below (below_al h))
  have hb : Below (w.alloc (.cells #[.int .i64 f, .slice na ln cn, .slice (some ⟨C, P, none⟩) lo co] 25)).heap.size (w.alloc (.cells #[.int .i64 f, .slice na ln cn, .slice (some ⟨C, P, none⟩) lo co] 25)) (w.alloc (.cells #[.int .i64 f, .slice na ln cn, .slice (some ⟨C, P, none⟩) lo co] 25)) := Below.refl _ _
  obtain ⟨x1, x2, x3, x4⟩ := BX.out _ hb
  clear H
  go_enter Tryz.func6, Tryz.ntmps6
  go_wp2_with (first
    | (go_at_call 14; refine (short_w _ _ _ _ _ _ _ _ (by unfold maxLen; omega) (by unfold maxLen; omega)).mono ?_; rw [hsh]; rintro e wl ⟨rfl, hv⟩; (try replace hbs := hbs.trans (hv.mono hbs.size)); replace hb := hb.trans (hv.mono hb.size); clear x1 x2 x3 x4; obtain ⟨x1, x2, x3, x4⟩ := BX.out _ hb)
    | (go_at_call 18; refine (tree_w _ _ _ _ _ _ _ N U _ hls hlt (HN.out _ hb)).mono ?_; rintro e wl ⟨⟨rb, rfl, hrb⟩, hv⟩; obtain rfl : rb = true := hrb.2 HR.out; clear hrb; (try replace hbs := hbs.trans (hv.mono hbs.size)); replace hb := hb.trans (hv.mono hb.size); clear x1 x2 x3 x4; obtain ⟨x1, x2, x3, x4⟩ := BX.out _ hb)
    | (go_at_call 29; refine (outlet_w _ _ _ _ _ _ _ _ _ hlt).mono ?_; rw [HO.out]; rintro e wl ⟨rfl, hv⟩; (try replace hbs := hbs.trans (hv.mono hbs.size)); replace hb := hb.trans (hv.mono hb.size); clear x1 x2 x3 x4; obtain ⟨x1, x2, x3, x4⟩ := BX.out _ hb)
    | (go_at_call 31; refine (node_w _ _ _ _ _ _ _ _ _).mono ?_; rw [HM.out]; rintro e wl ⟨rfl, hv⟩; (try replace hbs := hbs.trans (hv.mono hbs.size)); replace hb := hb.trans (hv.mono hb.size); clear x1 x2 x3 x4; obtain ⟨x1, x2, x3, x4⟩ := BX.out _ hb)
    | (go_at_call 21; refine (shares_w f na _ ln cn lo co N U _ HR (HN.out _ hb)).mono ?_; rintro e wl ⟨⟨sa, qc, t', rfl, hs, ho⟩, hv⟩; obtain rfl : t' = t := ho.det HT.out; (try replace hbs := hbs.trans (hv.mono hbs.size)); replace hb := hb.trans (hv.mono hb.size); clear x1 x2 x3 x4; obtain ⟨x1, x2, x3, x4⟩ := BX.out _ hb; obtain ⟨A, O, rfl, hA, hnm⟩ := hs.resolve_left (by omega); have HNM : Hid (∀ w2, Below wl.heap.size wl w2 → IntSl w2 (some ⟨A, O, none⟩) lo t' ∧ w2.cell? ⟨A, O + i, none⟩ = some (.int .i64 (t' i))) := Lib.hid (fun w2 h => ⟨.inr ⟨_, _, rfl, Nat.lt_of_lt_of_le hA h.size, hnm.below hA h⟩, (hnm.below hA h) i hi⟩); have hbs := Below.refl wl.heap.size wl; clear ho hs hnm hA)
    | (go_at_call 28; refine (dwhy_w f na _ ln cn lo co i N U t' _ hi HR (HN.out _ hb) HT).mono ?_; rintro e wl ⟨⟨rn, re, rfl, hwr⟩, hv⟩; (try replace hbs := hbs.trans (hv.mono hbs.size)); replace hb := hb.trans (hv.mono hb.size); clear x1 x2 x3 x4; obtain ⟨x1, x2, x3, x4⟩ := BX.out _ hb; obtain ⟨rfl, rfl⟩ := whyR_5 hwr HE.out; clear hwr)
    | (go_at_call_of 27 m; refine (dbinds_w f na _ ln cn lo co i m N U t' _ hi hm HR (HN.out _ hb) HT).mono ?_; rintro e wl ⟨⟨rb, rfl, hrb⟩, hv⟩; obtain rfl : rb = true := hrb.2 HB.out; clear hrb; (try replace hbs := hbs.trans (hv.mono hbs.size)); replace hb := hb.trans (hv.mono hb.size); clear x1 x2 x3 x4; obtain ⟨x1, x2, x3, x4⟩ := BX.out _ hb))
  obtain ⟨wq, hwq⟩ : ∃ wq, wq = wl := ⟨_, rfl⟩
  subst hwq
  have HQ : Hid (∀ w', Below wq.heap.size wq w' → w'.cell? ⟨w.heap.size, 0, none⟩ = some (.int .i64 f) ∧ w'.cell? ⟨w.heap.size, 1, none⟩ = some (.slice na ln cn) ∧ w'.cell? ⟨w.heap.size, 2, none⟩ = some (.slice (some ⟨C, P, none⟩) lo co) ∧ w'.cell? ⟨A, O + i, none⟩ = some (.int .i64 (t' i)) ∧ w'.cell? ⟨C, P + i * 3 + 1, none⟩ = some (.int .i64 (U i).c)) := Lib.hid fun w' h => by
    have h2 := hb.trans (h.mono hb.size)
    obtain ⟨z1, z2, z3, _⟩ := BX.out w' h2
    exact ⟨z1, z2, z3, (HNM.out w' (hbs.trans (h.mono hbs.size))).2, HCL.out w' h2⟩
  have HLS : Hid (∀ w', Below wq.heap.size wq w' → Calls Tryz.prog 19 #[.agg #[.int .i64 f, .slice na ln cn, .slice (some ⟨C, P, none⟩) lo co], .slice (some ⟨A, O, none⟩) lo qc] w' fun e w'' => e = .returned (.bool true) ∧ Below wq.heap.size wq w'') := Lib.hid fun w' h =>
    (list_w _ _ _ _ _ _ _ _ _ _ N U t' _ hlt hlo3 (HN.out _ (hb.trans (h.mono hb.size))) (Lib.hid (HNM.out _ (hbs.trans (h.mono hbs.size))).1)).mono fun e w'' ⟨⟨rb, he, hrb⟩, hb3⟩ => ⟨by rw [he, hrb.2 HSP.out], h.trans (hb3.mono h.size)⟩
  have HBL : Hid (∀ w', Below wq.heap.size wq w' → Calls Tryz.prog 33 #[.agg #[.int .i64 f, .slice na ln cn, .slice (some ⟨C, P, none⟩) lo co], .int .i64 (i : Int), .int .i64 (m : Int)] w' fun e w'' => e = .returned (.bool true) ∧ Below wq.heap.size wq w'') := Lib.hid fun w' h =>
    (below_w f na _ ln cn lo co i m N U w' hi HR (HN.out _ (hb.trans (h.mono hb.size)))).mono fun e w'' ⟨he, hb3⟩ => ⟨by rw [he, decide_eq_true HBE.out.1], h.trans (hb3.mono h.size)⟩
  have HSU : Hid (∀ w', Below wq.heap.size wq w' → Calls Tryz.prog 34 #[.agg #[.int .i64 f, .slice na ln cn, .slice (some ⟨C, P, none⟩) lo co], .slice (some ⟨A, O, none⟩) lo qc, .int .i64 (m : Int)] w' fun e w'' => e = .returned (.int .i64 (capN f N m)) ∧ Below wq.heap.size wq w'') := Lib.hid fun w' h =>
    (sum_w f na _ _ ln cn lo co qc m N U t' w' HR HSP (HN.out _ (hb.trans (h.mono hb.size))) (Lib.hid (HNM.out _ (hbs.trans (h.mono hbs.size))).1)).mono fun e w'' ⟨he, hb3⟩ => ⟨by rw [he, HBE.out.2], h.trans (hb3.mono h.size)⟩
  have HCP : Hid (∀ w', Below wq.heap.size wq w' → Calls Tryz.prog 35 #[.agg #[.int .i64 f, .slice na ln cn, .slice (some ⟨C, P, none⟩) lo co], .int .i64 (m : Int)] w' fun e w'' => e = .returned (.int .i64 (capN f N m)) ∧ Below wq.heap.size wq w'') := Lib.hid fun w' h =>
    (rcap_w f na _ ln cn lo co m N U w' hm hls (HN.out _ (hb.trans (h.mono hb.size)))).mono fun e w'' ⟨he, hb3⟩ => ⟨he, h.trans (hb3.mono h.size)⟩
  have HBQ := Lib.hid hb
  clear hb hbs x1 x2 x3 x4
  refine wp_region_calm (W := wq) hmx (by kernel_rfl) (Below.refl _ _) ?_
  repeat (first
    | (refine calm_no (by rfl) ?_
       (try simp only [Act.put, List.setIfInBounds_toArray, List.set_cons_zero, List.set_cons_succ]))
    | (apply calm_yes
       focus rfl
       focus
         intro w' hw'
         obtain ⟨z1, z2, z3, z4, z5⟩ := HQ.out w' hw'
         go_simp
         first
           | done
           | with_reducible rfl
           | (go_at_call 19; exact HLS.out w' hw')
           | fail
       (try simp only [Act.put, List.setIfInBounds_toArray, List.set_cons_zero, List.set_cons_succ])))
  refine calm_nil ?_
  intro w7 hqw7
  have HB7 := Lib.hid hqw7
  clear hqw7
  obtain ⟨x1, x2, x3, _, _⟩ := HQ.out w7 HB7.out
  go_wp2
  clear x1 x2 x3
  refine wp_region_calm (W := wq) hmx (by kernel_rfl) HB7.out ?_
  repeat (first
    | (refine calm_no (by rfl) ?_
       (try simp only [Act.put, List.setIfInBounds_toArray, List.set_cons_zero, List.set_cons_succ]))
    | (apply calm_yes
       focus rfl
       focus
         intro w' hw'
         obtain ⟨z1, z2, z3, z4, z5⟩ := HQ.out w' hw'
         go_simp
         first
           | done
           | with_reducible rfl
           | (go_at_call 33; exact HBL.out w' hw')
           | (go_at_call 34; exact HSU.out w' hw')
           | (go_at_call 35; exact HCP.out w' hw')
           | fail
       (try simp only [Act.put, List.setIfInBounds_toArray, List.set_cons_zero, List.set_cons_succ])))
  refine calm_nil ?_
  intro w8 hqw8
  have HB8 := Lib.hid hqw8
  have hb := HBQ.out.trans (hqw8.mono HBQ.out.size)
  clear hqw8
  obtain ⟨x1, x2, x3, x4⟩ := BX.out _ hb
  go_wp2_with (first
    | (go_at_call 15; refine (K.out _).mono ?_; rintro e wl ⟨rfl, hv⟩; (try replace hbs := hbs.trans (hv.mono hbs.size)); replace hb := hb.trans (hv.mono hb.size); clear x1 x2 x3 x4; obtain ⟨x1, x2, x3, x4⟩ := BX.out _ hb))
  go_ret
  exact ⟨rfl, below_al hb⟩

set_option maxRecDepth 100000 in
set_option maxHeartbeats 4000000 in
theorem lawbd_g (f : Int) (na oa : Option Addr) (ln cn lo co : Nat) (N : Nat → N2) (U : Nat → O3) (i m : Nat) (w : World) (hls : ln ≤ 1000000) (hlt : lo ≤ 1000000) (H : Hid (Tr7 w na oa ln lo N U)) (K : Hid KnownOk) (hq : ln ≤ 8 ∧ lo ≤ 10) (HR : Hid (TreeP f ln lo N U)) (hi : i < lo) (hm : m ≤ ln) (t : Nat → Int) (HT : Hid (Ord f lo N U (fun _ => 0) [0, 1, 2, 3] t)) (HE : Hid (t i ≠ (U i).c)) (n : Nat) (hnl : n ≤ ln) (HPn : Hid (BindP f lo N U t i n)) (HLn : Hid (∀ m, m < n → ¬ BindP f lo N U t i m)) (HB : Hid (¬ BindP f lo N U t i m)) :
    Calls Tryz.prog 6 #[.agg #[.int .i64 f, .slice na ln cn, .slice oa lo co], .int .i64 (i : Int), .int .i64 (m : Int)] w
      fun e w' => e = .returned (.bool true) ∧ Below w.heap.size w w' := by
  have hsh : decide (ln ≤ 8 ∧ lo ≤ 10) = true := decide_eq_true hq
  have hoz : fromB 0 ((lo : Int) - 1) (i : Int) = true := by simp only [fromB, decide_eq_true_eq]; omega
  have hoy : fromB 0 (ln : Int) (m : Int) = true := by simp only [fromB, decide_eq_true_eq]; omega
  have HO := Lib.hid hoz
  have HM := Lib.hid hoy
  have hmx : Tryz.prog.follows .mixedOrders = true := by kernel_rfl
  have HSP : Hid (SharesP lo lo t U) := Lib.hid (sharesP_of (HT.out.vd (vd_zero HR.out)))
  have hlo3 : lo ≤ maxLen := by unfold maxLen; omega
  obtain ⟨C, P, hoa, hC, hn⟩ := H.out.ho.resolve_left (by omega)
  have HCL : Hid (∀ w2, Below (w.alloc (.cells #[.int .i64 f, .slice na ln cn, .slice oa lo co] 25)).heap.size (w.alloc (.cells #[.int .i64 f, .slice na ln cn, .slice oa lo co] 25)) w2 → w2.cell? ⟨C, P + i * 3 + 1, none⟩ = some (.int .i64 (U i).c)) := Lib.hid fun w2 h => ((below_al h).cell (p := ⟨C, P + i * 3 + 1, none⟩) hC).trans (hn i hi).2.1
  have n1 : (0 : Int) ≤ (i : Int) := by omega
  have n2 : (i : Int) < (lo : Int) := by omega
  subst hoa
  clear hn hoz hoy
  have d5 : (t i == (U i).c) = false := by have := HE.out; simp [this]
  have hon : fromB 0 (ln : Int) (n : Int) = true := by simp only [fromB, decide_eq_true_eq]; omega
  have HMn := Lib.hid hon
  clear hon
  have BX := Lib.hid (fun (w1 : World) (hb : Below (w.alloc (.cells #[.int .i64 f, .slice na ln cn, .slice (some ⟨C, P, none⟩) lo co] 25)).heap.size (w.alloc (.cells #[.int .i64 f, .slice na ln cn, .slice (some ⟨C, P, none⟩) lo co] 25)) w1) => box7 hb)
  have HN : Hid (∀ w1, Below (w.alloc (.cells #[.int .i64 f, .slice na ln cn, .slice (some ⟨C, P, none⟩) lo co] 25)).heap.size (w.alloc (.cells #[.int .i64 f, .slice na ln cn, .slice (some ⟨C, P, none⟩) lo co] 25)) w1 → Hid (Tr7 w1 na (some ⟨C, P, none⟩) ln lo N U)) := Lib.hid fun w1 h => Lib.hid (H.out.below (below_al h))
  have hb : Below (w.alloc (.cells #[.int .i64 f, .slice na ln cn, .slice (some ⟨C, P, none⟩) lo co] 25)).heap.size (w.alloc (.cells #[.int .i64 f, .slice na ln cn, .slice (some ⟨C, P, none⟩) lo co] 25)) (w.alloc (.cells #[.int .i64 f, .slice na ln cn, .slice (some ⟨C, P, none⟩) lo co] 25)) := Below.refl _ _
  obtain ⟨x1, x2, x3, x4⟩ := BX.out _ hb
  clear H
  go_enter Tryz.func6, Tryz.ntmps6
  go_wp2_with (first
    | (go_at_call 14; refine (short_w _ _ _ _ _ _ _ _ (by unfold maxLen; omega) (by unfold maxLen; omega)).mono ?_; rw [hsh]; rintro e wl ⟨rfl, hv⟩; (try replace hbs := hbs.trans (hv.mono hbs.size)); replace hb := hb.trans (hv.mono hb.size); clear x1 x2 x3 x4; obtain ⟨x1, x2, x3, x4⟩ := BX.out _ hb)
    | (go_at_call 18; refine (tree_w _ _ _ _ _ _ _ N U _ hls hlt (HN.out _ hb)).mono ?_; rintro e wl ⟨⟨rb, rfl, hrb⟩, hv⟩; obtain rfl : rb = true := hrb.2 HR.out; clear hrb; (try replace hbs := hbs.trans (hv.mono hbs.size)); replace hb := hb.trans (hv.mono hb.size); clear x1 x2 x3 x4; obtain ⟨x1, x2, x3, x4⟩ := BX.out _ hb)
    | (go_at_call 29; refine (outlet_w _ _ _ _ _ _ _ _ _ hlt).mono ?_; rw [HO.out]; rintro e wl ⟨rfl, hv⟩; (try replace hbs := hbs.trans (hv.mono hbs.size)); replace hb := hb.trans (hv.mono hb.size); clear x1 x2 x3 x4; obtain ⟨x1, x2, x3, x4⟩ := BX.out _ hb)
    | (go_at_call 31; refine (node_w _ _ _ _ _ _ _ _ _).mono ?_; rw [HM.out]; rintro e wl ⟨rfl, hv⟩; (try replace hbs := hbs.trans (hv.mono hbs.size)); replace hb := hb.trans (hv.mono hb.size); clear x1 x2 x3 x4; obtain ⟨x1, x2, x3, x4⟩ := BX.out _ hb)
    | (go_at_call 21; refine (shares_w f na _ ln cn lo co N U _ HR (HN.out _ hb)).mono ?_; rintro e wl ⟨⟨sa, qc, t', rfl, hs, ho⟩, hv⟩; obtain rfl : t' = t := ho.det HT.out; (try replace hbs := hbs.trans (hv.mono hbs.size)); replace hb := hb.trans (hv.mono hb.size); clear x1 x2 x3 x4; obtain ⟨x1, x2, x3, x4⟩ := BX.out _ hb; obtain ⟨A, O, rfl, hA, hnm⟩ := hs.resolve_left (by omega); have HNM : Hid (∀ w2, Below wl.heap.size wl w2 → IntSl w2 (some ⟨A, O, none⟩) lo t' ∧ w2.cell? ⟨A, O + i, none⟩ = some (.int .i64 (t' i))) := Lib.hid (fun w2 h => ⟨.inr ⟨_, _, rfl, Nat.lt_of_lt_of_le hA h.size, hnm.below hA h⟩, (hnm.below hA h) i hi⟩); have hbs := Below.refl wl.heap.size wl; clear ho hs hnm hA)
    | (go_at_call 28; refine (dwhy_w f na _ ln cn lo co i N U t' _ hi HR (HN.out _ hb) HT).mono ?_; rintro e wl ⟨⟨rn, re, rfl, hwr⟩, hv⟩; (try replace hbs := hbs.trans (hv.mono hbs.size)); replace hb := hb.trans (hv.mono hb.size); clear x1 x2 x3 x4; obtain ⟨x1, x2, x3, x4⟩ := BX.out _ hb; obtain ⟨rfl, rfl⟩ := whyR_0 hwr HE.out HPn.out HLn.out; clear hwr)
    | (go_at_call_of 27 m; refine (dbinds_w f na _ ln cn lo co i m N U t' _ hi hm HR (HN.out _ hb) HT).mono ?_; rintro e wl ⟨⟨rb, rfl, hrb⟩, hv⟩; obtain rfl : rb = false := (by cases rb <;> first | rfl | exact (HB.out (hrb.1 rfl)).elim); clear hrb; (try replace hbs := hbs.trans (hv.mono hbs.size)); replace hb := hb.trans (hv.mono hb.size); clear x1 x2 x3 x4; obtain ⟨x1, x2, x3, x4⟩ := BX.out _ hb))
  obtain ⟨wq, hwq⟩ : ∃ wq, wq = wl := ⟨_, rfl⟩
  subst hwq
  have HQ : Hid (∀ w', Below wq.heap.size wq w' → w'.cell? ⟨w.heap.size, 0, none⟩ = some (.int .i64 f) ∧ w'.cell? ⟨w.heap.size, 1, none⟩ = some (.slice na ln cn) ∧ w'.cell? ⟨w.heap.size, 2, none⟩ = some (.slice (some ⟨C, P, none⟩) lo co) ∧ w'.cell? ⟨A, O + i, none⟩ = some (.int .i64 (t' i)) ∧ w'.cell? ⟨C, P + i * 3 + 1, none⟩ = some (.int .i64 (U i).c)) := Lib.hid fun w' h => by
    have h2 := hb.trans (h.mono hb.size)
    obtain ⟨z1, z2, z3, _⟩ := BX.out w' h2
    exact ⟨z1, z2, z3, (HNM.out w' (hbs.trans (h.mono hbs.size))).2, HCL.out w' h2⟩
  have HLS : Hid (∀ w', Below wq.heap.size wq w' → Calls Tryz.prog 19 #[.agg #[.int .i64 f, .slice na ln cn, .slice (some ⟨C, P, none⟩) lo co], .slice (some ⟨A, O, none⟩) lo qc] w' fun e w'' => e = .returned (.bool true) ∧ Below wq.heap.size wq w'') := Lib.hid fun w' h =>
    (list_w _ _ _ _ _ _ _ _ _ _ N U t' _ hlt hlo3 (HN.out _ (hb.trans (h.mono hb.size))) (Lib.hid (HNM.out _ (hbs.trans (h.mono hbs.size))).1)).mono fun e w'' ⟨⟨rb, he, hrb⟩, hb3⟩ => ⟨by rw [he, hrb.2 HSP.out], h.trans (hb3.mono h.size)⟩
  have HBQ := Lib.hid hb
  clear hb hbs x1 x2 x3 x4
  refine wp_region_calm (W := wq) hmx (by kernel_rfl) (Below.refl _ _) ?_
  repeat (first
    | (refine calm_no (by rfl) ?_
       (try simp only [Act.put, List.setIfInBounds_toArray, List.set_cons_zero, List.set_cons_succ]))
    | (apply calm_yes
       focus rfl
       focus
         intro w' hw'
         obtain ⟨z1, z2, z3, z4, z5⟩ := HQ.out w' hw'
         go_simp
         first
           | done
           | with_reducible rfl
           | (go_at_call 19; exact HLS.out w' hw')
           | fail
       (try simp only [Act.put, List.setIfInBounds_toArray, List.set_cons_zero, List.set_cons_succ])))
  refine calm_nil ?_
  intro w7 hqw7
  have HB7 := Lib.hid hqw7
  clear hqw7
  obtain ⟨x1, x2, x3, _, _⟩ := HQ.out w7 HB7.out
  go_wp2
  clear x1 x2 x3
  refine wp_region_calm (W := wq) hmx (by kernel_rfl) HB7.out ?_
  repeat (first
    | (refine calm_no (by rfl) ?_
       (try simp only [Act.put, List.setIfInBounds_toArray, List.set_cons_zero, List.set_cons_succ]))
    | (apply calm_yes
       focus rfl
       focus
         intro w' hw'
         obtain ⟨z1, z2, z3, z4, z5⟩ := HQ.out w' hw'
         go_simp
         first
           | done
           | with_reducible rfl
           | fail
       (try simp only [Act.put, List.setIfInBounds_toArray, List.set_cons_zero, List.set_cons_succ])))
  refine calm_nil ?_
  intro w8 hqw8
  have HB8 := Lib.hid hqw8
  have hb := HBQ.out.trans (hqw8.mono HBQ.out.size)
  clear hqw8
  obtain ⟨x1, x2, x3, x4⟩ := BX.out _ hb
  go_wp2_with (first
    | (go_at_call 31; refine (node_w _ _ _ _ _ _ _ _ _).mono ?_; rw [HMn.out]; rintro e wl ⟨rfl, hv⟩; (try replace hbs := hbs.trans (hv.mono hbs.size)); replace hb := hb.trans (hv.mono hb.size); clear x1 x2 x3 x4; obtain ⟨x1, x2, x3, x4⟩ := BX.out _ hb)
    | (go_at_call_of 27 n; refine (dbinds_w f na _ ln cn lo co i n N U t' _ hi hnl HR (HN.out _ hb) HT).mono ?_; rintro e wl ⟨⟨rb, rfl, hrb⟩, hv⟩; obtain rfl : rb = true := hrb.2 HPn.out; clear hrb; (try replace hbs := hbs.trans (hv.mono hbs.size)); replace hb := hb.trans (hv.mono hb.size); clear x1 x2 x3 x4; obtain ⟨x1, x2, x3, x4⟩ := BX.out _ hb)
    | (go_at_call 15; refine (K.out _).mono ?_; rintro e wl ⟨rfl, hv⟩; (try replace hbs := hbs.trans (hv.mono hbs.size)); replace hb := hb.trans (hv.mono hb.size); clear x1 x2 x3 x4; obtain ⟨x1, x2, x3, x4⟩ := BX.out _ hb))
  go_ret
  exact ⟨rfl, below_al hb⟩

set_option maxRecDepth 100000 in
set_option maxHeartbeats 4000000 in
theorem lawbd_h (f : Int) (na oa : Option Addr) (ln cn lo co : Nat) (N : Nat → N2) (U : Nat → O3) (i m : Nat) (w : World) (hls : ln ≤ 1000000) (hlt : lo ≤ 1000000) (H : Hid (Tr7 w na oa ln lo N U)) (K : Hid KnownOk) (hq : ln ≤ 8 ∧ lo ≤ 10) (HR : Hid (TreeP f ln lo N U)) (hi : i < lo) (hm : m ≤ ln) (t : Nat → Int) (HT : Hid (Ord f lo N U (fun _ => 0) [0, 1, 2, 3] t)) (HE : Hid (t i ≠ (U i).c)) (n : Nat) (hnl : n ≤ ln) (HPn : Hid (BindP f lo N U t i n)) (HLn : Hid (∀ m, m < n → ¬ BindP f lo N U t i m)) (HB : Hid (BindP f lo N U t i m)) :
    Calls Tryz.prog 6 #[.agg #[.int .i64 f, .slice na ln cn, .slice oa lo co], .int .i64 (i : Int), .int .i64 (m : Int)] w
      fun e w' => e = .returned (.bool true) ∧ Below w.heap.size w w' := by
  have hsh : decide (ln ≤ 8 ∧ lo ≤ 10) = true := decide_eq_true hq
  have hoz : fromB 0 ((lo : Int) - 1) (i : Int) = true := by simp only [fromB, decide_eq_true_eq]; omega
  have hoy : fromB 0 (ln : Int) (m : Int) = true := by simp only [fromB, decide_eq_true_eq]; omega
  have HO := Lib.hid hoz
  have HM := Lib.hid hoy
  have hmx : Tryz.prog.follows .mixedOrders = true := by kernel_rfl
  have HSP : Hid (SharesP lo lo t U) := Lib.hid (sharesP_of (HT.out.vd (vd_zero HR.out)))
  have hlo3 : lo ≤ maxLen := by unfold maxLen; omega
  obtain ⟨C, P, hoa, hC, hn⟩ := H.out.ho.resolve_left (by omega)
  have HCL : Hid (∀ w2, Below (w.alloc (.cells #[.int .i64 f, .slice na ln cn, .slice oa lo co] 25)).heap.size (w.alloc (.cells #[.int .i64 f, .slice na ln cn, .slice oa lo co] 25)) w2 → w2.cell? ⟨C, P + i * 3 + 1, none⟩ = some (.int .i64 (U i).c)) := Lib.hid fun w2 h => ((below_al h).cell (p := ⟨C, P + i * 3 + 1, none⟩) hC).trans (hn i hi).2.1
  have n1 : (0 : Int) ≤ (i : Int) := by omega
  have n2 : (i : Int) < (lo : Int) := by omega
  subst hoa
  clear hn hoz hoy
  have d5 : (t i == (U i).c) = false := by have := HE.out; simp [this]
  have hon : fromB 0 (ln : Int) (n : Int) = true := by simp only [fromB, decide_eq_true_eq]; omega
  have HMn := Lib.hid hon
  clear hon
  have hmn : ¬ (m : Int) < (n : Int) := fun h => HLn.out m (by omega) HB.out
  have HBE : Hid (m ∈ path N (U i).n.toNat ∧ sumB N U t m lo = capN f N m) := Lib.hid ⟨HB.out.1, HB.out.2.1⟩
  have BX := Lib.hid (fun (w1 : World) (hb : Below (w.alloc (.cells #[.int .i64 f, .slice na ln cn, .slice (some ⟨C, P, none⟩) lo co] 25)).heap.size (w.alloc (.cells #[.int .i64 f, .slice na ln cn, .slice (some ⟨C, P, none⟩) lo co] 25)) w1) => box7 hb)
  have HN : Hid (∀ w1, Below (w.alloc (.cells #[.int .i64 f, .slice na ln cn, .slice (some ⟨C, P, none⟩) lo co] 25)).heap.size (w.alloc (.cells #[.int .i64 f, .slice na ln cn, .slice (some ⟨C, P, none⟩) lo co] 25)) w1 → Hid (Tr7 w1 na (some ⟨C, P, none⟩) ln lo N U)) := Lib.hid fun w1 h => Lib.hid (H.out.below (below_al h))
  have hb : Below (w.alloc (.cells #[.int .i64 f, .slice na ln cn, .slice (some ⟨C, P, none⟩) lo co] 25)).heap.size (w.alloc (.cells #[.int .i64 f, .slice na ln cn, .slice (some ⟨C, P, none⟩) lo co] 25)) (w.alloc (.cells #[.int .i64 f, .slice na ln cn, .slice (some ⟨C, P, none⟩) lo co] 25)) := Below.refl _ _
  obtain ⟨x1, x2, x3, x4⟩ := BX.out _ hb
  clear H
  go_enter Tryz.func6, Tryz.ntmps6
  go_wp2_with (first
    | (go_at_call 14; refine (short_w _ _ _ _ _ _ _ _ (by unfold maxLen; omega) (by unfold maxLen; omega)).mono ?_; rw [hsh]; rintro e wl ⟨rfl, hv⟩; (try replace hbs := hbs.trans (hv.mono hbs.size)); replace hb := hb.trans (hv.mono hb.size); clear x1 x2 x3 x4; obtain ⟨x1, x2, x3, x4⟩ := BX.out _ hb)
    | (go_at_call 18; refine (tree_w _ _ _ _ _ _ _ N U _ hls hlt (HN.out _ hb)).mono ?_; rintro e wl ⟨⟨rb, rfl, hrb⟩, hv⟩; obtain rfl : rb = true := hrb.2 HR.out; clear hrb; (try replace hbs := hbs.trans (hv.mono hbs.size)); replace hb := hb.trans (hv.mono hb.size); clear x1 x2 x3 x4; obtain ⟨x1, x2, x3, x4⟩ := BX.out _ hb)
    | (go_at_call 29; refine (outlet_w _ _ _ _ _ _ _ _ _ hlt).mono ?_; rw [HO.out]; rintro e wl ⟨rfl, hv⟩; (try replace hbs := hbs.trans (hv.mono hbs.size)); replace hb := hb.trans (hv.mono hb.size); clear x1 x2 x3 x4; obtain ⟨x1, x2, x3, x4⟩ := BX.out _ hb)
    | (go_at_call 31; refine (node_w _ _ _ _ _ _ _ _ _).mono ?_; rw [HM.out]; rintro e wl ⟨rfl, hv⟩; (try replace hbs := hbs.trans (hv.mono hbs.size)); replace hb := hb.trans (hv.mono hb.size); clear x1 x2 x3 x4; obtain ⟨x1, x2, x3, x4⟩ := BX.out _ hb)
    | (go_at_call 21; refine (shares_w f na _ ln cn lo co N U _ HR (HN.out _ hb)).mono ?_; rintro e wl ⟨⟨sa, qc, t', rfl, hs, ho⟩, hv⟩; obtain rfl : t' = t := ho.det HT.out; (try replace hbs := hbs.trans (hv.mono hbs.size)); replace hb := hb.trans (hv.mono hb.size); clear x1 x2 x3 x4; obtain ⟨x1, x2, x3, x4⟩ := BX.out _ hb; obtain ⟨A, O, rfl, hA, hnm⟩ := hs.resolve_left (by omega); have HNM : Hid (∀ w2, Below wl.heap.size wl w2 → IntSl w2 (some ⟨A, O, none⟩) lo t' ∧ w2.cell? ⟨A, O + i, none⟩ = some (.int .i64 (t' i))) := Lib.hid (fun w2 h => ⟨.inr ⟨_, _, rfl, Nat.lt_of_lt_of_le hA h.size, hnm.below hA h⟩, (hnm.below hA h) i hi⟩); have hbs := Below.refl wl.heap.size wl; clear ho hs hnm hA)
    | (go_at_call 28; refine (dwhy_w f na _ ln cn lo co i N U t' _ hi HR (HN.out _ hb) HT).mono ?_; rintro e wl ⟨⟨rn, re, rfl, hwr⟩, hv⟩; (try replace hbs := hbs.trans (hv.mono hbs.size)); replace hb := hb.trans (hv.mono hb.size); clear x1 x2 x3 x4; obtain ⟨x1, x2, x3, x4⟩ := BX.out _ hb; obtain ⟨rfl, rfl⟩ := whyR_0 hwr HE.out HPn.out HLn.out; clear hwr)
    | (go_at_call_of 27 m; refine (dbinds_w f na _ ln cn lo co i m N U t' _ hi hm HR (HN.out _ hb) HT).mono ?_; rintro e wl ⟨⟨rb, rfl, hrb⟩, hv⟩; obtain rfl : rb = true := hrb.2 HB.out; clear hrb; (try replace hbs := hbs.trans (hv.mono hbs.size)); replace hb := hb.trans (hv.mono hb.size); clear x1 x2 x3 x4; obtain ⟨x1, x2, x3, x4⟩ := BX.out _ hb))
  obtain ⟨wq, hwq⟩ : ∃ wq, wq = wl := ⟨_, rfl⟩
  subst hwq
  have HQ : Hid (∀ w', Below wq.heap.size wq w' → w'.cell? ⟨w.heap.size, 0, none⟩ = some (.int .i64 f) ∧ w'.cell? ⟨w.heap.size, 1, none⟩ = some (.slice na ln cn) ∧ w'.cell? ⟨w.heap.size, 2, none⟩ = some (.slice (some ⟨C, P, none⟩) lo co) ∧ w'.cell? ⟨A, O + i, none⟩ = some (.int .i64 (t' i)) ∧ w'.cell? ⟨C, P + i * 3 + 1, none⟩ = some (.int .i64 (U i).c)) := Lib.hid fun w' h => by
    have h2 := hb.trans (h.mono hb.size)
    obtain ⟨z1, z2, z3, _⟩ := BX.out w' h2
    exact ⟨z1, z2, z3, (HNM.out w' (hbs.trans (h.mono hbs.size))).2, HCL.out w' h2⟩
  have HLS : Hid (∀ w', Below wq.heap.size wq w' → Calls Tryz.prog 19 #[.agg #[.int .i64 f, .slice na ln cn, .slice (some ⟨C, P, none⟩) lo co], .slice (some ⟨A, O, none⟩) lo qc] w' fun e w'' => e = .returned (.bool true) ∧ Below wq.heap.size wq w'') := Lib.hid fun w' h =>
    (list_w _ _ _ _ _ _ _ _ _ _ N U t' _ hlt hlo3 (HN.out _ (hb.trans (h.mono hb.size))) (Lib.hid (HNM.out _ (hbs.trans (h.mono hbs.size))).1)).mono fun e w'' ⟨⟨rb, he, hrb⟩, hb3⟩ => ⟨by rw [he, hrb.2 HSP.out], h.trans (hb3.mono h.size)⟩
  have HBL : Hid (∀ w', Below wq.heap.size wq w' → Calls Tryz.prog 33 #[.agg #[.int .i64 f, .slice na ln cn, .slice (some ⟨C, P, none⟩) lo co], .int .i64 (i : Int), .int .i64 (m : Int)] w' fun e w'' => e = .returned (.bool true) ∧ Below wq.heap.size wq w'') := Lib.hid fun w' h =>
    (below_w f na _ ln cn lo co i m N U w' hi HR (HN.out _ (hb.trans (h.mono hb.size)))).mono fun e w'' ⟨he, hb3⟩ => ⟨by rw [he, decide_eq_true HBE.out.1], h.trans (hb3.mono h.size)⟩
  have HSU : Hid (∀ w', Below wq.heap.size wq w' → Calls Tryz.prog 34 #[.agg #[.int .i64 f, .slice na ln cn, .slice (some ⟨C, P, none⟩) lo co], .slice (some ⟨A, O, none⟩) lo qc, .int .i64 (m : Int)] w' fun e w'' => e = .returned (.int .i64 (capN f N m)) ∧ Below wq.heap.size wq w'') := Lib.hid fun w' h =>
    (sum_w f na _ _ ln cn lo co qc m N U t' w' HR HSP (HN.out _ (hb.trans (h.mono hb.size))) (Lib.hid (HNM.out _ (hbs.trans (h.mono hbs.size))).1)).mono fun e w'' ⟨he, hb3⟩ => ⟨by rw [he, HBE.out.2], h.trans (hb3.mono h.size)⟩
  have HCP : Hid (∀ w', Below wq.heap.size wq w' → Calls Tryz.prog 35 #[.agg #[.int .i64 f, .slice na ln cn, .slice (some ⟨C, P, none⟩) lo co], .int .i64 (m : Int)] w' fun e w'' => e = .returned (.int .i64 (capN f N m)) ∧ Below wq.heap.size wq w'') := Lib.hid fun w' h =>
    (rcap_w f na _ ln cn lo co m N U w' hm hls (HN.out _ (hb.trans (h.mono hb.size)))).mono fun e w'' ⟨he, hb3⟩ => ⟨he, h.trans (hb3.mono h.size)⟩
  have HBQ := Lib.hid hb
  clear hb hbs x1 x2 x3 x4
  refine wp_region_calm (W := wq) hmx (by kernel_rfl) (Below.refl _ _) ?_
  repeat (first
    | (refine calm_no (by rfl) ?_
       (try simp only [Act.put, List.setIfInBounds_toArray, List.set_cons_zero, List.set_cons_succ]))
    | (apply calm_yes
       focus rfl
       focus
         intro w' hw'
         obtain ⟨z1, z2, z3, z4, z5⟩ := HQ.out w' hw'
         go_simp
         first
           | done
           | with_reducible rfl
           | (go_at_call 19; exact HLS.out w' hw')
           | fail
       (try simp only [Act.put, List.setIfInBounds_toArray, List.set_cons_zero, List.set_cons_succ])))
  refine calm_nil ?_
  intro w7 hqw7
  have HB7 := Lib.hid hqw7
  clear hqw7
  obtain ⟨x1, x2, x3, _, _⟩ := HQ.out w7 HB7.out
  go_wp2
  clear x1 x2 x3
  refine wp_region_calm (W := wq) hmx (by kernel_rfl) HB7.out ?_
  repeat (first
    | (refine calm_no (by rfl) ?_
       (try simp only [Act.put, List.setIfInBounds_toArray, List.set_cons_zero, List.set_cons_succ]))
    | (apply calm_yes
       focus rfl
       focus
         intro w' hw'
         obtain ⟨z1, z2, z3, z4, z5⟩ := HQ.out w' hw'
         go_simp
         first
           | done
           | with_reducible rfl
           | (go_at_call 33; exact HBL.out w' hw')
           | (go_at_call 34; exact HSU.out w' hw')
           | (go_at_call 35; exact HCP.out w' hw')
           | fail
       (try simp only [Act.put, List.setIfInBounds_toArray, List.set_cons_zero, List.set_cons_succ])))
  refine calm_nil ?_
  intro w8 hqw8
  have HB8 := Lib.hid hqw8
  have hb := HBQ.out.trans (hqw8.mono HBQ.out.size)
  clear hqw8
  obtain ⟨x1, x2, x3, x4⟩ := BX.out _ hb
  go_wp2_with (first
    | (go_at_call 31; refine (node_w _ _ _ _ _ _ _ _ _).mono ?_; rw [HMn.out]; rintro e wl ⟨rfl, hv⟩; (try replace hbs := hbs.trans (hv.mono hbs.size)); replace hb := hb.trans (hv.mono hb.size); clear x1 x2 x3 x4; obtain ⟨x1, x2, x3, x4⟩ := BX.out _ hb)
    | (go_at_call_of 27 n; refine (dbinds_w f na _ ln cn lo co i n N U t' _ hi hnl HR (HN.out _ hb) HT).mono ?_; rintro e wl ⟨⟨rb, rfl, hrb⟩, hv⟩; obtain rfl : rb = true := hrb.2 HPn.out; clear hrb; (try replace hbs := hbs.trans (hv.mono hbs.size)); replace hb := hb.trans (hv.mono hb.size); clear x1 x2 x3 x4; obtain ⟨x1, x2, x3, x4⟩ := BX.out _ hb)
    | (go_at_call 15; refine (K.out _).mono ?_; rintro e wl ⟨rfl, hv⟩; (try replace hbs := hbs.trans (hv.mono hbs.size)); replace hb := hb.trans (hv.mono hb.size); clear x1 x2 x3 x4; obtain ⟨x1, x2, x3, x4⟩ := BX.out _ hb))
  go_ret
  exact ⟨rfl, below_al hb⟩
end Go.Kn

namespace Go.Kn
open Go Go.Proofs Go.RowKit

set_option maxHeartbeats 1000000 in
theorem lawbd_w (f : Int) (na oa : Option Addr) (ln cn lo co : Nat) (N : Nat → N2) (U : Nat → O3) (z y : Int) (w : World) (hls : ln ≤ maxLen) (hlt : lo ≤ maxLen) (H : Tr7 w na oa ln lo N U) (K : KnownOk) :
    Calls Tryz.prog 6 #[.agg #[.int .i64 f, .slice na ln cn, .slice oa lo co], .int .i64 z, .int .i64 y] w
      fun e w' => e = .returned (.bool true) ∧ Below w.heap.size w w' := by
  by_cases hq : ln ≤ 8 ∧ lo ≤ 10
  case neg => exact lawbd_a f na oa ln cn lo co N U z y w hls hlt (Lib.hid H) (Lib.hid K) hq
  by_cases HR : TreeP f ln lo N U
  case neg => exact lawbd_b f na oa ln cn lo co N U z y w (by omega) (by omega) (Lib.hid H) (Lib.hid K) hq (Lib.hid HR)
  have l1 : ln ≤ 1000000 := by omega
  have l2 : lo ≤ 1000000 := by omega
  cases ho : fromB 0 ((lo : Int) - 1) z with
  | false => exact lawbd_c f na oa ln cn lo co N U z y w l1 l2 (Lib.hid H) (Lib.hid K) hq (Lib.hid HR) (Lib.hid ho)
  | true =>
    cases hy : fromB 0 (ln : Int) y with
    | false => exact lawbd_d f na oa ln cn lo co N U z y w l1 l2 (Lib.hid H) (Lib.hid K) hq (Lib.hid HR) (Lib.hid ho) (Lib.hid hy)
    | true =>
      obtain ⟨i, rfl, hi⟩ := outlet_nat ho
      obtain ⟨m, rfl, hm⟩ : ∃ m : Nat, y = (m : Int) ∧ m ≤ ln := by
        simp only [fromB, decide_eq_true_eq] at hy
        exact ⟨y.toNat, by omega, by omega⟩
      obtain ⟨t, ht⟩ := ord_ex (f := f) (ln := ln) (lo := lo) (N := N) (U := U) [0, 1, 2, 3] (fun _ => 0) (vd_zero HR)
      by_cases he : t i = (U i).c
      · by_cases hb : BindP f lo N U t i m
        · exact lawbd_f f na oa ln cn lo co N U i m w l1 l2 (Lib.hid H) (Lib.hid K) hq (Lib.hid HR) hi hm t (Lib.hid ht) (Lib.hid he) (Lib.hid hb)
        · exact lawbd_e f na oa ln cn lo co N U i m w l1 l2 (Lib.hid H) (Lib.hid K) hq (Lib.hid HR) hi hm t (Lib.hid ht) (Lib.hid he) (Lib.hid hb)
      · obtain ⟨n, hn, hp, hl⟩ := least_of (fun n => BindP f lo N U t i n) (bind_ex HR ht hi he)
        by_cases hb : BindP f lo N U t i m
        · exact lawbd_h f na oa ln cn lo co N U i m w l1 l2 (Lib.hid H) (Lib.hid K) hq (Lib.hid HR) hi hm t (Lib.hid ht) (Lib.hid he) n hn (Lib.hid hp) (Lib.hid hl) (Lib.hid hb)
        · exact lawbd_g f na oa ln cn lo co N U i m w l1 l2 (Lib.hid H) (Lib.hid K) hq (Lib.hid HR) hi hm t (Lib.hid ht) (Lib.hid he) n hn (Lib.hid hp) (Lib.hid hl) (Lib.hid hb)
end Go.Kn
