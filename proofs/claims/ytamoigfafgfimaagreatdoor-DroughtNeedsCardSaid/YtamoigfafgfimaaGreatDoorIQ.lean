/- Contracts of functions that the laws of this seat call, or the evaluator of closed calls and its runs. Conditions: as each theorem states them. -/
import Derived.Test.YtamoigfafgfimaaGreatDoorIO
set_option linter.unusedVariables false
set_option linter.unusedSimpArgs false
namespace Go.Kn
open Go Go.Proofs Go.RowKit

theorem needR_re {P : Nat → Prop} {rn re : Int} (h : NeedR P rn re) : (re = 0 ∧ ¬ rn < 0) ∨ (re = 5 ∧ rn = 0) := by
  rcases h with ⟨h1, n, h2, _⟩ | ⟨h1, h2, _⟩
  · exact .inl ⟨h1, by omega⟩
  · exact .inr ⟨h1, h2⟩
theorem needR_ref0 {P : Nat → Prop} {rn r : Int} (h : NeedR P rn 0) (hr : RefR P r) : r = rn := by
  rcases h with ⟨_, n, rfl, h1, h2, h3⟩ | ⟨h1, _⟩
  · exact refR_some hr h1 h2 h3
  · cases h1
theorem needR_ref5 {P : Nat → Prop} {rn r : Int} (h : NeedR P rn 5) (hr : RefR P r) : r = -1 := by
  rcases h with ⟨h1, _⟩ | ⟨_, _, h3⟩
  · cases h1
  · exact refR_none hr h3

set_option maxRecDepth 100000 in
set_option maxHeartbeats 4000000 in
theorem lawnd_a (f : Int) (na oa : Option Addr) (ln cn lo co : Nat) (N : Nat → N2) (U : Nat → O3) (z c k : Int) (w : World) (hls : ln ≤ maxLen) (hlt : lo ≤ maxLen) (H : Hid (Tr7 w na oa ln lo N U)) (K : Hid KnownOk) (hq : ¬ (ln ≤ 8 ∧ lo ≤ 10)) :
    Calls Tryz.prog 11 #[.agg #[.int .i64 f, .slice na ln cn, .slice oa lo co], .int .i64 z, .int .i64 c, .int .i64 k] w
      fun e w' => e = .returned (.bool true) ∧ Below w.heap.size w w' := by
  have hsh : decide (ln ≤ 8 ∧ lo ≤ 10) = false := decide_eq_false hq
  have BX := Lib.hid (fun (w1 : World) (hb : Below (w.alloc (.cells #[.int .i64 f, .slice na ln cn, .slice oa lo co] 25)).heap.size (w.alloc (.cells #[.int .i64 f, .slice na ln cn, .slice oa lo co] 25)) w1) => box7 hb)
  have HN : Hid (∀ w1, Below (w.alloc (.cells #[.int .i64 f, .slice na ln cn, .slice oa lo co] 25)).heap.size (w.alloc (.cells #[.int .i64 f, .slice na ln cn, .slice oa lo co] 25)) w1 → Hid (Tr7 w1 na oa ln lo N U)) := Lib.hid fun w1 h => Lib.hid (H.out.below (below_al h))
  have hb : Below (w.alloc (.cells #[.int .i64 f, .slice na ln cn, .slice oa lo co] 25)).heap.size (w.alloc (.cells #[.int .i64 f, .slice na ln cn, .slice oa lo co] 25)) (w.alloc (.cells #[.int .i64 f, .slice na ln cn, .slice oa lo co] 25)) := Below.refl _ _
  obtain ⟨x1, x2, x3, x4⟩ := BX.out _ hb
  clear H
  go_enter Tryz.func11, Tryz.ntmps11
  go_wp2_with (first
    | (go_at_call 14; refine (short_w _ _ _ _ _ _ _ _ hls hlt).mono ?_; rw [hsh]; rintro e wl ⟨rfl, hv⟩; (try replace hbs := hbs.trans (hv.mono hbs.size)); replace hb := hb.trans (hv.mono hb.size); clear x1 x2 x3 x4; obtain ⟨x1, x2, x3, x4⟩ := BX.out _ hb; (try (clear x5; have x5 := HCL.out _ hb)))
    | (go_at_call 15; refine (K.out _).mono ?_; rintro e wl ⟨rfl, hv⟩; (try replace hbs := hbs.trans (hv.mono hbs.size)); replace hb := hb.trans (hv.mono hb.size); clear x1 x2 x3 x4; obtain ⟨x1, x2, x3, x4⟩ := BX.out _ hb; (try (clear x5; have x5 := HCL.out _ hb))))
  all_goals
    go_ret
    exact ⟨rfl, below_al hb⟩

set_option maxRecDepth 100000 in
set_option maxHeartbeats 4000000 in
theorem lawnd_b (f : Int) (na oa : Option Addr) (ln cn lo co : Nat) (N : Nat → N2) (U : Nat → O3) (z c k : Int) (w : World) (hls : ln ≤ 1000000) (hlt : lo ≤ 1000000) (H : Hid (Tr7 w na oa ln lo N U)) (K : Hid KnownOk) (hq : ln ≤ 8 ∧ lo ≤ 10) (HR : Hid (¬ TreeP f ln lo N U)) :
    Calls Tryz.prog 11 #[.agg #[.int .i64 f, .slice na ln cn, .slice oa lo co], .int .i64 z, .int .i64 c, .int .i64 k] w
      fun e w' => e = .returned (.bool true) ∧ Below w.heap.size w w' := by
  have hsh : decide (ln ≤ 8 ∧ lo ≤ 10) = true := decide_eq_true hq
  have BX := Lib.hid (fun (w1 : World) (hb : Below (w.alloc (.cells #[.int .i64 f, .slice na ln cn, .slice oa lo co] 25)).heap.size (w.alloc (.cells #[.int .i64 f, .slice na ln cn, .slice oa lo co] 25)) w1) => box7 hb)
  have HN : Hid (∀ w1, Below (w.alloc (.cells #[.int .i64 f, .slice na ln cn, .slice oa lo co] 25)).heap.size (w.alloc (.cells #[.int .i64 f, .slice na ln cn, .slice oa lo co] 25)) w1 → Hid (Tr7 w1 na oa ln lo N U)) := Lib.hid fun w1 h => Lib.hid (H.out.below (below_al h))
  have hb : Below (w.alloc (.cells #[.int .i64 f, .slice na ln cn, .slice oa lo co] 25)).heap.size (w.alloc (.cells #[.int .i64 f, .slice na ln cn, .slice oa lo co] 25)) (w.alloc (.cells #[.int .i64 f, .slice na ln cn, .slice oa lo co] 25)) := Below.refl _ _
  obtain ⟨x1, x2, x3, x4⟩ := BX.out _ hb
  clear H
  go_enter Tryz.func11, Tryz.ntmps11
  go_wp2_with (first
    | (go_at_call 14; refine (short_w _ _ _ _ _ _ _ _ (by unfold maxLen; omega) (by unfold maxLen; omega)).mono ?_; rw [hsh]; rintro e wl ⟨rfl, hv⟩; (try replace hbs := hbs.trans (hv.mono hbs.size)); replace hb := hb.trans (hv.mono hb.size); clear x1 x2 x3 x4; obtain ⟨x1, x2, x3, x4⟩ := BX.out _ hb; (try (clear x5; have x5 := HCL.out _ hb)))
    | (go_at_call 46; refine (needs_bad1 f z c na oa ln cn lo co N U _ hls hlt (HN.out _ hb) HR).mono ?_; rintro e wl ⟨rfl, hv⟩; (try replace hbs := hbs.trans (hv.mono hbs.size)); replace hb := hb.trans (hv.mono hb.size); clear x1 x2 x3 x4; obtain ⟨x1, x2, x3, x4⟩ := BX.out _ hb; (try (clear x5; have x5 := HCL.out _ hb)))
    | (go_at_call 47; refine (keeps_bad f k na oa ln cn lo co N U _ hls hlt (HN.out _ hb) (Lib.hid (.inl HR.out))).mono ?_; rintro e wl ⟨rfl, hv⟩; (try replace hbs := hbs.trans (hv.mono hbs.size)); replace hb := hb.trans (hv.mono hb.size); clear x1 x2 x3 x4; obtain ⟨x1, x2, x3, x4⟩ := BX.out _ hb; (try (clear x5; have x5 := HCL.out _ hb)))
    | (go_at_call 18; refine (tree_w _ _ _ _ _ _ _ N U _ hls hlt (HN.out _ hb)).mono ?_; rintro e wl ⟨⟨rb, rfl, hrb⟩, hv⟩; obtain rfl : rb = false := (by cases rb <;> first | rfl | exact (HR.out (hrb.1 rfl)).elim); clear hrb; (try replace hbs := hbs.trans (hv.mono hbs.size)); replace hb := hb.trans (hv.mono hb.size); clear x1 x2 x3 x4; obtain ⟨x1, x2, x3, x4⟩ := BX.out _ hb; (try (clear x5; have x5 := HCL.out _ hb)))
    | (go_at_call 15; refine (K.out _).mono ?_; rintro e wl ⟨rfl, hv⟩; (try replace hbs := hbs.trans (hv.mono hbs.size)); replace hb := hb.trans (hv.mono hb.size); clear x1 x2 x3 x4; obtain ⟨x1, x2, x3, x4⟩ := BX.out _ hb; (try (clear x5; have x5 := HCL.out _ hb))))
  all_goals
    go_ret
    exact ⟨rfl, below_al hb⟩

set_option maxRecDepth 100000 in
set_option maxHeartbeats 4000000 in
theorem lawnd_c (f : Int) (na oa : Option Addr) (ln cn lo co : Nat) (N : Nat → N2) (U : Nat → O3) (z c k : Int) (w : World) (hls : ln ≤ 1000000) (hlt : lo ≤ 1000000) (H : Hid (Tr7 w na oa ln lo N U)) (K : Hid KnownOk) (hq : ln ≤ 8 ∧ lo ≤ 10) (HR : Hid (TreeP f ln lo N U)) (HK : Hid (fromB 0 3 k = false)) (HO : Hid (fromB 0 ((lo : Int) - 1) z = false)) :
    Calls Tryz.prog 11 #[.agg #[.int .i64 f, .slice na ln cn, .slice oa lo co], .int .i64 z, .int .i64 c, .int .i64 k] w
      fun e w' => e = .returned (.bool true) ∧ Below w.heap.size w w' := by
  have hsh : decide (ln ≤ 8 ∧ lo ≤ 10) = true := decide_eq_true hq
  have BX := Lib.hid (fun (w1 : World) (hb : Below (w.alloc (.cells #[.int .i64 f, .slice na ln cn, .slice oa lo co] 25)).heap.size (w.alloc (.cells #[.int .i64 f, .slice na ln cn, .slice oa lo co] 25)) w1) => box7 hb)
  have HN : Hid (∀ w1, Below (w.alloc (.cells #[.int .i64 f, .slice na ln cn, .slice oa lo co] 25)).heap.size (w.alloc (.cells #[.int .i64 f, .slice na ln cn, .slice oa lo co] 25)) w1 → Hid (Tr7 w1 na oa ln lo N U)) := Lib.hid fun w1 h => Lib.hid (H.out.below (below_al h))
  have hb : Below (w.alloc (.cells #[.int .i64 f, .slice na ln cn, .slice oa lo co] 25)).heap.size (w.alloc (.cells #[.int .i64 f, .slice na ln cn, .slice oa lo co] 25)) (w.alloc (.cells #[.int .i64 f, .slice na ln cn, .slice oa lo co] 25)) := Below.refl _ _
  obtain ⟨x1, x2, x3, x4⟩ := BX.out _ hb
  clear H
  go_enter Tryz.func11, Tryz.ntmps11
  go_wp2_with (first
    | (go_at_call 14; refine (short_w _ _ _ _ _ _ _ _ (by unfold maxLen; omega) (by unfold maxLen; omega)).mono ?_; rw [hsh]; rintro e wl ⟨rfl, hv⟩; (try replace hbs := hbs.trans (hv.mono hbs.size)); replace hb := hb.trans (hv.mono hb.size); clear x1 x2 x3 x4; obtain ⟨x1, x2, x3, x4⟩ := BX.out _ hb; (try (clear x5; have x5 := HCL.out _ hb)))
    | (go_at_call 46; refine (needs_bad2 f z c na oa ln cn lo co N U _ hls hlt (HN.out _ hb) HR HO).mono ?_; rintro e wl ⟨rfl, hv⟩; (try replace hbs := hbs.trans (hv.mono hbs.size)); replace hb := hb.trans (hv.mono hb.size); clear x1 x2 x3 x4; obtain ⟨x1, x2, x3, x4⟩ := BX.out _ hb; (try (clear x5; have x5 := HCL.out _ hb)))
    | (go_at_call 47; refine (keeps_bad f k na oa ln cn lo co N U _ hls hlt (HN.out _ hb) (Lib.hid (.inr HK.out))).mono ?_; rintro e wl ⟨rfl, hv⟩; (try replace hbs := hbs.trans (hv.mono hbs.size)); replace hb := hb.trans (hv.mono hb.size); clear x1 x2 x3 x4; obtain ⟨x1, x2, x3, x4⟩ := BX.out _ hb; (try (clear x5; have x5 := HCL.out _ hb)))
    | (go_at_call 48; refine (class_w k _).mono ?_; rw [HK.out]; rintro e wl ⟨rfl, rfl⟩)
    | (go_at_call 18; refine (tree_w _ _ _ _ _ _ _ N U _ hls hlt (HN.out _ hb)).mono ?_; rintro e wl ⟨⟨rb, rfl, hrb⟩, hv⟩; obtain rfl : rb = true := hrb.2 HR.out; clear hrb; (try replace hbs := hbs.trans (hv.mono hbs.size)); replace hb := hb.trans (hv.mono hb.size); clear x1 x2 x3 x4; obtain ⟨x1, x2, x3, x4⟩ := BX.out _ hb; (try (clear x5; have x5 := HCL.out _ hb)))
    | (go_at_call 29; refine (outlet_w _ _ _ _ _ _ _ _ _ hlt).mono ?_; rw [HO.out]; rintro e wl ⟨rfl, hv⟩; (try replace hbs := hbs.trans (hv.mono hbs.size)); replace hb := hb.trans (hv.mono hb.size); clear x1 x2 x3 x4; obtain ⟨x1, x2, x3, x4⟩ := BX.out _ hb; (try (clear x5; have x5 := HCL.out _ hb)))
    | (go_at_call 15; refine (K.out _).mono ?_; rintro e wl ⟨rfl, hv⟩; (try replace hbs := hbs.trans (hv.mono hbs.size)); replace hb := hb.trans (hv.mono hb.size); clear x1 x2 x3 x4; obtain ⟨x1, x2, x3, x4⟩ := BX.out _ hb; (try (clear x5; have x5 := HCL.out _ hb))))
  all_goals
    go_ret
    exact ⟨rfl, below_al hb⟩

set_option maxRecDepth 100000 in
set_option maxHeartbeats 4000000 in
theorem lawnd_d (f : Int) (na oa : Option Addr) (ln cn lo co : Nat) (N : Nat → N2) (U : Nat → O3) (z c k : Int) (w : World) (hls : ln ≤ 1000000) (hlt : lo ≤ 1000000) (H : Hid (Tr7 w na oa ln lo N U)) (K : Hid KnownOk) (hq : ln ≤ 8 ∧ lo ≤ 10) (HR : Hid (TreeP f ln lo N U)) (HK : Hid (fromB 0 3 k = true)) (X : Nat → Nat → Int) (HXS : Hid (XS lo N U X)) (HO : Hid (fromB 0 ((lo : Int) - 1) z = false)) :
    Calls Tryz.prog 11 #[.agg #[.int .i64 f, .slice na ln cn, .slice oa lo co], .int .i64 z, .int .i64 c, .int .i64 k] w
      fun e w' => e = .returned (.bool true) ∧ Below w.heap.size w w' := by
  have hsh : decide (ln ≤ 8 ∧ lo ≤ 10) = true := decide_eq_true hq
  have BX := Lib.hid (fun (w1 : World) (hb : Below (w.alloc (.cells #[.int .i64 f, .slice na ln cn, .slice oa lo co] 25)).heap.size (w.alloc (.cells #[.int .i64 f, .slice na ln cn, .slice oa lo co] 25)) w1) => box7 hb)
  have HN : Hid (∀ w1, Below (w.alloc (.cells #[.int .i64 f, .slice na ln cn, .slice oa lo co] 25)).heap.size (w.alloc (.cells #[.int .i64 f, .slice na ln cn, .slice oa lo co] 25)) w1 → Hid (Tr7 w1 na oa ln lo N U)) := Lib.hid fun w1 h => Lib.hid (H.out.below (below_al h))
  have hb : Below (w.alloc (.cells #[.int .i64 f, .slice na ln cn, .slice oa lo co] 25)).heap.size (w.alloc (.cells #[.int .i64 f, .slice na ln cn, .slice oa lo co] 25)) (w.alloc (.cells #[.int .i64 f, .slice na ln cn, .slice oa lo co] 25)) := Below.refl _ _
  obtain ⟨x1, x2, x3, x4⟩ := BX.out _ hb
  clear H
  go_enter Tryz.func11, Tryz.ntmps11
  go_wp2_with (first
    | (go_at_call 14; refine (short_w _ _ _ _ _ _ _ _ (by unfold maxLen; omega) (by unfold maxLen; omega)).mono ?_; rw [hsh]; rintro e wl ⟨rfl, hv⟩; (try replace hbs := hbs.trans (hv.mono hbs.size)); replace hb := hb.trans (hv.mono hb.size); clear x1 x2 x3 x4; obtain ⟨x1, x2, x3, x4⟩ := BX.out _ hb; (try (clear x5; have x5 := HCL.out _ hb)))
    | (go_at_call 46; refine (needs_bad2 f z c na oa ln cn lo co N U _ hls hlt (HN.out _ hb) HR HO).mono ?_; rintro e wl ⟨rfl, hv⟩; (try replace hbs := hbs.trans (hv.mono hbs.size)); replace hb := hb.trans (hv.mono hb.size); clear x1 x2 x3 x4; obtain ⟨x1, x2, x3, x4⟩ := BX.out _ hb; (try (clear x5; have x5 := HCL.out _ hb)))
    | (go_at_call 47; refine (keeps_w f k na oa ln cn lo co N U X _ HK.out HR (HN.out _ hb) HXS).mono ?_; rintro e wl ⟨⟨km, ke, rfl, hkr⟩, hv⟩; (try replace hbs := hbs.trans (hv.mono hbs.size)); replace hb := hb.trans (hv.mono hb.size); clear x1 x2 x3 x4; obtain ⟨x1, x2, x3, x4⟩ := BX.out _ hb; (try (clear x5; have x5 := HCL.out _ hb)); have HKR := Lib.hid hkr; clear hkr; rcases needR_re HKR.out with ⟨rfl, hkp⟩ | ⟨rfl, rfl⟩)
    | (go_at_call 48; refine (class_w k _).mono ?_; rw [HK.out]; rintro e wl ⟨rfl, rfl⟩)
    | (go_at_call 49; refine (rkeeps_w f k na oa ln cn lo co N U X _ HR (HN.out _ hb) HXS).mono ?_; rintro e wl ⟨⟨rk, rfl, hrk⟩, hv⟩; (try replace hbs := hbs.trans (hv.mono hbs.size)); replace hb := hb.trans (hv.mono hb.size); clear x1 x2 x3 x4; obtain ⟨x1, x2, x3, x4⟩ := BX.out _ hb; (try (clear x5; have x5 := HCL.out _ hb)); first | (obtain rfl := needR_ref0 HKR.out hrk; clear hrk) | (obtain rfl := needR_ref5 HKR.out hrk; clear hrk))
    | (go_at_call 18; refine (tree_w _ _ _ _ _ _ _ N U _ hls hlt (HN.out _ hb)).mono ?_; rintro e wl ⟨⟨rb, rfl, hrb⟩, hv⟩; obtain rfl : rb = true := hrb.2 HR.out; clear hrb; (try replace hbs := hbs.trans (hv.mono hbs.size)); replace hb := hb.trans (hv.mono hb.size); clear x1 x2 x3 x4; obtain ⟨x1, x2, x3, x4⟩ := BX.out _ hb; (try (clear x5; have x5 := HCL.out _ hb)))
    | (go_at_call 29; refine (outlet_w _ _ _ _ _ _ _ _ _ hlt).mono ?_; rw [HO.out]; rintro e wl ⟨rfl, hv⟩; (try replace hbs := hbs.trans (hv.mono hbs.size)); replace hb := hb.trans (hv.mono hb.size); clear x1 x2 x3 x4; obtain ⟨x1, x2, x3, x4⟩ := BX.out _ hb; (try (clear x5; have x5 := HCL.out _ hb)))
    | (go_at_call 15; refine (K.out _).mono ?_; rintro e wl ⟨rfl, hv⟩; (try replace hbs := hbs.trans (hv.mono hbs.size)); replace hb := hb.trans (hv.mono hb.size); clear x1 x2 x3 x4; obtain ⟨x1, x2, x3, x4⟩ := BX.out _ hb; (try (clear x5; have x5 := HCL.out _ hb))))
  all_goals
    go_ret
    exact ⟨rfl, below_al hb⟩

set_option maxRecDepth 100000 in
set_option maxHeartbeats 4000000 in
theorem lawnd_e (f : Int) (na oa : Option Addr) (ln cn lo co : Nat) (N : Nat → N2) (U : Nat → O3) (i : Nat) (c k : Int) (w : World) (hls : ln ≤ 1000000) (hlt : lo ≤ 1000000) (H : Hid (Tr7 w na oa ln lo N U)) (K : Hid KnownOk) (hi : i < lo) (hq : ln ≤ 8 ∧ lo ≤ 10) (HR : Hid (TreeP f ln lo N U)) (HK : Hid (fromB 0 3 k = false)) (hc1 : c < 1) (HC : Hid (fromB 1 (U i).c c = false))  :
    Calls Tryz.prog 11 #[.agg #[.int .i64 f, .slice na ln cn, .slice oa lo co], .int .i64 (i : Int), .int .i64 c, .int .i64 k] w
      fun e w' => e = .returned (.bool true) ∧ Below w.heap.size w w' := by
  have hsh : decide (ln ≤ 8 ∧ lo ≤ 10) = true := decide_eq_true hq
  have HCC : Hid (∀ j : Nat, (i : Int) = (j : Int) → fromB 1 (U j).c c = false) := Lib.hid fun j hj => by
    obtain rfl : i = j := by omega
    exact HC.out
  have hoz : fromB 0 ((lo : Int) - 1) (i : Int) = true := by simp only [fromB, decide_eq_true_eq]; omega
  have HO := Lib.hid hoz
  obtain ⟨C, P, hoa, hC, hn⟩ := H.out.ho.resolve_left (by omega)
  have HCL : Hid (∀ w2, Below (w.alloc (.cells #[.int .i64 f, .slice na ln cn, .slice oa lo co] 25)).heap.size (w.alloc (.cells #[.int .i64 f, .slice na ln cn, .slice oa lo co] 25)) w2 → w2.cell? ⟨C, P + i * 3 + 1, none⟩ = some (.int .i64 (U i).c)) := Lib.hid fun w2 h => ((below_al h).cell (p := ⟨C, P + i * 3 + 1, none⟩) hC).trans (hn i hi).2.1
  have n1 : (0 : Int) ≤ (i : Int) := by omega
  have n2 : (i : Int) < (lo : Int) := by omega
  subst hoa
  clear hn hoz
  have BX := Lib.hid (fun (w1 : World) (hb : Below (w.alloc (.cells #[.int .i64 f, .slice na ln cn, .slice (some ⟨C, P, none⟩) lo co] 25)).heap.size (w.alloc (.cells #[.int .i64 f, .slice na ln cn, .slice (some ⟨C, P, none⟩) lo co] 25)) w1) => box7 hb)
  have HN : Hid (∀ w1, Below (w.alloc (.cells #[.int .i64 f, .slice na ln cn, .slice (some ⟨C, P, none⟩) lo co] 25)).heap.size (w.alloc (.cells #[.int .i64 f, .slice na ln cn, .slice (some ⟨C, P, none⟩) lo co] 25)) w1 → Hid (Tr7 w1 na (some ⟨C, P, none⟩) ln lo N U)) := Lib.hid fun w1 h => Lib.hid (H.out.below (below_al h))
  have hb : Below (w.alloc (.cells #[.int .i64 f, .slice na ln cn, .slice (some ⟨C, P, none⟩) lo co] 25)).heap.size (w.alloc (.cells #[.int .i64 f, .slice na ln cn, .slice (some ⟨C, P, none⟩) lo co] 25)) (w.alloc (.cells #[.int .i64 f, .slice na ln cn, .slice (some ⟨C, P, none⟩) lo co] 25)) := Below.refl _ _
  obtain ⟨x1, x2, x3, x4⟩ := BX.out _ hb
  clear H
  have x5 := HCL.out _ hb
  go_enter Tryz.func11, Tryz.ntmps11
  go_wp2_with (first
    | (go_at_call 14; refine (short_w _ _ _ _ _ _ _ _ (by unfold maxLen; omega) (by unfold maxLen; omega)).mono ?_; rw [hsh]; rintro e wl ⟨rfl, hv⟩; (try replace hbs := hbs.trans (hv.mono hbs.size)); replace hb := hb.trans (hv.mono hb.size); clear x1 x2 x3 x4; obtain ⟨x1, x2, x3, x4⟩ := BX.out _ hb; (try (clear x5; have x5 := HCL.out _ hb)))
    | (go_at_call 46; refine (needs_bad3 f (i : Int) c na _ ln cn lo co N U _ hls hlt (HN.out _ hb) HR HO.out HCC).mono ?_; rintro e wl ⟨rfl, hv⟩; (try replace hbs := hbs.trans (hv.mono hbs.size)); replace hb := hb.trans (hv.mono hb.size); clear x1 x2 x3 x4; obtain ⟨x1, x2, x3, x4⟩ := BX.out _ hb; (try (clear x5; have x5 := HCL.out _ hb)))
    | (go_at_call 47; refine (keeps_bad f k na (some ⟨C, P, none⟩) ln cn lo co N U _ hls hlt (HN.out _ hb) (Lib.hid (.inr HK.out))).mono ?_; rintro e wl ⟨rfl, hv⟩; (try replace hbs := hbs.trans (hv.mono hbs.size)); replace hb := hb.trans (hv.mono hb.size); clear x1 x2 x3 x4; obtain ⟨x1, x2, x3, x4⟩ := BX.out _ hb; (try (clear x5; have x5 := HCL.out _ hb)))
    | (go_at_call 48; refine (class_w k _).mono ?_; rw [HK.out]; rintro e wl ⟨rfl, rfl⟩)
    | (go_at_call 18; refine (tree_w _ _ _ _ _ _ _ N U _ hls hlt (HN.out _ hb)).mono ?_; rintro e wl ⟨⟨rb, rfl, hrb⟩, hv⟩; obtain rfl : rb = true := hrb.2 HR.out; clear hrb; (try replace hbs := hbs.trans (hv.mono hbs.size)); replace hb := hb.trans (hv.mono hb.size); clear x1 x2 x3 x4; obtain ⟨x1, x2, x3, x4⟩ := BX.out _ hb; (try (clear x5; have x5 := HCL.out _ hb)))
    | (go_at_call 29; refine (outlet_w _ _ _ _ _ _ _ _ _ hlt).mono ?_; rw [HO.out]; rintro e wl ⟨rfl, hv⟩; (try replace hbs := hbs.trans (hv.mono hbs.size)); replace hb := hb.trans (hv.mono hb.size); clear x1 x2 x3 x4; obtain ⟨x1, x2, x3, x4⟩ := BX.out _ hb; (try (clear x5; have x5 := HCL.out _ hb)))
    | (go_at_call 15; refine (K.out _).mono ?_; rintro e wl ⟨rfl, hv⟩; (try replace hbs := hbs.trans (hv.mono hbs.size)); replace hb := hb.trans (hv.mono hb.size); clear x1 x2 x3 x4; obtain ⟨x1, x2, x3, x4⟩ := BX.out _ hb; (try (clear x5; have x5 := HCL.out _ hb))))
  all_goals
    go_ret
    exact ⟨rfl, below_al hb⟩

set_option maxRecDepth 100000 in
set_option maxHeartbeats 4000000 in
theorem lawnd_f (f : Int) (na oa : Option Addr) (ln cn lo co : Nat) (N : Nat → N2) (U : Nat → O3) (i : Nat) (c k : Int) (w : World) (hls : ln ≤ 1000000) (hlt : lo ≤ 1000000) (H : Hid (Tr7 w na oa ln lo N U)) (K : Hid KnownOk) (hi : i < lo) (hq : ln ≤ 8 ∧ lo ≤ 10) (HR : Hid (TreeP f ln lo N U)) (HK : Hid (fromB 0 3 k = true)) (X : Nat → Nat → Int) (HXS : Hid (XS lo N U X)) (hc1 : c < 1) (HC : Hid (fromB 1 (U i).c c = false))  :
    Calls Tryz.prog 11 #[.agg #[.int .i64 f, .slice na ln cn, .slice oa lo co], .int .i64 (i : Int), .int .i64 c, .int .i64 k] w
      fun e w' => e = .returned (.bool true) ∧ Below w.heap.size w w' := by
  have hsh : decide (ln ≤ 8 ∧ lo ≤ 10) = true := decide_eq_true hq
  have HCC : Hid (∀ j : Nat, (i : Int) = (j : Int) → fromB 1 (U j).c c = false) := Lib.hid fun j hj => by
    obtain rfl : i = j := by omega
    exact HC.out
  have hoz : fromB 0 ((lo : Int) - 1) (i : Int) = true := by simp only [fromB, decide_eq_true_eq]; omega
  have HO := Lib.hid hoz
  obtain ⟨C, P, hoa, hC, hn⟩ := H.out.ho.resolve_left (by omega)
  have HCL : Hid (∀ w2, Below (w.alloc (.cells #[.int .i64 f, .slice na ln cn, .slice oa lo co] 25)).heap.size (w.alloc (.cells #[.int .i64 f, .slice na ln cn, .slice oa lo co] 25)) w2 → w2.cell? ⟨C, P + i * 3 + 1, none⟩ = some (.int .i64 (U i).c)) := Lib.hid fun w2 h => ((below_al h).cell (p := ⟨C, P + i * 3 + 1, none⟩) hC).trans (hn i hi).2.1
  have n1 : (0 : Int) ≤ (i : Int) := by omega
  have n2 : (i : Int) < (lo : Int) := by omega
  subst hoa
  clear hn hoz
  have BX := Lib.hid (fun (w1 : World) (hb : Below (w.alloc (.cells #[.int .i64 f, .slice na ln cn, .slice (some ⟨C, P, none⟩) lo co] 25)).heap.size (w.alloc (.cells #[.int .i64 f, .slice na ln cn, .slice (some ⟨C, P, none⟩) lo co] 25)) w1) => box7 hb)
  have HN : Hid (∀ w1, Below (w.alloc (.cells #[.int .i64 f, .slice na ln cn, .slice (some ⟨C, P, none⟩) lo co] 25)).heap.size (w.alloc (.cells #[.int .i64 f, .slice na ln cn, .slice (some ⟨C, P, none⟩) lo co] 25)) w1 → Hid (Tr7 w1 na (some ⟨C, P, none⟩) ln lo N U)) := Lib.hid fun w1 h => Lib.hid (H.out.below (below_al h))
  have hb : Below (w.alloc (.cells #[.int .i64 f, .slice na ln cn, .slice (some ⟨C, P, none⟩) lo co] 25)).heap.size (w.alloc (.cells #[.int .i64 f, .slice na ln cn, .slice (some ⟨C, P, none⟩) lo co] 25)) (w.alloc (.cells #[.int .i64 f, .slice na ln cn, .slice (some ⟨C, P, none⟩) lo co] 25)) := Below.refl _ _
  obtain ⟨x1, x2, x3, x4⟩ := BX.out _ hb
  clear H
  have x5 := HCL.out _ hb
  go_enter Tryz.func11, Tryz.ntmps11
  go_wp2_with (first
    | (go_at_call 14; refine (short_w _ _ _ _ _ _ _ _ (by unfold maxLen; omega) (by unfold maxLen; omega)).mono ?_; rw [hsh]; rintro e wl ⟨rfl, hv⟩; (try replace hbs := hbs.trans (hv.mono hbs.size)); replace hb := hb.trans (hv.mono hb.size); clear x1 x2 x3 x4; obtain ⟨x1, x2, x3, x4⟩ := BX.out _ hb; (try (clear x5; have x5 := HCL.out _ hb)))
    | (go_at_call 46; refine (needs_bad3 f (i : Int) c na _ ln cn lo co N U _ hls hlt (HN.out _ hb) HR HO.out HCC).mono ?_; rintro e wl ⟨rfl, hv⟩; (try replace hbs := hbs.trans (hv.mono hbs.size)); replace hb := hb.trans (hv.mono hb.size); clear x1 x2 x3 x4; obtain ⟨x1, x2, x3, x4⟩ := BX.out _ hb; (try (clear x5; have x5 := HCL.out _ hb)))
    | (go_at_call 47; refine (keeps_w f k na (some ⟨C, P, none⟩) ln cn lo co N U X _ HK.out HR (HN.out _ hb) HXS).mono ?_; rintro e wl ⟨⟨km, ke, rfl, hkr⟩, hv⟩; (try replace hbs := hbs.trans (hv.mono hbs.size)); replace hb := hb.trans (hv.mono hb.size); clear x1 x2 x3 x4; obtain ⟨x1, x2, x3, x4⟩ := BX.out _ hb; (try (clear x5; have x5 := HCL.out _ hb)); have HKR := Lib.hid hkr; clear hkr; rcases needR_re HKR.out with ⟨rfl, hkp⟩ | ⟨rfl, rfl⟩)
    | (go_at_call 48; refine (class_w k _).mono ?_; rw [HK.out]; rintro e wl ⟨rfl, rfl⟩)
    | (go_at_call 49; refine (rkeeps_w f k na (some ⟨C, P, none⟩) ln cn lo co N U X _ HR (HN.out _ hb) HXS).mono ?_; rintro e wl ⟨⟨rk, rfl, hrk⟩, hv⟩; (try replace hbs := hbs.trans (hv.mono hbs.size)); replace hb := hb.trans (hv.mono hb.size); clear x1 x2 x3 x4; obtain ⟨x1, x2, x3, x4⟩ := BX.out _ hb; (try (clear x5; have x5 := HCL.out _ hb)); first | (obtain rfl := needR_ref0 HKR.out hrk; clear hrk) | (obtain rfl := needR_ref5 HKR.out hrk; clear hrk))
    | (go_at_call 18; refine (tree_w _ _ _ _ _ _ _ N U _ hls hlt (HN.out _ hb)).mono ?_; rintro e wl ⟨⟨rb, rfl, hrb⟩, hv⟩; obtain rfl : rb = true := hrb.2 HR.out; clear hrb; (try replace hbs := hbs.trans (hv.mono hbs.size)); replace hb := hb.trans (hv.mono hb.size); clear x1 x2 x3 x4; obtain ⟨x1, x2, x3, x4⟩ := BX.out _ hb; (try (clear x5; have x5 := HCL.out _ hb)))
    | (go_at_call 29; refine (outlet_w _ _ _ _ _ _ _ _ _ hlt).mono ?_; rw [HO.out]; rintro e wl ⟨rfl, hv⟩; (try replace hbs := hbs.trans (hv.mono hbs.size)); replace hb := hb.trans (hv.mono hb.size); clear x1 x2 x3 x4; obtain ⟨x1, x2, x3, x4⟩ := BX.out _ hb; (try (clear x5; have x5 := HCL.out _ hb)))
    | (go_at_call 15; refine (K.out _).mono ?_; rintro e wl ⟨rfl, hv⟩; (try replace hbs := hbs.trans (hv.mono hbs.size)); replace hb := hb.trans (hv.mono hb.size); clear x1 x2 x3 x4; obtain ⟨x1, x2, x3, x4⟩ := BX.out _ hb; (try (clear x5; have x5 := HCL.out _ hb))))
  all_goals
    go_ret
    exact ⟨rfl, below_al hb⟩

set_option maxRecDepth 100000 in
set_option maxHeartbeats 4000000 in
theorem lawnd_g (f : Int) (na oa : Option Addr) (ln cn lo co : Nat) (N : Nat → N2) (U : Nat → O3) (i : Nat) (c k : Int) (w : World) (hls : ln ≤ 1000000) (hlt : lo ≤ 1000000) (H : Hid (Tr7 w na oa ln lo N U)) (K : Hid KnownOk) (hi : i < lo) (hq : ln ≤ 8 ∧ lo ≤ 10) (HR : Hid (TreeP f ln lo N U)) (HK : Hid (fromB 0 3 k = false)) (hc1 : ¬ c < 1) (hc2 : (U i).c < c) (HC : Hid (fromB 1 (U i).c c = false))  :
    Calls Tryz.prog 11 #[.agg #[.int .i64 f, .slice na ln cn, .slice oa lo co], .int .i64 (i : Int), .int .i64 c, .int .i64 k] w
      fun e w' => e = .returned (.bool true) ∧ Below w.heap.size w w' := by
  have hsh : decide (ln ≤ 8 ∧ lo ≤ 10) = true := decide_eq_true hq
  have HCC : Hid (∀ j : Nat, (i : Int) = (j : Int) → fromB 1 (U j).c c = false) := Lib.hid fun j hj => by
    obtain rfl : i = j := by omega
    exact HC.out
  have hoz : fromB 0 ((lo : Int) - 1) (i : Int) = true := by simp only [fromB, decide_eq_true_eq]; omega
  have HO := Lib.hid hoz
  obtain ⟨C, P, hoa, hC, hn⟩ := H.out.ho.resolve_left (by omega)
  have HCL : Hid (∀ w2, Below (w.alloc (.cells #[.int .i64 f, .slice na ln cn, .slice oa lo co] 25)).heap.size (w.alloc (.cells #[.int .i64 f, .slice na ln cn, .slice oa lo co] 25)) w2 → w2.cell? ⟨C, P + i * 3 + 1, none⟩ = some (.int .i64 (U i).c)) := Lib.hid fun w2 h => ((below_al h).cell (p := ⟨C, P + i * 3 + 1, none⟩) hC).trans (hn i hi).2.1
  have n1 : (0 : Int) ≤ (i : Int) := by omega
  have n2 : (i : Int) < (lo : Int) := by omega
  subst hoa
  clear hn hoz
  have BX := Lib.hid (fun (w1 : World) (hb : Below (w.alloc (.cells #[.int .i64 f, .slice na ln cn, .slice (some ⟨C, P, none⟩) lo co] 25)).heap.size (w.alloc (.cells #[.int .i64 f, .slice na ln cn, .slice (some ⟨C, P, none⟩) lo co] 25)) w1) => box7 hb)
  have HN : Hid (∀ w1, Below (w.alloc (.cells #[.int .i64 f, .slice na ln cn, .slice (some ⟨C, P, none⟩) lo co] 25)).heap.size (w.alloc (.cells #[.int .i64 f, .slice na ln cn, .slice (some ⟨C, P, none⟩) lo co] 25)) w1 → Hid (Tr7 w1 na (some ⟨C, P, none⟩) ln lo N U)) := Lib.hid fun w1 h => Lib.hid (H.out.below (below_al h))
  have hb : Below (w.alloc (.cells #[.int .i64 f, .slice na ln cn, .slice (some ⟨C, P, none⟩) lo co] 25)).heap.size (w.alloc (.cells #[.int .i64 f, .slice na ln cn, .slice (some ⟨C, P, none⟩) lo co] 25)) (w.alloc (.cells #[.int .i64 f, .slice na ln cn, .slice (some ⟨C, P, none⟩) lo co] 25)) := Below.refl _ _
  obtain ⟨x1, x2, x3, x4⟩ := BX.out _ hb
  clear H
  have x5 := HCL.out _ hb
  go_enter Tryz.func11, Tryz.ntmps11
  go_wp2_with (first
    | (go_at_call 14; refine (short_w _ _ _ _ _ _ _ _ (by unfold maxLen; omega) (by unfold maxLen; omega)).mono ?_; rw [hsh]; rintro e wl ⟨rfl, hv⟩; (try replace hbs := hbs.trans (hv.mono hbs.size)); replace hb := hb.trans (hv.mono hb.size); clear x1 x2 x3 x4; obtain ⟨x1, x2, x3, x4⟩ := BX.out _ hb; (try (clear x5; have x5 := HCL.out _ hb)))
    | (go_at_call 46; refine (needs_bad3 f (i : Int) c na _ ln cn lo co N U _ hls hlt (HN.out _ hb) HR HO.out HCC).mono ?_; rintro e wl ⟨rfl, hv⟩; (try replace hbs := hbs.trans (hv.mono hbs.size)); replace hb := hb.trans (hv.mono hb.size); clear x1 x2 x3 x4; obtain ⟨x1, x2, x3, x4⟩ := BX.out _ hb; (try (clear x5; have x5 := HCL.out _ hb)))
    | (go_at_call 47; refine (keeps_bad f k na (some ⟨C, P, none⟩) ln cn lo co N U _ hls hlt (HN.out _ hb) (Lib.hid (.inr HK.out))).mono ?_; rintro e wl ⟨rfl, hv⟩; (try replace hbs := hbs.trans (hv.mono hbs.size)); replace hb := hb.trans (hv.mono hb.size); clear x1 x2 x3 x4; obtain ⟨x1, x2, x3, x4⟩ := BX.out _ hb; (try (clear x5; have x5 := HCL.out _ hb)))
    | (go_at_call 48; refine (class_w k _).mono ?_; rw [HK.out]; rintro e wl ⟨rfl, rfl⟩)
    | (go_at_call 18; refine (tree_w _ _ _ _ _ _ _ N U _ hls hlt (HN.out _ hb)).mono ?_; rintro e wl ⟨⟨rb, rfl, hrb⟩, hv⟩; obtain rfl : rb = true := hrb.2 HR.out; clear hrb; (try replace hbs := hbs.trans (hv.mono hbs.size)); replace hb := hb.trans (hv.mono hb.size); clear x1 x2 x3 x4; obtain ⟨x1, x2, x3, x4⟩ := BX.out _ hb; (try (clear x5; have x5 := HCL.out _ hb)))
    | (go_at_call 29; refine (outlet_w _ _ _ _ _ _ _ _ _ hlt).mono ?_; rw [HO.out]; rintro e wl ⟨rfl, hv⟩; (try replace hbs := hbs.trans (hv.mono hbs.size)); replace hb := hb.trans (hv.mono hb.size); clear x1 x2 x3 x4; obtain ⟨x1, x2, x3, x4⟩ := BX.out _ hb; (try (clear x5; have x5 := HCL.out _ hb)))
    | (go_at_call 15; refine (K.out _).mono ?_; rintro e wl ⟨rfl, hv⟩; (try replace hbs := hbs.trans (hv.mono hbs.size)); replace hb := hb.trans (hv.mono hb.size); clear x1 x2 x3 x4; obtain ⟨x1, x2, x3, x4⟩ := BX.out _ hb; (try (clear x5; have x5 := HCL.out _ hb))))
  all_goals
    go_ret
    exact ⟨rfl, below_al hb⟩

set_option maxRecDepth 100000 in
set_option maxHeartbeats 4000000 in
theorem lawnd_h (f : Int) (na oa : Option Addr) (ln cn lo co : Nat) (N : Nat → N2) (U : Nat → O3) (i : Nat) (c k : Int) (w : World) (hls : ln ≤ 1000000) (hlt : lo ≤ 1000000) (H : Hid (Tr7 w na oa ln lo N U)) (K : Hid KnownOk) (hi : i < lo) (hq : ln ≤ 8 ∧ lo ≤ 10) (HR : Hid (TreeP f ln lo N U)) (HK : Hid (fromB 0 3 k = true)) (X : Nat → Nat → Int) (HXS : Hid (XS lo N U X)) (hc1 : ¬ c < 1) (hc2 : (U i).c < c) (HC : Hid (fromB 1 (U i).c c = false))  :
    Calls Tryz.prog 11 #[.agg #[.int .i64 f, .slice na ln cn, .slice oa lo co], .int .i64 (i : Int), .int .i64 c, .int .i64 k] w
      fun e w' => e = .returned (.bool true) ∧ Below w.heap.size w w' := by
  have hsh : decide (ln ≤ 8 ∧ lo ≤ 10) = true := decide_eq_true hq
  have HCC : Hid (∀ j : Nat, (i : Int) = (j : Int) → fromB 1 (U j).c c = false) := Lib.hid fun j hj => by
    obtain rfl : i = j := by omega
    exact HC.out
  have hoz : fromB 0 ((lo : Int) - 1) (i : Int) = true := by simp only [fromB, decide_eq_true_eq]; omega
  have HO := Lib.hid hoz
  obtain ⟨C, P, hoa, hC, hn⟩ := H.out.ho.resolve_left (by omega)
  have HCL : Hid (∀ w2, Below (w.alloc (.cells #[.int .i64 f, .slice na ln cn, .slice oa lo co] 25)).heap.size (w.alloc (.cells #[.int .i64 f, .slice na ln cn, .slice oa lo co] 25)) w2 → w2.cell? ⟨C, P + i * 3 + 1, none⟩ = some (.int .i64 (U i).c)) := Lib.hid fun w2 h => ((below_al h).cell (p := ⟨C, P + i * 3 + 1, none⟩) hC).trans (hn i hi).2.1
  have n1 : (0 : Int) ≤ (i : Int) := by omega
  have n2 : (i : Int) < (lo : Int) := by omega
  subst hoa
  clear hn hoz
  have BX := Lib.hid (fun (w1 : World) (hb : Below (w.alloc (.cells #[.int .i64 f, .slice na ln cn, .slice (some ⟨C, P, none⟩) lo co] 25)).heap.size (w.alloc (.cells #[.int .i64 f, .slice na ln cn, .slice (some ⟨C, P, none⟩) lo co] 25)) w1) => box7 hb)
  have HN : Hid (∀ w1, Below (w.alloc (.cells #[.int .i64 f, .slice na ln cn, .slice (some ⟨C, P, none⟩) lo co] 25)).heap.size (w.alloc (.cells #[.int .i64 f, .slice na ln cn, .slice (some ⟨C, P, none⟩) lo co] 25)) w1 → Hid (Tr7 w1 na (some ⟨C, P, none⟩) ln lo N U)) := Lib.hid fun w1 h => Lib.hid (H.out.below (below_al h))
  have hb : Below (w.alloc (.cells #[.int .i64 f, .slice na ln cn, .slice (some ⟨C, P, none⟩) lo co] 25)).heap.size (w.alloc (.cells #[.int .i64 f, .slice na ln cn, .slice (some ⟨C, P, none⟩) lo co] 25)) (w.alloc (.cells #[.int .i64 f, .slice na ln cn, .slice (some ⟨C, P, none⟩) lo co] 25)) := Below.refl _ _
  obtain ⟨x1, x2, x3, x4⟩ := BX.out _ hb
  clear H
  have x5 := HCL.out _ hb
  go_enter Tryz.func11, Tryz.ntmps11
  go_wp2_with (first
    | (go_at_call 14; refine (short_w _ _ _ _ _ _ _ _ (by unfold maxLen; omega) (by unfold maxLen; omega)).mono ?_; rw [hsh]; rintro e wl ⟨rfl, hv⟩; (try replace hbs := hbs.trans (hv.mono hbs.size)); replace hb := hb.trans (hv.mono hb.size); clear x1 x2 x3 x4; obtain ⟨x1, x2, x3, x4⟩ := BX.out _ hb; (try (clear x5; have x5 := HCL.out _ hb)))
    | (go_at_call 46; refine (needs_bad3 f (i : Int) c na _ ln cn lo co N U _ hls hlt (HN.out _ hb) HR HO.out HCC).mono ?_; rintro e wl ⟨rfl, hv⟩; (try replace hbs := hbs.trans (hv.mono hbs.size)); replace hb := hb.trans (hv.mono hb.size); clear x1 x2 x3 x4; obtain ⟨x1, x2, x3, x4⟩ := BX.out _ hb; (try (clear x5; have x5 := HCL.out _ hb)))
    | (go_at_call 47; refine (keeps_w f k na (some ⟨C, P, none⟩) ln cn lo co N U X _ HK.out HR (HN.out _ hb) HXS).mono ?_; rintro e wl ⟨⟨km, ke, rfl, hkr⟩, hv⟩; (try replace hbs := hbs.trans (hv.mono hbs.size)); replace hb := hb.trans (hv.mono hb.size); clear x1 x2 x3 x4; obtain ⟨x1, x2, x3, x4⟩ := BX.out _ hb; (try (clear x5; have x5 := HCL.out _ hb)); have HKR := Lib.hid hkr; clear hkr; rcases needR_re HKR.out with ⟨rfl, hkp⟩ | ⟨rfl, rfl⟩)
    | (go_at_call 48; refine (class_w k _).mono ?_; rw [HK.out]; rintro e wl ⟨rfl, rfl⟩)
    | (go_at_call 49; refine (rkeeps_w f k na (some ⟨C, P, none⟩) ln cn lo co N U X _ HR (HN.out _ hb) HXS).mono ?_; rintro e wl ⟨⟨rk, rfl, hrk⟩, hv⟩; (try replace hbs := hbs.trans (hv.mono hbs.size)); replace hb := hb.trans (hv.mono hb.size); clear x1 x2 x3 x4; obtain ⟨x1, x2, x3, x4⟩ := BX.out _ hb; (try (clear x5; have x5 := HCL.out _ hb)); first | (obtain rfl := needR_ref0 HKR.out hrk; clear hrk) | (obtain rfl := needR_ref5 HKR.out hrk; clear hrk))
    | (go_at_call 18; refine (tree_w _ _ _ _ _ _ _ N U _ hls hlt (HN.out _ hb)).mono ?_; rintro e wl ⟨⟨rb, rfl, hrb⟩, hv⟩; obtain rfl : rb = true := hrb.2 HR.out; clear hrb; (try replace hbs := hbs.trans (hv.mono hbs.size)); replace hb := hb.trans (hv.mono hb.size); clear x1 x2 x3 x4; obtain ⟨x1, x2, x3, x4⟩ := BX.out _ hb; (try (clear x5; have x5 := HCL.out _ hb)))
    | (go_at_call 29; refine (outlet_w _ _ _ _ _ _ _ _ _ hlt).mono ?_; rw [HO.out]; rintro e wl ⟨rfl, hv⟩; (try replace hbs := hbs.trans (hv.mono hbs.size)); replace hb := hb.trans (hv.mono hb.size); clear x1 x2 x3 x4; obtain ⟨x1, x2, x3, x4⟩ := BX.out _ hb; (try (clear x5; have x5 := HCL.out _ hb)))
    | (go_at_call 15; refine (K.out _).mono ?_; rintro e wl ⟨rfl, hv⟩; (try replace hbs := hbs.trans (hv.mono hbs.size)); replace hb := hb.trans (hv.mono hb.size); clear x1 x2 x3 x4; obtain ⟨x1, x2, x3, x4⟩ := BX.out _ hb; (try (clear x5; have x5 := HCL.out _ hb))))
  all_goals
    go_ret
    exact ⟨rfl, below_al hb⟩

set_option maxRecDepth 100000 in
set_option maxHeartbeats 4000000 in
theorem lawnd_i (f : Int) (na oa : Option Addr) (ln cn lo co : Nat) (N : Nat → N2) (U : Nat → O3) (i : Nat) (c k : Int) (w : World) (hls : ln ≤ 1000000) (hlt : lo ≤ 1000000) (H : Hid (Tr7 w na oa ln lo N U)) (K : Hid KnownOk) (hi : i < lo) (hq : ln ≤ 8 ∧ lo ≤ 10) (HR : Hid (TreeP f ln lo N U)) (HK : Hid (fromB 0 3 k = false)) (X : Nat → Nat → Int) (HXS : Hid (XS lo N U X)) (hc1 : ¬ c < 1) (hc2 : ¬ (U i).c < c) (HC : Hid (fromB 1 (U i).c c = true))  :
    Calls Tryz.prog 11 #[.agg #[.int .i64 f, .slice na ln cn, .slice oa lo co], .int .i64 (i : Int), .int .i64 c, .int .i64 k] w
      fun e w' => e = .returned (.bool true) ∧ Below w.heap.size w w' := by
  have hsh : decide (ln ≤ 8 ∧ lo ≤ 10) = true := decide_eq_true hq
  have hoz : fromB 0 ((lo : Int) - 1) (i : Int) = true := by simp only [fromB, decide_eq_true_eq]; omega
  have HO := Lib.hid hoz
  obtain ⟨C, P, hoa, hC, hn⟩ := H.out.ho.resolve_left (by omega)
  have HCL : Hid (∀ w2, Below (w.alloc (.cells #[.int .i64 f, .slice na ln cn, .slice oa lo co] 25)).heap.size (w.alloc (.cells #[.int .i64 f, .slice na ln cn, .slice oa lo co] 25)) w2 → w2.cell? ⟨C, P + i * 3 + 1, none⟩ = some (.int .i64 (U i).c)) := Lib.hid fun w2 h => ((below_al h).cell (p := ⟨C, P + i * 3 + 1, none⟩) hC).trans (hn i hi).2.1
  have n1 : (0 : Int) ≤ (i : Int) := by omega
  have n2 : (i : Int) < (lo : Int) := by omega
  subst hoa
  clear hn hoz
  have BX := Lib.hid (fun (w1 : World) (hb : Below (w.alloc (.cells #[.int .i64 f, .slice na ln cn, .slice (some ⟨C, P, none⟩) lo co] 25)).heap.size (w.alloc (.cells #[.int .i64 f, .slice na ln cn, .slice (some ⟨C, P, none⟩) lo co] 25)) w1) => box7 hb)
  have HN : Hid (∀ w1, Below (w.alloc (.cells #[.int .i64 f, .slice na ln cn, .slice (some ⟨C, P, none⟩) lo co] 25)).heap.size (w.alloc (.cells #[.int .i64 f, .slice na ln cn, .slice (some ⟨C, P, none⟩) lo co] 25)) w1 → Hid (Tr7 w1 na (some ⟨C, P, none⟩) ln lo N U)) := Lib.hid fun w1 h => Lib.hid (H.out.below (below_al h))
  have hb : Below (w.alloc (.cells #[.int .i64 f, .slice na ln cn, .slice (some ⟨C, P, none⟩) lo co] 25)).heap.size (w.alloc (.cells #[.int .i64 f, .slice na ln cn, .slice (some ⟨C, P, none⟩) lo co] 25)) (w.alloc (.cells #[.int .i64 f, .slice na ln cn, .slice (some ⟨C, P, none⟩) lo co] 25)) := Below.refl _ _
  obtain ⟨x1, x2, x3, x4⟩ := BX.out _ hb
  clear H
  have x5 := HCL.out _ hb
  go_enter Tryz.func11, Tryz.ntmps11
  go_wp2_with (first
    | (go_at_call 14; refine (short_w _ _ _ _ _ _ _ _ (by unfold maxLen; omega) (by unfold maxLen; omega)).mono ?_; rw [hsh]; rintro e wl ⟨rfl, hv⟩; (try replace hbs := hbs.trans (hv.mono hbs.size)); replace hb := hb.trans (hv.mono hb.size); clear x1 x2 x3 x4; obtain ⟨x1, x2, x3, x4⟩ := BX.out _ hb; (try (clear x5; have x5 := HCL.out _ hb)))
    | (go_at_call 46; refine (needs_w f c na _ ln cn lo co i N U X _ hi HC.out HR (HN.out _ hb) HXS).mono ?_; rintro e wl ⟨⟨nm, ne, rfl, hnr⟩, hv⟩; (try replace hbs := hbs.trans (hv.mono hbs.size)); replace hb := hb.trans (hv.mono hb.size); clear x1 x2 x3 x4; obtain ⟨x1, x2, x3, x4⟩ := BX.out _ hb; (try (clear x5; have x5 := HCL.out _ hb)); have HNR := Lib.hid hnr; clear hnr; rcases needR_re HNR.out with ⟨rfl, hnp⟩ | ⟨rfl, rfl⟩)
    | (go_at_call 47; refine (keeps_bad f k na (some ⟨C, P, none⟩) ln cn lo co N U _ hls hlt (HN.out _ hb) (Lib.hid (.inr HK.out))).mono ?_; rintro e wl ⟨rfl, hv⟩; (try replace hbs := hbs.trans (hv.mono hbs.size)); replace hb := hb.trans (hv.mono hb.size); clear x1 x2 x3 x4; obtain ⟨x1, x2, x3, x4⟩ := BX.out _ hb; (try (clear x5; have x5 := HCL.out _ hb)))
    | (go_at_call 48; refine (class_w k _).mono ?_; rw [HK.out]; rintro e wl ⟨rfl, rfl⟩)
    | (go_at_call 18; refine (tree_w _ _ _ _ _ _ _ N U _ hls hlt (HN.out _ hb)).mono ?_; rintro e wl ⟨⟨rb, rfl, hrb⟩, hv⟩; obtain rfl : rb = true := hrb.2 HR.out; clear hrb; (try replace hbs := hbs.trans (hv.mono hbs.size)); replace hb := hb.trans (hv.mono hb.size); clear x1 x2 x3 x4; obtain ⟨x1, x2, x3, x4⟩ := BX.out _ hb; (try (clear x5; have x5 := HCL.out _ hb)))
    | (go_at_call 29; refine (outlet_w _ _ _ _ _ _ _ _ _ hlt).mono ?_; rw [HO.out]; rintro e wl ⟨rfl, hv⟩; (try replace hbs := hbs.trans (hv.mono hbs.size)); replace hb := hb.trans (hv.mono hb.size); clear x1 x2 x3 x4; obtain ⟨x1, x2, x3, x4⟩ := BX.out _ hb; (try (clear x5; have x5 := HCL.out _ hb)))
    | (go_at_call 50; refine (rneeds_w f c na _ ln cn lo co i N U X _ hi HR (HN.out _ hb) HXS).mono ?_; rintro e wl ⟨⟨rr, rfl, hrr⟩, hv⟩; (try replace hbs := hbs.trans (hv.mono hbs.size)); replace hb := hb.trans (hv.mono hb.size); clear x1 x2 x3 x4; obtain ⟨x1, x2, x3, x4⟩ := BX.out _ hb; (try (clear x5; have x5 := HCL.out _ hb)); first | (obtain rfl := needR_ref0 HNR.out hrr; clear hrr) | (obtain rfl := needR_ref5 HNR.out hrr; clear hrr))
    | (go_at_call 15; refine (K.out _).mono ?_; rintro e wl ⟨rfl, hv⟩; (try replace hbs := hbs.trans (hv.mono hbs.size)); replace hb := hb.trans (hv.mono hb.size); clear x1 x2 x3 x4; obtain ⟨x1, x2, x3, x4⟩ := BX.out _ hb; (try (clear x5; have x5 := HCL.out _ hb))))
  all_goals
    go_ret
    exact ⟨rfl, below_al hb⟩

set_option maxRecDepth 100000 in
set_option maxHeartbeats 4000000 in
theorem lawnd_j (f : Int) (na oa : Option Addr) (ln cn lo co : Nat) (N : Nat → N2) (U : Nat → O3) (i : Nat) (c k : Int) (w : World) (hls : ln ≤ 1000000) (hlt : lo ≤ 1000000) (H : Hid (Tr7 w na oa ln lo N U)) (K : Hid KnownOk) (hi : i < lo) (hq : ln ≤ 8 ∧ lo ≤ 10) (HR : Hid (TreeP f ln lo N U)) (HK : Hid (fromB 0 3 k = true)) (X : Nat → Nat → Int) (HXS : Hid (XS lo N U X)) (hc1 : ¬ c < 1) (hc2 : ¬ (U i).c < c) (HC : Hid (fromB 1 (U i).c c = true))  :
    Calls Tryz.prog 11 #[.agg #[.int .i64 f, .slice na ln cn, .slice oa lo co], .int .i64 (i : Int), .int .i64 c, .int .i64 k] w
      fun e w' => e = .returned (.bool true) ∧ Below w.heap.size w w' := by
  have hsh : decide (ln ≤ 8 ∧ lo ≤ 10) = true := decide_eq_true hq
  have hoz : fromB 0 ((lo : Int) - 1) (i : Int) = true := by simp only [fromB, decide_eq_true_eq]; omega
  have HO := Lib.hid hoz
  obtain ⟨C, P, hoa, hC, hn⟩ := H.out.ho.resolve_left (by omega)
  have HCL : Hid (∀ w2, Below (w.alloc (.cells #[.int .i64 f, .slice na ln cn, .slice oa lo co] 25)).heap.size (w.alloc (.cells #[.int .i64 f, .slice na ln cn, .slice oa lo co] 25)) w2 → w2.cell? ⟨C, P + i * 3 + 1, none⟩ = some (.int .i64 (U i).c)) := Lib.hid fun w2 h => ((below_al h).cell (p := ⟨C, P + i * 3 + 1, none⟩) hC).trans (hn i hi).2.1
  have n1 : (0 : Int) ≤ (i : Int) := by omega
  have n2 : (i : Int) < (lo : Int) := by omega
  subst hoa
  clear hn hoz
  have BX := Lib.hid (fun (w1 : World) (hb : Below (w.alloc (.cells #[.int .i64 f, .slice na ln cn, .slice (some ⟨C, P, none⟩) lo co] 25)).heap.size (w.alloc (.cells #[.int .i64 f, .slice na ln cn, .slice (some ⟨C, P, none⟩) lo co] 25)) w1) => box7 hb)
  have HN : Hid (∀ w1, Below (w.alloc (.cells #[.int .i64 f, .slice na ln cn, .slice (some ⟨C, P, none⟩) lo co] 25)).heap.size (w.alloc (.cells #[.int .i64 f, .slice na ln cn, .slice (some ⟨C, P, none⟩) lo co] 25)) w1 → Hid (Tr7 w1 na (some ⟨C, P, none⟩) ln lo N U)) := Lib.hid fun w1 h => Lib.hid (H.out.below (below_al h))
  have hb : Below (w.alloc (.cells #[.int .i64 f, .slice na ln cn, .slice (some ⟨C, P, none⟩) lo co] 25)).heap.size (w.alloc (.cells #[.int .i64 f, .slice na ln cn, .slice (some ⟨C, P, none⟩) lo co] 25)) (w.alloc (.cells #[.int .i64 f, .slice na ln cn, .slice (some ⟨C, P, none⟩) lo co] 25)) := Below.refl _ _
  obtain ⟨x1, x2, x3, x4⟩ := BX.out _ hb
  clear H
  have x5 := HCL.out _ hb
  go_enter Tryz.func11, Tryz.ntmps11
  go_wp2_with (first
    | (go_at_call 14; refine (short_w _ _ _ _ _ _ _ _ (by unfold maxLen; omega) (by unfold maxLen; omega)).mono ?_; rw [hsh]; rintro e wl ⟨rfl, hv⟩; (try replace hbs := hbs.trans (hv.mono hbs.size)); replace hb := hb.trans (hv.mono hb.size); clear x1 x2 x3 x4; obtain ⟨x1, x2, x3, x4⟩ := BX.out _ hb; (try (clear x5; have x5 := HCL.out _ hb)))
    | (go_at_call 46; refine (needs_w f c na _ ln cn lo co i N U X _ hi HC.out HR (HN.out _ hb) HXS).mono ?_; rintro e wl ⟨⟨nm, ne, rfl, hnr⟩, hv⟩; (try replace hbs := hbs.trans (hv.mono hbs.size)); replace hb := hb.trans (hv.mono hb.size); clear x1 x2 x3 x4; obtain ⟨x1, x2, x3, x4⟩ := BX.out _ hb; (try (clear x5; have x5 := HCL.out _ hb)); have HNR := Lib.hid hnr; clear hnr; rcases needR_re HNR.out with ⟨rfl, hnp⟩ | ⟨rfl, rfl⟩)
    | (go_at_call 47; refine (keeps_w f k na (some ⟨C, P, none⟩) ln cn lo co N U X _ HK.out HR (HN.out _ hb) HXS).mono ?_; rintro e wl ⟨⟨km, ke, rfl, hkr⟩, hv⟩; (try replace hbs := hbs.trans (hv.mono hbs.size)); replace hb := hb.trans (hv.mono hb.size); clear x1 x2 x3 x4; obtain ⟨x1, x2, x3, x4⟩ := BX.out _ hb; (try (clear x5; have x5 := HCL.out _ hb)); have HKR := Lib.hid hkr; clear hkr; rcases needR_re HKR.out with ⟨rfl, hkp⟩ | ⟨rfl, rfl⟩)
    | (go_at_call 48; refine (class_w k _).mono ?_; rw [HK.out]; rintro e wl ⟨rfl, rfl⟩)
    | (go_at_call 49; refine (rkeeps_w f k na (some ⟨C, P, none⟩) ln cn lo co N U X _ HR (HN.out _ hb) HXS).mono ?_; rintro e wl ⟨⟨rk, rfl, hrk⟩, hv⟩; (try replace hbs := hbs.trans (hv.mono hbs.size)); replace hb := hb.trans (hv.mono hb.size); clear x1 x2 x3 x4; obtain ⟨x1, x2, x3, x4⟩ := BX.out _ hb; (try (clear x5; have x5 := HCL.out _ hb)); first | (obtain rfl := needR_ref0 HKR.out hrk; clear hrk) | (obtain rfl := needR_ref5 HKR.out hrk; clear hrk))
    | (go_at_call 18; refine (tree_w _ _ _ _ _ _ _ N U _ hls hlt (HN.out _ hb)).mono ?_; rintro e wl ⟨⟨rb, rfl, hrb⟩, hv⟩; obtain rfl : rb = true := hrb.2 HR.out; clear hrb; (try replace hbs := hbs.trans (hv.mono hbs.size)); replace hb := hb.trans (hv.mono hb.size); clear x1 x2 x3 x4; obtain ⟨x1, x2, x3, x4⟩ := BX.out _ hb; (try (clear x5; have x5 := HCL.out _ hb)))
    | (go_at_call 29; refine (outlet_w _ _ _ _ _ _ _ _ _ hlt).mono ?_; rw [HO.out]; rintro e wl ⟨rfl, hv⟩; (try replace hbs := hbs.trans (hv.mono hbs.size)); replace hb := hb.trans (hv.mono hb.size); clear x1 x2 x3 x4; obtain ⟨x1, x2, x3, x4⟩ := BX.out _ hb; (try (clear x5; have x5 := HCL.out _ hb)))
    | (go_at_call 50; refine (rneeds_w f c na _ ln cn lo co i N U X _ hi HR (HN.out _ hb) HXS).mono ?_; rintro e wl ⟨⟨rr, rfl, hrr⟩, hv⟩; (try replace hbs := hbs.trans (hv.mono hbs.size)); replace hb := hb.trans (hv.mono hb.size); clear x1 x2 x3 x4; obtain ⟨x1, x2, x3, x4⟩ := BX.out _ hb; (try (clear x5; have x5 := HCL.out _ hb)); first | (obtain rfl := needR_ref0 HNR.out hrr; clear hrr) | (obtain rfl := needR_ref5 HNR.out hrr; clear hrr))
    | (go_at_call 15; refine (K.out _).mono ?_; rintro e wl ⟨rfl, hv⟩; (try replace hbs := hbs.trans (hv.mono hbs.size)); replace hb := hb.trans (hv.mono hb.size); clear x1 x2 x3 x4; obtain ⟨x1, x2, x3, x4⟩ := BX.out _ hb; (try (clear x5; have x5 := HCL.out _ hb))))
  all_goals
    go_ret
    exact ⟨rfl, below_al hb⟩
end Go.Kn

namespace Go.Kn
open Go Go.Proofs Go.RowKit

set_option maxHeartbeats 1000000 in
theorem lawnd_w (f : Int) (na oa : Option Addr) (ln cn lo co : Nat) (N : Nat → N2) (U : Nat → O3) (z c k : Int) (w : World) (hls : ln ≤ maxLen) (hlt : lo ≤ maxLen) (H : Tr7 w na oa ln lo N U) (K : KnownOk) :
    Calls Tryz.prog 11 #[.agg #[.int .i64 f, .slice na ln cn, .slice oa lo co], .int .i64 z, .int .i64 c, .int .i64 k] w
      fun e w' => e = .returned (.bool true) ∧ Below w.heap.size w w' := by
  by_cases hq : ln ≤ 8 ∧ lo ≤ 10
  case neg => exact lawnd_a f na oa ln cn lo co N U z c k w hls hlt (Lib.hid H) (Lib.hid K) hq
  by_cases HR : TreeP f ln lo N U
  case neg => exact lawnd_b f na oa ln cn lo co N U z c k w (by omega) (by omega) (Lib.hid H) (Lib.hid K) hq (Lib.hid HR)
  obtain ⟨X, HX⟩ := xs_ex HR
  have l1 : ln ≤ 1000000 := by omega
  have l2 : lo ≤ 1000000 := by omega
  cases ho : fromB 0 ((lo : Int) - 1) z with
  | false =>
    cases hk : fromB 0 3 k with
    | false => exact lawnd_c f na oa ln cn lo co N U z c k w l1 l2 (Lib.hid H) (Lib.hid K) hq (Lib.hid HR) (Lib.hid hk) (Lib.hid ho)
    | true => exact lawnd_d f na oa ln cn lo co N U z c k w l1 l2 (Lib.hid H) (Lib.hid K) hq (Lib.hid HR) (Lib.hid hk) X (Lib.hid HX) (Lib.hid ho)
  | true =>
    obtain ⟨i, rfl, hi⟩ := outlet_nat ho
    cases hc : fromB 1 (U i).c c with
    | false =>
      by_cases h1 : c < 1
      · cases hk : fromB 0 3 k with
        | false => exact lawnd_e f na oa ln cn lo co N U i c k w l1 l2 (Lib.hid H) (Lib.hid K) hi hq (Lib.hid HR) (Lib.hid hk) h1 (Lib.hid hc)
        | true => exact lawnd_f f na oa ln cn lo co N U i c k w l1 l2 (Lib.hid H) (Lib.hid K) hi hq (Lib.hid HR) (Lib.hid hk) X (Lib.hid HX) h1 (Lib.hid hc)
      · have h2 : (U i).c < c := by simp only [fromB, decide_eq_false_iff_not] at hc; omega
        cases hk : fromB 0 3 k with
        | false => exact lawnd_g f na oa ln cn lo co N U i c k w l1 l2 (Lib.hid H) (Lib.hid K) hi hq (Lib.hid HR) (Lib.hid hk) h1 h2 (Lib.hid hc)
        | true => exact lawnd_h f na oa ln cn lo co N U i c k w l1 l2 (Lib.hid H) (Lib.hid K) hi hq (Lib.hid HR) (Lib.hid hk) X (Lib.hid HX) h1 h2 (Lib.hid hc)
    | true =>
      have h12 : ¬ c < 1 ∧ ¬ (U i).c < c := by simp only [fromB, decide_eq_true_eq] at hc; omega
      cases hk : fromB 0 3 k with
      | false => exact lawnd_i f na oa ln cn lo co N U i c k w l1 l2 (Lib.hid H) (Lib.hid K) hi hq (Lib.hid HR) (Lib.hid hk) X (Lib.hid HX) h12.1 h12.2 (Lib.hid hc)
      | true => exact lawnd_j f na oa ln cn lo co N U i c k w l1 l2 (Lib.hid H) (Lib.hid K) hi hq (Lib.hid HR) (Lib.hid hk) X (Lib.hid HX) h12.1 h12.2 (Lib.hid hc)
end Go.Kn
