/- Contracts of functions that the laws of this seat call, or the evaluator of closed calls and its runs. Conditions: as each theorem states them. -/
import Derived.Test.YtamoigfafgfimaaGreatDoorIS
set_option linter.unusedVariables false
set_option linter.unusedSimpArgs false
namespace Go.Kn
open Go Go.Proofs Go.RowKit

set_option maxRecDepth 100000 in
set_option maxHeartbeats 4000000 in
theorem lawmn_a (f : Int) (na oa : Option Addr) (ln cn lo co : Nat) (N : Nat → N2) (U : Nat → O3) (lw hg g : Int) (w : World) (hls : ln ≤ maxLen) (hlt : lo ≤ maxLen) (H : Hid (Tr7 w na oa ln lo N U)) (K : Hid KnownOk) (hq : ¬ (ln ≤ 8 ∧ lo ≤ 10)) :
    Calls Tryz.prog 9 #[.agg #[.int .i64 f, .slice na ln cn, .slice oa lo co], .int .i64 lw, .int .i64 hg, .int .i64 g] w
      fun e w' => e = .returned (.bool true) ∧ Below w.heap.size w w' := by
  have hsh : decide (ln ≤ 8 ∧ lo ≤ 10) = false := decide_eq_false hq
  have BX := Lib.hid (fun (w1 : World) (hb : Below (w.alloc (.cells #[.int .i64 f, .slice na ln cn, .slice oa lo co] 25)).heap.size (w.alloc (.cells #[.int .i64 f, .slice na ln cn, .slice oa lo co] 25)) w1) => box7 hb)
  have HN : Hid (∀ w1, Below (w.alloc (.cells #[.int .i64 f, .slice na ln cn, .slice oa lo co] 25)).heap.size (w.alloc (.cells #[.int .i64 f, .slice na ln cn, .slice oa lo co] 25)) w1 → Hid (Tr7 w1 na oa ln lo N U)) := Lib.hid fun w1 h => Lib.hid (H.out.below (below_al h))
  have hb : Below (w.alloc (.cells #[.int .i64 f, .slice na ln cn, .slice oa lo co] 25)).heap.size (w.alloc (.cells #[.int .i64 f, .slice na ln cn, .slice oa lo co] 25)) (w.alloc (.cells #[.int .i64 f, .slice na ln cn, .slice oa lo co] 25)) := Below.refl _ _
  obtain ⟨x1, x2, x3, x4⟩ := BX.out _ hb
  clear H
  go_enter Tryz.func9, Tryz.ntmps9
  go_wp2_with (first
    | (go_at_call 14; refine (short_w _ _ _ _ _ _ _ _ hls hlt).mono ?_; rw [hsh]; rintro e wl ⟨rfl, hv⟩; (try replace hbs := hbs.trans (hv.mono hbs.size)); (try replace hba := hba.trans (hv.mono hba.size)); (try replace hbc := hbc.trans (hv.mono hbc.size)); (try replace hbd := hbd.trans (hv.mono hbd.size)); replace hb := hb.trans (hv.mono hb.size); clear x1 x2 x3 x4; obtain ⟨x1, x2, x3, x4⟩ := BX.out _ hb)
    | (go_at_call 15; refine (K.out _).mono ?_; rintro e wl ⟨rfl, hv⟩; (try replace hbs := hbs.trans (hv.mono hbs.size)); (try replace hba := hba.trans (hv.mono hba.size)); (try replace hbc := hbc.trans (hv.mono hbc.size)); (try replace hbd := hbd.trans (hv.mono hbd.size)); replace hb := hb.trans (hv.mono hb.size); clear x1 x2 x3 x4; obtain ⟨x1, x2, x3, x4⟩ := BX.out _ hb))
  go_ret
  exact ⟨rfl, below_al hb⟩

set_option maxRecDepth 100000 in
set_option maxHeartbeats 4000000 in
theorem lawmn_b (f : Int) (na oa : Option Addr) (ln cn lo co : Nat) (N : Nat → N2) (U : Nat → O3) (lw hg g : Int) (w : World) (hls : ln ≤ 1000000) (hlt : lo ≤ 1000000) (H : Hid (Tr7 w na oa ln lo N U)) (K : Hid KnownOk) (hq : ln ≤ 8 ∧ lo ≤ 10) (HR : Hid (¬ TreeP f ln lo N U)) :
    Calls Tryz.prog 9 #[.agg #[.int .i64 f, .slice na ln cn, .slice oa lo co], .int .i64 lw, .int .i64 hg, .int .i64 g] w
      fun e w' => e = .returned (.bool true) ∧ Below w.heap.size w w' := by
  have hsh : decide (ln ≤ 8 ∧ lo ≤ 10) = true := decide_eq_true hq
  have BX := Lib.hid (fun (w1 : World) (hb : Below (w.alloc (.cells #[.int .i64 f, .slice na ln cn, .slice oa lo co] 25)).heap.size (w.alloc (.cells #[.int .i64 f, .slice na ln cn, .slice oa lo co] 25)) w1) => box7 hb)
  have HN : Hid (∀ w1, Below (w.alloc (.cells #[.int .i64 f, .slice na ln cn, .slice oa lo co] 25)).heap.size (w.alloc (.cells #[.int .i64 f, .slice na ln cn, .slice oa lo co] 25)) w1 → Hid (Tr7 w1 na oa ln lo N U)) := Lib.hid fun w1 h => Lib.hid (H.out.below (below_al h))
  have hb : Below (w.alloc (.cells #[.int .i64 f, .slice na ln cn, .slice oa lo co] 25)).heap.size (w.alloc (.cells #[.int .i64 f, .slice na ln cn, .slice oa lo co] 25)) (w.alloc (.cells #[.int .i64 f, .slice na ln cn, .slice oa lo co] 25)) := Below.refl _ _
  obtain ⟨x1, x2, x3, x4⟩ := BX.out _ hb
  clear H
  go_enter Tryz.func9, Tryz.ntmps9
  go_wp2_with (first
    | (go_at_call 14; refine (short_w _ _ _ _ _ _ _ _ (by unfold maxLen; omega) (by unfold maxLen; omega)).mono ?_; rw [hsh]; rintro e wl ⟨rfl, hv⟩; (try replace hbs := hbs.trans (hv.mono hbs.size)); (try replace hba := hba.trans (hv.mono hba.size)); (try replace hbc := hbc.trans (hv.mono hbc.size)); (try replace hbd := hbd.trans (hv.mono hbd.size)); replace hb := hb.trans (hv.mono hb.size); clear x1 x2 x3 x4; obtain ⟨x1, x2, x3, x4⟩ := BX.out _ hb)
    | (go_at_call 18; refine (tree_w _ _ _ _ _ _ _ N U _ hls hlt (HN.out _ hb)).mono ?_; rintro e wl ⟨⟨rb, rfl, hrb⟩, hv⟩; obtain rfl : rb = false := (by cases rb <;> first | rfl | exact (HR.out (hrb.1 rfl)).elim); clear hrb; (try replace hbs := hbs.trans (hv.mono hbs.size)); (try replace hba := hba.trans (hv.mono hba.size)); (try replace hbc := hbc.trans (hv.mono hbc.size)); (try replace hbd := hbd.trans (hv.mono hbd.size)); replace hb := hb.trans (hv.mono hb.size); clear x1 x2 x3 x4; obtain ⟨x1, x2, x3, x4⟩ := BX.out _ hb)
    | (go_at_call 15; refine (K.out _).mono ?_; rintro e wl ⟨rfl, hv⟩; (try replace hbs := hbs.trans (hv.mono hbs.size)); (try replace hba := hba.trans (hv.mono hba.size)); (try replace hbc := hbc.trans (hv.mono hbc.size)); (try replace hbd := hbd.trans (hv.mono hbd.size)); replace hb := hb.trans (hv.mono hb.size); clear x1 x2 x3 x4; obtain ⟨x1, x2, x3, x4⟩ := BX.out _ hb))
  go_ret
  exact ⟨rfl, below_al hb⟩

set_option maxRecDepth 100000 in
set_option maxHeartbeats 4000000 in
theorem lawmn_c (f : Int) (na oa : Option Addr) (ln cn lo co : Nat) (N : Nat → N2) (U : Nat → O3) (lw hg g : Int) (w : World) (hls : ln ≤ 1000000) (hlt : lo ≤ 1000000) (H : Hid (Tr7 w na oa ln lo N U)) (K : Hid KnownOk) (hq : ln ≤ 8 ∧ lo ≤ 10) (HR : Hid (TreeP f ln lo N U)) (HC1 : Hid (fromB 0 200 lw = false)) :
    Calls Tryz.prog 9 #[.agg #[.int .i64 f, .slice na ln cn, .slice oa lo co], .int .i64 lw, .int .i64 hg, .int .i64 g] w
      fun e w' => e = .returned (.bool true) ∧ Below w.heap.size w w' := by
  have hsh : decide (ln ≤ 8 ∧ lo ≤ 10) = true := decide_eq_true hq
  have BX := Lib.hid (fun (w1 : World) (hb : Below (w.alloc (.cells #[.int .i64 f, .slice na ln cn, .slice oa lo co] 25)).heap.size (w.alloc (.cells #[.int .i64 f, .slice na ln cn, .slice oa lo co] 25)) w1) => box7 hb)
  have HN : Hid (∀ w1, Below (w.alloc (.cells #[.int .i64 f, .slice na ln cn, .slice oa lo co] 25)).heap.size (w.alloc (.cells #[.int .i64 f, .slice na ln cn, .slice oa lo co] 25)) w1 → Hid (Tr7 w1 na oa ln lo N U)) := Lib.hid fun w1 h => Lib.hid (H.out.below (below_al h))
  have hb : Below (w.alloc (.cells #[.int .i64 f, .slice na ln cn, .slice oa lo co] 25)).heap.size (w.alloc (.cells #[.int .i64 f, .slice na ln cn, .slice oa lo co] 25)) (w.alloc (.cells #[.int .i64 f, .slice na ln cn, .slice oa lo co] 25)) := Below.refl _ _
  obtain ⟨x1, x2, x3, x4⟩ := BX.out _ hb
  clear H
  go_enter Tryz.func9, Tryz.ntmps9
  go_wp2_with (first
    | (go_at_call 14; refine (short_w _ _ _ _ _ _ _ _ (by unfold maxLen; omega) (by unfold maxLen; omega)).mono ?_; rw [hsh]; rintro e wl ⟨rfl, hv⟩; (try replace hbs := hbs.trans (hv.mono hbs.size)); (try replace hba := hba.trans (hv.mono hba.size)); (try replace hbc := hbc.trans (hv.mono hbc.size)); (try replace hbd := hbd.trans (hv.mono hbd.size)); replace hb := hb.trans (hv.mono hb.size); clear x1 x2 x3 x4; obtain ⟨x1, x2, x3, x4⟩ := BX.out _ hb)
    | (go_at_call 18; refine (tree_w _ _ _ _ _ _ _ N U _ hls hlt (HN.out _ hb)).mono ?_; rintro e wl ⟨⟨rb, rfl, hrb⟩, hv⟩; obtain rfl : rb = true := hrb.2 HR.out; clear hrb; (try replace hbs := hbs.trans (hv.mono hbs.size)); (try replace hba := hba.trans (hv.mono hba.size)); (try replace hbc := hbc.trans (hv.mono hbc.size)); (try replace hbd := hbd.trans (hv.mono hbd.size)); replace hb := hb.trans (hv.mono hb.size); clear x1 x2 x3 x4; obtain ⟨x1, x2, x3, x4⟩ := BX.out _ hb)
    | (go_at_call 41; refine (cups_w lw _).mono ?_; rw [HC1.out]; rintro e wl ⟨rfl, rfl⟩)
    | (go_at_call 15; refine (K.out _).mono ?_; rintro e wl ⟨rfl, hv⟩; (try replace hbs := hbs.trans (hv.mono hbs.size)); (try replace hba := hba.trans (hv.mono hba.size)); (try replace hbc := hbc.trans (hv.mono hbc.size)); (try replace hbd := hbd.trans (hv.mono hbd.size)); replace hb := hb.trans (hv.mono hb.size); clear x1 x2 x3 x4; obtain ⟨x1, x2, x3, x4⟩ := BX.out _ hb))
  go_ret
  exact ⟨rfl, below_al hb⟩

set_option maxRecDepth 100000 in
set_option maxHeartbeats 4000000 in
theorem lawmn_d (f : Int) (na oa : Option Addr) (ln cn lo co : Nat) (N : Nat → N2) (U : Nat → O3) (lw hg g : Int) (w : World) (hls : ln ≤ 1000000) (hlt : lo ≤ 1000000) (H : Hid (Tr7 w na oa ln lo N U)) (K : Hid KnownOk) (hq : ln ≤ 8 ∧ lo ≤ 10) (HR : Hid (TreeP f ln lo N U)) (HC1 : Hid (fromB 0 200 lw = true)) (HC2 : Hid (fromB 0 200 hg = false)) :
    Calls Tryz.prog 9 #[.agg #[.int .i64 f, .slice na ln cn, .slice oa lo co], .int .i64 lw, .int .i64 hg, .int .i64 g] w
      fun e w' => e = .returned (.bool true) ∧ Below w.heap.size w w' := by
  have hsh : decide (ln ≤ 8 ∧ lo ≤ 10) = true := decide_eq_true hq
  have BX := Lib.hid (fun (w1 : World) (hb : Below (w.alloc (.cells #[.int .i64 f, .slice na ln cn, .slice oa lo co] 25)).heap.size (w.alloc (.cells #[.int .i64 f, .slice na ln cn, .slice oa lo co] 25)) w1) => box7 hb)
  have HN : Hid (∀ w1, Below (w.alloc (.cells #[.int .i64 f, .slice na ln cn, .slice oa lo co] 25)).heap.size (w.alloc (.cells #[.int .i64 f, .slice na ln cn, .slice oa lo co] 25)) w1 → Hid (Tr7 w1 na oa ln lo N U)) := Lib.hid fun w1 h => Lib.hid (H.out.below (below_al h))
  have hb : Below (w.alloc (.cells #[.int .i64 f, .slice na ln cn, .slice oa lo co] 25)).heap.size (w.alloc (.cells #[.int .i64 f, .slice na ln cn, .slice oa lo co] 25)) (w.alloc (.cells #[.int .i64 f, .slice na ln cn, .slice oa lo co] 25)) := Below.refl _ _
  obtain ⟨x1, x2, x3, x4⟩ := BX.out _ hb
  clear H
  go_enter Tryz.func9, Tryz.ntmps9
  go_wp2_with (first
    | (go_at_call 14; refine (short_w _ _ _ _ _ _ _ _ (by unfold maxLen; omega) (by unfold maxLen; omega)).mono ?_; rw [hsh]; rintro e wl ⟨rfl, hv⟩; (try replace hbs := hbs.trans (hv.mono hbs.size)); (try replace hba := hba.trans (hv.mono hba.size)); (try replace hbc := hbc.trans (hv.mono hbc.size)); (try replace hbd := hbd.trans (hv.mono hbd.size)); replace hb := hb.trans (hv.mono hb.size); clear x1 x2 x3 x4; obtain ⟨x1, x2, x3, x4⟩ := BX.out _ hb)
    | (go_at_call 18; refine (tree_w _ _ _ _ _ _ _ N U _ hls hlt (HN.out _ hb)).mono ?_; rintro e wl ⟨⟨rb, rfl, hrb⟩, hv⟩; obtain rfl : rb = true := hrb.2 HR.out; clear hrb; (try replace hbs := hbs.trans (hv.mono hbs.size)); (try replace hba := hba.trans (hv.mono hba.size)); (try replace hbc := hbc.trans (hv.mono hbc.size)); (try replace hbd := hbd.trans (hv.mono hbd.size)); replace hb := hb.trans (hv.mono hb.size); clear x1 x2 x3 x4; obtain ⟨x1, x2, x3, x4⟩ := BX.out _ hb)
    | (go_at_call 41; refine (cups_w lw _).mono ?_; rw [HC1.out]; rintro e wl ⟨rfl, rfl⟩)
    | (go_at_call 41; refine (cups_w hg _).mono ?_; rw [HC2.out]; rintro e wl ⟨rfl, rfl⟩)
    | (go_at_call 15; refine (K.out _).mono ?_; rintro e wl ⟨rfl, hv⟩; (try replace hbs := hbs.trans (hv.mono hbs.size)); (try replace hba := hba.trans (hv.mono hba.size)); (try replace hbc := hbc.trans (hv.mono hbc.size)); (try replace hbd := hbd.trans (hv.mono hbd.size)); replace hb := hb.trans (hv.mono hb.size); clear x1 x2 x3 x4; obtain ⟨x1, x2, x3, x4⟩ := BX.out _ hb))
  go_ret
  exact ⟨rfl, below_al hb⟩

set_option maxRecDepth 100000 in
set_option maxHeartbeats 4000000 in
theorem lawmn_e (f : Int) (na oa : Option Addr) (ln cn lo co : Nat) (N : Nat → N2) (U : Nat → O3) (lw hg g : Int) (w : World) (hls : ln ≤ 1000000) (hlt : lo ≤ 1000000) (H : Hid (Tr7 w na oa ln lo N U)) (K : Hid KnownOk) (hq : ln ≤ 8 ∧ lo ≤ 10) (HR : Hid (TreeP f ln lo N U)) (HC1 : Hid (fromB 0 200 lw = true)) (HC2 : Hid (fromB 0 200 hg = true)) (hd1 : g < lw) :
    Calls Tryz.prog 9 #[.agg #[.int .i64 f, .slice na ln cn, .slice oa lo co], .int .i64 lw, .int .i64 hg, .int .i64 g] w
      fun e w' => e = .returned (.bool true) ∧ Below w.heap.size w w' := by
  have hsh : decide (ln ≤ 8 ∧ lo ≤ 10) = true := decide_eq_true hq
  have BX := Lib.hid (fun (w1 : World) (hb : Below (w.alloc (.cells #[.int .i64 f, .slice na ln cn, .slice oa lo co] 25)).heap.size (w.alloc (.cells #[.int .i64 f, .slice na ln cn, .slice oa lo co] 25)) w1) => box7 hb)
  have HN : Hid (∀ w1, Below (w.alloc (.cells #[.int .i64 f, .slice na ln cn, .slice oa lo co] 25)).heap.size (w.alloc (.cells #[.int .i64 f, .slice na ln cn, .slice oa lo co] 25)) w1 → Hid (Tr7 w1 na oa ln lo N U)) := Lib.hid fun w1 h => Lib.hid (H.out.below (below_al h))
  have hb : Below (w.alloc (.cells #[.int .i64 f, .slice na ln cn, .slice oa lo co] 25)).heap.size (w.alloc (.cells #[.int .i64 f, .slice na ln cn, .slice oa lo co] 25)) (w.alloc (.cells #[.int .i64 f, .slice na ln cn, .slice oa lo co] 25)) := Below.refl _ _
  obtain ⟨x1, x2, x3, x4⟩ := BX.out _ hb
  clear H
  go_enter Tryz.func9, Tryz.ntmps9
  go_wp2_with (first
    | (go_at_call 14; refine (short_w _ _ _ _ _ _ _ _ (by unfold maxLen; omega) (by unfold maxLen; omega)).mono ?_; rw [hsh]; rintro e wl ⟨rfl, hv⟩; (try replace hbs := hbs.trans (hv.mono hbs.size)); (try replace hba := hba.trans (hv.mono hba.size)); (try replace hbc := hbc.trans (hv.mono hbc.size)); (try replace hbd := hbd.trans (hv.mono hbd.size)); replace hb := hb.trans (hv.mono hb.size); clear x1 x2 x3 x4; obtain ⟨x1, x2, x3, x4⟩ := BX.out _ hb)
    | (go_at_call 18; refine (tree_w _ _ _ _ _ _ _ N U _ hls hlt (HN.out _ hb)).mono ?_; rintro e wl ⟨⟨rb, rfl, hrb⟩, hv⟩; obtain rfl : rb = true := hrb.2 HR.out; clear hrb; (try replace hbs := hbs.trans (hv.mono hbs.size)); (try replace hba := hba.trans (hv.mono hba.size)); (try replace hbc := hbc.trans (hv.mono hbc.size)); (try replace hbd := hbd.trans (hv.mono hbd.size)); replace hb := hb.trans (hv.mono hb.size); clear x1 x2 x3 x4; obtain ⟨x1, x2, x3, x4⟩ := BX.out _ hb)
    | (go_at_call 41; refine (cups_w lw _).mono ?_; rw [HC1.out]; rintro e wl ⟨rfl, rfl⟩)
    | (go_at_call 41; refine (cups_w hg _).mono ?_; rw [HC2.out]; rintro e wl ⟨rfl, rfl⟩)
    | (go_at_call 15; refine (K.out _).mono ?_; rintro e wl ⟨rfl, hv⟩; (try replace hbs := hbs.trans (hv.mono hbs.size)); (try replace hba := hba.trans (hv.mono hba.size)); (try replace hbc := hbc.trans (hv.mono hbc.size)); (try replace hbd := hbd.trans (hv.mono hbd.size)); replace hb := hb.trans (hv.mono hb.size); clear x1 x2 x3 x4; obtain ⟨x1, x2, x3, x4⟩ := BX.out _ hb))
  go_ret
  exact ⟨rfl, below_al hb⟩

set_option maxRecDepth 100000 in
set_option maxHeartbeats 4000000 in
theorem lawmn_f (f : Int) (na oa : Option Addr) (ln cn lo co : Nat) (N : Nat → N2) (U : Nat → O3) (lw hg g : Int) (w : World) (hls : ln ≤ 1000000) (hlt : lo ≤ 1000000) (H : Hid (Tr7 w na oa ln lo N U)) (K : Hid KnownOk) (hq : ln ≤ 8 ∧ lo ≤ 10) (HR : Hid (TreeP f ln lo N U)) (HC1 : Hid (fromB 0 200 lw = true)) (HC2 : Hid (fromB 0 200 hg = true)) (hd1 : ¬ g < lw) (hd2 : hg < g) :
    Calls Tryz.prog 9 #[.agg #[.int .i64 f, .slice na ln cn, .slice oa lo co], .int .i64 lw, .int .i64 hg, .int .i64 g] w
      fun e w' => e = .returned (.bool true) ∧ Below w.heap.size w w' := by
  have hsh : decide (ln ≤ 8 ∧ lo ≤ 10) = true := decide_eq_true hq
  have BX := Lib.hid (fun (w1 : World) (hb : Below (w.alloc (.cells #[.int .i64 f, .slice na ln cn, .slice oa lo co] 25)).heap.size (w.alloc (.cells #[.int .i64 f, .slice na ln cn, .slice oa lo co] 25)) w1) => box7 hb)
  have HN : Hid (∀ w1, Below (w.alloc (.cells #[.int .i64 f, .slice na ln cn, .slice oa lo co] 25)).heap.size (w.alloc (.cells #[.int .i64 f, .slice na ln cn, .slice oa lo co] 25)) w1 → Hid (Tr7 w1 na oa ln lo N U)) := Lib.hid fun w1 h => Lib.hid (H.out.below (below_al h))
  have hb : Below (w.alloc (.cells #[.int .i64 f, .slice na ln cn, .slice oa lo co] 25)).heap.size (w.alloc (.cells #[.int .i64 f, .slice na ln cn, .slice oa lo co] 25)) (w.alloc (.cells #[.int .i64 f, .slice na ln cn, .slice oa lo co] 25)) := Below.refl _ _
  obtain ⟨x1, x2, x3, x4⟩ := BX.out _ hb
  clear H
  go_enter Tryz.func9, Tryz.ntmps9
  go_wp2_with (first
    | (go_at_call 14; refine (short_w _ _ _ _ _ _ _ _ (by unfold maxLen; omega) (by unfold maxLen; omega)).mono ?_; rw [hsh]; rintro e wl ⟨rfl, hv⟩; (try replace hbs := hbs.trans (hv.mono hbs.size)); (try replace hba := hba.trans (hv.mono hba.size)); (try replace hbc := hbc.trans (hv.mono hbc.size)); (try replace hbd := hbd.trans (hv.mono hbd.size)); replace hb := hb.trans (hv.mono hb.size); clear x1 x2 x3 x4; obtain ⟨x1, x2, x3, x4⟩ := BX.out _ hb)
    | (go_at_call 18; refine (tree_w _ _ _ _ _ _ _ N U _ hls hlt (HN.out _ hb)).mono ?_; rintro e wl ⟨⟨rb, rfl, hrb⟩, hv⟩; obtain rfl : rb = true := hrb.2 HR.out; clear hrb; (try replace hbs := hbs.trans (hv.mono hbs.size)); (try replace hba := hba.trans (hv.mono hba.size)); (try replace hbc := hbc.trans (hv.mono hbc.size)); (try replace hbd := hbd.trans (hv.mono hbd.size)); replace hb := hb.trans (hv.mono hb.size); clear x1 x2 x3 x4; obtain ⟨x1, x2, x3, x4⟩ := BX.out _ hb)
    | (go_at_call 41; refine (cups_w lw _).mono ?_; rw [HC1.out]; rintro e wl ⟨rfl, rfl⟩)
    | (go_at_call 41; refine (cups_w hg _).mono ?_; rw [HC2.out]; rintro e wl ⟨rfl, rfl⟩)
    | (go_at_call 15; refine (K.out _).mono ?_; rintro e wl ⟨rfl, hv⟩; (try replace hbs := hbs.trans (hv.mono hbs.size)); (try replace hba := hba.trans (hv.mono hba.size)); (try replace hbc := hbc.trans (hv.mono hbc.size)); (try replace hbd := hbd.trans (hv.mono hbd.size)); replace hb := hb.trans (hv.mono hb.size); clear x1 x2 x3 x4; obtain ⟨x1, x2, x3, x4⟩ := BX.out _ hb))
  go_ret
  exact ⟨rfl, below_al hb⟩
end Go.Kn

namespace Go.Kn
open Go Go.Proofs Go.RowKit

set_option maxRecDepth 100000 in
set_option maxHeartbeats 4000000 in
theorem lawmn_g (f : Int) (na oa : Option Addr) (ln cn lo co : Nat) (N : Nat → N2) (U : Nat → O3) (lw hg g : Int) (w : World) (hls : ln ≤ 1000000) (hlt : lo ≤ 1000000) (H : Hid (Tr7 w na oa ln lo N U)) (K : Hid KnownOk) (hq : ln ≤ 8 ∧ lo ≤ 10) (HR : Hid (TreeP f ln lo N U)) (HC1 : Hid (fromB 0 200 lw = true)) (HC2 : Hid (fromB 0 200 hg = true)) (hd1 : ¬ g < lw) (hd2 : ¬ hg < g) :
    Calls Tryz.prog 9 #[.agg #[.int .i64 f, .slice na ln cn, .slice oa lo co], .int .i64 lw, .int .i64 hg, .int .i64 g] w
      fun e w' => e = .returned (.bool true) ∧ Below w.heap.size w w' := by
  have hsh : decide (ln ≤ 8 ∧ lo ≤ 10) = true := decide_eq_true hq
  have HT1 : Hid (TreeP lw ln lo N U) := Lib.hid (by have := HC1.out; simp only [fromB, decide_eq_true_eq] at this; exact tree_with HR.out this.1 this.2)
  have HT2 : Hid (TreeP hg ln lo N U) := Lib.hid (by have := HC2.out; simp only [fromB, decide_eq_true_eq] at this; exact tree_with HR.out this.1 this.2)
  have HT3 : Hid (TreeP g ln lo N U) := Lib.hid (by have h1 := HC1.out; have h2 := HC2.out; simp only [fromB, decide_eq_true_eq] at h1 h2; exact tree_with HR.out (by omega) (by omega))
  have BX := Lib.hid (fun (w1 : World) (hb : Below (w.alloc (.cells #[.int .i64 f, .slice na ln cn, .slice oa lo co] 25)).heap.size (w.alloc (.cells #[.int .i64 f, .slice na ln cn, .slice oa lo co] 25)) w1) => box7 hb)
  have HN : Hid (∀ w1, Below (w.alloc (.cells #[.int .i64 f, .slice na ln cn, .slice oa lo co] 25)).heap.size (w.alloc (.cells #[.int .i64 f, .slice na ln cn, .slice oa lo co] 25)) w1 → Hid (Tr7 w1 na oa ln lo N U)) := Lib.hid fun w1 h => Lib.hid (H.out.below (below_al h))
  have hb : Below (w.alloc (.cells #[.int .i64 f, .slice na ln cn, .slice oa lo co] 25)).heap.size (w.alloc (.cells #[.int .i64 f, .slice na ln cn, .slice oa lo co] 25)) (w.alloc (.cells #[.int .i64 f, .slice na ln cn, .slice oa lo co] 25)) := Below.refl _ _
  obtain ⟨x1, x2, x3, x4⟩ := BX.out _ hb
  clear H
  go_enter Tryz.func9, Tryz.ntmps9
  go_wp2_with (first
    | (go_at_call 14; refine (short_w _ _ _ _ _ _ _ _ (by unfold maxLen; omega) (by unfold maxLen; omega)).mono ?_; rw [hsh]; rintro e wl ⟨rfl, hv⟩; (try replace hbs := hbs.trans (hv.mono hbs.size)); (try replace hba := hba.trans (hv.mono hba.size)); (try replace hbc := hbc.trans (hv.mono hbc.size)); (try replace hbd := hbd.trans (hv.mono hbd.size)); replace hb := hb.trans (hv.mono hb.size); clear x1 x2 x3 x4; obtain ⟨x1, x2, x3, x4⟩ := BX.out _ hb)
    | (go_at_call 18; refine (tree_w _ _ _ _ _ _ _ N U _ hls hlt (HN.out _ hb)).mono ?_; rintro e wl ⟨⟨rb, rfl, hrb⟩, hv⟩; obtain rfl : rb = true := hrb.2 HR.out; clear hrb; (try replace hbs := hbs.trans (hv.mono hbs.size)); (try replace hba := hba.trans (hv.mono hba.size)); (try replace hbc := hbc.trans (hv.mono hbc.size)); (try replace hbd := hbd.trans (hv.mono hbd.size)); replace hb := hb.trans (hv.mono hb.size); clear x1 x2 x3 x4; obtain ⟨x1, x2, x3, x4⟩ := BX.out _ hb)
    | (go_at_call 41; refine (cups_w lw _).mono ?_; rw [HC1.out]; rintro e wl ⟨rfl, rfl⟩)
    | (go_at_call 41; refine (cups_w hg _).mono ?_; rw [HC2.out]; rintro e wl ⟨rfl, rfl⟩)
    | (go_at_call 42; refine (spans_w f lw hg na oa ln cn lo co N U _ HR (HN.out _ hb) HC1.out HC2.out (by omega)).mono ?_; rintro e wl ⟨⟨vs, rfl, hsp⟩, hv⟩; (try replace hbs := hbs.trans (hv.mono hbs.size)); (try replace hba := hba.trans (hv.mono hba.size)); (try replace hbc := hbc.trans (hv.mono hbc.size)); (try replace hbd := hbd.trans (hv.mono hbd.size)); replace hb := hb.trans (hv.mono hb.size); clear x1 x2 x3 x4; obtain ⟨x1, x2, x3, x4⟩ := BX.out _ hb; obtain ⟨x, y, hsl, hox, hoy⟩ := hsp.ex; obtain ⟨sa, sc, rfl, hsl2⟩ := hsl; have HSP := Lib.hid hsl2; have HOX := Lib.hid hox; have HOY := Lib.hid hoy; have hbs := Below.refl wl.heap.size wl; clear hsl2 hox hoy hsp)
    | (go_at_call 43; refine (with_w _ _ _ _ _ _ _ _ _).mono ?_; rintro e wl ⟨rfl, hv⟩; (try replace hbs := hbs.trans (hv.mono hbs.size)); (try replace hba := hba.trans (hv.mono hba.size)); (try replace hbc := hbc.trans (hv.mono hbc.size)); (try replace hbd := hbd.trans (hv.mono hbd.size)); replace hb := hb.trans (hv.mono hb.size); clear x1 x2 x3 x4; obtain ⟨x1, x2, x3, x4⟩ := BX.out _ hb)
    | (go_at_call_of 21 lw; refine (shares_w lw na oa ln cn lo co N U _ HT1 (HN.out _ hb)).mono ?_; rintro e wl ⟨⟨sa, ca, ta, rfl, hsa, hoa⟩, hv⟩; (try replace hbs := hbs.trans (hv.mono hbs.size)); (try replace hba := hba.trans (hv.mono hba.size)); (try replace hbc := hbc.trans (hv.mono hbc.size)); (try replace hbd := hbd.trans (hv.mono hbd.size)); replace hb := hb.trans (hv.mono hb.size); clear x1 x2 x3 x4; obtain ⟨x1, x2, x3, x4⟩ := BX.out _ hb; have HSa := Lib.hid hsa; have HOa := Lib.hid hoa; have hba := Below.refl wl.heap.size wl; clear hsa hoa)
    | (go_at_call_of 21 g; refine (shares_w g na oa ln cn lo co N U _ HT3 (HN.out _ hb)).mono ?_; rintro e wl ⟨⟨sc, cc, tc, rfl, hsc, hoc⟩, hv⟩; (try replace hbs := hbs.trans (hv.mono hbs.size)); (try replace hba := hba.trans (hv.mono hba.size)); (try replace hbc := hbc.trans (hv.mono hbc.size)); (try replace hbd := hbd.trans (hv.mono hbd.size)); replace hb := hb.trans (hv.mono hb.size); clear x1 x2 x3 x4; obtain ⟨x1, x2, x3, x4⟩ := BX.out _ hb; have HSc := Lib.hid hsc; have HOc := Lib.hid hoc; have hbc := Below.refl wl.heap.size wl; clear hsc hoc)
    | (go_at_call_of 21 hg; refine (shares_w hg na oa ln cn lo co N U _ HT2 (HN.out _ hb)).mono ?_; rintro e wl ⟨⟨sd, cd, td, rfl, hsd, hod⟩, hv⟩; (try replace hbs := hbs.trans (hv.mono hbs.size)); (try replace hba := hba.trans (hv.mono hba.size)); (try replace hbc := hbc.trans (hv.mono hbc.size)); (try replace hbd := hbd.trans (hv.mono hbd.size)); replace hb := hb.trans (hv.mono hb.size); clear x1 x2 x3 x4; obtain ⟨x1, x2, x3, x4⟩ := BX.out _ hb; have HSd := Lib.hid hsd; have HOd := Lib.hid hod; have hbd := Below.refl wl.heap.size wl; clear hsd hod))
  have ea : ta = x := HOa.out.det HOX.out
  have ed : td = y := HOd.out.det HOY.out
  subst ea ed
  have m1 := fun k => mono_p HT1.out (show lw ≤ g by omega) HOX.out HOc.out k
  have m2 := fun k => mono_p HT3.out (show g ≤ hg by omega) HOc.out HOY.out k
  have hlo1 := HR.out.lo1
  have hlo2 := HR.out.lo2
  obtain ⟨G, O, rfl, hG, hn1⟩ := HSP.out.resolve_left (by omega)
  obtain ⟨A1, O1, rfl, hA1, hn2⟩ := HSa.out.resolve_left (by omega)
  obtain ⟨A2, O2, rfl, hA2, hn3⟩ := HSc.out.resolve_left (by omega)
  obtain ⟨A3, O3, rfl, hA3, hn4⟩ := HSd.out.resolve_left (by omega)
  obtain ⟨wq, hwq⟩ : ∃ wq, wq = wl := ⟨_, rfl⟩
  subst hwq
  have HF : Hid (∀ w' k, Below wq.heap.size wq w' → k < lo → w'.cell? ⟨G, O + k * 2, none⟩ = some (.int .i64 (ta k)) ∧ w'.cell? ⟨G, O + k * 2 + 1, none⟩ = some (.int .i64 (td k)) ∧ w'.cell? ⟨A1, O1 + k, none⟩ = some (.int .i64 (ta k)) ∧ w'.cell? ⟨A2, O2 + k, none⟩ = some (.int .i64 (tc k)) ∧ w'.cell? ⟨A3, O3 + k, none⟩ = some (.int .i64 (td k)) ∧ ¬ tc k < ta k ∧ ¬ td k < tc k) := Lib.hid fun w' k h hk => by
    have e1 := (hbs.trans (h.mono hbs.size))
    have e2 := (hba.trans (h.mono hba.size))
    have e3 := (hbc.trans (h.mono hbc.size))
    have e4 := (hbd.trans (h.mono hbd.size))
    have := m1 k
    have := m2 k
    exact ⟨(e1.cell (p := ⟨G, O + k * 2, none⟩) hG).trans (hn1 k hk).1, (e1.cell (p := ⟨G, O + k * 2 + 1, none⟩) hG).trans (hn1 k hk).2, (e2.cell (p := ⟨A1, O1 + k, none⟩) hA1).trans (hn2 k hk), (e3.cell (p := ⟨A2, O2 + k, none⟩) hA2).trans (hn3 k hk), (e4.cell (p := ⟨A3, O3 + k, none⟩) hA3).trans (hn4 k hk), by omega, by omega⟩
  have HBQ := Lib.hid hb
  clear hn1 hn2 hn3 hn4 m1 m2 hbs hba hbc hbd hG hA1 hA2 hA3 x1 x2 x3 x4
  go_loopw [17] (fun ii wr => ∃ k : Nat, k ≤ lo ∧ ii = .int .i64 (k : Int) ∧ Below wq.heap.size wq wr) (fun ii _ => lo - (Go.RowKit.intOf ii).toNat)
  case atStart => exact ⟨0, Nat.zero_le _, rfl, Below.refl _ _⟩
  case round =>
    obtain ⟨k, hk, rfl, hbw⟩ := hrel
    have HBW := Lib.hid hbw
    by_cases hlt : k < lo
    · obtain ⟨y1, y2, y3, y4, y5, y6, y7⟩ := HF.out _ k hbw hlt
      have n1 : (0 : Int) ≤ (k : Int) := by omega
      have n2 : (k : Int) < (lo : Int) := by omega
      clear hbw hb
      go_wp2
      go_quiet (fail)
      go_wp2
      go_roundw
      case rel => exact ⟨k + 1, by omega, by go_num, below_drewM HBW.out _⟩
      case measure => simp [Go.RowKit.intOf]; omega
    · have hkl : k = lo := by omega
      subst hkl
      clear hbw hb
      go_wp2_with (go_at_call 15; refine (K.out _).mono ?_; rintro e w9 ⟨rfl, hv9⟩)
      go_ret
      exact ⟨rfl, below_al (HBQ.out.trans ((HBW.out.trans (hv9.mono HBW.out.size)).mono HBQ.out.size))⟩

set_option maxHeartbeats 1000000 in
theorem lawmn_w (f : Int) (na oa : Option Addr) (ln cn lo co : Nat) (N : Nat → N2) (U : Nat → O3) (lw hg g : Int) (w : World) (hls : ln ≤ maxLen) (hlt : lo ≤ maxLen) (H : Tr7 w na oa ln lo N U) (K : KnownOk) :
    Calls Tryz.prog 9 #[.agg #[.int .i64 f, .slice na ln cn, .slice oa lo co], .int .i64 lw, .int .i64 hg, .int .i64 g] w
      fun e w' => e = .returned (.bool true) ∧ Below w.heap.size w w' := by
  by_cases hq : ln ≤ 8 ∧ lo ≤ 10
  case neg => exact lawmn_a f na oa ln cn lo co N U lw hg g w hls hlt (Lib.hid H) (Lib.hid K) hq
  by_cases HR : TreeP f ln lo N U
  case neg => exact lawmn_b f na oa ln cn lo co N U lw hg g w (by omega) (by omega) (Lib.hid H) (Lib.hid K) hq (Lib.hid HR)
  cases h1 : fromB 0 200 lw with
  | false => exact lawmn_c f na oa ln cn lo co N U lw hg g w (by omega) (by omega) (Lib.hid H) (Lib.hid K) hq (Lib.hid HR) (Lib.hid h1)
  | true =>
    cases h2 : fromB 0 200 hg with
    | false => exact lawmn_d f na oa ln cn lo co N U lw hg g w (by omega) (by omega) (Lib.hid H) (Lib.hid K) hq (Lib.hid HR) (Lib.hid h1) (Lib.hid h2)
    | true =>
      by_cases hd1 : g < lw
      · exact lawmn_e f na oa ln cn lo co N U lw hg g w (by omega) (by omega) (Lib.hid H) (Lib.hid K) hq (Lib.hid HR) (Lib.hid h1) (Lib.hid h2) hd1
      by_cases hd2 : hg < g
      · exact lawmn_f f na oa ln cn lo co N U lw hg g w (by omega) (by omega) (Lib.hid H) (Lib.hid K) hq (Lib.hid HR) (Lib.hid h1) (Lib.hid h2) hd1 hd2
      exact lawmn_g f na oa ln cn lo co N U lw hg g w (by omega) (by omega) (Lib.hid H) (Lib.hid K) hq (Lib.hid HR) (Lib.hid h1) (Lib.hid h2) hd1 hd2
end Go.Kn
