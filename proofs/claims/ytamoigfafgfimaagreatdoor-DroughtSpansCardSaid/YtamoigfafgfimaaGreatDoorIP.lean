/- Contracts of functions that the laws of this seat call, or the evaluator of closed calls and its runs. Conditions: as each theorem states them. -/
import Derived.Test.YtamoigfafgfimaaGreatDoorIR
set_option linter.unusedVariables false
set_option linter.unusedSimpArgs false
namespace Go.Kn
open Go Go.Proofs Go.RowKit

set_option maxRecDepth 100000 in
set_option maxHeartbeats 4000000 in
theorem spans_bad (f lw hg : Int) (na oa : Option Addr) (ln cn lo co : Nat) (N : Nat → N2) (U : Nat → O3) (w : World) (hls : ln ≤ 1000000) (hlt : lo ≤ 1000000) (H : Hid (Tr7 w na oa ln lo N U)) (HB : Hid (¬ TreeP f ln lo N U ∨ fromB 0 200 lw = false ∨ fromB 0 200 hg = false ∨ hg < lw)) :
    Calls Tryz.prog 42 #[.agg #[.int .i64 f, .slice na ln cn, .slice oa lo co], .int .i64 lw, .int .i64 hg] w fun e w' => e = .returned (.tuple #[.slice none 0 0, .int .i64 2]) ∧ Below w.heap.size w w' := by
  have hbW : Below w.heap.size w (w.alloc (.cells #[.int .i64 f, .slice na ln cn, .slice oa lo co] 25)) := (Below.refl _ _).alloc (Nat.le_refl _) _
  have HIT := Lib.hid (isTree_w f na oa ln cn lo co N U (w.alloc (.cells #[.int .i64 f, .slice na ln cn, .slice oa lo co] 25)) hls hlt (Lib.hid (H.out.below hbW)))
  clear hbW
  by_cases hT : TreeP f ln lo N U
  case neg =>
    go_enter Tryz.func42, Tryz.ntmps42
    go_wp2_with (go_at_call 61; refine HIT.out.mono ?_; rintro e w1 ⟨⟨rb, rfl, hrb⟩, hb1⟩; obtain rfl : rb = false := (by cases rb <;> first | rfl | exact (hT (hrb.1 rfl)).elim); clear hrb)
    refine bodyPost_ret (v := .tuple #[.slice none 0 0, .int .i64 2]) (by simp [results, Tryz.results42, go_sem]) rfl ⟨rfl, below_al hb1⟩
  cases h1 : fromB 0 200 lw with
  | false =>
    have H1 := Lib.hid h1
    clear h1
    go_enter Tryz.func42, Tryz.ntmps42
    go_wp2_with (first
      | (go_at_call 61; refine HIT.out.mono ?_; rintro e w1 ⟨⟨rb, rfl, hrb⟩, hb1⟩; obtain rfl : rb = true := hrb.2 hT; clear hrb)
      | (go_at_call 82; refine (areCups_w lw _).mono ?_; rw [H1.out]; rintro e w2 ⟨rfl, rfl⟩))
    refine bodyPost_ret (v := .tuple #[.slice none 0 0, .int .i64 2]) (by simp [results, Tryz.results42, go_sem]) rfl ⟨rfl, below_al hb1⟩
  | true =>
    have H1 := Lib.hid h1
    clear h1
    cases h2 : fromB 0 200 hg with
    | false =>
      have H2 := Lib.hid h2
      clear h2
      go_enter Tryz.func42, Tryz.ntmps42
      go_wp2_with (first
        | (go_at_call 61; refine HIT.out.mono ?_; rintro e w1 ⟨⟨rb, rfl, hrb⟩, hb1⟩; obtain rfl : rb = true := hrb.2 hT; clear hrb)
        | (go_at_call_of 82 lw; refine (areCups_w lw _).mono ?_; rw [H1.out]; rintro e w2 ⟨rfl, rfl⟩)
        | (go_at_call_of 82 hg; refine (areCups_w hg _).mono ?_; rw [H2.out]; rintro e w2 ⟨rfl, rfl⟩))
      refine bodyPost_ret (v := .tuple #[.slice none 0 0, .int .i64 2]) (by simp [results, Tryz.results42, go_sem]) rfl ⟨rfl, below_al hb1⟩
    | true =>
      have H2 := Lib.hid h2
      have hd1 : hg < lw := HB.out.elim (fun h => (h hT).elim) (fun h => h.elim (fun h => by rw [H1.out] at h; cases h) (fun h => h.elim (fun h => by rw [H2.out] at h; cases h) (fun h => h)))
      clear h2
      go_enter Tryz.func42, Tryz.ntmps42
      go_wp2_with (first
        | (go_at_call 61; refine HIT.out.mono ?_; rintro e w1 ⟨⟨rb, rfl, hrb⟩, hb1⟩; obtain rfl : rb = true := hrb.2 hT; clear hrb)
        | (go_at_call_of 82 lw; refine (areCups_w lw _).mono ?_; rw [H1.out]; rintro e w2 ⟨rfl, rfl⟩)
        | (go_at_call_of 82 hg; refine (areCups_w hg _).mono ?_; rw [H2.out]; rintro e w2 ⟨rfl, rfl⟩))
      refine bodyPost_ret (v := .tuple #[.slice none 0 0, .int .i64 2]) (by simp [results, Tryz.results42, go_sem]) rfl ⟨rfl, below_al hb1⟩

set_option maxRecDepth 100000 in
set_option maxHeartbeats 4000000 in
theorem lawsp_a (f : Int) (na oa : Option Addr) (ln cn lo co : Nat) (N : Nat → N2) (U : Nat → O3) (lw hg : Int) (w : World) (hls : ln ≤ maxLen) (hlt : lo ≤ maxLen) (H : Hid (Tr7 w na oa ln lo N U)) (K : Hid KnownOk) (hq : ¬ (ln ≤ 8 ∧ lo ≤ 10)) :
    Calls Tryz.prog 10 #[.agg #[.int .i64 f, .slice na ln cn, .slice oa lo co], .int .i64 lw, .int .i64 hg] w
      fun e w' => e = .returned (.bool true) ∧ Below w.heap.size w w' := by
  have hsh : decide (ln ≤ 8 ∧ lo ≤ 10) = false := decide_eq_false hq
  have BX := Lib.hid (fun (w1 : World) (hb : Below (w.alloc (.cells #[.int .i64 f, .slice na ln cn, .slice oa lo co] 25)).heap.size (w.alloc (.cells #[.int .i64 f, .slice na ln cn, .slice oa lo co] 25)) w1) => box7 hb)
  have HN : Hid (∀ w1, Below (w.alloc (.cells #[.int .i64 f, .slice na ln cn, .slice oa lo co] 25)).heap.size (w.alloc (.cells #[.int .i64 f, .slice na ln cn, .slice oa lo co] 25)) w1 → Hid (Tr7 w1 na oa ln lo N U)) := Lib.hid fun w1 h => Lib.hid (H.out.below (below_al h))
  have hb : Below (w.alloc (.cells #[.int .i64 f, .slice na ln cn, .slice oa lo co] 25)).heap.size (w.alloc (.cells #[.int .i64 f, .slice na ln cn, .slice oa lo co] 25)) (w.alloc (.cells #[.int .i64 f, .slice na ln cn, .slice oa lo co] 25)) := Below.refl _ _
  obtain ⟨x1, x2, x3, x4⟩ := BX.out _ hb
  clear H
  go_enter Tryz.func10, Tryz.ntmps10
  go_wp2_with (first
    | (go_at_call 14; refine (short_w _ _ _ _ _ _ _ _ hls hlt).mono ?_; rw [hsh]; rintro e wl ⟨rfl, hv⟩; (try replace hbs := hbs.trans (hv.mono hbs.size)); (try replace hba := hba.trans (hv.mono hba.size)); (try replace hbc := hbc.trans (hv.mono hbc.size)); (try replace hbd := hbd.trans (hv.mono hbd.size)); replace hb := hb.trans (hv.mono hb.size); clear x1 x2 x3 x4; obtain ⟨x1, x2, x3, x4⟩ := BX.out _ hb)
    | (go_at_call 15; refine (K.out _).mono ?_; rintro e wl ⟨rfl, hv⟩; (try replace hbs := hbs.trans (hv.mono hbs.size)); (try replace hba := hba.trans (hv.mono hba.size)); (try replace hbc := hbc.trans (hv.mono hbc.size)); (try replace hbd := hbd.trans (hv.mono hbd.size)); replace hb := hb.trans (hv.mono hb.size); clear x1 x2 x3 x4; obtain ⟨x1, x2, x3, x4⟩ := BX.out _ hb))
  go_ret
  exact ⟨rfl, below_al hb⟩

set_option maxRecDepth 100000 in
set_option maxHeartbeats 4000000 in
theorem lawsp_b (f : Int) (na oa : Option Addr) (ln cn lo co : Nat) (N : Nat → N2) (U : Nat → O3) (lw hg : Int) (w : World) (hls : ln ≤ 1000000) (hlt : lo ≤ 1000000) (H : Hid (Tr7 w na oa ln lo N U)) (K : Hid KnownOk) (hq : ln ≤ 8 ∧ lo ≤ 10) (HR : Hid (¬ TreeP f ln lo N U)) :
    Calls Tryz.prog 10 #[.agg #[.int .i64 f, .slice na ln cn, .slice oa lo co], .int .i64 lw, .int .i64 hg] w
      fun e w' => e = .returned (.bool true) ∧ Below w.heap.size w w' := by
  have hsh : decide (ln ≤ 8 ∧ lo ≤ 10) = true := decide_eq_true hq
  have BX := Lib.hid (fun (w1 : World) (hb : Below (w.alloc (.cells #[.int .i64 f, .slice na ln cn, .slice oa lo co] 25)).heap.size (w.alloc (.cells #[.int .i64 f, .slice na ln cn, .slice oa lo co] 25)) w1) => box7 hb)
  have HN : Hid (∀ w1, Below (w.alloc (.cells #[.int .i64 f, .slice na ln cn, .slice oa lo co] 25)).heap.size (w.alloc (.cells #[.int .i64 f, .slice na ln cn, .slice oa lo co] 25)) w1 → Hid (Tr7 w1 na oa ln lo N U)) := Lib.hid fun w1 h => Lib.hid (H.out.below (below_al h))
  have hb : Below (w.alloc (.cells #[.int .i64 f, .slice na ln cn, .slice oa lo co] 25)).heap.size (w.alloc (.cells #[.int .i64 f, .slice na ln cn, .slice oa lo co] 25)) (w.alloc (.cells #[.int .i64 f, .slice na ln cn, .slice oa lo co] 25)) := Below.refl _ _
  obtain ⟨x1, x2, x3, x4⟩ := BX.out _ hb
  clear H
  go_enter Tryz.func10, Tryz.ntmps10
  go_wp2_with (first
    | (go_at_call 14; refine (short_w _ _ _ _ _ _ _ _ (by unfold maxLen; omega) (by unfold maxLen; omega)).mono ?_; rw [hsh]; rintro e wl ⟨rfl, hv⟩; (try replace hbs := hbs.trans (hv.mono hbs.size)); (try replace hba := hba.trans (hv.mono hba.size)); (try replace hbc := hbc.trans (hv.mono hbc.size)); (try replace hbd := hbd.trans (hv.mono hbd.size)); replace hb := hb.trans (hv.mono hb.size); clear x1 x2 x3 x4; obtain ⟨x1, x2, x3, x4⟩ := BX.out _ hb)
    | (go_at_call 42; refine (spans_bad f lw hg na oa ln cn lo co N U _ hls hlt (HN.out _ hb) (Lib.hid (.inl HR.out))).mono ?_; rintro e wl ⟨rfl, hv⟩; (try replace hbs := hbs.trans (hv.mono hbs.size)); (try replace hba := hba.trans (hv.mono hba.size)); (try replace hbc := hbc.trans (hv.mono hbc.size)); (try replace hbd := hbd.trans (hv.mono hbd.size)); replace hb := hb.trans (hv.mono hb.size); clear x1 x2 x3 x4; obtain ⟨x1, x2, x3, x4⟩ := BX.out _ hb)
    | (go_at_call 18; refine (tree_w _ _ _ _ _ _ _ N U _ hls hlt (HN.out _ hb)).mono ?_; rintro e wl ⟨⟨rb, rfl, hrb⟩, hv⟩; obtain rfl : rb = false := (by cases rb <;> first | rfl | exact (HR.out (hrb.1 rfl)).elim); clear hrb; (try replace hbs := hbs.trans (hv.mono hbs.size)); (try replace hba := hba.trans (hv.mono hba.size)); (try replace hbc := hbc.trans (hv.mono hbc.size)); (try replace hbd := hbd.trans (hv.mono hbd.size)); replace hb := hb.trans (hv.mono hb.size); clear x1 x2 x3 x4; obtain ⟨x1, x2, x3, x4⟩ := BX.out _ hb)
    | (go_at_call 15; refine (K.out _).mono ?_; rintro e wl ⟨rfl, hv⟩; (try replace hbs := hbs.trans (hv.mono hbs.size)); (try replace hba := hba.trans (hv.mono hba.size)); (try replace hbc := hbc.trans (hv.mono hbc.size)); (try replace hbd := hbd.trans (hv.mono hbd.size)); replace hb := hb.trans (hv.mono hb.size); clear x1 x2 x3 x4; obtain ⟨x1, x2, x3, x4⟩ := BX.out _ hb))
  go_ret
  exact ⟨rfl, below_al hb⟩

set_option maxRecDepth 100000 in
set_option maxHeartbeats 4000000 in
theorem lawsp_c (f : Int) (na oa : Option Addr) (ln cn lo co : Nat) (N : Nat → N2) (U : Nat → O3) (lw hg : Int) (w : World) (hls : ln ≤ 1000000) (hlt : lo ≤ 1000000) (H : Hid (Tr7 w na oa ln lo N U)) (K : Hid KnownOk) (hq : ln ≤ 8 ∧ lo ≤ 10) (HR : Hid (TreeP f ln lo N U)) (HC1 : Hid (fromB 0 200 lw = false)) :
    Calls Tryz.prog 10 #[.agg #[.int .i64 f, .slice na ln cn, .slice oa lo co], .int .i64 lw, .int .i64 hg] w
      fun e w' => e = .returned (.bool true) ∧ Below w.heap.size w w' := by
  have hsh : decide (ln ≤ 8 ∧ lo ≤ 10) = true := decide_eq_true hq
  have BX := Lib.hid (fun (w1 : World) (hb : Below (w.alloc (.cells #[.int .i64 f, .slice na ln cn, .slice oa lo co] 25)).heap.size (w.alloc (.cells #[.int .i64 f, .slice na ln cn, .slice oa lo co] 25)) w1) => box7 hb)
  have HN : Hid (∀ w1, Below (w.alloc (.cells #[.int .i64 f, .slice na ln cn, .slice oa lo co] 25)).heap.size (w.alloc (.cells #[.int .i64 f, .slice na ln cn, .slice oa lo co] 25)) w1 → Hid (Tr7 w1 na oa ln lo N U)) := Lib.hid fun w1 h => Lib.hid (H.out.below (below_al h))
  have hb : Below (w.alloc (.cells #[.int .i64 f, .slice na ln cn, .slice oa lo co] 25)).heap.size (w.alloc (.cells #[.int .i64 f, .slice na ln cn, .slice oa lo co] 25)) (w.alloc (.cells #[.int .i64 f, .slice na ln cn, .slice oa lo co] 25)) := Below.refl _ _
  obtain ⟨x1, x2, x3, x4⟩ := BX.out _ hb
  clear H
  go_enter Tryz.func10, Tryz.ntmps10
  go_wp2_with (first
    | (go_at_call 14; refine (short_w _ _ _ _ _ _ _ _ (by unfold maxLen; omega) (by unfold maxLen; omega)).mono ?_; rw [hsh]; rintro e wl ⟨rfl, hv⟩; (try replace hbs := hbs.trans (hv.mono hbs.size)); (try replace hba := hba.trans (hv.mono hba.size)); (try replace hbc := hbc.trans (hv.mono hbc.size)); (try replace hbd := hbd.trans (hv.mono hbd.size)); replace hb := hb.trans (hv.mono hb.size); clear x1 x2 x3 x4; obtain ⟨x1, x2, x3, x4⟩ := BX.out _ hb)
    | (go_at_call 42; refine (spans_bad f lw hg na oa ln cn lo co N U _ hls hlt (HN.out _ hb) (Lib.hid (.inr (.inl HC1.out)))).mono ?_; rintro e wl ⟨rfl, hv⟩; (try replace hbs := hbs.trans (hv.mono hbs.size)); (try replace hba := hba.trans (hv.mono hba.size)); (try replace hbc := hbc.trans (hv.mono hbc.size)); (try replace hbd := hbd.trans (hv.mono hbd.size)); replace hb := hb.trans (hv.mono hb.size); clear x1 x2 x3 x4; obtain ⟨x1, x2, x3, x4⟩ := BX.out _ hb)
    | (go_at_call 18; refine (tree_w _ _ _ _ _ _ _ N U _ hls hlt (HN.out _ hb)).mono ?_; rintro e wl ⟨⟨rb, rfl, hrb⟩, hv⟩; obtain rfl : rb = true := hrb.2 HR.out; clear hrb; (try replace hbs := hbs.trans (hv.mono hbs.size)); (try replace hba := hba.trans (hv.mono hba.size)); (try replace hbc := hbc.trans (hv.mono hbc.size)); (try replace hbd := hbd.trans (hv.mono hbd.size)); replace hb := hb.trans (hv.mono hb.size); clear x1 x2 x3 x4; obtain ⟨x1, x2, x3, x4⟩ := BX.out _ hb)
    | (go_at_call_of 41 lw; refine (cups_w lw _).mono ?_; rw [HC1.out]; rintro e wl ⟨rfl, rfl⟩)
    | (go_at_call 15; refine (K.out _).mono ?_; rintro e wl ⟨rfl, hv⟩; (try replace hbs := hbs.trans (hv.mono hbs.size)); (try replace hba := hba.trans (hv.mono hba.size)); (try replace hbc := hbc.trans (hv.mono hbc.size)); (try replace hbd := hbd.trans (hv.mono hbd.size)); replace hb := hb.trans (hv.mono hb.size); clear x1 x2 x3 x4; obtain ⟨x1, x2, x3, x4⟩ := BX.out _ hb))
  go_ret
  exact ⟨rfl, below_al hb⟩

set_option maxRecDepth 100000 in
set_option maxHeartbeats 4000000 in
theorem lawsp_d (f : Int) (na oa : Option Addr) (ln cn lo co : Nat) (N : Nat → N2) (U : Nat → O3) (lw hg : Int) (w : World) (hls : ln ≤ 1000000) (hlt : lo ≤ 1000000) (H : Hid (Tr7 w na oa ln lo N U)) (K : Hid KnownOk) (hq : ln ≤ 8 ∧ lo ≤ 10) (HR : Hid (TreeP f ln lo N U)) (HC1 : Hid (fromB 0 200 lw = true)) (HC2 : Hid (fromB 0 200 hg = false)) :
    Calls Tryz.prog 10 #[.agg #[.int .i64 f, .slice na ln cn, .slice oa lo co], .int .i64 lw, .int .i64 hg] w
      fun e w' => e = .returned (.bool true) ∧ Below w.heap.size w w' := by
  have hsh : decide (ln ≤ 8 ∧ lo ≤ 10) = true := decide_eq_true hq
  have BX := Lib.hid (fun (w1 : World) (hb : Below (w.alloc (.cells #[.int .i64 f, .slice na ln cn, .slice oa lo co] 25)).heap.size (w.alloc (.cells #[.int .i64 f, .slice na ln cn, .slice oa lo co] 25)) w1) => box7 hb)
  have HN : Hid (∀ w1, Below (w.alloc (.cells #[.int .i64 f, .slice na ln cn, .slice oa lo co] 25)).heap.size (w.alloc (.cells #[.int .i64 f, .slice na ln cn, .slice oa lo co] 25)) w1 → Hid (Tr7 w1 na oa ln lo N U)) := Lib.hid fun w1 h => Lib.hid (H.out.below (below_al h))
  have hb : Below (w.alloc (.cells #[.int .i64 f, .slice na ln cn, .slice oa lo co] 25)).heap.size (w.alloc (.cells #[.int .i64 f, .slice na ln cn, .slice oa lo co] 25)) (w.alloc (.cells #[.int .i64 f, .slice na ln cn, .slice oa lo co] 25)) := Below.refl _ _
  obtain ⟨x1, x2, x3, x4⟩ := BX.out _ hb
  clear H
  go_enter Tryz.func10, Tryz.ntmps10
  go_wp2_with (first
    | (go_at_call 14; refine (short_w _ _ _ _ _ _ _ _ (by unfold maxLen; omega) (by unfold maxLen; omega)).mono ?_; rw [hsh]; rintro e wl ⟨rfl, hv⟩; (try replace hbs := hbs.trans (hv.mono hbs.size)); (try replace hba := hba.trans (hv.mono hba.size)); (try replace hbc := hbc.trans (hv.mono hbc.size)); (try replace hbd := hbd.trans (hv.mono hbd.size)); replace hb := hb.trans (hv.mono hb.size); clear x1 x2 x3 x4; obtain ⟨x1, x2, x3, x4⟩ := BX.out _ hb)
    | (go_at_call 42; refine (spans_bad f lw hg na oa ln cn lo co N U _ hls hlt (HN.out _ hb) (Lib.hid (.inr (.inr (.inl HC2.out))))).mono ?_; rintro e wl ⟨rfl, hv⟩; (try replace hbs := hbs.trans (hv.mono hbs.size)); (try replace hba := hba.trans (hv.mono hba.size)); (try replace hbc := hbc.trans (hv.mono hbc.size)); (try replace hbd := hbd.trans (hv.mono hbd.size)); replace hb := hb.trans (hv.mono hb.size); clear x1 x2 x3 x4; obtain ⟨x1, x2, x3, x4⟩ := BX.out _ hb)
    | (go_at_call 18; refine (tree_w _ _ _ _ _ _ _ N U _ hls hlt (HN.out _ hb)).mono ?_; rintro e wl ⟨⟨rb, rfl, hrb⟩, hv⟩; obtain rfl : rb = true := hrb.2 HR.out; clear hrb; (try replace hbs := hbs.trans (hv.mono hbs.size)); (try replace hba := hba.trans (hv.mono hba.size)); (try replace hbc := hbc.trans (hv.mono hbc.size)); (try replace hbd := hbd.trans (hv.mono hbd.size)); replace hb := hb.trans (hv.mono hb.size); clear x1 x2 x3 x4; obtain ⟨x1, x2, x3, x4⟩ := BX.out _ hb)
    | (go_at_call_of 41 lw; refine (cups_w lw _).mono ?_; rw [HC1.out]; rintro e wl ⟨rfl, rfl⟩)
    | (go_at_call_of 41 hg; refine (cups_w hg _).mono ?_; rw [HC2.out]; rintro e wl ⟨rfl, rfl⟩)
    | (go_at_call 15; refine (K.out _).mono ?_; rintro e wl ⟨rfl, hv⟩; (try replace hbs := hbs.trans (hv.mono hbs.size)); (try replace hba := hba.trans (hv.mono hba.size)); (try replace hbc := hbc.trans (hv.mono hbc.size)); (try replace hbd := hbd.trans (hv.mono hbd.size)); replace hb := hb.trans (hv.mono hb.size); clear x1 x2 x3 x4; obtain ⟨x1, x2, x3, x4⟩ := BX.out _ hb))
  go_ret
  exact ⟨rfl, below_al hb⟩

set_option maxRecDepth 100000 in
set_option maxHeartbeats 4000000 in
theorem lawsp_e (f : Int) (na oa : Option Addr) (ln cn lo co : Nat) (N : Nat → N2) (U : Nat → O3) (lw hg : Int) (w : World) (hls : ln ≤ 1000000) (hlt : lo ≤ 1000000) (H : Hid (Tr7 w na oa ln lo N U)) (K : Hid KnownOk) (hq : ln ≤ 8 ∧ lo ≤ 10) (HR : Hid (TreeP f ln lo N U)) (HC1 : Hid (fromB 0 200 lw = true)) (HC2 : Hid (fromB 0 200 hg = true)) (hd1 : hg < lw) :
    Calls Tryz.prog 10 #[.agg #[.int .i64 f, .slice na ln cn, .slice oa lo co], .int .i64 lw, .int .i64 hg] w
      fun e w' => e = .returned (.bool true) ∧ Below w.heap.size w w' := by
  have hsh : decide (ln ≤ 8 ∧ lo ≤ 10) = true := decide_eq_true hq
  have BX := Lib.hid (fun (w1 : World) (hb : Below (w.alloc (.cells #[.int .i64 f, .slice na ln cn, .slice oa lo co] 25)).heap.size (w.alloc (.cells #[.int .i64 f, .slice na ln cn, .slice oa lo co] 25)) w1) => box7 hb)
  have HN : Hid (∀ w1, Below (w.alloc (.cells #[.int .i64 f, .slice na ln cn, .slice oa lo co] 25)).heap.size (w.alloc (.cells #[.int .i64 f, .slice na ln cn, .slice oa lo co] 25)) w1 → Hid (Tr7 w1 na oa ln lo N U)) := Lib.hid fun w1 h => Lib.hid (H.out.below (below_al h))
  have hb : Below (w.alloc (.cells #[.int .i64 f, .slice na ln cn, .slice oa lo co] 25)).heap.size (w.alloc (.cells #[.int .i64 f, .slice na ln cn, .slice oa lo co] 25)) (w.alloc (.cells #[.int .i64 f, .slice na ln cn, .slice oa lo co] 25)) := Below.refl _ _
  obtain ⟨x1, x2, x3, x4⟩ := BX.out _ hb
  clear H
  go_enter Tryz.func10, Tryz.ntmps10
  go_wp2_with (first
    | (go_at_call 14; refine (short_w _ _ _ _ _ _ _ _ (by unfold maxLen; omega) (by unfold maxLen; omega)).mono ?_; rw [hsh]; rintro e wl ⟨rfl, hv⟩; (try replace hbs := hbs.trans (hv.mono hbs.size)); (try replace hba := hba.trans (hv.mono hba.size)); (try replace hbc := hbc.trans (hv.mono hbc.size)); (try replace hbd := hbd.trans (hv.mono hbd.size)); replace hb := hb.trans (hv.mono hb.size); clear x1 x2 x3 x4; obtain ⟨x1, x2, x3, x4⟩ := BX.out _ hb)
    | (go_at_call 42; refine (spans_bad f lw hg na oa ln cn lo co N U _ hls hlt (HN.out _ hb) (Lib.hid (.inr (.inr (.inr hd1))))).mono ?_; rintro e wl ⟨rfl, hv⟩; (try replace hbs := hbs.trans (hv.mono hbs.size)); (try replace hba := hba.trans (hv.mono hba.size)); (try replace hbc := hbc.trans (hv.mono hbc.size)); (try replace hbd := hbd.trans (hv.mono hbd.size)); replace hb := hb.trans (hv.mono hb.size); clear x1 x2 x3 x4; obtain ⟨x1, x2, x3, x4⟩ := BX.out _ hb)
    | (go_at_call 18; refine (tree_w _ _ _ _ _ _ _ N U _ hls hlt (HN.out _ hb)).mono ?_; rintro e wl ⟨⟨rb, rfl, hrb⟩, hv⟩; obtain rfl : rb = true := hrb.2 HR.out; clear hrb; (try replace hbs := hbs.trans (hv.mono hbs.size)); (try replace hba := hba.trans (hv.mono hba.size)); (try replace hbc := hbc.trans (hv.mono hbc.size)); (try replace hbd := hbd.trans (hv.mono hbd.size)); replace hb := hb.trans (hv.mono hb.size); clear x1 x2 x3 x4; obtain ⟨x1, x2, x3, x4⟩ := BX.out _ hb)
    | (go_at_call_of 41 lw; refine (cups_w lw _).mono ?_; rw [HC1.out]; rintro e wl ⟨rfl, rfl⟩)
    | (go_at_call_of 41 hg; refine (cups_w hg _).mono ?_; rw [HC2.out]; rintro e wl ⟨rfl, rfl⟩)
    | (go_at_call 15; refine (K.out _).mono ?_; rintro e wl ⟨rfl, hv⟩; (try replace hbs := hbs.trans (hv.mono hbs.size)); (try replace hba := hba.trans (hv.mono hba.size)); (try replace hbc := hbc.trans (hv.mono hbc.size)); (try replace hbd := hbd.trans (hv.mono hbd.size)); replace hb := hb.trans (hv.mono hb.size); clear x1 x2 x3 x4; obtain ⟨x1, x2, x3, x4⟩ := BX.out _ hb))
  go_ret
  exact ⟨rfl, below_al hb⟩

set_option maxRecDepth 100000 in
set_option maxHeartbeats 4000000 in
theorem lawsp_f (f : Int) (na oa : Option Addr) (ln cn lo co : Nat) (N : Nat → N2) (U : Nat → O3) (lw hg : Int) (w : World) (hls : ln ≤ 1000000) (hlt : lo ≤ 1000000) (H : Hid (Tr7 w na oa ln lo N U)) (K : Hid KnownOk) (hq : ln ≤ 8 ∧ lo ≤ 10) (HR : Hid (TreeP f ln lo N U)) (HC1 : Hid (fromB 0 200 lw = true)) (HC2 : Hid (fromB 0 200 hg = true)) (hd1 : ¬ hg < lw) :
    Calls Tryz.prog 10 #[.agg #[.int .i64 f, .slice na ln cn, .slice oa lo co], .int .i64 lw, .int .i64 hg] w
      fun e w' => e = .returned (.bool true) ∧ Below w.heap.size w w' := by
  have hsh : decide (ln ≤ 8 ∧ lo ≤ 10) = true := decide_eq_true hq
  have BX := Lib.hid (fun (w1 : World) (hb : Below (w.alloc (.cells #[.int .i64 f, .slice na ln cn, .slice oa lo co] 25)).heap.size (w.alloc (.cells #[.int .i64 f, .slice na ln cn, .slice oa lo co] 25)) w1) => box7 hb)
  have HN : Hid (∀ w1, Below (w.alloc (.cells #[.int .i64 f, .slice na ln cn, .slice oa lo co] 25)).heap.size (w.alloc (.cells #[.int .i64 f, .slice na ln cn, .slice oa lo co] 25)) w1 → Hid (Tr7 w1 na oa ln lo N U)) := Lib.hid fun w1 h => Lib.hid (H.out.below (below_al h))
  have hb : Below (w.alloc (.cells #[.int .i64 f, .slice na ln cn, .slice oa lo co] 25)).heap.size (w.alloc (.cells #[.int .i64 f, .slice na ln cn, .slice oa lo co] 25)) (w.alloc (.cells #[.int .i64 f, .slice na ln cn, .slice oa lo co] 25)) := Below.refl _ _
  obtain ⟨x1, x2, x3, x4⟩ := BX.out _ hb
  clear H
  go_enter Tryz.func10, Tryz.ntmps10
  go_wp2_with (first
    | (go_at_call 14; refine (short_w _ _ _ _ _ _ _ _ (by unfold maxLen; omega) (by unfold maxLen; omega)).mono ?_; rw [hsh]; rintro e wl ⟨rfl, hv⟩; (try replace hbs := hbs.trans (hv.mono hbs.size)); (try replace hba := hba.trans (hv.mono hba.size)); (try replace hbc := hbc.trans (hv.mono hbc.size)); (try replace hbd := hbd.trans (hv.mono hbd.size)); replace hb := hb.trans (hv.mono hb.size); clear x1 x2 x3 x4; obtain ⟨x1, x2, x3, x4⟩ := BX.out _ hb)
    | (go_at_call 42; refine (spans_w f lw hg na oa ln cn lo co N U _ HR (HN.out _ hb) HC1.out HC2.out (by omega)).mono ?_; rintro e wl ⟨⟨vs, rfl, hsp⟩, hv⟩; (try replace hbs := hbs.trans (hv.mono hbs.size)); (try replace hba := hba.trans (hv.mono hba.size)); (try replace hbc := hbc.trans (hv.mono hbc.size)); (try replace hbd := hbd.trans (hv.mono hbd.size)); replace hb := hb.trans (hv.mono hb.size); clear x1 x2 x3 x4; obtain ⟨x1, x2, x3, x4⟩ := BX.out _ hb; have HSP := Lib.hid hsp; have hbs := Below.refl wl.heap.size wl; clear hsp)
    | (go_at_call 18; refine (tree_w _ _ _ _ _ _ _ N U _ hls hlt (HN.out _ hb)).mono ?_; rintro e wl ⟨⟨rb, rfl, hrb⟩, hv⟩; obtain rfl : rb = true := hrb.2 HR.out; clear hrb; (try replace hbs := hbs.trans (hv.mono hbs.size)); (try replace hba := hba.trans (hv.mono hba.size)); (try replace hbc := hbc.trans (hv.mono hbc.size)); (try replace hbd := hbd.trans (hv.mono hbd.size)); replace hb := hb.trans (hv.mono hb.size); clear x1 x2 x3 x4; obtain ⟨x1, x2, x3, x4⟩ := BX.out _ hb)
    | (go_at_call_of 41 lw; refine (cups_w lw _).mono ?_; rw [HC1.out]; rintro e wl ⟨rfl, rfl⟩)
    | (go_at_call_of 41 hg; refine (cups_w hg _).mono ?_; rw [HC2.out]; rintro e wl ⟨rfl, rfl⟩)
    | (go_at_call 45; refine (rspans_w f lw hg na oa ln cn lo co N U _ HR (HN.out _ hb) (by have := HC1.out; simp [fromB] at this; omega) (by have := HC2.out; simp [fromB] at this; omega) (by omega)).mono ?_; rintro e wl ⟨⟨vr, rfl, hsp2⟩, hv⟩; (try replace hbs := hbs.trans (hv.mono hbs.size)); (try replace hba := hba.trans (hv.mono hba.size)); (try replace hbc := hbc.trans (hv.mono hbc.size)); (try replace hbd := hbd.trans (hv.mono hbd.size)); replace hb := hb.trans (hv.mono hb.size); clear x1 x2 x3 x4; obtain ⟨x1, x2, x3, x4⟩ := BX.out _ hb; have HSP2 := Lib.hid hsp2; clear hsp2)
    | (go_at_call 44; obtain ⟨x, y, g1, g2, g3⟩ := HSP.out.ex; obtain ⟨x', y', g4, g5, g6⟩ := HSP2.out.ex; obtain rfl := g2.det g5; obtain rfl := g3.det g6; refine (sameSpans_w vs vr lo x y _ (by unfold maxLen; omega) (Lib.hid (g1.below hbs)) (Lib.hid g4)).mono ?_; rintro e wl ⟨rfl, hv⟩; (try replace hbs := hbs.trans (hv.mono hbs.size)); (try replace hba := hba.trans (hv.mono hba.size)); (try replace hbc := hbc.trans (hv.mono hbc.size)); (try replace hbd := hbd.trans (hv.mono hbd.size)); replace hb := hb.trans (hv.mono hb.size); clear x1 x2 x3 x4; obtain ⟨x1, x2, x3, x4⟩ := BX.out _ hb)
    | (go_at_call 15; refine (K.out _).mono ?_; rintro e wl ⟨rfl, hv⟩; (try replace hbs := hbs.trans (hv.mono hbs.size)); (try replace hba := hba.trans (hv.mono hba.size)); (try replace hbc := hbc.trans (hv.mono hbc.size)); (try replace hbd := hbd.trans (hv.mono hbd.size)); replace hb := hb.trans (hv.mono hb.size); clear x1 x2 x3 x4; obtain ⟨x1, x2, x3, x4⟩ := BX.out _ hb))
  go_ret
  exact ⟨rfl, below_al hb⟩

set_option maxHeartbeats 1000000 in
theorem lawsp_w (f : Int) (na oa : Option Addr) (ln cn lo co : Nat) (N : Nat → N2) (U : Nat → O3) (lw hg : Int) (w : World) (hls : ln ≤ maxLen) (hlt : lo ≤ maxLen) (H : Tr7 w na oa ln lo N U) (K : KnownOk) :
    Calls Tryz.prog 10 #[.agg #[.int .i64 f, .slice na ln cn, .slice oa lo co], .int .i64 lw, .int .i64 hg] w
      fun e w' => e = .returned (.bool true) ∧ Below w.heap.size w w' := by
  by_cases hq : ln ≤ 8 ∧ lo ≤ 10
  case neg => exact lawsp_a f na oa ln cn lo co N U lw hg w hls hlt (Lib.hid H) (Lib.hid K) hq
  by_cases HR : TreeP f ln lo N U
  case neg => exact lawsp_b f na oa ln cn lo co N U lw hg w (by omega) (by omega) (Lib.hid H) (Lib.hid K) hq (Lib.hid HR)
  cases h1 : fromB 0 200 lw with
  | false => exact lawsp_c f na oa ln cn lo co N U lw hg w (by omega) (by omega) (Lib.hid H) (Lib.hid K) hq (Lib.hid HR) (Lib.hid h1)
  | true =>
    cases h2 : fromB 0 200 hg with
    | false => exact lawsp_d f na oa ln cn lo co N U lw hg w (by omega) (by omega) (Lib.hid H) (Lib.hid K) hq (Lib.hid HR) (Lib.hid h1) (Lib.hid h2)
    | true =>
      by_cases hd1 : hg < lw
      · exact lawsp_e f na oa ln cn lo co N U lw hg w (by omega) (by omega) (Lib.hid H) (Lib.hid K) hq (Lib.hid HR) (Lib.hid h1) (Lib.hid h2) hd1
      exact lawsp_f f na oa ln cn lo co N U lw hg w (by omega) (by omega) (Lib.hid H) (Lib.hid K) hq (Lib.hid HR) (Lib.hid h1) (Lib.hid h2) hd1
end Go.Kn
