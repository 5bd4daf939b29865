/- Walks of functions of layer 2 (contracts that the laws of this seat use). Conditions: as each theorem states them. -/
import Derived.Test.YtalnemafmklelaaGreatDoorBP
import Derived.Test.YtalnemafmklelaaGreatDoorBQ
import Derived.Deep.RegionHeld3
import Derived.WalkMore
set_option linter.unusedVariables false
set_option linter.unusedSimpArgs false
namespace Go.Kn
open Go Go.Proofs Go.RowKit

set_option maxRecDepth 100000 in
set_option maxHeartbeats 8000000 in
theorem lawb15_a (sa ta sq : Option Addr) (ls cs lt ct lq cq : Nat) (s : Nat → Int) (t : Nat → St5) (g : Nat → Int) (nd st ot : Int) (w : World) (hls : ls ≤ maxLen) (hlt : lt ≤ maxLen) (hlq : lq ≤ maxLen) (hq : ¬ (ls ≤ 13 ∧ lt ≤ 10)) (H : Hid (AnyLine w sa ta ls lt s t)) (HS : Hid (IntSl w sq lq g)) (K : Hid KnownOk) :
    Calls Tryz.prog 15 #[.agg #[.slice sa ls cs, .slice ta lt ct], .slice sq lq cq, .int .i64 nd, .int .i64 st, .int .i64 ot] w
      fun e w' => e = .returned (.bool true) ∧ Below w.heap.size w w' := by
  have hsh : decide (ls ≤ 13 ∧ lt ≤ 10) = false := decide_eq_false hq
  have hW : Below w.heap.size w (w.alloc (.cells #[.slice sa ls cs, .slice ta lt ct] 25)) := (Below.refl _ _).alloc (Nat.le_refl _) _
  have BX := Lib.hid (fun (w1 : World) (hb : Below (w.alloc (.cells #[.slice sa ls cs, .slice ta lt ct] 25)).heap.size (w.alloc (.cells #[.slice sa ls cs, .slice ta lt ct] 25)) w1) => box_cells hb)
  have HN : Hid (∀ w1, Below (w.alloc (.cells #[.slice sa ls cs, .slice ta lt ct] 25)).heap.size (w.alloc (.cells #[.slice sa ls cs, .slice ta lt ct] 25)) w1 → Hid (AnyLine w1 sa ta ls lt s t)) := Lib.hid fun w1 h => Lib.hid (H.out.below (hW.trans (h.mono hW.size)))
  have HI : Hid (∀ w1, Below (w.alloc (.cells #[.slice sa ls cs, .slice ta lt ct] 25)).heap.size (w.alloc (.cells #[.slice sa ls cs, .slice ta lt ct] 25)) w1 → Hid (IntSl w1 sq lq g)) := Lib.hid fun w1 h => Lib.hid (HS.out.below (hW.trans (h.mono hW.size)))
  have HWB : Hid (∀ w1, Below (w.alloc (.cells #[.slice sa ls cs, .slice ta lt ct] 25)).heap.size (w.alloc (.cells #[.slice sa ls cs, .slice ta lt ct] 25)) w1 → Below w.heap.size w w1) := Lib.hid fun w1 h => hW.trans (h.mono hW.size)
  have hb : Below (w.alloc (.cells #[.slice sa ls cs, .slice ta lt ct] 25)).heap.size (w.alloc (.cells #[.slice sa ls cs, .slice ta lt ct] 25)) (w.alloc (.cells #[.slice sa ls cs, .slice ta lt ct] 25)) := Below.refl _ _
  obtain ⟨x1, x2, x3⟩ := BX.out _ hb
  clear hW H HS
  go_enter Tryz.func15, Tryz.ntmps15
  go_wp2_with (first
    | (go_at_call 16; refine (short_w _ _ _ _ _ _ _ hls hlt).mono ?_; rw [hsh]; rintro e wl ⟨rfl, hv⟩; replace hb := hb.trans (hv.mono hb.size); clear x1 x2 x3; obtain ⟨x1, x2, x3⟩ := BX.out _ hb)
    | (go_at_call 17; refine (K.out _).mono ?_; rintro e wl ⟨rfl, hv⟩; replace hb := hb.trans (hv.mono hb.size); clear x1 x2 x3; obtain ⟨x1, x2, x3⟩ := BX.out _ hb))
  go_ret
  exact ⟨rfl, HWB.out _ hb⟩

set_option maxRecDepth 100000 in
set_option maxHeartbeats 8000000 in
theorem lawb15_b (sa ta sq : Option Addr) (ls cs lt ct lq cq : Nat) (s : Nat → Int) (t : Nat → St5) (g : Nat → Int) (nd st ot : Int) (w : World) (hls : ls ≤ maxLen) (hlt : lt ≤ maxLen) (hlq : lq ≤ maxLen) (hq : ls ≤ 13 ∧ lt ≤ 10) (hqq : ¬ lq ≤ 10) (H : Hid (AnyLine w sa ta ls lt s t)) (HS : Hid (IntSl w sq lq g)) (K : Hid KnownOk) :
    Calls Tryz.prog 15 #[.agg #[.slice sa ls cs, .slice ta lt ct], .slice sq lq cq, .int .i64 nd, .int .i64 st, .int .i64 ot] w
      fun e w' => e = .returned (.bool true) ∧ Below w.heap.size w w' := by
  have hsh : decide (ls ≤ 13 ∧ lt ≤ 10) = true := decide_eq_true hq
  have hq10 : (10 : Int) < (lq : Int) := by omega
  have hW : Below w.heap.size w (w.alloc (.cells #[.slice sa ls cs, .slice ta lt ct] 25)) := (Below.refl _ _).alloc (Nat.le_refl _) _
  have BX := Lib.hid (fun (w1 : World) (hb : Below (w.alloc (.cells #[.slice sa ls cs, .slice ta lt ct] 25)).heap.size (w.alloc (.cells #[.slice sa ls cs, .slice ta lt ct] 25)) w1) => box_cells hb)
  have HN : Hid (∀ w1, Below (w.alloc (.cells #[.slice sa ls cs, .slice ta lt ct] 25)).heap.size (w.alloc (.cells #[.slice sa ls cs, .slice ta lt ct] 25)) w1 → Hid (AnyLine w1 sa ta ls lt s t)) := Lib.hid fun w1 h => Lib.hid (H.out.below (hW.trans (h.mono hW.size)))
  have HI : Hid (∀ w1, Below (w.alloc (.cells #[.slice sa ls cs, .slice ta lt ct] 25)).heap.size (w.alloc (.cells #[.slice sa ls cs, .slice ta lt ct] 25)) w1 → Hid (IntSl w1 sq lq g)) := Lib.hid fun w1 h => Lib.hid (HS.out.below (hW.trans (h.mono hW.size)))
  have HWB : Hid (∀ w1, Below (w.alloc (.cells #[.slice sa ls cs, .slice ta lt ct] 25)).heap.size (w.alloc (.cells #[.slice sa ls cs, .slice ta lt ct] 25)) w1 → Below w.heap.size w w1) := Lib.hid fun w1 h => hW.trans (h.mono hW.size)
  have hb : Below (w.alloc (.cells #[.slice sa ls cs, .slice ta lt ct] 25)).heap.size (w.alloc (.cells #[.slice sa ls cs, .slice ta lt ct] 25)) (w.alloc (.cells #[.slice sa ls cs, .slice ta lt ct] 25)) := Below.refl _ _
  obtain ⟨x1, x2, x3⟩ := BX.out _ hb
  clear hW H HS
  go_enter Tryz.func15, Tryz.ntmps15
  go_wp2_with (first
    | (go_at_call 16; refine (short_w _ _ _ _ _ _ _ hls hlt).mono ?_; rw [hsh]; rintro e wl ⟨rfl, hv⟩; replace hb := hb.trans (hv.mono hb.size); clear x1 x2 x3; obtain ⟨x1, x2, x3⟩ := BX.out _ hb)
    | (go_at_call 17; refine (K.out _).mono ?_; rintro e wl ⟨rfl, hv⟩; replace hb := hb.trans (hv.mono hb.size); clear x1 x2 x3; obtain ⟨x1, x2, x3⟩ := BX.out _ hb))
  go_ret
  exact ⟨rfl, HWB.out _ hb⟩

set_option maxRecDepth 100000 in
set_option maxHeartbeats 8000000 in
theorem lawb15_c (sa ta sq : Option Addr) (ls cs lt ct lq cq : Nat) (s : Nat → Int) (t : Nat → St5) (g : Nat → Int) (nd st ot : Int) (w : World) (hls : ls ≤ 1000000) (hlt : lt ≤ 1000000) (hlq : lq ≤ maxLen) (hq : ls ≤ 13 ∧ lt ≤ 10) (hqq : lq ≤ 10) (HR : Hid (¬ RightP ls lt s t)) (H : Hid (AnyLine w sa ta ls lt s t)) (HS : Hid (IntSl w sq lq g)) (K : Hid KnownOk) :
    Calls Tryz.prog 15 #[.agg #[.slice sa ls cs, .slice ta lt ct], .slice sq lq cq, .int .i64 nd, .int .i64 st, .int .i64 ot] w
      fun e w' => e = .returned (.bool true) ∧ Below w.heap.size w w' := by
  have hsh : decide (ls ≤ 13 ∧ lt ≤ 10) = true := decide_eq_true hq
  have hq10 : (lq : Int) ≤ (10 : Int) := by omega
  have hW : Below w.heap.size w (w.alloc (.cells #[.slice sa ls cs, .slice ta lt ct] 25)) := (Below.refl _ _).alloc (Nat.le_refl _) _
  have BX := Lib.hid (fun (w1 : World) (hb : Below (w.alloc (.cells #[.slice sa ls cs, .slice ta lt ct] 25)).heap.size (w.alloc (.cells #[.slice sa ls cs, .slice ta lt ct] 25)) w1) => box_cells hb)
  have HN : Hid (∀ w1, Below (w.alloc (.cells #[.slice sa ls cs, .slice ta lt ct] 25)).heap.size (w.alloc (.cells #[.slice sa ls cs, .slice ta lt ct] 25)) w1 → Hid (AnyLine w1 sa ta ls lt s t)) := Lib.hid fun w1 h => Lib.hid (H.out.below (hW.trans (h.mono hW.size)))
  have HI : Hid (∀ w1, Below (w.alloc (.cells #[.slice sa ls cs, .slice ta lt ct] 25)).heap.size (w.alloc (.cells #[.slice sa ls cs, .slice ta lt ct] 25)) w1 → Hid (IntSl w1 sq lq g)) := Lib.hid fun w1 h => Lib.hid (HS.out.below (hW.trans (h.mono hW.size)))
  have HWB : Hid (∀ w1, Below (w.alloc (.cells #[.slice sa ls cs, .slice ta lt ct] 25)).heap.size (w.alloc (.cells #[.slice sa ls cs, .slice ta lt ct] 25)) w1 → Below w.heap.size w w1) := Lib.hid fun w1 h => hW.trans (h.mono hW.size)
  have hb : Below (w.alloc (.cells #[.slice sa ls cs, .slice ta lt ct] 25)).heap.size (w.alloc (.cells #[.slice sa ls cs, .slice ta lt ct] 25)) (w.alloc (.cells #[.slice sa ls cs, .slice ta lt ct] 25)) := Below.refl _ _
  obtain ⟨x1, x2, x3⟩ := BX.out _ hb
  clear hW H HS
  go_enter Tryz.func15, Tryz.ntmps15
  go_wp2_with (first
    | (go_at_call 16; refine (short_w _ _ _ _ _ _ _ (by unfold maxLen; omega) (by unfold maxLen; omega)).mono ?_; rw [hsh]; rintro e wl ⟨rfl, hv⟩; replace hb := hb.trans (hv.mono hb.size); clear x1 x2 x3; obtain ⟨x1, x2, x3⟩ := BX.out _ hb)
    | (go_at_call 20; refine (right_w _ _ _ _ _ _ s t _ hls hlt (Lib.hid (HN.out _ hb).out.hs) (Lib.hid (HN.out _ hb).out.ht)).mono ?_; rintro e wl ⟨⟨rb, rfl, hrb⟩, hv⟩; obtain rfl : rb = false := (by cases rb <;> first | rfl | exact (HR.out (hrb.1 rfl)).elim); clear hrb; replace hb := hb.trans (hv.mono hb.size); clear x1 x2 x3; obtain ⟨x1, x2, x3⟩ := BX.out _ hb)
    | (go_at_call 17; refine (K.out _).mono ?_; rintro e wl ⟨rfl, hv⟩; replace hb := hb.trans (hv.mono hb.size); clear x1 x2 x3; obtain ⟨x1, x2, x3⟩ := BX.out _ hb))
  go_ret
  exact ⟨rfl, HWB.out _ hb⟩

set_option maxRecDepth 100000 in
set_option maxHeartbeats 8000000 in
theorem lawb15_d (sa ta sq : Option Addr) (ls cs lt ct lq cq : Nat) (s : Nat → Int) (t : Nat → St5) (g : Nat → Int) (nd st ot : Int) (w : World) (hls : ls ≤ 1000000) (hlt : lt ≤ 1000000) (hlq : lq ≤ maxLen) (hq : ls ≤ 13 ∧ lt ≤ 10) (hqq : lq ≤ 10) (HR : Hid (RightP ls lt s t)) (HQ : Hid (¬ AgeP lt lq g)) (H : Hid (AnyLine w sa ta ls lt s t)) (HS : Hid (IntSl w sq lq g)) (K : Hid KnownOk) :
    Calls Tryz.prog 15 #[.agg #[.slice sa ls cs, .slice ta lt ct], .slice sq lq cq, .int .i64 nd, .int .i64 st, .int .i64 ot] w
      fun e w' => e = .returned (.bool true) ∧ Below w.heap.size w w' := by
  have hsh : decide (ls ≤ 13 ∧ lt ≤ 10) = true := decide_eq_true hq
  have hq10 : (lq : Int) ≤ (10 : Int) := by omega
  have hW : Below w.heap.size w (w.alloc (.cells #[.slice sa ls cs, .slice ta lt ct] 25)) := (Below.refl _ _).alloc (Nat.le_refl _) _
  have BX := Lib.hid (fun (w1 : World) (hb : Below (w.alloc (.cells #[.slice sa ls cs, .slice ta lt ct] 25)).heap.size (w.alloc (.cells #[.slice sa ls cs, .slice ta lt ct] 25)) w1) => box_cells hb)
  have HN : Hid (∀ w1, Below (w.alloc (.cells #[.slice sa ls cs, .slice ta lt ct] 25)).heap.size (w.alloc (.cells #[.slice sa ls cs, .slice ta lt ct] 25)) w1 → Hid (AnyLine w1 sa ta ls lt s t)) := Lib.hid fun w1 h => Lib.hid (H.out.below (hW.trans (h.mono hW.size)))
  have HI : Hid (∀ w1, Below (w.alloc (.cells #[.slice sa ls cs, .slice ta lt ct] 25)).heap.size (w.alloc (.cells #[.slice sa ls cs, .slice ta lt ct] 25)) w1 → Hid (IntSl w1 sq lq g)) := Lib.hid fun w1 h => Lib.hid (HS.out.below (hW.trans (h.mono hW.size)))
  have HWB : Hid (∀ w1, Below (w.alloc (.cells #[.slice sa ls cs, .slice ta lt ct] 25)).heap.size (w.alloc (.cells #[.slice sa ls cs, .slice ta lt ct] 25)) w1 → Below w.heap.size w w1) := Lib.hid fun w1 h => hW.trans (h.mono hW.size)
  have hb : Below (w.alloc (.cells #[.slice sa ls cs, .slice ta lt ct] 25)).heap.size (w.alloc (.cells #[.slice sa ls cs, .slice ta lt ct] 25)) (w.alloc (.cells #[.slice sa ls cs, .slice ta lt ct] 25)) := Below.refl _ _
  obtain ⟨x1, x2, x3⟩ := BX.out _ hb
  clear hW H HS
  go_enter Tryz.func15, Tryz.ntmps15
  go_wp2_with (first
    | (go_at_call 16; refine (short_w _ _ _ _ _ _ _ (by unfold maxLen; omega) (by unfold maxLen; omega)).mono ?_; rw [hsh]; rintro e wl ⟨rfl, hv⟩; replace hb := hb.trans (hv.mono hb.size); clear x1 x2 x3; obtain ⟨x1, x2, x3⟩ := BX.out _ hb)
    | (go_at_call 20; refine (right_w _ _ _ _ _ _ s t _ hls hlt (Lib.hid (HN.out _ hb).out.hs) (Lib.hid (HN.out _ hb).out.ht)).mono ?_; rintro e wl ⟨⟨rb, rfl, hrb⟩, hv⟩; obtain rfl : rb = true := hrb.2 HR.out; clear hrb; replace hb := hb.trans (hv.mono hb.size); clear x1 x2 x3; obtain ⟨x1, x2, x3⟩ := BX.out _ hb)
    | (go_at_call 27; refine (refAges_w _ _ _ _ _ _ _ g _ hlt hlq (HI.out _ hb)).mono ?_; rintro e wl ⟨⟨rb, rfl, hrb⟩, hv⟩; obtain rfl : rb = false := (by cases rb <;> first | rfl | exact (HQ.out (hrb.1 rfl)).elim); clear hrb; replace hb := hb.trans (hv.mono hb.size); clear x1 x2 x3; obtain ⟨x1, x2, x3⟩ := BX.out _ hb)
    | (go_at_call 17; refine (K.out _).mono ?_; rintro e wl ⟨rfl, hv⟩; replace hb := hb.trans (hv.mono hb.size); clear x1 x2 x3; obtain ⟨x1, x2, x3⟩ := BX.out _ hb))
  go_ret
  exact ⟨rfl, HWB.out _ hb⟩

set_option maxRecDepth 100000 in
set_option maxHeartbeats 8000000 in
theorem lawb15_e (sa ta sq : Option Addr) (ls cs lt ct lq cq : Nat) (s : Nat → Int) (t : Nat → St5) (g : Nat → Int) (nd st ot : Int) (w : World) (hls : ls ≤ 1000000) (hlt : lt ≤ 1000000) (hlq : lq ≤ maxLen) (hq : ls ≤ 13 ∧ lt ≤ 10) (hqq : lq ≤ 10) (HR : Hid (RightP ls lt s t)) (HQ : Hid (AgeP lt lq g)) (g2 : fromB 1 10000000 nd = false) (H : Hid (AnyLine w sa ta ls lt s t)) (HS : Hid (IntSl w sq lq g)) (K : Hid KnownOk) :
    Calls Tryz.prog 15 #[.agg #[.slice sa ls cs, .slice ta lt ct], .slice sq lq cq, .int .i64 nd, .int .i64 st, .int .i64 ot] w
      fun e w' => e = .returned (.bool true) ∧ Below w.heap.size w w' := by
  have hsh : decide (ls ≤ 13 ∧ lt ≤ 10) = true := decide_eq_true hq
  have hq10 : (lq : Int) ≤ (10 : Int) := by omega
  have hW : Below w.heap.size w (w.alloc (.cells #[.slice sa ls cs, .slice ta lt ct] 25)) := (Below.refl _ _).alloc (Nat.le_refl _) _
  have BX := Lib.hid (fun (w1 : World) (hb : Below (w.alloc (.cells #[.slice sa ls cs, .slice ta lt ct] 25)).heap.size (w.alloc (.cells #[.slice sa ls cs, .slice ta lt ct] 25)) w1) => box_cells hb)
  have HN : Hid (∀ w1, Below (w.alloc (.cells #[.slice sa ls cs, .slice ta lt ct] 25)).heap.size (w.alloc (.cells #[.slice sa ls cs, .slice ta lt ct] 25)) w1 → Hid (AnyLine w1 sa ta ls lt s t)) := Lib.hid fun w1 h => Lib.hid (H.out.below (hW.trans (h.mono hW.size)))
  have HI : Hid (∀ w1, Below (w.alloc (.cells #[.slice sa ls cs, .slice ta lt ct] 25)).heap.size (w.alloc (.cells #[.slice sa ls cs, .slice ta lt ct] 25)) w1 → Hid (IntSl w1 sq lq g)) := Lib.hid fun w1 h => Lib.hid (HS.out.below (hW.trans (h.mono hW.size)))
  have HWB : Hid (∀ w1, Below (w.alloc (.cells #[.slice sa ls cs, .slice ta lt ct] 25)).heap.size (w.alloc (.cells #[.slice sa ls cs, .slice ta lt ct] 25)) w1 → Below w.heap.size w w1) := Lib.hid fun w1 h => hW.trans (h.mono hW.size)
  have hb : Below (w.alloc (.cells #[.slice sa ls cs, .slice ta lt ct] 25)).heap.size (w.alloc (.cells #[.slice sa ls cs, .slice ta lt ct] 25)) (w.alloc (.cells #[.slice sa ls cs, .slice ta lt ct] 25)) := Below.refl _ _
  obtain ⟨x1, x2, x3⟩ := BX.out _ hb
  clear hW H HS
  go_enter Tryz.func15, Tryz.ntmps15
  go_wp2_with (first
    | (go_at_call 16; refine (short_w _ _ _ _ _ _ _ (by unfold maxLen; omega) (by unfold maxLen; omega)).mono ?_; rw [hsh]; rintro e wl ⟨rfl, hv⟩; replace hb := hb.trans (hv.mono hb.size); clear x1 x2 x3; obtain ⟨x1, x2, x3⟩ := BX.out _ hb)
    | (go_at_call 20; refine (right_w _ _ _ _ _ _ s t _ hls hlt (Lib.hid (HN.out _ hb).out.hs) (Lib.hid (HN.out _ hb).out.ht)).mono ?_; rintro e wl ⟨⟨rb, rfl, hrb⟩, hv⟩; obtain rfl : rb = true := hrb.2 HR.out; clear hrb; replace hb := hb.trans (hv.mono hb.size); clear x1 x2 x3; obtain ⟨x1, x2, x3⟩ := BX.out _ hb)
    | (go_at_call 27; refine (refAges_w _ _ _ _ _ _ _ g _ hlt hlq (HI.out _ hb)).mono ?_; rintro e wl ⟨⟨rb, rfl, hrb⟩, hv⟩; obtain rfl : rb = true := hrb.2 HQ.out; clear hrb; replace hb := hb.trans (hv.mono hb.size); clear x1 x2 x3; obtain ⟨x1, x2, x3⟩ := BX.out _ hb)
    | (go_at_call 34; refine (need_w _ _).mono ?_; rintro e w' ⟨rfl, rfl⟩)
    | (go_at_call 17; refine (K.out _).mono ?_; rintro e wl ⟨rfl, hv⟩; replace hb := hb.trans (hv.mono hb.size); clear x1 x2 x3; obtain ⟨x1, x2, x3⟩ := BX.out _ hb))
  go_ret
  exact ⟨rfl, HWB.out _ hb⟩

set_option maxRecDepth 100000 in
set_option maxHeartbeats 8000000 in
theorem lawb15_f1 (sa ta sq : Option Addr) (ls cs lt ct lq cq : Nat) (s : Nat → Int) (t : Nat → St5) (g : Nat → Int) (nd st ot : Int) (w : World) (hls : ls ≤ 1000000) (hlt : lt ≤ 1000000) (hlq : lq ≤ maxLen) (hq : ls ≤ 13 ∧ lt ≤ 10) (hqq : lq ≤ 10) (HR : Hid (RightP ls lt s t)) (HQ : Hid (AgeP lt lq g)) (g2 : fromB 1 10000000 nd = true) (g1 : fromB 0 ((lt : Int) - 1) st = false) (H : Hid (AnyLine w sa ta ls lt s t)) (HS : Hid (IntSl w sq lq g)) (K : Hid KnownOk) :
    Calls Tryz.prog 15 #[.agg #[.slice sa ls cs, .slice ta lt ct], .slice sq lq cq, .int .i64 nd, .int .i64 st, .int .i64 ot] w
      fun e w' => e = .returned (.bool true) ∧ Below w.heap.size w w' := by
  have hsh : decide (ls ≤ 13 ∧ lt ≤ 10) = true := decide_eq_true hq
  have hq10 : (lq : Int) ≤ (10 : Int) := by omega
  have hW : Below w.heap.size w (w.alloc (.cells #[.slice sa ls cs, .slice ta lt ct] 25)) := (Below.refl _ _).alloc (Nat.le_refl _) _
  have BX := Lib.hid (fun (w1 : World) (hb : Below (w.alloc (.cells #[.slice sa ls cs, .slice ta lt ct] 25)).heap.size (w.alloc (.cells #[.slice sa ls cs, .slice ta lt ct] 25)) w1) => box_cells hb)
  have HN : Hid (∀ w1, Below (w.alloc (.cells #[.slice sa ls cs, .slice ta lt ct] 25)).heap.size (w.alloc (.cells #[.slice sa ls cs, .slice ta lt ct] 25)) w1 → Hid (AnyLine w1 sa ta ls lt s t)) := Lib.hid fun w1 h => Lib.hid (H.out.below (hW.trans (h.mono hW.size)))
  have HI : Hid (∀ w1, Below (w.alloc (.cells #[.slice sa ls cs, .slice ta lt ct] 25)).heap.size (w.alloc (.cells #[.slice sa ls cs, .slice ta lt ct] 25)) w1 → Hid (IntSl w1 sq lq g)) := Lib.hid fun w1 h => Lib.hid (HS.out.below (hW.trans (h.mono hW.size)))
  have HWB : Hid (∀ w1, Below (w.alloc (.cells #[.slice sa ls cs, .slice ta lt ct] 25)).heap.size (w.alloc (.cells #[.slice sa ls cs, .slice ta lt ct] 25)) w1 → Below w.heap.size w w1) := Lib.hid fun w1 h => hW.trans (h.mono hW.size)
  have hb : Below (w.alloc (.cells #[.slice sa ls cs, .slice ta lt ct] 25)).heap.size (w.alloc (.cells #[.slice sa ls cs, .slice ta lt ct] 25)) (w.alloc (.cells #[.slice sa ls cs, .slice ta lt ct] 25)) := Below.refl _ _
  obtain ⟨x1, x2, x3⟩ := BX.out _ hb
  clear hW H HS
  go_enter Tryz.func15, Tryz.ntmps15
  go_wp2_with (first
    | (go_at_call 16; refine (short_w _ _ _ _ _ _ _ (by unfold maxLen; omega) (by unfold maxLen; omega)).mono ?_; rw [hsh]; rintro e wl ⟨rfl, hv⟩; replace hb := hb.trans (hv.mono hb.size); clear x1 x2 x3; obtain ⟨x1, x2, x3⟩ := BX.out _ hb)
    | (go_at_call 20; refine (right_w _ _ _ _ _ _ s t _ hls hlt (Lib.hid (HN.out _ hb).out.hs) (Lib.hid (HN.out _ hb).out.ht)).mono ?_; rintro e wl ⟨⟨rb, rfl, hrb⟩, hv⟩; obtain rfl : rb = true := hrb.2 HR.out; clear hrb; replace hb := hb.trans (hv.mono hb.size); clear x1 x2 x3; obtain ⟨x1, x2, x3⟩ := BX.out _ hb)
    | (go_at_call 27; refine (refAges_w _ _ _ _ _ _ _ g _ hlt hlq (HI.out _ hb)).mono ?_; rintro e wl ⟨⟨rb, rfl, hrb⟩, hv⟩; obtain rfl : rb = true := hrb.2 HQ.out; clear hrb; replace hb := hb.trans (hv.mono hb.size); clear x1 x2 x3; obtain ⟨x1, x2, x3⟩ := BX.out _ hb)
    | (go_at_call 34; refine (need_w _ _).mono ?_; rintro e w' ⟨rfl, rfl⟩)
    | (go_at_call 21; refine (number_w _ undef _ _ _ _ _ (by unfold maxLen; omega)).mono ?_; rintro e wl ⟨rfl, hv⟩; replace hb := hb.trans (hv.mono hb.size); clear x1 x2 x3; obtain ⟨x1, x2, x3⟩ := BX.out _ hb)
    | (go_at_call 17; refine (K.out _).mono ?_; rintro e wl ⟨rfl, hv⟩; replace hb := hb.trans (hv.mono hb.size); clear x1 x2 x3; obtain ⟨x1, x2, x3⟩ := BX.out _ hb))
  go_ret
  exact ⟨rfl, HWB.out _ hb⟩

set_option maxRecDepth 100000 in
set_option maxHeartbeats 8000000 in
theorem lawb15_g (A O C P ls cs lt ct n D F cq : Nat) (s : Nat → Int) (t : Nat → St5) (g : Nat → Int) (nd ot : Int) (w : World) (H0 : Hid (LineAt w A O C P ls lt s t)) (hn : n < lt) (hD : D < w.heap.size) (HDN : Hid (NumAt w D F lt g)) (HQ : Hid (AgeP lt lt g)) (g2 : fromB 1 10000000 nd = true) (r1 : ot < (t n).b) (K : Hid KnownOk) :
    Calls Tryz.prog 15 #[.agg #[.slice (some ⟨A, O, none⟩) ls cs, .slice (some ⟨C, P, none⟩) lt ct], .slice (some ⟨D, F, none⟩) lt cq, .int .i64 nd, .int .i64 (n : Int), .int .i64 ot] w
      fun e w' => e = .returned (.bool true) ∧ Below w.heap.size w w' := by
  have HR : Hid (RightP ls lt s t) := Lib.hid ⟨H0.out.ls1, H0.out.ls2, H0.out.lt1, H0.out.lt2, H0.out.sok, H0.out.tok⟩
  have q0 := H0.out.ls2
  have q1 := H0.out.lt1
  have q2 := H0.out.lt2
  have hls : ls ≤ 1000000 := by omega
  have hlt : lt ≤ 1000000 := by omega
  have hlq : lt ≤ maxLen := by unfold maxLen; omega
  have n1 : (0 : Int) ≤ (n : Int) := by omega
  have n2 : (n : Int) < (lt : Int) := by omega
  have hsh : decide (ls ≤ 13 ∧ lt ≤ 10) = true := by simp; omega
  have hq10 : (lt : Int) ≤ (10 : Int) := by omega
  have H : Hid (AnyLine w (some ⟨A, O, none⟩) (some ⟨C, P, none⟩) ls lt s t) := Lib.hid ⟨.inr ⟨A, O, rfl, H0.out.hA, H0.out.sp⟩, .inr ⟨C, P, rfl, H0.out.hC, H0.out.st⟩⟩
  have HS : Hid (IntSl w (some ⟨D, F, none⟩) lt g) := Lib.hid (.inr ⟨D, F, rfl, hD, HDN.out⟩)
  have g1 : fromB 0 ((lt : Int) - 1) (n : Int) = true := by simp only [fromB, decide_eq_true_eq]; omega
  have hW : Below w.heap.size w (w.alloc (.cells #[.slice (some ⟨A, O, none⟩) ls cs, .slice (some ⟨C, P, none⟩) lt ct] 25)) := (Below.refl _ _).alloc (Nat.le_refl _) _
  have HL : Hid (∀ w1, Below (w.alloc (.cells #[.slice (some ⟨A, O, none⟩) ls cs, .slice (some ⟨C, P, none⟩) lt ct] 25)).heap.size (w.alloc (.cells #[.slice (some ⟨A, O, none⟩) ls cs, .slice (some ⟨C, P, none⟩) lt ct] 25)) w1 → LineAt w1 A O C P ls lt s t ∧ D < w1.heap.size ∧ NumAt w1 D F lt g) := Lib.hid fun w1 h => ⟨H0.out.below (hW.trans (h.mono hW.size)), Nat.lt_of_lt_of_le hD (hW.trans (h.mono hW.size)).size, HDN.out.below hD (hW.trans (h.mono hW.size))⟩
  have BX := Lib.hid (fun (w1 : World) (hb : Below (w.alloc (.cells #[.slice (some ⟨A, O, none⟩) ls cs, .slice (some ⟨C, P, none⟩) lt ct] 25)).heap.size (w.alloc (.cells #[.slice (some ⟨A, O, none⟩) ls cs, .slice (some ⟨C, P, none⟩) lt ct] 25)) w1) => (show _ ∧ _ ∧ _ ∧ _ ∧ _ from have m := box_cells hb; ⟨m.1, m.2.1, m.2.2, (HL.out w1 hb).1.hC, ((HL.out w1 hb).1.st n hn).1⟩))
  have HN : Hid (∀ w1, Below (w.alloc (.cells #[.slice (some ⟨A, O, none⟩) ls cs, .slice (some ⟨C, P, none⟩) lt ct] 25)).heap.size (w.alloc (.cells #[.slice (some ⟨A, O, none⟩) ls cs, .slice (some ⟨C, P, none⟩) lt ct] 25)) w1 → Hid (AnyLine w1 (some ⟨A, O, none⟩) (some ⟨C, P, none⟩) ls lt s t)) := Lib.hid fun w1 h => Lib.hid (H.out.below (hW.trans (h.mono hW.size)))
  have HI : Hid (∀ w1, Below (w.alloc (.cells #[.slice (some ⟨A, O, none⟩) ls cs, .slice (some ⟨C, P, none⟩) lt ct] 25)).heap.size (w.alloc (.cells #[.slice (some ⟨A, O, none⟩) ls cs, .slice (some ⟨C, P, none⟩) lt ct] 25)) w1 → Hid (IntSl w1 (some ⟨D, F, none⟩) lt g)) := Lib.hid fun w1 h => Lib.hid (HS.out.below (hW.trans (h.mono hW.size)))
  have HWB : Hid (∀ w1, Below (w.alloc (.cells #[.slice (some ⟨A, O, none⟩) ls cs, .slice (some ⟨C, P, none⟩) lt ct] 25)).heap.size (w.alloc (.cells #[.slice (some ⟨A, O, none⟩) ls cs, .slice (some ⟨C, P, none⟩) lt ct] 25)) w1 → Below w.heap.size w w1) := Lib.hid fun w1 h => hW.trans (h.mono hW.size)
  have hb : Below (w.alloc (.cells #[.slice (some ⟨A, O, none⟩) ls cs, .slice (some ⟨C, P, none⟩) lt ct] 25)).heap.size (w.alloc (.cells #[.slice (some ⟨A, O, none⟩) ls cs, .slice (some ⟨C, P, none⟩) lt ct] 25)) (w.alloc (.cells #[.slice (some ⟨A, O, none⟩) ls cs, .slice (some ⟨C, P, none⟩) lt ct] 25)) := Below.refl _ _
  obtain ⟨x1, x2, x3, c9, c0⟩ := BX.out _ hb
  clear hW H HS H0 HDN
  go_enter Tryz.func15, Tryz.ntmps15
  go_wp2_with (first
    | (go_at_call 16; refine (short_w _ _ _ _ _ _ _ (by unfold maxLen; omega) (by unfold maxLen; omega)).mono ?_; rw [hsh]; rintro e wl ⟨rfl, hv⟩; replace hb := hb.trans (hv.mono hb.size); clear x1 x2 x3 c9 c0; obtain ⟨x1, x2, x3, c9, c0⟩ := BX.out _ hb)
    | (go_at_call 20; refine (right_w _ _ _ _ _ _ s t _ hls hlt (Lib.hid (HN.out _ hb).out.hs) (Lib.hid (HN.out _ hb).out.ht)).mono ?_; rintro e wl ⟨⟨rb, rfl, hrb⟩, hv⟩; obtain rfl : rb = true := hrb.2 HR.out; clear hrb; replace hb := hb.trans (hv.mono hb.size); clear x1 x2 x3 c9 c0; obtain ⟨x1, x2, x3, c9, c0⟩ := BX.out _ hb)
    | (go_at_call 27; refine (refAges_w _ _ _ _ _ _ _ g _ hlt hlq (HI.out _ hb)).mono ?_; rintro e wl ⟨⟨rb, rfl, hrb⟩, hv⟩; obtain rfl : rb = true := hrb.2 HQ.out; clear hrb; replace hb := hb.trans (hv.mono hb.size); clear x1 x2 x3 c9 c0; obtain ⟨x1, x2, x3, c9, c0⟩ := BX.out _ hb)
    | (go_at_call 34; refine (need_w _ _).mono ?_; rintro e w' ⟨rfl, rfl⟩)
    | (go_at_call 21; refine (number_w _ undef _ _ _ _ _ (by unfold maxLen; omega)).mono ?_; rintro e wl ⟨rfl, hv⟩; replace hb := hb.trans (hv.mono hb.size); clear x1 x2 x3 c9 c0; obtain ⟨x1, x2, x3, c9, c0⟩ := BX.out _ hb)
    | (go_at_call 17; refine (K.out _).mono ?_; rintro e wl ⟨rfl, hv⟩; replace hb := hb.trans (hv.mono hb.size); clear x1 x2 x3 c9 c0; obtain ⟨x1, x2, x3, c9, c0⟩ := BX.out _ hb))
  go_ret
  exact ⟨rfl, HWB.out _ hb⟩

set_option maxRecDepth 100000 in
set_option maxHeartbeats 8000000 in
theorem lawb15_h (A O C P ls cs lt ct n D F cq : Nat) (s : Nat → Int) (t : Nat → St5) (g : Nat → Int) (nd ot : Int) (w : World) (H0 : Hid (LineAt w A O C P ls lt s t)) (hn : n < lt) (hD : D < w.heap.size) (HDN : Hid (NumAt w D F lt g)) (HQ : Hid (AgeP lt lt g)) (g2 : fromB 1 10000000 nd = true) (r1 : (t n).b ≤ ot) (r2 : 100 < ot) (K : Hid KnownOk) :
    Calls Tryz.prog 15 #[.agg #[.slice (some ⟨A, O, none⟩) ls cs, .slice (some ⟨C, P, none⟩) lt ct], .slice (some ⟨D, F, none⟩) lt cq, .int .i64 nd, .int .i64 (n : Int), .int .i64 ot] w
      fun e w' => e = .returned (.bool true) ∧ Below w.heap.size w w' := by
  have HR : Hid (RightP ls lt s t) := Lib.hid ⟨H0.out.ls1, H0.out.ls2, H0.out.lt1, H0.out.lt2, H0.out.sok, H0.out.tok⟩
  have q0 := H0.out.ls2
  have q1 := H0.out.lt1
  have q2 := H0.out.lt2
  have hls : ls ≤ 1000000 := by omega
  have hlt : lt ≤ 1000000 := by omega
  have hlq : lt ≤ maxLen := by unfold maxLen; omega
  have n1 : (0 : Int) ≤ (n : Int) := by omega
  have n2 : (n : Int) < (lt : Int) := by omega
  have hsh : decide (ls ≤ 13 ∧ lt ≤ 10) = true := by simp; omega
  have hq10 : (lt : Int) ≤ (10 : Int) := by omega
  have H : Hid (AnyLine w (some ⟨A, O, none⟩) (some ⟨C, P, none⟩) ls lt s t) := Lib.hid ⟨.inr ⟨A, O, rfl, H0.out.hA, H0.out.sp⟩, .inr ⟨C, P, rfl, H0.out.hC, H0.out.st⟩⟩
  have HS : Hid (IntSl w (some ⟨D, F, none⟩) lt g) := Lib.hid (.inr ⟨D, F, rfl, hD, HDN.out⟩)
  have g1 : fromB 0 ((lt : Int) - 1) (n : Int) = true := by simp only [fromB, decide_eq_true_eq]; omega
  have hW : Below w.heap.size w (w.alloc (.cells #[.slice (some ⟨A, O, none⟩) ls cs, .slice (some ⟨C, P, none⟩) lt ct] 25)) := (Below.refl _ _).alloc (Nat.le_refl _) _
  have HL : Hid (∀ w1, Below (w.alloc (.cells #[.slice (some ⟨A, O, none⟩) ls cs, .slice (some ⟨C, P, none⟩) lt ct] 25)).heap.size (w.alloc (.cells #[.slice (some ⟨A, O, none⟩) ls cs, .slice (some ⟨C, P, none⟩) lt ct] 25)) w1 → LineAt w1 A O C P ls lt s t ∧ D < w1.heap.size ∧ NumAt w1 D F lt g) := Lib.hid fun w1 h => ⟨H0.out.below (hW.trans (h.mono hW.size)), Nat.lt_of_lt_of_le hD (hW.trans (h.mono hW.size)).size, HDN.out.below hD (hW.trans (h.mono hW.size))⟩
  have BX := Lib.hid (fun (w1 : World) (hb : Below (w.alloc (.cells #[.slice (some ⟨A, O, none⟩) ls cs, .slice (some ⟨C, P, none⟩) lt ct] 25)).heap.size (w.alloc (.cells #[.slice (some ⟨A, O, none⟩) ls cs, .slice (some ⟨C, P, none⟩) lt ct] 25)) w1) => (show _ ∧ _ ∧ _ ∧ _ ∧ _ from have m := box_cells hb; ⟨m.1, m.2.1, m.2.2, (HL.out w1 hb).1.hC, ((HL.out w1 hb).1.st n hn).1⟩))
  have HN : Hid (∀ w1, Below (w.alloc (.cells #[.slice (some ⟨A, O, none⟩) ls cs, .slice (some ⟨C, P, none⟩) lt ct] 25)).heap.size (w.alloc (.cells #[.slice (some ⟨A, O, none⟩) ls cs, .slice (some ⟨C, P, none⟩) lt ct] 25)) w1 → Hid (AnyLine w1 (some ⟨A, O, none⟩) (some ⟨C, P, none⟩) ls lt s t)) := Lib.hid fun w1 h => Lib.hid (H.out.below (hW.trans (h.mono hW.size)))
  have HI : Hid (∀ w1, Below (w.alloc (.cells #[.slice (some ⟨A, O, none⟩) ls cs, .slice (some ⟨C, P, none⟩) lt ct] 25)).heap.size (w.alloc (.cells #[.slice (some ⟨A, O, none⟩) ls cs, .slice (some ⟨C, P, none⟩) lt ct] 25)) w1 → Hid (IntSl w1 (some ⟨D, F, none⟩) lt g)) := Lib.hid fun w1 h => Lib.hid (HS.out.below (hW.trans (h.mono hW.size)))
  have HWB : Hid (∀ w1, Below (w.alloc (.cells #[.slice (some ⟨A, O, none⟩) ls cs, .slice (some ⟨C, P, none⟩) lt ct] 25)).heap.size (w.alloc (.cells #[.slice (some ⟨A, O, none⟩) ls cs, .slice (some ⟨C, P, none⟩) lt ct] 25)) w1 → Below w.heap.size w w1) := Lib.hid fun w1 h => hW.trans (h.mono hW.size)
  have hb : Below (w.alloc (.cells #[.slice (some ⟨A, O, none⟩) ls cs, .slice (some ⟨C, P, none⟩) lt ct] 25)).heap.size (w.alloc (.cells #[.slice (some ⟨A, O, none⟩) ls cs, .slice (some ⟨C, P, none⟩) lt ct] 25)) (w.alloc (.cells #[.slice (some ⟨A, O, none⟩) ls cs, .slice (some ⟨C, P, none⟩) lt ct] 25)) := Below.refl _ _
  obtain ⟨x1, x2, x3, c9, c0⟩ := BX.out _ hb
  clear hW H HS H0 HDN
  go_enter Tryz.func15, Tryz.ntmps15
  go_wp2_with (first
    | (go_at_call 16; refine (short_w _ _ _ _ _ _ _ (by unfold maxLen; omega) (by unfold maxLen; omega)).mono ?_; rw [hsh]; rintro e wl ⟨rfl, hv⟩; replace hb := hb.trans (hv.mono hb.size); clear x1 x2 x3 c9 c0; obtain ⟨x1, x2, x3, c9, c0⟩ := BX.out _ hb)
    | (go_at_call 20; refine (right_w _ _ _ _ _ _ s t _ hls hlt (Lib.hid (HN.out _ hb).out.hs) (Lib.hid (HN.out _ hb).out.ht)).mono ?_; rintro e wl ⟨⟨rb, rfl, hrb⟩, hv⟩; obtain rfl : rb = true := hrb.2 HR.out; clear hrb; replace hb := hb.trans (hv.mono hb.size); clear x1 x2 x3 c9 c0; obtain ⟨x1, x2, x3, c9, c0⟩ := BX.out _ hb)
    | (go_at_call 27; refine (refAges_w _ _ _ _ _ _ _ g _ hlt hlq (HI.out _ hb)).mono ?_; rintro e wl ⟨⟨rb, rfl, hrb⟩, hv⟩; obtain rfl : rb = true := hrb.2 HQ.out; clear hrb; replace hb := hb.trans (hv.mono hb.size); clear x1 x2 x3 c9 c0; obtain ⟨x1, x2, x3, c9, c0⟩ := BX.out _ hb)
    | (go_at_call 34; refine (need_w _ _).mono ?_; rintro e w' ⟨rfl, rfl⟩)
    | (go_at_call 21; refine (number_w _ undef _ _ _ _ _ (by unfold maxLen; omega)).mono ?_; rintro e wl ⟨rfl, hv⟩; replace hb := hb.trans (hv.mono hb.size); clear x1 x2 x3 c9 c0; obtain ⟨x1, x2, x3, c9, c0⟩ := BX.out _ hb)
    | (go_at_call 17; refine (K.out _).mono ?_; rintro e wl ⟨rfl, hv⟩; replace hb := hb.trans (hv.mono hb.size); clear x1 x2 x3 c9 c0; obtain ⟨x1, x2, x3, c9, c0⟩ := BX.out _ hb))
  go_ret
  exact ⟨rfl, HWB.out _ hb⟩

end Go.Kn

namespace Go.Kn
open Go Go.Proofs Go.RowKit

/-- a line of one's own: its box behind the mark, its stretches in a block g -/
structure BL (m wr : World) (xs : Value) (g lt c : Nat) (T : Nat → St5) : Prop where
  bel : Below m.heap.size m wr
  x0 : wr.cell? ⟨m.heap.size, 0, none⟩ = some xs
  x1 : wr.cell? ⟨m.heap.size, 1, none⟩ = some (.slice (some ⟨g, 0, none⟩) lt c)
  st : StAt wr g 0 lt T
  fz : ∀ o, o < lt * 5 → wr.frozen? ⟨g, o, none⟩ = false
  hg : m.heap.size + 1 ≤ g
  hgs : g < wr.heap.size

theorem BL.below {m wr w1 : World} {xs : Value} {g lt c : Nat} {T : Nat → St5} (h : BL m wr xs g lt c T) (hb : Below wr.heap.size wr w1) : BL m w1 xs g lt c T := by
  obtain ⟨k, f⟩ := bcell hb
  have s := h.hgs
  have hg := h.hg
  have l0 : m.heap.size < wr.heap.size := by omega
  refine ⟨h.bel.trans (hb.mono h.bel.size), (k _ _ l0).trans h.x0, (k _ _ l0).trans h.x1, ?_, fun o ho => (f _ _ s).trans (h.fz o ho), hg, Nat.lt_of_lt_of_le s hb.size⟩
  intro i hi
  obtain ⟨h0, h1, h2, h3, h4⟩ := h.st i hi
  exact ⟨(k _ _ s).trans h0, (k _ _ s).trans h1, (k _ _ s).trans h2, (k _ _ s).trans h3, (k _ _ s).trans h4⟩

theorem BL.upd {m wr : World} {xs : Value} {g lt c k : Nat} {T : Nat → St5} (h : BL m wr xs g lt c T) (hk : k < lt) (b : Int) : BL m (wr.setCell ⟨g, k * 5, none⟩ (.int .i64 b)) xs g lt c (updB T k b) := by
  have hg := h.hg
  have d : g ≠ m.heap.size := by omega
  have e : ∀ o, (wr.setCell ⟨g, k * 5, none⟩ (.int .i64 b)).cell? ⟨m.heap.size, o, none⟩ = wr.cell? ⟨m.heap.size, o, none⟩ := fun o => World.cell?_setCell_other _ _ _ _ (by intro e; cases e; exact d rfl)
  exact ⟨h.bel.setCell (by simp only []; omega) _, (e _).trans h.x0, (e _).trans h.x1, h.st.upd hk b, fun o ho => by rw [World.frozen?_setCell]; exact h.fz o ho, hg, by rw [World.size_setCell]; exact h.hgs⟩

theorem BL.at {m wr : World} {xs : Value} {g lt c k : Nat} {T : Nat → St5} (h : BL m wr xs g lt c T) (hk : k < lt) : wr.cell? ⟨g, k * 5, none⟩ = some (.int .i64 (T k).b) ∧ wr.frozen? ⟨g, k * 5, none⟩ = false := by
  have := (h.st k hk).1
  rw [Nat.zero_add] at this
  exact ⟨this, h.fz _ (by omega)⟩

theorem BL.line {m wr : World} {A O ls cs g lt c C P : Nat} {s : Nat → Int} {t T : Nat → St5} (h : BL m wr (.slice (some ⟨A, O, none⟩) ls cs) g lt c T) (H : LineAt m A O C P ls lt s t) (hT : StOk ls lt T) : LineAt wr A O g 0 ls lt s T :=
  ⟨Nat.lt_of_lt_of_le H.hA h.bel.size, h.hgs, H.ls1, H.ls2, H.lt1, H.lt2, H.sp.below H.hA h.bel, h.st, H.sok, hT⟩

theorem updB_at (T : Nat → St5) (n : Nat) (b : Int) : updB T n b n = { T n with b := b } := if_pos rfl

theorem cups_upd (s : Nat → Int) (t : Nat → St5) (B : Nat → Int) {lt n : Nat} (hn : n < lt) (b ag : Int) : cupsL s (updB (tk t B lt) n b n) ag (updB (tk t B lt) n b n).hi = cupsB s (t n) ag b := by
  rw [updB_at, tk_lt hn]
  rfl
end Go.Kn

namespace Go.Kn
open Go Go.Proofs Go.RowKit

theorem upto_at (f : Nat → Int) {n i : Nat} (h : i < n) : (upto f n).getD i 0 = f i := by simp [upto, List.getD, h]

theorem BL.start {m w7 : World} {xs : Value} {g lt c : Nat} {t : Nat → St5} (hown : w7.ownsRow (m.heap.size + 1) 39 5 (.slice (some ⟨g, 0, none⟩) lt c) lt (stCells t lt)) (hb : Below (m.alloc (.cells #[xs, .slice none 0 0] 25)).heap.size (m.alloc (.cells #[xs, .slice none 0 0] 25)) w7) (hg : m.heap.size + 1 ≤ g) (hgs : g < w7.heap.size) :
    BL m (w7.setCell ⟨m.heap.size, 1, none⟩ (.slice (some ⟨g, 0, none⟩) lt c)) xs g lt c t := by
  obtain ⟨z0, z1, z2⟩ := box_cells hb
  have hr := rowAt_of_owns hown
  have d : m.heap.size ≠ g := by omega
  refine ⟨(below_al hb).setCell (by simp only []; omega) _, ?_, World.cell?_setCell_same' _ _ _ (by rw [z1]; rfl), (StAt.of_owns hown).other d _ _, fun o ho => by rw [World.frozen?_setCell]; exact (hr.2 o ho).2, hg, by rw [World.size_setCell]; exact hgs⟩
  rw [World.cell?_setCell_other _ _ _ _ (by intro e; cases e)]
  exact z0

set_option maxRecDepth 100000 in
set_option maxHeartbeats 8000000 in
theorem lawb15_f (A O C P ls cs lt ct n D F cq : Nat) (s : Nat → Int) (t : Nat → St5) (g : Nat → Int) (nd ot : Int) (w : World) (H0 : Hid (LineAt w A O C P ls lt s t)) (hn : n < lt) (hD : D < w.heap.size) (HDN : Hid (NumAt w D F lt g)) (HQ : Hid (AgeP lt lt g)) (g2 : fromB 1 10000000 nd = true) (W : Nat → Int) (La Lb : Int) (r1 : (t n).b ≤ ot) (r2 : ot ≤ 100) (HW : Hid (∀ i, i < lt → IsW (cupsB s (t i) (g i)) (t i).b nd (W i))) (HT : Hid (∃ i, i < lt ∧ W i = 101)) (HB : Hid (∀ i, i < lt → 1 ≤ (fun _ => (100 : Int)) i ∧ (fun _ => (100 : Int)) i ≤ 100)) (HLA : Hid (La = bmin (upto (fun j => (carOf s (tk t (fun _ => (100 : Int)) lt) g j).lo) lt))) (HLB : Hid (Lb = bmin (upto (fun j => (carOf s (tk t (fun _ => (100 : Int)) lt) g j).hi) lt))) (hLn : decide (nd ≤ La) = false) (hT1 : Hid (1 ≤ ot)) (K : Hid KnownOk) :
    Calls Tryz.prog 15 #[.agg #[.slice (some ⟨A, O, none⟩) ls cs, .slice (some ⟨C, P, none⟩) lt ct], .slice (some ⟨D, F, none⟩) lt cq, .int .i64 nd, .int .i64 (n : Int), .int .i64 ot] w
      fun e w' => e = .returned (.bool true) ∧ Below w.heap.size w w' := by
  have HSOK := Lib.hid H0.out.tok
  have HR : Hid (RightP ls lt s t) := Lib.hid ⟨H0.out.ls1, H0.out.ls2, H0.out.lt1, H0.out.lt2, H0.out.sok, H0.out.tok⟩
  have q0 := H0.out.ls2
  have q1 := H0.out.lt1
  have q2 := H0.out.lt2
  have hls : ls ≤ 1000000 := by omega
  have hlt : lt ≤ 1000000 := by omega
  have hlq : lt ≤ maxLen := by unfold maxLen; omega
  have n1 : (0 : Int) ≤ (n : Int) := by omega
  have n2 : (n : Int) < (lt : Int) := by omega
  have hsh : decide (ls ≤ 13 ∧ lt ≤ 10) = true := by simp; omega
  have hq10 : (lt : Int) ≤ (10 : Int) := by omega
  have H : Hid (AnyLine w (some ⟨A, O, none⟩) (some ⟨C, P, none⟩) ls lt s t) := Lib.hid ⟨.inr ⟨A, O, rfl, H0.out.hA, H0.out.sp⟩, .inr ⟨C, P, rfl, H0.out.hC, H0.out.st⟩⟩
  have HS : Hid (IntSl w (some ⟨D, F, none⟩) lt g) := Lib.hid (.inr ⟨D, F, rfl, hD, HDN.out⟩)
  have g1 : fromB 0 ((lt : Int) - 1) (n : Int) = true := by simp only [fromB, decide_eq_true_eq]; omega
  have hW : Below w.heap.size w (w.alloc (.cells #[.slice (some ⟨A, O, none⟩) ls cs, .slice (some ⟨C, P, none⟩) lt ct] 25)) := (Below.refl _ _).alloc (Nat.le_refl _) _
  have HL : Hid (∀ w1, Below (w.alloc (.cells #[.slice (some ⟨A, O, none⟩) ls cs, .slice (some ⟨C, P, none⟩) lt ct] 25)).heap.size (w.alloc (.cells #[.slice (some ⟨A, O, none⟩) ls cs, .slice (some ⟨C, P, none⟩) lt ct] 25)) w1 → LineAt w1 A O C P ls lt s t ∧ D < w1.heap.size ∧ NumAt w1 D F lt g) := Lib.hid fun w1 h => ⟨H0.out.below (hW.trans (h.mono hW.size)), Nat.lt_of_lt_of_le hD (hW.trans (h.mono hW.size)).size, HDN.out.below hD (hW.trans (h.mono hW.size))⟩
  have BX := Lib.hid (fun (w1 : World) (hb : Below (w.alloc (.cells #[.slice (some ⟨A, O, none⟩) ls cs, .slice (some ⟨C, P, none⟩) lt ct] 25)).heap.size (w.alloc (.cells #[.slice (some ⟨A, O, none⟩) ls cs, .slice (some ⟨C, P, none⟩) lt ct] 25)) w1) => (show _ ∧ _ ∧ _ ∧ _ ∧ _ from have m := box_cells hb; ⟨m.1, m.2.1, m.2.2, (HL.out w1 hb).1.hC, ((HL.out w1 hb).1.st n hn).1⟩))
  have HN : Hid (∀ w1, Below (w.alloc (.cells #[.slice (some ⟨A, O, none⟩) ls cs, .slice (some ⟨C, P, none⟩) lt ct] 25)).heap.size (w.alloc (.cells #[.slice (some ⟨A, O, none⟩) ls cs, .slice (some ⟨C, P, none⟩) lt ct] 25)) w1 → Hid (AnyLine w1 (some ⟨A, O, none⟩) (some ⟨C, P, none⟩) ls lt s t)) := Lib.hid fun w1 h => Lib.hid (H.out.below (hW.trans (h.mono hW.size)))
  have HI : Hid (∀ w1, Below (w.alloc (.cells #[.slice (some ⟨A, O, none⟩) ls cs, .slice (some ⟨C, P, none⟩) lt ct] 25)).heap.size (w.alloc (.cells #[.slice (some ⟨A, O, none⟩) ls cs, .slice (some ⟨C, P, none⟩) lt ct] 25)) w1 → Hid (IntSl w1 (some ⟨D, F, none⟩) lt g)) := Lib.hid fun w1 h => Lib.hid (HS.out.below (hW.trans (h.mono hW.size)))
  have HWB : Hid (∀ w1, Below (w.alloc (.cells #[.slice (some ⟨A, O, none⟩) ls cs, .slice (some ⟨C, P, none⟩) lt ct] 25)).heap.size (w.alloc (.cells #[.slice (some ⟨A, O, none⟩) ls cs, .slice (some ⟨C, P, none⟩) lt ct] 25)) w1 → Below w.heap.size w w1) := Lib.hid fun w1 h => hW.trans (h.mono hW.size)
  have hb : Below (w.alloc (.cells #[.slice (some ⟨A, O, none⟩) ls cs, .slice (some ⟨C, P, none⟩) lt ct] 25)).heap.size (w.alloc (.cells #[.slice (some ⟨A, O, none⟩) ls cs, .slice (some ⟨C, P, none⟩) lt ct] 25)) (w.alloc (.cells #[.slice (some ⟨A, O, none⟩) ls cs, .slice (some ⟨C, P, none⟩) lt ct] 25)) := Below.refl _ _
  obtain ⟨x1, x2, x3, c9, c0⟩ := BX.out _ hb
  clear hW H HS H0 HDN
  have d1 : decide (ot < (t n).b) = false := decide_eq_false (by omega)
  have d2 : decide ((100 : Int) < ot) = false := decide_eq_false (by omega)
  obtain ⟨i0, hi, hz0, hz1, hz2⟩ := info_parts info39
  go_enter Tryz.func15, Tryz.ntmps15
  go_wp2_with (first
    | (go_at_call 16; refine (short_w _ _ _ _ _ _ _ (by unfold maxLen; omega) (by unfold maxLen; omega)).mono ?_; rw [hsh]; rintro e wl ⟨rfl, hv⟩; replace hb := hb.trans (hv.mono hb.size); clear x1 x2 x3 c9 c0; obtain ⟨x1, x2, x3, c9, c0⟩ := BX.out _ hb)
    | (go_at_call 20; refine (right_w _ _ _ _ _ _ s t _ hls hlt (Lib.hid (HN.out _ hb).out.hs) (Lib.hid (HN.out _ hb).out.ht)).mono ?_; rintro e wl ⟨⟨rb, rfl, hrb⟩, hv⟩; obtain rfl : rb = true := hrb.2 HR.out; clear hrb; replace hb := hb.trans (hv.mono hb.size); clear x1 x2 x3 c9 c0; obtain ⟨x1, x2, x3, c9, c0⟩ := BX.out _ hb)
    | (go_at_call 27; refine (refAges_w _ _ _ _ _ _ _ g _ hlt hlq (HI.out _ hb)).mono ?_; rintro e wl ⟨⟨rb, rfl, hrb⟩, hv⟩; obtain rfl : rb = true := hrb.2 HQ.out; clear hrb; replace hb := hb.trans (hv.mono hb.size); clear x1 x2 x3 c9 c0; obtain ⟨x1, x2, x3, c9, c0⟩ := BX.out _ hb)
    | (go_at_call 34; refine (need_w _ _).mono ?_; rintro e w' ⟨rfl, rfl⟩)
    | (go_at_call 21; refine (number_w _ undef _ _ _ _ _ (by unfold maxLen; omega)).mono ?_; rintro e wl ⟨rfl, hv⟩; replace hb := hb.trans (hv.mono hb.size); clear x1 x2 x3 c9 c0; obtain ⟨x1, x2, x3, c9, c0⟩ := BX.out _ hb)
    | (go_at_call 33; refine (pwiden_f _ _ _ _ _ _ _ _ _ _ _ s t g W nd _ (Lib.hid (HL.out _ hb).1) (HL.out _ hb).2.1 (Lib.hid (HL.out _ hb).2.2) HQ g2 HW HT).mono ?_; rintro e w5 ⟨rfl, hv⟩; replace hb := hb.trans (hv.mono hb.size); clear x1 x2 x3 c9 c0; obtain ⟨x1, x2, x3, c9, c0⟩ := BX.out _ hb)
    | (at_builtin; refine wpList_append_own _ rfl _ _ 23 rfl (w5.heap.size + 1) 39 i0 _ 5 40 Tryz.underlying23 hi hz0 hz1 hz2 rfl (by decide) (.slice none 0 0) 0 [] rfl (World.ownsRow_nil _ _ _ _) ⟨C, P, none⟩ lt ct (stCells t lt) rfl (stCells_len t lt) ?news (stCells_one t lt) (by unfold maxLen; omega) (by omega) (by simp) ?_; (case news => exact ((HL.out _ (hb.alloc hb.size _)).1.st).news); intro v' w7 hown7 hgrow7 _; rw [Nat.zero_add, List.nil_append] at hown7; obtain ⟨g7, c7, rfl, hg7, hgs7⟩ := World.ownsRow.form hown7 (by omega); have hb7 := ((Below.refl _ _).grown hgrow7 (Nat.le_refl _) (fun k h => by cases h)); obtain ⟨z0, z1, _⟩ := box_cells hb7; obtain ⟨_, z3⟩ := box_froz hb7))
  have HBL0 := Lib.hid (BL.start hown7 hb7 hg7 hgs7)
  have HM : Hid (∀ w', Below w5.heap.size w5 w' → (w'.cell? ⟨w.heap.size, 0, none⟩ = some (.slice (some ⟨A, O, none⟩) ls cs) ∧ w'.cell? ⟨w.heap.size, 1, none⟩ = some (.slice (some ⟨C, P, none⟩) lt ct)) ∧ LineAt w' A O C P ls lt s t ∧ (D < w'.heap.size ∧ NumAt w' D F lt g) ∧ Below w.heap.size w w') := Lib.hid fun w' h => by
    have h9 := hb.trans (h.mono hb.size)
    obtain ⟨x1, x2, x3, c9, c0⟩ := BX.out _ h9
    exact ⟨⟨x1, x2⟩, (HL.out _ h9).1, (HL.out _ h9).2, HWB.out _ h9⟩
  have l1 : C ≠ g7 := by omega
  have l2 : g7 ≠ C := by omega
  have l3 : g7 ≠ w5.heap.size := by omega
  have l4 : w5.heap.size ≠ g7 := by omega
  clear hown7 hgrow7 hb7 z0 z1 z3 x1 x2 x3 c0 HN HI HL BX
  go_loopw [14] (fun ii wr => ∃ k : Nat, k ≤ lt ∧ ii = .int .i64 k ∧ BL w5 wr (.slice (some ⟨A, O, none⟩) ls cs) g7 lt c7 (tk t (fun _ => (100 : Int)) k)) (fun ii _ => lt - (intOf ii).toNat)
  case atStart => exact ⟨0, Nat.zero_le _, rfl, by rw [tk_zero]; exact HBL0.out⟩
  case round =>
    obtain ⟨k, hk, rfl, hbl⟩ := hrel
    have HBL := Lib.hid hbl
    clear hbl HBL0
    have y0 := HBL.out.x0
    have y1 := HBL.out.x1
    by_cases hk2 : k < lt
    · obtain ⟨c1, c2⟩ := HBL.out.at hk2
      have m1 : (0 : Int) ≤ (k : Int) := by omega
      have m2 : (k : Int) < (lt : Int) := by omega
      go_wp2
      go_roundw
      case rel => exact ⟨k + 1, by omega, by go_num, by have h9 := HBL.out.upd hk2 100; rw [← tk_step]; exact h9⟩
      case measure => simp [intOf]; omega
    · obtain rfl : lt = k := by omega
      have HTOK := Lib.hid (tk_ok HSOK.out HB.out lt (Nat.le_refl _))
      have HB9 := HBL.out.bel
      have HL5 : Hid (LineAt w5 A O C P ls lt s t) := Lib.hid (HM.out w5 (Below.refl _ _)).2.1
      go_wp2_with (first
        | (go_at_call 25; refine (pline_w A O g7 0 ls cs lt c7 D F cq s (tk t (fun _ => (100 : Int)) lt) g La Lb HLA HLB _ (Lib.hid (HBL.out.line HL5.out HTOK.out)) (HM.out _ HB9).2.2.1.1 (Lib.hid (HM.out _ HB9).2.2.1.2) HQ).mono ?_; rintro e w8 ⟨rfl, hb8⟩)
        | (go_at_call 17; refine (K.out _).mono ?_; rintro e w9 ⟨rfl, hb9⟩))
      go_ret
      have b1 := (HM.out _ HB9).2.2.2
      have b2 := b1.trans (hb8.mono b1.size)
      have b3 := b2.alloc b2.size (.cells #[.int .i64 La, .int .i64 Lb] 31)
      exact ⟨rfl, b3.trans (hb9.mono b3.size)⟩

end Go.Kn

namespace Go.Kn
open Go Go.Proofs Go.RowKit

set_option maxRecDepth 100000 in
set_option maxHeartbeats 8000000 in
theorem lawb15_t (A O C P ls cs lt ct n D F cq : Nat) (s : Nat → Int) (t : Nat → St5) (g : Nat → Int) (nd ot : Int) (w : World) (H0 : Hid (LineAt w A O C P ls lt s t)) (hn : n < lt) (hD : D < w.heap.size) (HDN : Hid (NumAt w D F lt g)) (HQ : Hid (AgeP lt lt g)) (g2 : fromB 1 10000000 nd = true) (W : Nat → Int) (La Lb : Int) (r1 : (t n).b ≤ ot) (r2 : ot ≤ 100) (HW : Hid (∀ i, i < lt → IsW (cupsB s (t i) (g i)) (t i).b nd (W i))) (HT : Hid (∀ i, i < lt → W i ≤ 100)) (HB : Hid (∀ i, i < lt → 1 ≤ W i ∧ W i ≤ 100)) (HLA : Hid (La = bmin (upto (fun j => (carOf s (tk t W lt) g j).lo) lt))) (HLB : Hid (Lb = bmin (upto (fun j => (carOf s (tk t W lt) g j).hi) lt))) (hLn : decide (nd ≤ La) = true) (hT1 : Hid (1 ≤ ot)) (K : Hid KnownOk) :
    Calls Tryz.prog 15 #[.agg #[.slice (some ⟨A, O, none⟩) ls cs, .slice (some ⟨C, P, none⟩) lt ct], .slice (some ⟨D, F, none⟩) lt cq, .int .i64 nd, .int .i64 (n : Int), .int .i64 ot] w
      fun e w' => e = .returned (.bool true) ∧ Below w.heap.size w w' := by
  have HSOK := Lib.hid H0.out.tok
  have HR : Hid (RightP ls lt s t) := Lib.hid ⟨H0.out.ls1, H0.out.ls2, H0.out.lt1, H0.out.lt2, H0.out.sok, H0.out.tok⟩
  have q0 := H0.out.ls2
  have q1 := H0.out.lt1
  have q2 := H0.out.lt2
  have hls : ls ≤ 1000000 := by omega
  have hlt : lt ≤ 1000000 := by omega
  have hlq : lt ≤ maxLen := by unfold maxLen; omega
  have n1 : (0 : Int) ≤ (n : Int) := by omega
  have n2 : (n : Int) < (lt : Int) := by omega
  have hsh : decide (ls ≤ 13 ∧ lt ≤ 10) = true := by simp; omega
  have hq10 : (lt : Int) ≤ (10 : Int) := by omega
  have H : Hid (AnyLine w (some ⟨A, O, none⟩) (some ⟨C, P, none⟩) ls lt s t) := Lib.hid ⟨.inr ⟨A, O, rfl, H0.out.hA, H0.out.sp⟩, .inr ⟨C, P, rfl, H0.out.hC, H0.out.st⟩⟩
  have HS : Hid (IntSl w (some ⟨D, F, none⟩) lt g) := Lib.hid (.inr ⟨D, F, rfl, hD, HDN.out⟩)
  have g1 : fromB 0 ((lt : Int) - 1) (n : Int) = true := by simp only [fromB, decide_eq_true_eq]; omega
  have hW : Below w.heap.size w (w.alloc (.cells #[.slice (some ⟨A, O, none⟩) ls cs, .slice (some ⟨C, P, none⟩) lt ct] 25)) := (Below.refl _ _).alloc (Nat.le_refl _) _
  have HL : Hid (∀ w1, Below (w.alloc (.cells #[.slice (some ⟨A, O, none⟩) ls cs, .slice (some ⟨C, P, none⟩) lt ct] 25)).heap.size (w.alloc (.cells #[.slice (some ⟨A, O, none⟩) ls cs, .slice (some ⟨C, P, none⟩) lt ct] 25)) w1 → LineAt w1 A O C P ls lt s t ∧ D < w1.heap.size ∧ NumAt w1 D F lt g) := Lib.hid fun w1 h => ⟨H0.out.below (hW.trans (h.mono hW.size)), Nat.lt_of_lt_of_le hD (hW.trans (h.mono hW.size)).size, HDN.out.below hD (hW.trans (h.mono hW.size))⟩
  have BX := Lib.hid (fun (w1 : World) (hb : Below (w.alloc (.cells #[.slice (some ⟨A, O, none⟩) ls cs, .slice (some ⟨C, P, none⟩) lt ct] 25)).heap.size (w.alloc (.cells #[.slice (some ⟨A, O, none⟩) ls cs, .slice (some ⟨C, P, none⟩) lt ct] 25)) w1) => (show _ ∧ _ ∧ _ ∧ _ ∧ _ from have m := box_cells hb; ⟨m.1, m.2.1, m.2.2, (HL.out w1 hb).1.hC, ((HL.out w1 hb).1.st n hn).1⟩))
  have HN : Hid (∀ w1, Below (w.alloc (.cells #[.slice (some ⟨A, O, none⟩) ls cs, .slice (some ⟨C, P, none⟩) lt ct] 25)).heap.size (w.alloc (.cells #[.slice (some ⟨A, O, none⟩) ls cs, .slice (some ⟨C, P, none⟩) lt ct] 25)) w1 → Hid (AnyLine w1 (some ⟨A, O, none⟩) (some ⟨C, P, none⟩) ls lt s t)) := Lib.hid fun w1 h => Lib.hid (H.out.below (hW.trans (h.mono hW.size)))
  have HI : Hid (∀ w1, Below (w.alloc (.cells #[.slice (some ⟨A, O, none⟩) ls cs, .slice (some ⟨C, P, none⟩) lt ct] 25)).heap.size (w.alloc (.cells #[.slice (some ⟨A, O, none⟩) ls cs, .slice (some ⟨C, P, none⟩) lt ct] 25)) w1 → Hid (IntSl w1 (some ⟨D, F, none⟩) lt g)) := Lib.hid fun w1 h => Lib.hid (HS.out.below (hW.trans (h.mono hW.size)))
  have HWB : Hid (∀ w1, Below (w.alloc (.cells #[.slice (some ⟨A, O, none⟩) ls cs, .slice (some ⟨C, P, none⟩) lt ct] 25)).heap.size (w.alloc (.cells #[.slice (some ⟨A, O, none⟩) ls cs, .slice (some ⟨C, P, none⟩) lt ct] 25)) w1 → Below w.heap.size w w1) := Lib.hid fun w1 h => hW.trans (h.mono hW.size)
  have hb : Below (w.alloc (.cells #[.slice (some ⟨A, O, none⟩) ls cs, .slice (some ⟨C, P, none⟩) lt ct] 25)).heap.size (w.alloc (.cells #[.slice (some ⟨A, O, none⟩) ls cs, .slice (some ⟨C, P, none⟩) lt ct] 25)) (w.alloc (.cells #[.slice (some ⟨A, O, none⟩) ls cs, .slice (some ⟨C, P, none⟩) lt ct] 25)) := Below.refl _ _
  obtain ⟨x1, x2, x3, c9, c0⟩ := BX.out _ hb
  clear hW H HS H0 HDN
  have d1 : decide (ot < (t n).b) = false := decide_eq_false (by omega)
  have d2 : decide ((100 : Int) < ot) = false := decide_eq_false (by omega)
  obtain ⟨i0, hi, hz0, hz1, hz2⟩ := info_parts info39
  go_enter Tryz.func15, Tryz.ntmps15
  go_wp2_with (first
    | (go_at_call 16; refine (short_w _ _ _ _ _ _ _ (by unfold maxLen; omega) (by unfold maxLen; omega)).mono ?_; rw [hsh]; rintro e wl ⟨rfl, hv⟩; replace hb := hb.trans (hv.mono hb.size); clear x1 x2 x3 c9 c0; obtain ⟨x1, x2, x3, c9, c0⟩ := BX.out _ hb)
    | (go_at_call 20; refine (right_w _ _ _ _ _ _ s t _ hls hlt (Lib.hid (HN.out _ hb).out.hs) (Lib.hid (HN.out _ hb).out.ht)).mono ?_; rintro e wl ⟨⟨rb, rfl, hrb⟩, hv⟩; obtain rfl : rb = true := hrb.2 HR.out; clear hrb; replace hb := hb.trans (hv.mono hb.size); clear x1 x2 x3 c9 c0; obtain ⟨x1, x2, x3, c9, c0⟩ := BX.out _ hb)
    | (go_at_call 27; refine (refAges_w _ _ _ _ _ _ _ g _ hlt hlq (HI.out _ hb)).mono ?_; rintro e wl ⟨⟨rb, rfl, hrb⟩, hv⟩; obtain rfl : rb = true := hrb.2 HQ.out; clear hrb; replace hb := hb.trans (hv.mono hb.size); clear x1 x2 x3 c9 c0; obtain ⟨x1, x2, x3, c9, c0⟩ := BX.out _ hb)
    | (go_at_call 34; refine (need_w _ _).mono ?_; rintro e w' ⟨rfl, rfl⟩)
    | (go_at_call 21; refine (number_w _ undef _ _ _ _ _ (by unfold maxLen; omega)).mono ?_; rintro e wl ⟨rfl, hv⟩; replace hb := hb.trans (hv.mono hb.size); clear x1 x2 x3 c9 c0; obtain ⟨x1, x2, x3, c9, c0⟩ := BX.out _ hb)
    | (go_at_call 33; refine (pwiden_t _ _ _ _ _ _ _ _ _ _ _ s t g W nd _ (Lib.hid (HL.out _ hb).1) (HL.out _ hb).2.1 (Lib.hid (HL.out _ hb).2.2) HQ g2 HW HT).mono ?_; rintro e w5 ⟨⟨va, vc, rfl, HV⟩, hv⟩; replace hb := hb.trans (hv.mono hb.size); clear x1 x2 x3 c9 c0; obtain ⟨x1, x2, x3, c9, c0⟩ := BX.out _ hb; obtain ⟨V, Q, rfl, hVs, hVc⟩ := HV.out.resolve_left (by omega); have HVC := Lib.hid hVc; clear hVc HV)
    | (at_builtin; refine wpList_append_own _ rfl _ _ 23 rfl (w5.heap.size + 1) 39 i0 _ 5 40 Tryz.underlying23 hi hz0 hz1 hz2 rfl (by decide) (.slice none 0 0) 0 [] rfl (World.ownsRow_nil _ _ _ _) ⟨C, P, none⟩ lt ct (stCells t lt) rfl (stCells_len t lt) ?news (stCells_one t lt) (by unfold maxLen; omega) (by omega) (by simp) ?_; (case news => exact ((HL.out _ (hb.alloc hb.size _)).1.st).news); intro v' w7 hown7 hgrow7 _; rw [Nat.zero_add, List.nil_append] at hown7; obtain ⟨g7, c7, rfl, hg7, hgs7⟩ := World.ownsRow.form hown7 (by omega); have hb7 := ((Below.refl _ _).grown hgrow7 (Nat.le_refl _) (fun k h => by cases h)); obtain ⟨z0, z1, _⟩ := box_cells hb7; obtain ⟨_, z3⟩ := box_froz hb7))
  have HBL0 := Lib.hid (BL.start hown7 hb7 hg7 hgs7)
  have HM : Hid (∀ w', Below w5.heap.size w5 w' → (w'.cell? ⟨w.heap.size, 0, none⟩ = some (.slice (some ⟨A, O, none⟩) ls cs) ∧ w'.cell? ⟨w.heap.size, 1, none⟩ = some (.slice (some ⟨C, P, none⟩) lt ct)) ∧ LineAt w' A O C P ls lt s t ∧ (D < w'.heap.size ∧ NumAt w' D F lt g) ∧ Below w.heap.size w w') := Lib.hid fun w' h => by
    have h9 := hb.trans (h.mono hb.size)
    obtain ⟨x1, x2, x3, c9, c0⟩ := BX.out _ h9
    exact ⟨⟨x1, x2⟩, (HL.out _ h9).1, (HL.out _ h9).2, HWB.out _ h9⟩
  have HVV : Hid (∀ w', Below w5.heap.size w5 w' → ∀ i, i < lt → w'.cell? ⟨V, Q + i, none⟩ = some (.int .i64 (W i))) := Lib.hid fun w' h i hi => by
    have h9 := HVC.out i hi
    exact ((bcell h).1 _ _ hVs).trans (h9.trans (congrArg (fun z => some (Value.int .i64 z)) (upto_at W hi)))
  have v1 : V ≠ g7 := by omega
  have v2 : g7 ≠ V := by omega
  have l1 : C ≠ g7 := by omega
  have l2 : g7 ≠ C := by omega
  have l3 : g7 ≠ w5.heap.size := by omega
  have l4 : w5.heap.size ≠ g7 := by omega
  clear hown7 hgrow7 hb7 z0 z1 z3 x1 x2 x3 c0 HN HI HL BX
  go_loopw [14] (fun ii wr => ∃ k : Nat, k ≤ lt ∧ ii = .int .i64 k ∧ BL w5 wr (.slice (some ⟨A, O, none⟩) ls cs) g7 lt c7 (tk t W k)) (fun ii _ => lt - (intOf ii).toNat)
  case atStart => exact ⟨0, Nat.zero_le _, rfl, by rw [tk_zero]; exact HBL0.out⟩
  case round =>
    obtain ⟨k, hk, rfl, hbl⟩ := hrel
    have HBL := Lib.hid hbl
    clear hbl HBL0
    have y0 := HBL.out.x0
    have y1 := HBL.out.x1
    by_cases hk2 : k < lt
    · obtain ⟨c1, c2⟩ := HBL.out.at hk2
      have m1 : (0 : Int) ≤ (k : Int) := by omega
      have m2 : (k : Int) < (lt : Int) := by omega
      have e1 : decide (W k < (t k).b) = false := decide_eq_false (by have := (HW.out k hk2).lo; omega)
      have e2 : decide ((100 : Int) < W k) = false := decide_eq_false (by have := HT.out k hk2; omega)
      go_wp2
      obtain ⟨W1, hW1⟩ : ∃ W1, W1 = (wr.setCell ⟨g7, k * 5, none⟩ (.int .i64 100)) := ⟨_, rfl⟩
      have hB1 := HBL.out.upd hk2 100
      rw [← hW1] at hB1 ⊢
      have HB1 := Lib.hid hB1
      clear hB1 hW1 y0 y1 c1 c2
      have FD : Hid (∀ w', Below W1.heap.size W1 w' → (w'.cell? ⟨w.heap.size, 1, none⟩ = some (.slice (some ⟨C, P, none⟩) lt ct) ∧ w'.cell? ⟨C, P + k * 5, none⟩ = some (.int .i64 (t k).b) ∧ w'.cell? ⟨V, Q + k, none⟩ = some (.int .i64 (W k)))) := Lib.hid fun w' h => by
        have h9 := HB1.out.bel.trans (h.mono HB1.out.bel.size)
        exact ⟨(HM.out _ h9).1.2, ((HM.out _ h9).2.1.st k hk2).1, HVV.out _ h9 k hk2⟩
      refine wp_region_calm (W := W1) (by kernel_rfl) (by kernel_rfl) (Below.refl _ _) ?_
      repeat (first
        | (refine calm_no (by rfl) ?_
           (try simp only [Act.put, List.setIfInBounds_toArray, List.set_cons_zero, List.set_cons_succ]))
        | (apply calm_yes
           focus rfl
           focus
             intro w' hw'
             obtain ⟨y0, y1, y2⟩ := FD.out w' hw'
             go_simp
             first
               | done
               | with_reducible rfl
               | fail
           (try simp only [Act.put, List.setIfInBounds_toArray, List.set_cons_zero, List.set_cons_succ])))
      refine calm_nil ?_
      intro w12 hb12
      go_wp2
      obtain ⟨c1, c2⟩ := (HB1.out.below hb12).at hk2
      have p1 := (HB1.out.below hb12).x1
      have p2 := (FD.out _ hb12).2.2
      go_region_held3 (fun w' => w'.cell? ⟨w5.heap.size, 1, none⟩ = some (.slice (some ⟨g7, 0, none⟩) lt c7) ∧ w'.cell? ⟨V, Q + k, none⟩ = some (.int .i64 (W k))) (first | exact ⟨p1, p2⟩ | go_keep | (simp [l3, l4, v1, v2, p1, p2])) (fail)
      all_goals
        go_wp2
        go_roundw
        case rel => exact ⟨k + 1, by omega, by go_num, by have h9 := ((HB1.out.below hb12).below (below_drew (Below.refl _ _))).upd hk2 (W k); rw [updB_upd, tk_step] at h9; exact h9⟩
        case measure => simp [intOf]; omega
    · obtain rfl : lt = k := by omega
      have HTOK := Lib.hid (tk_ok HSOK.out HB.out lt (Nat.le_refl _))
      have HB9 := HBL.out.bel
      have HL5 : Hid (LineAt w5 A O C P ls lt s t) := Lib.hid (HM.out w5 (Below.refl _ _)).2.1
      go_wp2_with (first
        | (go_at_call 25; refine (pline_w A O g7 0 ls cs lt c7 D F cq s (tk t W lt) g La Lb HLA HLB _ (Lib.hid (HBL.out.line HL5.out HTOK.out)) (HM.out _ HB9).2.2.1.1 (Lib.hid (HM.out _ HB9).2.2.1.2) HQ).mono ?_; rintro e w8 ⟨rfl, hb8⟩; have hB8 := HBL.out.below hb8; obtain ⟨c1, c2⟩ := hB8.at hn; have y2 := hB8.x1; have s1 := hB8.hgs; have s2 : w5.heap.size < w8.heap.size := (by have := hB8.hg; omega)))
      obtain ⟨W2, hW2⟩ : ∃ W2, W2 = ((w8.setCell ⟨g7, n * 5, none⟩ (.int .i64 ot)).alloc (.cells #[.int .i64 La, .int .i64 Lb] 31)) := ⟨_, rfl⟩
      have hB2 := ((HBL.out.below hb8).upd hn ot).below ((Below.refl _ _).alloc (Nat.le_refl _) (.cells #[.int .i64 La, .int .i64 Lb] 31))
      rw [← hW2] at hB2 ⊢
      have HB2 := Lib.hid hB2
      clear hB2 hW2 hB8 c1 c2 y0 y1 y2 s1 s2
      have HOK2 := Lib.hid (updB_ok (n := n) (b := ot) HTOK.out ⟨hT1.out, r2⟩)
      have LINE : Hid (∀ w', Below W2.heap.size W2 w' → LineAt w' A O g7 0 ls lt s (updB (tk t W lt) n ot)) := Lib.hid fun w' h => (HB2.out.below h).line HL5.out HOK2.out
      have HCU := Lib.hid (cups_upd s t W hn ot (g n))
      have hag : 0 ≤ g n ∧ g n ≤ 200 := by
        have h9 := HQ.out.ok n hn
        simp only [fromB, decide_eq_true_eq] at h9
        exact h9
      have FH : Hid (∀ w', Below W2.heap.size W2 w' → (w'.cell? ⟨w5.heap.size, 0, none⟩ = some (.slice (some ⟨A, O, none⟩) ls cs) ∧ w'.cell? ⟨w5.heap.size, 1, none⟩ = some (.slice (some ⟨g7, 0, none⟩) lt c7) ∧ w'.cell? ⟨D, F + n, none⟩ = some (.int .i64 (g n)))) := Lib.hid fun w' h => by
        have h9 := HB2.out.below h
        exact ⟨h9.x0, h9.x1, (HM.out _ h9.bel).2.2.1.2 n hn⟩
      obtain ⟨y0, y1, y2⟩ := FH.out _ (Below.refl _ _)
      have HIFF : Hid (decide (nd ≤ cupsB s (t n) (g n) ot) = decide (W n ≤ ot)) := Lib.hid (decide_eq_decide.2 ((HW.out n hn).iff (by obtain ⟨_, _, _, _, _⟩ := HL5.out.bds hn; omega) (HT.out n hn) r1))
      go_region_held3 (fun w' => (w'.cell? ⟨w5.heap.size, 0, none⟩ = some (.slice (some ⟨A, O, none⟩) ls cs) ∧ w'.cell? ⟨w5.heap.size, 1, none⟩ = some (.slice (some ⟨g7, 0, none⟩) lt c7) ∧ w'.cell? ⟨D, F + n, none⟩ = some (.int .i64 (g n)))) ((first | exact hS | (refine FH.out _ ?_; repeat (first | exact Below.refl _ _ | exact hB13 | refine Below.alloc ?_ (by first | exact hB13.size | (simp; done) | (simp; omega) | (have := hB13.size; simp; omega)) _ | refine Below.drew ?_ | refine Below.setCell ?_ (by first | (simp only []; done) | (simp only []; omega) | (have := hB13.size; simp only []; omega)) _)))) ((first
        | (go_at_call 19; (first | show Calls Tryz.prog 19 _ (World.drew (World.alloc _ _)) _ | show Calls Tryz.prog 19 _ (World.alloc _ _) _); refine (pcarries_w A O g7 0 ls cs lt c7 n s (updB (tk t W lt) n ot) (g n) _ (Lib.hid (LINE.out _ (by repeat (first | exact Below.refl _ _ | refine Below.alloc ?_ (by first | (simp; done) | (simp; omega)) _ | refine Below.drew ?_)))) hn hag).mono ?_; rw [HCU.out]; rintro e w13 ⟨rfl, hb13⟩; have z0 : w13.cell? ⟨W2.heap.size, 0, none⟩ = some (.int .i64 0) := ((bcell hb13).1 _ _ (by simp)).trans (by simp); have z1 : w13.cell? ⟨W2.heap.size, 1, none⟩ = some (.int .i64 0) := ((bcell hb13).1 _ _ (by simp)).trans (by simp); have z2 : w13.frozen? ⟨W2.heap.size, 0, none⟩ = false := ((bcell hb13).2 _ _ (by simp)).trans (by simp); have z3 : w13.frozen? ⟨W2.heap.size, 1, none⟩ = false := ((bcell hb13).2 _ _ (by simp)).trans (by simp); have hB13 : Below W2.heap.size W2 w13 := Below.trans (show Below W2.heap.size W2 _ from by repeat (first | exact Below.refl _ _ | refine Below.alloc ?_ (by first | (simp; done) | (simp; omega)) _ | refine Below.drew ?_)) (hb13.mono (by simp)); have hS := FH.out w13 hB13)
        | (go_at_call 19; refine (pcarries_w A O g7 0 ls cs lt c7 n s (updB (tk t W lt) n ot) (g n) _ (Lib.hid (LINE.out _ (by repeat (first | exact Below.refl _ _ | refine Below.alloc ?_ (by first | (simp; done) | (simp; omega)) _ | refine Below.drew ?_)))) hn hag).mono ?_; rw [HCU.out]; rintro e w13 ⟨rfl, hb13⟩; have hB13 : Below W2.heap.size W2 w13 := Below.trans (show Below W2.heap.size W2 _ from by repeat (first | exact Below.refl _ _ | refine Below.alloc ?_ (by first | (simp; done) | (simp; omega)) _ | refine Below.drew ?_)) (hb13.mono (by simp)); have hS := FH.out w13 hB13)))
      all_goals
        first
        | (obtain ⟨W3, hW3⟩ : ∃ W3, W3 = (w13.alloc (.cells #[.int .i64 (cupsB s (t n) (g n) ot), .int .i64 (cupsL s (updB (tk t W lt) n ot n) (g n) (updB (tk t W lt) n ot n).lo)] 31)) := ⟨_, rfl⟩
           have hb3 : Below W2.heap.size W2 W3 := by rw [hW3]; repeat (first | exact Below.refl _ _ | exact hB13 | refine Below.alloc ?_ (by first | exact hB13.size | (simp; done) | (simp; omega) | (have := hB13.size; simp; omega)) _ | refine Below.drew ?_ | refine Below.setCell ?_ (by first | (simp only []; done) | (simp only []; omega) | (have := hB13.size; simp only []; omega)) _)
           have t0 : W3.cell? ⟨w13.heap.size, 0, none⟩ = some (.int .i64 (cupsB s (t n) (g n) ot)) := by rw [hW3]; simp
           have t1 : w13.heap.size < W3.heap.size := by rw [hW3]; first | (simp; done) | (have hz9 := hb13.size; simp at hz9; simp only [World.size_setCell]; omega)
           rw [← hW3]
           clear hW3
           have FT : Hid (∀ w', Below W3.heap.size W3 w' → w'.cell? ⟨V, Q + n, none⟩ = some (.int .i64 (W n)) ∧ w'.cell? ⟨w13.heap.size, 0, none⟩ = some (.int .i64 (cupsB s (t n) (g n) ot))) := Lib.hid fun w' h => ⟨HVV.out _ (HB2.out.bel.trans ((hb3.trans (h.mono hb3.size)).mono HB2.out.bel.size)) n hn, ((bcell h).1 _ _ t1).trans t0⟩
           clear t0 t1
           obtain ⟨y0, y1⟩ := FT.out _ (Below.refl _ _)
           cases hd : decide (W n ≤ ot)
           all_goals
             have hd2 : decide (nd ≤ cupsB s (t n) (g n) ot) = _ := HIFF.out.trans hd
             go_wp2
             go_region_held3 (fun w' => w'.cell? ⟨V, Q + n, none⟩ = some (.int .i64 (W n)) ∧ w'.cell? ⟨w13.heap.size, 0, none⟩ = some (.int .i64 (cupsB s (t n) (g n) ot))) ((first | exact hS14 | (refine FT.out _ ?_; repeat (first | exact Below.refl _ _ | refine Below.alloc ?_ (by first | (simp; done) | (simp; omega)) _ | refine Below.drew ?_)))) ((first
               | (go_at_call 17; refine (K.out _).mono ?_; rintro e w14 ⟨rfl, hb14⟩; have hB14 : Below W3.heap.size W3 w14 := Below.trans (show Below W3.heap.size W3 _ from by repeat (first | exact Below.refl _ _ | refine Below.alloc ?_ (by first | (simp; done) | (simp; omega)) _ | refine Below.drew ?_)) (hb14.mono (by simp)); have hS14 := FT.out _ hB14)))
             all_goals
               go_wp2
               go_ret
               have b1 := (HM.out _ HB2.out.bel).2.2.2
               have b2 := b1.trans (hb3.mono b1.size)
               exact ⟨rfl, b2.trans (hB14.mono b2.size)⟩)
        | (obtain ⟨W3, hW3⟩ : ∃ W3, W3 = ((w13.setCell ⟨W2.heap.size, 0, none⟩ (.int .i64 (cupsB s (t n) (g n) ot))).setCell ⟨W2.heap.size, 1, none⟩ (.int .i64 (cupsL s (updB (tk t W lt) n ot n) (g n) (updB (tk t W lt) n ot n).lo))) := ⟨_, rfl⟩
           have hb3 : Below W2.heap.size W2 W3 := by rw [hW3]; repeat (first | exact Below.refl _ _ | exact hB13 | refine Below.alloc ?_ (by first | exact hB13.size | (simp; done) | (simp; omega) | (have := hB13.size; simp; omega)) _ | refine Below.drew ?_ | refine Below.setCell ?_ (by first | (simp only []; done) | (simp only []; omega) | (have := hB13.size; simp only []; omega)) _)
           have t0 : W3.cell? ⟨W2.heap.size, 0, none⟩ = some (.int .i64 (cupsB s (t n) (g n) ot)) := by rw [hW3]; (rw [World.cell?_setCell_other _ _ _ _ (by intro e; cases e)]; exact World.cell?_setCell_same' _ _ _ (by rw [z0]; rfl))
           have t1 : W2.heap.size < W3.heap.size := by rw [hW3]; first | (simp; done) | (have hz9 := hb13.size; simp at hz9; simp only [World.size_setCell]; omega)
           rw [← hW3]
           clear hW3
           have FT : Hid (∀ w', Below W3.heap.size W3 w' → w'.cell? ⟨V, Q + n, none⟩ = some (.int .i64 (W n)) ∧ w'.cell? ⟨W2.heap.size, 0, none⟩ = some (.int .i64 (cupsB s (t n) (g n) ot))) := Lib.hid fun w' h => ⟨HVV.out _ (HB2.out.bel.trans ((hb3.trans (h.mono hb3.size)).mono HB2.out.bel.size)) n hn, ((bcell h).1 _ _ t1).trans t0⟩
           clear t0 t1
           obtain ⟨y0, y1⟩ := FT.out _ (Below.refl _ _)
           cases hd : decide (W n ≤ ot)
           all_goals
             have hd2 : decide (nd ≤ cupsB s (t n) (g n) ot) = _ := HIFF.out.trans hd
             go_wp2
             go_region_held3 (fun w' => w'.cell? ⟨V, Q + n, none⟩ = some (.int .i64 (W n)) ∧ w'.cell? ⟨W2.heap.size, 0, none⟩ = some (.int .i64 (cupsB s (t n) (g n) ot))) ((first | exact hS14 | (refine FT.out _ ?_; repeat (first | exact Below.refl _ _ | refine Below.alloc ?_ (by first | (simp; done) | (simp; omega)) _ | refine Below.drew ?_)))) ((first
               | (go_at_call 17; refine (K.out _).mono ?_; rintro e w14 ⟨rfl, hb14⟩; have hB14 : Below W3.heap.size W3 w14 := Below.trans (show Below W3.heap.size W3 _ from by repeat (first | exact Below.refl _ _ | refine Below.alloc ?_ (by first | (simp; done) | (simp; omega)) _ | refine Below.drew ?_)) (hb14.mono (by simp)); have hS14 := FT.out _ hB14)))
             all_goals
               go_wp2
               go_ret
               have b1 := (HM.out _ HB2.out.bel).2.2.2
               have b2 := b1.trans (hb3.mono b1.size)
               exact ⟨rfl, b2.trans (hB14.mono b2.size)⟩)

end Go.Kn

namespace Go.Kn
open Go Go.Proofs Go.RowKit

theorem widths_ex2 {w : World} {A O C P ls lt : Nat} {s : Nat → Int} {t : Nat → St5} (H : LineAt w A O C P ls lt s t) (g : Nat → Int) (nd : Int) : ∃ W : Nat → Int, ∀ i, i < lt → IsW (cupsB s (t i) (g i)) (t i).b nd (W i) := by
  have h : ∀ i, ∃ x : Int, i < lt → IsW (cupsB s (t i) (g i)) (t i).b nd x := fun i => by
    by_cases hi : i < lt
    · have hb := (H.bds hi).1
      obtain ⟨x, hx⟩ := IsW.ex (cupsB s (t i) (g i)) nd (101 - (t i).b).toNat (t i).b (by omega)
      exact ⟨x, fun _ => hx⟩
    · exact ⟨0, fun h => (hi h).elim⟩
  exact ⟨fun i => Classical.choose (h i), fun i => Classical.choose_spec (h i)⟩

theorem lawb15_w (sa ta sq : Option Addr) (ls cs lt ct lq cq : Nat) (s : Nat → Int) (t : Nat → St5) (g : Nat → Int) (nd st ot : Int) (w : World) (hls : ls ≤ maxLen) (hlt : lt ≤ maxLen) (hlq : lq ≤ maxLen) (HS : NumSl w sa ls s) (HT : StSl w ta lt t) (HG : IntSl w sq lq g) (K : Hid KnownOk) :
    Calls Tryz.prog 15 #[.agg #[.slice sa ls cs, .slice ta lt ct], .slice sq lq cq, .int .i64 nd, .int .i64 st, .int .i64 ot] w
      fun e w' => e = .returned (.bool true) ∧ Below w.heap.size w w' := by
  by_cases hq : ls ≤ 13 ∧ lt ≤ 10
  case neg => exact lawb15_a sa ta sq ls cs lt ct lq cq s t g nd st ot w hls hlt hlq hq (Lib.hid ⟨HS, HT⟩) (Lib.hid HG) K
  by_cases hb : lq ≤ 10
  case neg => exact lawb15_b sa ta sq ls cs lt ct lq cq s t g nd st ot w hls hlt hlq hq hb (Lib.hid ⟨HS, HT⟩) (Lib.hid HG) K
  by_cases hR : RightP ls lt s t
  case neg => exact lawb15_c sa ta sq ls cs lt ct lq cq s t g nd st ot w (by omega) (by omega) hlq hq hb (Lib.hid hR) (Lib.hid ⟨HS, HT⟩) (Lib.hid HG) K
  by_cases hQ : AgeP lt lq g
  case neg => exact lawb15_d sa ta sq ls cs lt ct lq cq s t g nd st ot w (by omega) (by omega) hlq hq hb (Lib.hid hR) (Lib.hid hQ) (Lib.hid ⟨HS, HT⟩) (Lib.hid HG) K
  cases g2 : fromB 1 10000000 nd
  · exact lawb15_e sa ta sq ls cs lt ct lq cq s t g nd st ot w (by omega) (by omega) hlq hq hb (Lib.hid hR) (Lib.hid hQ) g2 (Lib.hid ⟨HS, HT⟩) (Lib.hid HG) K
  cases g1 : fromB 0 ((lt : Int) - 1) st
  · exact lawb15_f1 sa ta sq ls cs lt ct lq cq s t g nd st ot w (by omega) (by omega) hlq hq hb (Lib.hid hR) (Lib.hid hQ) g2 g1 (Lib.hid ⟨HS, HT⟩) (Lib.hid HG) K
  obtain ⟨A, O, rfl, hA, hsp⟩ := HS.resolve_left (by have := hR.ls1; omega)
  obtain ⟨C, P, rfl, hC, hst⟩ := HT.resolve_left (by have := hR.lt1; omega)
  have H : LineAt w A O C P ls lt s t := ⟨hA, hC, hR.ls1, hR.ls2, hR.lt1, hR.lt2, hsp, hst, hR.sok, hR.tok⟩
  have h1 := fromB_tt g1
  obtain ⟨n, rfl⟩ : ∃ n : Nat, st = (n : Int) := ⟨st.toNat, by omega⟩
  have hn : n < lt := by omega
  have hql := hQ.eq
  subst hql
  obtain ⟨D, F, rfl, hD, hg⟩ := HG.resolve_left (by have := hR.lt1; omega)
  by_cases r1 : (t n).b ≤ ot
  case neg => exact lawb15_g A O C P ls cs _ ct n D F cq s t g nd ot w (Lib.hid H) hn hD (Lib.hid hg) (Lib.hid hQ) g2 (by omega) K
  by_cases r2 : ot ≤ 100
  case neg => exact lawb15_h A O C P ls cs _ ct n D F cq s t g nd ot w (Lib.hid H) hn hD (Lib.hid hg) (Lib.hid hQ) g2 r1 (by omega) K
  obtain ⟨W, hW⟩ := widths_ex2 H g nd
  have hbn := (H.bds hn).1
  have hlt1 := hR.lt1
  by_cases e : ∀ i, i < lq → W i ≤ 100
  · exact lawb15_t A O C P ls cs _ ct n D F cq s t g nd ot w (Lib.hid H) hn hD (Lib.hid hg) (Lib.hid hQ) g2 W _ _ r1 r2 (Lib.hid hW) (Lib.hid e) (Lib.hid fun i hi => ⟨by have := (hW i hi).lo; have := (H.bds hi).1; omega, e i hi⟩) (Lib.hid rfl) (Lib.hid rfl)
      (decide_eq_true ((line_need hlt1 rfl).2 fun i hi => (hW i hi).ok (e i hi))) (Lib.hid (by omega)) K
  · have e2 : ∃ i, i < lq ∧ W i = 101 := by
      by_cases e3 : ∃ i, i < lq ∧ W i = 101
      · exact e3
      · refine (e fun i hi => ?_).elim
        have h8 := (hW i hi).hi
        have h9 : W i ≠ 101 := fun h => e3 ⟨i, hi, h⟩
        omega
    refine lawb15_f A O C P ls cs _ ct n D F cq s t g nd ot w (Lib.hid H) hn hD (Lib.hid hg) (Lib.hid hQ) g2 W _ _ r1 r2 (Lib.hid hW) (Lib.hid e2) (Lib.hid fun i hi => ⟨(by decide : (1 : Int) ≤ 100), (by decide : (100 : Int) ≤ 100)⟩) (Lib.hid rfl) (Lib.hid rfl) (decide_eq_false fun h => ?_) (Lib.hid (by omega)) K
    obtain ⟨i, hi, hw⟩ := e2
    have h7 : nd ≤ cupsB s (t i) (g i) 100 := (line_need hlt1 rfl).1 h i hi
    have h8 := (hW i hi).less 100 (by have := (H.bds hi).1; omega) (by omega)
    omega
end Go.Kn
