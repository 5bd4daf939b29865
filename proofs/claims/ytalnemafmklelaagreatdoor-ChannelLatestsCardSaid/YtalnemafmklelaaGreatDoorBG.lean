/- Walks of functions of layer 2 (contracts that the laws of this seat use). Conditions: as each theorem states them. -/
import Derived.Test.YtalnemafmklelaaGreatDoorBP
set_option linter.unusedVariables false
set_option linter.unusedSimpArgs false
namespace Go.Kn
open Go Go.Proofs Go.RowKit

set_option maxRecDepth 100000 in
set_option maxHeartbeats 4000000 in
theorem lawt_a (sa ta sq : Option Addr) (ls cs lt ct lq cq : Nat) (s : Nat → Int) (t : Nat → St5) (g : Nat → Int) (st nd : Int) (w : World) (hls : ls ≤ maxLen) (hlt : lt ≤ maxLen) (hlq : lq ≤ maxLen) (hq : ¬ (ls ≤ 13 ∧ lt ≤ 10)) (H : Hid (AnyLine w sa ta ls lt s t)) (HS : Hid (IntSl w sq lq g)) (K : Hid KnownOk) :
    Calls Tryz.prog 7 #[.agg #[.slice sa ls cs, .slice ta lt ct], .int .i64 st, .slice sq lq cq, .int .i64 nd] w
      fun e w' => e = .returned (.bool true) ∧ Below w.heap.size w w' := by
  have hsh : decide (ls ≤ 13 ∧ lt ≤ 10) = false := decide_eq_false hq
  have BX := Lib.hid (fun (w1 : World) (hb : Below (w.alloc (.cells #[.slice sa ls cs, .slice ta lt ct] 25)).heap.size (w.alloc (.cells #[.slice sa ls cs, .slice ta lt ct] 25)) w1) => box_cells hb)
  have HN : Hid (∀ w1, Below (w.alloc (.cells #[.slice sa ls cs, .slice ta lt ct] 25)).heap.size (w.alloc (.cells #[.slice sa ls cs, .slice ta lt ct] 25)) w1 → Hid (AnyLine w1 sa ta ls lt s t)) := Lib.hid fun w1 h => Lib.hid (H.out.below (below_al h))
  have HI : Hid (∀ w1, Below (w.alloc (.cells #[.slice sa ls cs, .slice ta lt ct] 25)).heap.size (w.alloc (.cells #[.slice sa ls cs, .slice ta lt ct] 25)) w1 → Hid (IntSl w1 sq lq g)) := Lib.hid fun w1 h => Lib.hid (HS.out.below (below_al h))
  have hb : Below (w.alloc (.cells #[.slice sa ls cs, .slice ta lt ct] 25)).heap.size (w.alloc (.cells #[.slice sa ls cs, .slice ta lt ct] 25)) (w.alloc (.cells #[.slice sa ls cs, .slice ta lt ct] 25)) := Below.refl _ _
  obtain ⟨x1, x2, x3⟩ := BX.out _ hb
  clear H HS
  go_enter Tryz.func7, Tryz.ntmps7
  go_wp2_with (first
    | (go_at_call 16; refine (short_w _ _ _ _ _ _ _ hls hlt).mono ?_; rw [hsh]; rintro e wl ⟨rfl, hv⟩; replace hb := hb.trans (hv.mono hb.size); clear x1 x2 x3; obtain ⟨x1, x2, x3⟩ := BX.out _ hb)
    | (go_at_call 17; refine (K.out _).mono ?_; rintro e wl ⟨rfl, hv⟩; replace hb := hb.trans (hv.mono hb.size); clear x1 x2 x3; obtain ⟨x1, x2, x3⟩ := BX.out _ hb))
  go_ret
  exact ⟨rfl, below_al hb⟩

set_option maxRecDepth 100000 in
set_option maxHeartbeats 4000000 in
theorem lawt_b (sa ta sq : Option Addr) (ls cs lt ct lq cq : Nat) (s : Nat → Int) (t : Nat → St5) (g : Nat → Int) (st nd : Int) (w : World) (hls : ls ≤ maxLen) (hlt : lt ≤ maxLen) (hlq : lq ≤ maxLen) (hq : ls ≤ 13 ∧ lt ≤ 10) (hqq : ¬ lq ≤ 10) (H : Hid (AnyLine w sa ta ls lt s t)) (HS : Hid (IntSl w sq lq g)) (K : Hid KnownOk) :
    Calls Tryz.prog 7 #[.agg #[.slice sa ls cs, .slice ta lt ct], .int .i64 st, .slice sq lq cq, .int .i64 nd] w
      fun e w' => e = .returned (.bool true) ∧ Below w.heap.size w w' := by
  have hsh : decide (ls ≤ 13 ∧ lt ≤ 10) = true := decide_eq_true hq
  have hq10 : (10 : Int) < (lq : Int) := by omega
  have BX := Lib.hid (fun (w1 : World) (hb : Below (w.alloc (.cells #[.slice sa ls cs, .slice ta lt ct] 25)).heap.size (w.alloc (.cells #[.slice sa ls cs, .slice ta lt ct] 25)) w1) => box_cells hb)
  have HN : Hid (∀ w1, Below (w.alloc (.cells #[.slice sa ls cs, .slice ta lt ct] 25)).heap.size (w.alloc (.cells #[.slice sa ls cs, .slice ta lt ct] 25)) w1 → Hid (AnyLine w1 sa ta ls lt s t)) := Lib.hid fun w1 h => Lib.hid (H.out.below (below_al h))
  have HI : Hid (∀ w1, Below (w.alloc (.cells #[.slice sa ls cs, .slice ta lt ct] 25)).heap.size (w.alloc (.cells #[.slice sa ls cs, .slice ta lt ct] 25)) w1 → Hid (IntSl w1 sq lq g)) := Lib.hid fun w1 h => Lib.hid (HS.out.below (below_al h))
  have hb : Below (w.alloc (.cells #[.slice sa ls cs, .slice ta lt ct] 25)).heap.size (w.alloc (.cells #[.slice sa ls cs, .slice ta lt ct] 25)) (w.alloc (.cells #[.slice sa ls cs, .slice ta lt ct] 25)) := Below.refl _ _
  obtain ⟨x1, x2, x3⟩ := BX.out _ hb
  clear H HS
  go_enter Tryz.func7, Tryz.ntmps7
  go_wp2_with (first
    | (go_at_call 16; refine (short_w _ _ _ _ _ _ _ hls hlt).mono ?_; rw [hsh]; rintro e wl ⟨rfl, hv⟩; replace hb := hb.trans (hv.mono hb.size); clear x1 x2 x3; obtain ⟨x1, x2, x3⟩ := BX.out _ hb)
    | (go_at_call 17; refine (K.out _).mono ?_; rintro e wl ⟨rfl, hv⟩; replace hb := hb.trans (hv.mono hb.size); clear x1 x2 x3; obtain ⟨x1, x2, x3⟩ := BX.out _ hb))
  go_ret
  exact ⟨rfl, below_al hb⟩

set_option maxRecDepth 100000 in
set_option maxHeartbeats 4000000 in
theorem lawt_c (sa ta sq : Option Addr) (ls cs lt ct lq cq : Nat) (s : Nat → Int) (t : Nat → St5) (g : Nat → Int) (st nd : Int) (w : World) (hls : ls ≤ 1000000) (hlt : lt ≤ 1000000) (hlq : lq ≤ maxLen) (hq : ls ≤ 13 ∧ lt ≤ 10) (hqq : lq ≤ 10) (HR : Hid (¬ RightP ls lt s t)) (H : Hid (AnyLine w sa ta ls lt s t)) (HS : Hid (IntSl w sq lq g)) (K : Hid KnownOk) :
    Calls Tryz.prog 7 #[.agg #[.slice sa ls cs, .slice ta lt ct], .int .i64 st, .slice sq lq cq, .int .i64 nd] w
      fun e w' => e = .returned (.bool true) ∧ Below w.heap.size w w' := by
  have hsh : decide (ls ≤ 13 ∧ lt ≤ 10) = true := decide_eq_true hq
  have hq10 : (lq : Int) ≤ (10 : Int) := by omega
  have BX := Lib.hid (fun (w1 : World) (hb : Below (w.alloc (.cells #[.slice sa ls cs, .slice ta lt ct] 25)).heap.size (w.alloc (.cells #[.slice sa ls cs, .slice ta lt ct] 25)) w1) => box_cells hb)
  have HN : Hid (∀ w1, Below (w.alloc (.cells #[.slice sa ls cs, .slice ta lt ct] 25)).heap.size (w.alloc (.cells #[.slice sa ls cs, .slice ta lt ct] 25)) w1 → Hid (AnyLine w1 sa ta ls lt s t)) := Lib.hid fun w1 h => Lib.hid (H.out.below (below_al h))
  have HI : Hid (∀ w1, Below (w.alloc (.cells #[.slice sa ls cs, .slice ta lt ct] 25)).heap.size (w.alloc (.cells #[.slice sa ls cs, .slice ta lt ct] 25)) w1 → Hid (IntSl w1 sq lq g)) := Lib.hid fun w1 h => Lib.hid (HS.out.below (below_al h))
  have hb : Below (w.alloc (.cells #[.slice sa ls cs, .slice ta lt ct] 25)).heap.size (w.alloc (.cells #[.slice sa ls cs, .slice ta lt ct] 25)) (w.alloc (.cells #[.slice sa ls cs, .slice ta lt ct] 25)) := Below.refl _ _
  obtain ⟨x1, x2, x3⟩ := BX.out _ hb
  clear H HS
  go_enter Tryz.func7, Tryz.ntmps7
  go_wp2_with (first
    | (go_at_call 16; refine (short_w _ _ _ _ _ _ _ (by unfold maxLen; omega) (by unfold maxLen; omega)).mono ?_; rw [hsh]; rintro e wl ⟨rfl, hv⟩; replace hb := hb.trans (hv.mono hb.size); clear x1 x2 x3; obtain ⟨x1, x2, x3⟩ := BX.out _ hb)
    | (go_at_call 32; refine (latestF1 _ _ _ _ _ _ s t _ _ _ hls hlt (HN.out _ hb) HR).mono ?_; rintro e wl ⟨rfl, hv⟩; replace hb := hb.trans (hv.mono hb.size); clear x1 x2 x3; obtain ⟨x1, x2, x3⟩ := BX.out _ hb)
    | (go_at_call 33; refine (widenF1 _ _ _ _ _ _ _ _ _ s t g _ _ hls hlt hlq (HN.out _ hb) (HI.out _ hb) HR).mono ?_; rintro e wl ⟨rfl, hv⟩; replace hb := hb.trans (hv.mono hb.size); clear x1 x2 x3; obtain ⟨x1, x2, x3⟩ := BX.out _ hb)
    | (go_at_call 20; refine (right_w _ _ _ _ _ _ s t _ hls hlt (Lib.hid (HN.out _ hb).out.hs) (Lib.hid (HN.out _ hb).out.ht)).mono ?_; rintro e wl ⟨⟨rb, rfl, hrb⟩, hv⟩; obtain rfl : rb = false := (by cases rb <;> first | rfl | exact (HR.out (hrb.1 rfl)).elim); clear hrb; replace hb := hb.trans (hv.mono hb.size); clear x1 x2 x3; obtain ⟨x1, x2, x3⟩ := BX.out _ hb)
    | (go_at_call 17; refine (K.out _).mono ?_; rintro e wl ⟨rfl, hv⟩; replace hb := hb.trans (hv.mono hb.size); clear x1 x2 x3; obtain ⟨x1, x2, x3⟩ := BX.out _ hb))
  go_ret
  exact ⟨rfl, below_al hb⟩

set_option maxRecDepth 100000 in
set_option maxHeartbeats 4000000 in
theorem lawt_FFT (A O C P ls cs lt ct lq cq : Nat) (sq : Option Addr) (s : Nat → Int) (t : Nat → St5) (g : Nat → Int) (st nd : Int) (w : World) (H0 : Hid (LineAt w A O C P ls lt s t)) (g1 : fromB 0 ((lt : Int) - 1) st = false) (g2 : fromB 1 10000000 nd = true) (hqq : lq ≤ 10) (HS : Hid (IntSl w sq lq g)) (HQ : Hid (¬ AgeP lt lq g)) (K : Hid KnownOk) :
    Calls Tryz.prog 7 #[.agg #[.slice (some ⟨A, O, none⟩) ls cs, .slice (some ⟨C, P, none⟩) lt ct], .int .i64 st, .slice sq lq cq, .int .i64 nd] w
      fun e w' => e = .returned (.bool true) ∧ Below w.heap.size w w' := by
  have HR : Hid (RightP ls lt s t) := Lib.hid ⟨H0.out.ls1, H0.out.ls2, H0.out.lt1, H0.out.lt2, H0.out.sok, H0.out.tok⟩
  have q0 := H0.out.ls2
  have q1 := H0.out.lt1
  have q2 := H0.out.lt2
  have hls : ls ≤ 1000000 := by omega
  have hlt : lt ≤ 1000000 := by omega
  have hlq : lq ≤ maxLen := by unfold maxLen; omega
  have hsh : decide (ls ≤ 13 ∧ lt ≤ 10) = true := by simp; omega
  have hq10 : (lq : Int) ≤ (10 : Int) := by omega
  have H : Hid (AnyLine w (some ⟨A, O, none⟩) (some ⟨C, P, none⟩) ls lt s t) := Lib.hid ⟨.inr ⟨A, O, rfl, H0.out.hA, H0.out.sp⟩, .inr ⟨C, P, rfl, H0.out.hC, H0.out.st⟩⟩
  have BX := Lib.hid (fun (w1 : World) (hb : Below (w.alloc (.cells #[.slice (some ⟨A, O, none⟩) ls cs, .slice (some ⟨C, P, none⟩) lt ct] 25)).heap.size (w.alloc (.cells #[.slice (some ⟨A, O, none⟩) ls cs, .slice (some ⟨C, P, none⟩) lt ct] 25)) w1) => box_cells hb)
  have HN : Hid (∀ w1, Below (w.alloc (.cells #[.slice (some ⟨A, O, none⟩) ls cs, .slice (some ⟨C, P, none⟩) lt ct] 25)).heap.size (w.alloc (.cells #[.slice (some ⟨A, O, none⟩) ls cs, .slice (some ⟨C, P, none⟩) lt ct] 25)) w1 → Hid (AnyLine w1 (some ⟨A, O, none⟩) (some ⟨C, P, none⟩) ls lt s t)) := Lib.hid fun w1 h => Lib.hid (H.out.below (below_al h))
  have HL : Hid (∀ w1, Below (w.alloc (.cells #[.slice (some ⟨A, O, none⟩) ls cs, .slice (some ⟨C, P, none⟩) lt ct] 25)).heap.size (w.alloc (.cells #[.slice (some ⟨A, O, none⟩) ls cs, .slice (some ⟨C, P, none⟩) lt ct] 25)) w1 → LineAt w1 A O C P ls lt s t ∧ True) := Lib.hid fun w1 h => ⟨H0.out.below (below_al h), trivial⟩
  have HI : Hid (∀ w1, Below (w.alloc (.cells #[.slice (some ⟨A, O, none⟩) ls cs, .slice (some ⟨C, P, none⟩) lt ct] 25)).heap.size (w.alloc (.cells #[.slice (some ⟨A, O, none⟩) ls cs, .slice (some ⟨C, P, none⟩) lt ct] 25)) w1 → Hid (IntSl w1 sq lq g)) := Lib.hid fun w1 h => Lib.hid (HS.out.below (below_al h))
  have hb : Below (w.alloc (.cells #[.slice (some ⟨A, O, none⟩) ls cs, .slice (some ⟨C, P, none⟩) lt ct] 25)).heap.size (w.alloc (.cells #[.slice (some ⟨A, O, none⟩) ls cs, .slice (some ⟨C, P, none⟩) lt ct] 25)) (w.alloc (.cells #[.slice (some ⟨A, O, none⟩) ls cs, .slice (some ⟨C, P, none⟩) lt ct] 25)) := Below.refl _ _
  obtain ⟨x1, x2, x3⟩ := BX.out _ hb
  clear H
  go_enter Tryz.func7, Tryz.ntmps7
  go_wp2_with (first
    | (go_at_call 16; refine (short_w _ _ _ _ _ _ _ (by unfold maxLen; omega) (by unfold maxLen; omega)).mono ?_; rw [hsh]; rintro e wl ⟨rfl, hv⟩; replace hb := hb.trans (hv.mono hb.size); clear x1 x2 x3; obtain ⟨x1, x2, x3⟩ := BX.out _ hb)
    | (go_at_call 32; refine (latestF2 _ _ _ _ _ _ s t _ _ _ hls hlt (HN.out _ hb) HR g1).mono ?_; rintro e wl ⟨rfl, hv⟩; replace hb := hb.trans (hv.mono hb.size); clear x1 x2 x3; obtain ⟨x1, x2, x3⟩ := BX.out _ hb)
    | (go_at_call 33; refine (widenF2 _ _ _ _ _ _ _ _ _ s t g _ _ hls hlt hlq (HN.out _ hb) (HI.out _ hb) HR HQ).mono ?_; rintro e wl ⟨rfl, hv⟩; replace hb := hb.trans (hv.mono hb.size); clear x1 x2 x3; obtain ⟨x1, x2, x3⟩ := BX.out _ hb)
    | (go_at_call 20; refine (right_w _ _ _ _ _ _ s t _ hls hlt (Lib.hid (HN.out _ hb).out.hs) (Lib.hid (HN.out _ hb).out.ht)).mono ?_; rintro e wl ⟨⟨rb, rfl, hrb⟩, hv⟩; obtain rfl : rb = true := hrb.2 HR.out; clear hrb; replace hb := hb.trans (hv.mono hb.size); clear x1 x2 x3; obtain ⟨x1, x2, x3⟩ := BX.out _ hb)
    | (go_at_call 21; refine (number_w _ undef _ _ _ _ _ (by unfold maxLen; omega)).mono ?_; rintro e wl ⟨rfl, hv⟩; replace hb := hb.trans (hv.mono hb.size); clear x1 x2 x3; obtain ⟨x1, x2, x3⟩ := BX.out _ hb)
    | (go_at_call 34; refine (need_w _ _).mono ?_; rintro e w' ⟨rfl, rfl⟩)
    | (go_at_call 27; refine (refAges_w _ _ _ _ _ _ _ g _ hlt hlq (HI.out _ hb)).mono ?_; rintro e wl ⟨⟨rb, rfl, hrb⟩, hv⟩; obtain rfl : rb = false := (by cases rb <;> first | rfl | exact (HQ.out (hrb.1 rfl)).elim); clear hrb; replace hb := hb.trans (hv.mono hb.size); clear x1 x2 x3; obtain ⟨x1, x2, x3⟩ := BX.out _ hb)
    | (go_at_call 17; refine (K.out _).mono ?_; rintro e wl ⟨rfl, hv⟩; replace hb := hb.trans (hv.mono hb.size); clear x1 x2 x3; obtain ⟨x1, x2, x3⟩ := BX.out _ hb))
  go_ret
  exact ⟨rfl, below_al hb⟩

end Go.Kn

namespace Go.Kn
open Go Go.Proofs Go.RowKit

set_option maxRecDepth 100000 in
set_option maxHeartbeats 4000000 in
theorem lawt_FFF (A O C P ls cs lt ct lq cq : Nat) (sq : Option Addr) (s : Nat → Int) (t : Nat → St5) (g : Nat → Int) (st nd : Int) (w : World) (H0 : Hid (LineAt w A O C P ls lt s t)) (g1 : fromB 0 ((lt : Int) - 1) st = false) (g2 : fromB 1 10000000 nd = false) (hqq : lq ≤ 10) (HS : Hid (IntSl w sq lq g)) (HQ : Hid (¬ AgeP lt lq g)) (K : Hid KnownOk) :
    Calls Tryz.prog 7 #[.agg #[.slice (some ⟨A, O, none⟩) ls cs, .slice (some ⟨C, P, none⟩) lt ct], .int .i64 st, .slice sq lq cq, .int .i64 nd] w
      fun e w' => e = .returned (.bool true) ∧ Below w.heap.size w w' := by
  have HR : Hid (RightP ls lt s t) := Lib.hid ⟨H0.out.ls1, H0.out.ls2, H0.out.lt1, H0.out.lt2, H0.out.sok, H0.out.tok⟩
  have q0 := H0.out.ls2
  have q1 := H0.out.lt1
  have q2 := H0.out.lt2
  have hls : ls ≤ 1000000 := by omega
  have hlt : lt ≤ 1000000 := by omega
  have hlq : lq ≤ maxLen := by unfold maxLen; omega
  have hsh : decide (ls ≤ 13 ∧ lt ≤ 10) = true := by simp; omega
  have hq10 : (lq : Int) ≤ (10 : Int) := by omega
  have H : Hid (AnyLine w (some ⟨A, O, none⟩) (some ⟨C, P, none⟩) ls lt s t) := Lib.hid ⟨.inr ⟨A, O, rfl, H0.out.hA, H0.out.sp⟩, .inr ⟨C, P, rfl, H0.out.hC, H0.out.st⟩⟩
  have BX := Lib.hid (fun (w1 : World) (hb : Below (w.alloc (.cells #[.slice (some ⟨A, O, none⟩) ls cs, .slice (some ⟨C, P, none⟩) lt ct] 25)).heap.size (w.alloc (.cells #[.slice (some ⟨A, O, none⟩) ls cs, .slice (some ⟨C, P, none⟩) lt ct] 25)) w1) => box_cells hb)
  have HN : Hid (∀ w1, Below (w.alloc (.cells #[.slice (some ⟨A, O, none⟩) ls cs, .slice (some ⟨C, P, none⟩) lt ct] 25)).heap.size (w.alloc (.cells #[.slice (some ⟨A, O, none⟩) ls cs, .slice (some ⟨C, P, none⟩) lt ct] 25)) w1 → Hid (AnyLine w1 (some ⟨A, O, none⟩) (some ⟨C, P, none⟩) ls lt s t)) := Lib.hid fun w1 h => Lib.hid (H.out.below (below_al h))
  have HL : Hid (∀ w1, Below (w.alloc (.cells #[.slice (some ⟨A, O, none⟩) ls cs, .slice (some ⟨C, P, none⟩) lt ct] 25)).heap.size (w.alloc (.cells #[.slice (some ⟨A, O, none⟩) ls cs, .slice (some ⟨C, P, none⟩) lt ct] 25)) w1 → LineAt w1 A O C P ls lt s t ∧ True) := Lib.hid fun w1 h => ⟨H0.out.below (below_al h), trivial⟩
  have HI : Hid (∀ w1, Below (w.alloc (.cells #[.slice (some ⟨A, O, none⟩) ls cs, .slice (some ⟨C, P, none⟩) lt ct] 25)).heap.size (w.alloc (.cells #[.slice (some ⟨A, O, none⟩) ls cs, .slice (some ⟨C, P, none⟩) lt ct] 25)) w1 → Hid (IntSl w1 sq lq g)) := Lib.hid fun w1 h => Lib.hid (HS.out.below (below_al h))
  have hb : Below (w.alloc (.cells #[.slice (some ⟨A, O, none⟩) ls cs, .slice (some ⟨C, P, none⟩) lt ct] 25)).heap.size (w.alloc (.cells #[.slice (some ⟨A, O, none⟩) ls cs, .slice (some ⟨C, P, none⟩) lt ct] 25)) (w.alloc (.cells #[.slice (some ⟨A, O, none⟩) ls cs, .slice (some ⟨C, P, none⟩) lt ct] 25)) := Below.refl _ _
  obtain ⟨x1, x2, x3⟩ := BX.out _ hb
  clear H
  go_enter Tryz.func7, Tryz.ntmps7
  go_wp2_with (first
    | (go_at_call 16; refine (short_w _ _ _ _ _ _ _ (by unfold maxLen; omega) (by unfold maxLen; omega)).mono ?_; rw [hsh]; rintro e wl ⟨rfl, hv⟩; replace hb := hb.trans (hv.mono hb.size); clear x1 x2 x3; obtain ⟨x1, x2, x3⟩ := BX.out _ hb)
    | (go_at_call 32; refine (latestF2 _ _ _ _ _ _ s t _ _ _ hls hlt (HN.out _ hb) HR g1).mono ?_; rintro e wl ⟨rfl, hv⟩; replace hb := hb.trans (hv.mono hb.size); clear x1 x2 x3; obtain ⟨x1, x2, x3⟩ := BX.out _ hb)
    | (go_at_call 33; refine (widenF2 _ _ _ _ _ _ _ _ _ s t g _ _ hls hlt hlq (HN.out _ hb) (HI.out _ hb) HR HQ).mono ?_; rintro e wl ⟨rfl, hv⟩; replace hb := hb.trans (hv.mono hb.size); clear x1 x2 x3; obtain ⟨x1, x2, x3⟩ := BX.out _ hb)
    | (go_at_call 20; refine (right_w _ _ _ _ _ _ s t _ hls hlt (Lib.hid (HN.out _ hb).out.hs) (Lib.hid (HN.out _ hb).out.ht)).mono ?_; rintro e wl ⟨⟨rb, rfl, hrb⟩, hv⟩; obtain rfl : rb = true := hrb.2 HR.out; clear hrb; replace hb := hb.trans (hv.mono hb.size); clear x1 x2 x3; obtain ⟨x1, x2, x3⟩ := BX.out _ hb)
    | (go_at_call 21; refine (number_w _ undef _ _ _ _ _ (by unfold maxLen; omega)).mono ?_; rintro e wl ⟨rfl, hv⟩; replace hb := hb.trans (hv.mono hb.size); clear x1 x2 x3; obtain ⟨x1, x2, x3⟩ := BX.out _ hb)
    | (go_at_call 34; refine (need_w _ _).mono ?_; rintro e w' ⟨rfl, rfl⟩)
    | (go_at_call 27; refine (refAges_w _ _ _ _ _ _ _ g _ hlt hlq (HI.out _ hb)).mono ?_; rintro e wl ⟨⟨rb, rfl, hrb⟩, hv⟩; obtain rfl : rb = false := (by cases rb <;> first | rfl | exact (HQ.out (hrb.1 rfl)).elim); clear hrb; replace hb := hb.trans (hv.mono hb.size); clear x1 x2 x3; obtain ⟨x1, x2, x3⟩ := BX.out _ hb)
    | (go_at_call 17; refine (K.out _).mono ?_; rintro e wl ⟨rfl, hv⟩; replace hb := hb.trans (hv.mono hb.size); clear x1 x2 x3; obtain ⟨x1, x2, x3⟩ := BX.out _ hb))
  go_ret
  exact ⟨rfl, below_al hb⟩

set_option maxRecDepth 100000 in
set_option maxHeartbeats 4000000 in
theorem lawt_FBF (A O C P ls cs lt ct D F cq : Nat) (s : Nat → Int) (t : Nat → St5) (g : Nat → Int) (st nd : Int) (w : World) (H0 : Hid (LineAt w A O C P ls lt s t)) (g1 : fromB 0 ((lt : Int) - 1) st = false) (g2 : fromB 1 10000000 nd = false) (hD : D < w.heap.size) (HDD : Hid (NumAt w D F lt g)) (HQ : Hid (AgeP lt lt g)) (K : Hid KnownOk) :
    Calls Tryz.prog 7 #[.agg #[.slice (some ⟨A, O, none⟩) ls cs, .slice (some ⟨C, P, none⟩) lt ct], .int .i64 st, .slice (some ⟨D, F, none⟩) lt cq, .int .i64 nd] w
      fun e w' => e = .returned (.bool true) ∧ Below w.heap.size w w' := by
  have HR : Hid (RightP ls lt s t) := Lib.hid ⟨H0.out.ls1, H0.out.ls2, H0.out.lt1, H0.out.lt2, H0.out.sok, H0.out.tok⟩
  have q0 := H0.out.ls2
  have q1 := H0.out.lt1
  have q2 := H0.out.lt2
  have hls : ls ≤ 1000000 := by omega
  have hlt : lt ≤ 1000000 := by omega
  have hlq : lt ≤ maxLen := by unfold maxLen; omega
  have hsh : decide (ls ≤ 13 ∧ lt ≤ 10) = true := by simp; omega
  have hq10 : (lt : Int) ≤ (10 : Int) := by omega
  have H : Hid (AnyLine w (some ⟨A, O, none⟩) (some ⟨C, P, none⟩) ls lt s t) := Lib.hid ⟨.inr ⟨A, O, rfl, H0.out.hA, H0.out.sp⟩, .inr ⟨C, P, rfl, H0.out.hC, H0.out.st⟩⟩
  have BX := Lib.hid (fun (w1 : World) (hb : Below (w.alloc (.cells #[.slice (some ⟨A, O, none⟩) ls cs, .slice (some ⟨C, P, none⟩) lt ct] 25)).heap.size (w.alloc (.cells #[.slice (some ⟨A, O, none⟩) ls cs, .slice (some ⟨C, P, none⟩) lt ct] 25)) w1) => box_cells hb)
  have HN : Hid (∀ w1, Below (w.alloc (.cells #[.slice (some ⟨A, O, none⟩) ls cs, .slice (some ⟨C, P, none⟩) lt ct] 25)).heap.size (w.alloc (.cells #[.slice (some ⟨A, O, none⟩) ls cs, .slice (some ⟨C, P, none⟩) lt ct] 25)) w1 → Hid (AnyLine w1 (some ⟨A, O, none⟩) (some ⟨C, P, none⟩) ls lt s t)) := Lib.hid fun w1 h => Lib.hid (H.out.below (below_al h))
  have HL : Hid (∀ w1, Below (w.alloc (.cells #[.slice (some ⟨A, O, none⟩) ls cs, .slice (some ⟨C, P, none⟩) lt ct] 25)).heap.size (w.alloc (.cells #[.slice (some ⟨A, O, none⟩) ls cs, .slice (some ⟨C, P, none⟩) lt ct] 25)) w1 → LineAt w1 A O C P ls lt s t ∧ True) := Lib.hid fun w1 h => ⟨H0.out.below (below_al h), trivial⟩
  have HM : Hid (∀ w1, Below (w.alloc (.cells #[.slice (some ⟨A, O, none⟩) ls cs, .slice (some ⟨C, P, none⟩) lt ct] 25)).heap.size (w.alloc (.cells #[.slice (some ⟨A, O, none⟩) ls cs, .slice (some ⟨C, P, none⟩) lt ct] 25)) w1 → D < w1.heap.size ∧ NumAt w1 D F lt g) := Lib.hid fun w1 h => ⟨Nat.lt_of_lt_of_le hD (below_al h).size, HDD.out.below hD (below_al h)⟩
  have HI : Hid (∀ w1, Below (w.alloc (.cells #[.slice (some ⟨A, O, none⟩) ls cs, .slice (some ⟨C, P, none⟩) lt ct] 25)).heap.size (w.alloc (.cells #[.slice (some ⟨A, O, none⟩) ls cs, .slice (some ⟨C, P, none⟩) lt ct] 25)) w1 → Hid (IntSl w1 (some ⟨D, F, none⟩) lt g)) := Lib.hid fun w1 h => Lib.hid (.inr ⟨D, F, rfl, (HM.out w1 h).1, (HM.out w1 h).2⟩)
  have hb : Below (w.alloc (.cells #[.slice (some ⟨A, O, none⟩) ls cs, .slice (some ⟨C, P, none⟩) lt ct] 25)).heap.size (w.alloc (.cells #[.slice (some ⟨A, O, none⟩) ls cs, .slice (some ⟨C, P, none⟩) lt ct] 25)) (w.alloc (.cells #[.slice (some ⟨A, O, none⟩) ls cs, .slice (some ⟨C, P, none⟩) lt ct] 25)) := Below.refl _ _
  obtain ⟨x1, x2, x3⟩ := BX.out _ hb
  clear H
  go_enter Tryz.func7, Tryz.ntmps7
  go_wp2_with (first
    | (go_at_call 16; refine (short_w _ _ _ _ _ _ _ (by unfold maxLen; omega) (by unfold maxLen; omega)).mono ?_; rw [hsh]; rintro e wl ⟨rfl, hv⟩; replace hb := hb.trans (hv.mono hb.size); clear x1 x2 x3; obtain ⟨x1, x2, x3⟩ := BX.out _ hb)
    | (go_at_call 32; refine (latestF2 _ _ _ _ _ _ s t _ _ _ hls hlt (HN.out _ hb) HR g1).mono ?_; rintro e wl ⟨rfl, hv⟩; replace hb := hb.trans (hv.mono hb.size); clear x1 x2 x3; obtain ⟨x1, x2, x3⟩ := BX.out _ hb)
    | (go_at_call 33; refine (widenF3 _ _ _ _ _ _ _ _ _ s t g _ _ hls hlt hlq (HN.out _ hb) (HI.out _ hb) HR HQ g2).mono ?_; rintro e wl ⟨rfl, hv⟩; replace hb := hb.trans (hv.mono hb.size); clear x1 x2 x3; obtain ⟨x1, x2, x3⟩ := BX.out _ hb)
    | (go_at_call 20; refine (right_w _ _ _ _ _ _ s t _ hls hlt (Lib.hid (HN.out _ hb).out.hs) (Lib.hid (HN.out _ hb).out.ht)).mono ?_; rintro e wl ⟨⟨rb, rfl, hrb⟩, hv⟩; obtain rfl : rb = true := hrb.2 HR.out; clear hrb; replace hb := hb.trans (hv.mono hb.size); clear x1 x2 x3; obtain ⟨x1, x2, x3⟩ := BX.out _ hb)
    | (go_at_call 21; refine (number_w _ undef _ _ _ _ _ (by unfold maxLen; omega)).mono ?_; rintro e wl ⟨rfl, hv⟩; replace hb := hb.trans (hv.mono hb.size); clear x1 x2 x3; obtain ⟨x1, x2, x3⟩ := BX.out _ hb)
    | (go_at_call 34; refine (need_w _ _).mono ?_; rintro e w' ⟨rfl, rfl⟩)
    | (go_at_call 27; refine (refAges_w _ _ _ _ _ _ _ g _ hlt hlq (HI.out _ hb)).mono ?_; rintro e wl ⟨⟨rb, rfl, hrb⟩, hv⟩; obtain rfl : rb = true := hrb.2 HQ.out; clear hrb; replace hb := hb.trans (hv.mono hb.size); clear x1 x2 x3; obtain ⟨x1, x2, x3⟩ := BX.out _ hb)
    | (go_at_call 17; refine (K.out _).mono ?_; rintro e wl ⟨rfl, hv⟩; replace hb := hb.trans (hv.mono hb.size); clear x1 x2 x3; obtain ⟨x1, x2, x3⟩ := BX.out _ hb))
  go_ret
  exact ⟨rfl, below_al hb⟩

set_option maxRecDepth 100000 in
set_option maxHeartbeats 4000000 in
theorem lawt_FtT (A O C P ls cs lt ct D F cq : Nat) (s : Nat → Int) (t : Nat → St5) (g W : Nat → Int) (st nd : Int) (w : World) (H0 : Hid (LineAt w A O C P ls lt s t)) (g1 : fromB 0 ((lt : Int) - 1) st = false) (g2 : fromB 1 10000000 nd = true) (hD : D < w.heap.size) (HDD : Hid (NumAt w D F lt g)) (HQ : Hid (AgeP lt lt g)) (HW : Hid (∀ i, i < lt → IsW (cupsB s (t i) (g i)) (t i).b nd (W i))) (HT : Hid (∀ i, i < lt → W i ≤ 100)) (K : Hid KnownOk) :
    Calls Tryz.prog 7 #[.agg #[.slice (some ⟨A, O, none⟩) ls cs, .slice (some ⟨C, P, none⟩) lt ct], .int .i64 st, .slice (some ⟨D, F, none⟩) lt cq, .int .i64 nd] w
      fun e w' => e = .returned (.bool true) ∧ Below w.heap.size w w' := by
  have HR : Hid (RightP ls lt s t) := Lib.hid ⟨H0.out.ls1, H0.out.ls2, H0.out.lt1, H0.out.lt2, H0.out.sok, H0.out.tok⟩
  have q0 := H0.out.ls2
  have q1 := H0.out.lt1
  have q2 := H0.out.lt2
  have hls : ls ≤ 1000000 := by omega
  have hlt : lt ≤ 1000000 := by omega
  have hlq : lt ≤ maxLen := by unfold maxLen; omega
  have hsh : decide (ls ≤ 13 ∧ lt ≤ 10) = true := by simp; omega
  have hq10 : (lt : Int) ≤ (10 : Int) := by omega
  have H : Hid (AnyLine w (some ⟨A, O, none⟩) (some ⟨C, P, none⟩) ls lt s t) := Lib.hid ⟨.inr ⟨A, O, rfl, H0.out.hA, H0.out.sp⟩, .inr ⟨C, P, rfl, H0.out.hC, H0.out.st⟩⟩
  have BX := Lib.hid (fun (w1 : World) (hb : Below (w.alloc (.cells #[.slice (some ⟨A, O, none⟩) ls cs, .slice (some ⟨C, P, none⟩) lt ct] 25)).heap.size (w.alloc (.cells #[.slice (some ⟨A, O, none⟩) ls cs, .slice (some ⟨C, P, none⟩) lt ct] 25)) w1) => box_cells hb)
  have HN : Hid (∀ w1, Below (w.alloc (.cells #[.slice (some ⟨A, O, none⟩) ls cs, .slice (some ⟨C, P, none⟩) lt ct] 25)).heap.size (w.alloc (.cells #[.slice (some ⟨A, O, none⟩) ls cs, .slice (some ⟨C, P, none⟩) lt ct] 25)) w1 → Hid (AnyLine w1 (some ⟨A, O, none⟩) (some ⟨C, P, none⟩) ls lt s t)) := Lib.hid fun w1 h => Lib.hid (H.out.below (below_al h))
  have HL : Hid (∀ w1, Below (w.alloc (.cells #[.slice (some ⟨A, O, none⟩) ls cs, .slice (some ⟨C, P, none⟩) lt ct] 25)).heap.size (w.alloc (.cells #[.slice (some ⟨A, O, none⟩) ls cs, .slice (some ⟨C, P, none⟩) lt ct] 25)) w1 → LineAt w1 A O C P ls lt s t ∧ True) := Lib.hid fun w1 h => ⟨H0.out.below (below_al h), trivial⟩
  have HM : Hid (∀ w1, Below (w.alloc (.cells #[.slice (some ⟨A, O, none⟩) ls cs, .slice (some ⟨C, P, none⟩) lt ct] 25)).heap.size (w.alloc (.cells #[.slice (some ⟨A, O, none⟩) ls cs, .slice (some ⟨C, P, none⟩) lt ct] 25)) w1 → D < w1.heap.size ∧ NumAt w1 D F lt g) := Lib.hid fun w1 h => ⟨Nat.lt_of_lt_of_le hD (below_al h).size, HDD.out.below hD (below_al h)⟩
  have HI : Hid (∀ w1, Below (w.alloc (.cells #[.slice (some ⟨A, O, none⟩) ls cs, .slice (some ⟨C, P, none⟩) lt ct] 25)).heap.size (w.alloc (.cells #[.slice (some ⟨A, O, none⟩) ls cs, .slice (some ⟨C, P, none⟩) lt ct] 25)) w1 → Hid (IntSl w1 (some ⟨D, F, none⟩) lt g)) := Lib.hid fun w1 h => Lib.hid (.inr ⟨D, F, rfl, (HM.out w1 h).1, (HM.out w1 h).2⟩)
  have hb : Below (w.alloc (.cells #[.slice (some ⟨A, O, none⟩) ls cs, .slice (some ⟨C, P, none⟩) lt ct] 25)).heap.size (w.alloc (.cells #[.slice (some ⟨A, O, none⟩) ls cs, .slice (some ⟨C, P, none⟩) lt ct] 25)) (w.alloc (.cells #[.slice (some ⟨A, O, none⟩) ls cs, .slice (some ⟨C, P, none⟩) lt ct] 25)) := Below.refl _ _
  obtain ⟨x1, x2, x3⟩ := BX.out _ hb
  clear H
  go_enter Tryz.func7, Tryz.ntmps7
  go_wp2_with (first
    | (go_at_call 16; refine (short_w _ _ _ _ _ _ _ (by unfold maxLen; omega) (by unfold maxLen; omega)).mono ?_; rw [hsh]; rintro e wl ⟨rfl, hv⟩; replace hb := hb.trans (hv.mono hb.size); (try replace hk := hk.trans (hv.mono hk.size)); clear x1 x2 x3; obtain ⟨x1, x2, x3⟩ := BX.out _ hb)
    | (go_at_call 32; refine (latestF2 _ _ _ _ _ _ s t _ _ _ hls hlt (HN.out _ hb) HR g1).mono ?_; rintro e wl ⟨rfl, hv⟩; replace hb := hb.trans (hv.mono hb.size); (try replace hk := hk.trans (hv.mono hk.size)); clear x1 x2 x3; obtain ⟨x1, x2, x3⟩ := BX.out _ hb)
    | (go_at_call 33; refine (pwiden_t _ _ _ _ _ _ _ _ _ _ _ s t g W nd _ (Lib.hid (HL.out _ hb).1) (HM.out _ hb).1 (Lib.hid (HM.out _ hb).2) HQ g2 HW HT).mono ?_; rintro e wl ⟨⟨va, vc, rfl, HV⟩, hv⟩; replace hb := hb.trans (hv.mono hb.size); (try replace hk := hk.trans (hv.mono hk.size)); clear x1 x2 x3; obtain ⟨x1, x2, x3⟩ := BX.out _ hb; have HVB := Lib.hid hv; have HV1 : Hid (∀ w9, Below wl.heap.size wl w9 → IntSl w9 va lt (fun i => (upto W lt).getD i 0)) := Lib.hid (fun w9 h => HV.out.below h); have hk := Below.refl wl.heap.size wl)
    | (go_at_call 20; refine (right_w _ _ _ _ _ _ s t _ hls hlt (Lib.hid (HN.out _ hb).out.hs) (Lib.hid (HN.out _ hb).out.ht)).mono ?_; rintro e wl ⟨⟨rb, rfl, hrb⟩, hv⟩; obtain rfl : rb = true := hrb.2 HR.out; clear hrb; replace hb := hb.trans (hv.mono hb.size); (try replace hk := hk.trans (hv.mono hk.size)); clear x1 x2 x3; obtain ⟨x1, x2, x3⟩ := BX.out _ hb)
    | (go_at_call 21; refine (number_w _ undef _ _ _ _ _ (by unfold maxLen; omega)).mono ?_; rintro e wl ⟨rfl, hv⟩; replace hb := hb.trans (hv.mono hb.size); (try replace hk := hk.trans (hv.mono hk.size)); clear x1 x2 x3; obtain ⟨x1, x2, x3⟩ := BX.out _ hb)
    | (go_at_call 34; refine (need_w _ _).mono ?_; rintro e w' ⟨rfl, rfl⟩)
    | (go_at_call 27; refine (refAges_w _ _ _ _ _ _ _ g _ hlt hlq (HI.out _ hb)).mono ?_; rintro e wl ⟨⟨rb, rfl, hrb⟩, hv⟩; obtain rfl : rb = true := hrb.2 HQ.out; clear hrb; replace hb := hb.trans (hv.mono hb.size); (try replace hk := hk.trans (hv.mono hk.size)); clear x1 x2 x3; obtain ⟨x1, x2, x3⟩ := BX.out _ hb)
    | (go_at_call 36; refine (rwiden_t _ _ _ _ _ _ _ _ _ _ _ s t g W nd _ (Lib.hid (HL.out _ hb).1) (HM.out _ hb).1 (Lib.hid (HM.out _ hb).2) HQ HW HT).mono ?_; rintro e wl ⟨⟨va2, vc2, rfl, HV2⟩, hv⟩; replace hb := hb.trans (hv.mono hb.size); (try replace hk := hk.trans (hv.mono hk.size)); clear x1 x2 x3; obtain ⟨x1, x2, x3⟩ := BX.out _ hb)
    | (go_at_call 29; refine (same_w _ _ _ _ _ _ _ (by unfold maxLen; omega) (Lib.hid (HV1.out _ hk)) HV2).mono ?_; rintro e wl ⟨rfl, hv⟩; replace hb := hb.trans (hv.mono hb.size); (try replace hk := hk.trans (hv.mono hk.size)); clear x1 x2 x3; obtain ⟨x1, x2, x3⟩ := BX.out _ hb)
    | (go_at_call 17; refine (K.out _).mono ?_; rintro e wl ⟨rfl, hv⟩; replace hb := hb.trans (hv.mono hb.size); (try replace hk := hk.trans (hv.mono hk.size)); clear x1 x2 x3; obtain ⟨x1, x2, x3⟩ := BX.out _ hb))
  go_ret
  exact ⟨rfl, below_al hb⟩

set_option maxRecDepth 100000 in
set_option maxHeartbeats 4000000 in
theorem lawt_FfT (A O C P ls cs lt ct D F cq : Nat) (s : Nat → Int) (t : Nat → St5) (g W : Nat → Int) (st nd : Int) (w : World) (H0 : Hid (LineAt w A O C P ls lt s t)) (g1 : fromB 0 ((lt : Int) - 1) st = false) (g2 : fromB 1 10000000 nd = true) (hD : D < w.heap.size) (HDD : Hid (NumAt w D F lt g)) (HQ : Hid (AgeP lt lt g)) (HW : Hid (∀ i, i < lt → IsW (cupsB s (t i) (g i)) (t i).b nd (W i))) (HT : Hid (∃ i, i < lt ∧ W i = 101)) (K : Hid KnownOk) :
    Calls Tryz.prog 7 #[.agg #[.slice (some ⟨A, O, none⟩) ls cs, .slice (some ⟨C, P, none⟩) lt ct], .int .i64 st, .slice (some ⟨D, F, none⟩) lt cq, .int .i64 nd] w
      fun e w' => e = .returned (.bool true) ∧ Below w.heap.size w w' := by
  have HR : Hid (RightP ls lt s t) := Lib.hid ⟨H0.out.ls1, H0.out.ls2, H0.out.lt1, H0.out.lt2, H0.out.sok, H0.out.tok⟩
  have q0 := H0.out.ls2
  have q1 := H0.out.lt1
  have q2 := H0.out.lt2
  have hls : ls ≤ 1000000 := by omega
  have hlt : lt ≤ 1000000 := by omega
  have hlq : lt ≤ maxLen := by unfold maxLen; omega
  have hsh : decide (ls ≤ 13 ∧ lt ≤ 10) = true := by simp; omega
  have hq10 : (lt : Int) ≤ (10 : Int) := by omega
  have H : Hid (AnyLine w (some ⟨A, O, none⟩) (some ⟨C, P, none⟩) ls lt s t) := Lib.hid ⟨.inr ⟨A, O, rfl, H0.out.hA, H0.out.sp⟩, .inr ⟨C, P, rfl, H0.out.hC, H0.out.st⟩⟩
  have BX := Lib.hid (fun (w1 : World) (hb : Below (w.alloc (.cells #[.slice (some ⟨A, O, none⟩) ls cs, .slice (some ⟨C, P, none⟩) lt ct] 25)).heap.size (w.alloc (.cells #[.slice (some ⟨A, O, none⟩) ls cs, .slice (some ⟨C, P, none⟩) lt ct] 25)) w1) => box_cells hb)
  have HN : Hid (∀ w1, Below (w.alloc (.cells #[.slice (some ⟨A, O, none⟩) ls cs, .slice (some ⟨C, P, none⟩) lt ct] 25)).heap.size (w.alloc (.cells #[.slice (some ⟨A, O, none⟩) ls cs, .slice (some ⟨C, P, none⟩) lt ct] 25)) w1 → Hid (AnyLine w1 (some ⟨A, O, none⟩) (some ⟨C, P, none⟩) ls lt s t)) := Lib.hid fun w1 h => Lib.hid (H.out.below (below_al h))
  have HL : Hid (∀ w1, Below (w.alloc (.cells #[.slice (some ⟨A, O, none⟩) ls cs, .slice (some ⟨C, P, none⟩) lt ct] 25)).heap.size (w.alloc (.cells #[.slice (some ⟨A, O, none⟩) ls cs, .slice (some ⟨C, P, none⟩) lt ct] 25)) w1 → LineAt w1 A O C P ls lt s t ∧ True) := Lib.hid fun w1 h => ⟨H0.out.below (below_al h), trivial⟩
  have HM : Hid (∀ w1, Below (w.alloc (.cells #[.slice (some ⟨A, O, none⟩) ls cs, .slice (some ⟨C, P, none⟩) lt ct] 25)).heap.size (w.alloc (.cells #[.slice (some ⟨A, O, none⟩) ls cs, .slice (some ⟨C, P, none⟩) lt ct] 25)) w1 → D < w1.heap.size ∧ NumAt w1 D F lt g) := Lib.hid fun w1 h => ⟨Nat.lt_of_lt_of_le hD (below_al h).size, HDD.out.below hD (below_al h)⟩
  have HI : Hid (∀ w1, Below (w.alloc (.cells #[.slice (some ⟨A, O, none⟩) ls cs, .slice (some ⟨C, P, none⟩) lt ct] 25)).heap.size (w.alloc (.cells #[.slice (some ⟨A, O, none⟩) ls cs, .slice (some ⟨C, P, none⟩) lt ct] 25)) w1 → Hid (IntSl w1 (some ⟨D, F, none⟩) lt g)) := Lib.hid fun w1 h => Lib.hid (.inr ⟨D, F, rfl, (HM.out w1 h).1, (HM.out w1 h).2⟩)
  have hb : Below (w.alloc (.cells #[.slice (some ⟨A, O, none⟩) ls cs, .slice (some ⟨C, P, none⟩) lt ct] 25)).heap.size (w.alloc (.cells #[.slice (some ⟨A, O, none⟩) ls cs, .slice (some ⟨C, P, none⟩) lt ct] 25)) (w.alloc (.cells #[.slice (some ⟨A, O, none⟩) ls cs, .slice (some ⟨C, P, none⟩) lt ct] 25)) := Below.refl _ _
  obtain ⟨x1, x2, x3⟩ := BX.out _ hb
  clear H
  go_enter Tryz.func7, Tryz.ntmps7
  go_wp2_with (first
    | (go_at_call 16; refine (short_w _ _ _ _ _ _ _ (by unfold maxLen; omega) (by unfold maxLen; omega)).mono ?_; rw [hsh]; rintro e wl ⟨rfl, hv⟩; replace hb := hb.trans (hv.mono hb.size); clear x1 x2 x3; obtain ⟨x1, x2, x3⟩ := BX.out _ hb)
    | (go_at_call 32; refine (latestF2 _ _ _ _ _ _ s t _ _ _ hls hlt (HN.out _ hb) HR g1).mono ?_; rintro e wl ⟨rfl, hv⟩; replace hb := hb.trans (hv.mono hb.size); clear x1 x2 x3; obtain ⟨x1, x2, x3⟩ := BX.out _ hb)
    | (go_at_call 33; refine (pwiden_f _ _ _ _ _ _ _ _ _ _ _ s t g W nd _ (Lib.hid (HL.out _ hb).1) (HM.out _ hb).1 (Lib.hid (HM.out _ hb).2) HQ g2 HW HT).mono ?_; rintro e wl ⟨rfl, hv⟩; replace hb := hb.trans (hv.mono hb.size); clear x1 x2 x3; obtain ⟨x1, x2, x3⟩ := BX.out _ hb)
    | (go_at_call 20; refine (right_w _ _ _ _ _ _ s t _ hls hlt (Lib.hid (HN.out _ hb).out.hs) (Lib.hid (HN.out _ hb).out.ht)).mono ?_; rintro e wl ⟨⟨rb, rfl, hrb⟩, hv⟩; obtain rfl : rb = true := hrb.2 HR.out; clear hrb; replace hb := hb.trans (hv.mono hb.size); clear x1 x2 x3; obtain ⟨x1, x2, x3⟩ := BX.out _ hb)
    | (go_at_call 21; refine (number_w _ undef _ _ _ _ _ (by unfold maxLen; omega)).mono ?_; rintro e wl ⟨rfl, hv⟩; replace hb := hb.trans (hv.mono hb.size); clear x1 x2 x3; obtain ⟨x1, x2, x3⟩ := BX.out _ hb)
    | (go_at_call 34; refine (need_w _ _).mono ?_; rintro e w' ⟨rfl, rfl⟩)
    | (go_at_call 27; refine (refAges_w _ _ _ _ _ _ _ g _ hlt hlq (HI.out _ hb)).mono ?_; rintro e wl ⟨⟨rb, rfl, hrb⟩, hv⟩; obtain rfl : rb = true := hrb.2 HQ.out; clear hrb; replace hb := hb.trans (hv.mono hb.size); clear x1 x2 x3; obtain ⟨x1, x2, x3⟩ := BX.out _ hb)
    | (go_at_call 36; refine (rwiden_f _ _ _ _ _ _ _ _ _ _ _ s t g W nd _ (Lib.hid (HL.out _ hb).1) (HM.out _ hb).1 (Lib.hid (HM.out _ hb).2) HQ HW HT).mono ?_; rintro e wl ⟨rfl, hv⟩; replace hb := hb.trans (hv.mono hb.size); clear x1 x2 x3; obtain ⟨x1, x2, x3⟩ := BX.out _ hb)
    | (go_at_call 17; refine (K.out _).mono ?_; rintro e wl ⟨rfl, hv⟩; replace hb := hb.trans (hv.mono hb.size); clear x1 x2 x3; obtain ⟨x1, x2, x3⟩ := BX.out _ hb))
  go_ret
  exact ⟨rfl, below_al hb⟩

set_option maxRecDepth 100000 in
set_option maxHeartbeats 4000000 in
theorem lawt_BFF (A O C P ls cs lt ct n lq cq : Nat) (sq : Option Addr) (s : Nat → Int) (t : Nat → St5) (g : Nat → Int) (nd : Int) (w : World) (H0 : Hid (LineAt w A O C P ls lt s t)) (hn : n < lt) (g2 : fromB 1 10000000 nd = false) (hqq : lq ≤ 10) (HS : Hid (IntSl w sq lq g)) (HQ : Hid (¬ AgeP lt lq g)) (K : Hid KnownOk) :
    Calls Tryz.prog 7 #[.agg #[.slice (some ⟨A, O, none⟩) ls cs, .slice (some ⟨C, P, none⟩) lt ct], .int .i64 (n : Int), .slice sq lq cq, .int .i64 nd] w
      fun e w' => e = .returned (.bool true) ∧ Below w.heap.size w w' := by
  have HR : Hid (RightP ls lt s t) := Lib.hid ⟨H0.out.ls1, H0.out.ls2, H0.out.lt1, H0.out.lt2, H0.out.sok, H0.out.tok⟩
  have q0 := H0.out.ls2
  have q1 := H0.out.lt1
  have q2 := H0.out.lt2
  have hls : ls ≤ 1000000 := by omega
  have hlt : lt ≤ 1000000 := by omega
  have hlq : lq ≤ maxLen := by unfold maxLen; omega
  have hsh : decide (ls ≤ 13 ∧ lt ≤ 10) = true := by simp; omega
  have hq10 : (lq : Int) ≤ (10 : Int) := by omega
  have H : Hid (AnyLine w (some ⟨A, O, none⟩) (some ⟨C, P, none⟩) ls lt s t) := Lib.hid ⟨.inr ⟨A, O, rfl, H0.out.hA, H0.out.sp⟩, .inr ⟨C, P, rfl, H0.out.hC, H0.out.st⟩⟩
  have g1 : fromB 0 ((lt : Int) - 1) (n : Int) = true := by simp only [fromB, decide_eq_true_eq]; omega
  have BX := Lib.hid (fun (w1 : World) (hb : Below (w.alloc (.cells #[.slice (some ⟨A, O, none⟩) ls cs, .slice (some ⟨C, P, none⟩) lt ct] 25)).heap.size (w.alloc (.cells #[.slice (some ⟨A, O, none⟩) ls cs, .slice (some ⟨C, P, none⟩) lt ct] 25)) w1) => box_cells hb)
  have HN : Hid (∀ w1, Below (w.alloc (.cells #[.slice (some ⟨A, O, none⟩) ls cs, .slice (some ⟨C, P, none⟩) lt ct] 25)).heap.size (w.alloc (.cells #[.slice (some ⟨A, O, none⟩) ls cs, .slice (some ⟨C, P, none⟩) lt ct] 25)) w1 → Hid (AnyLine w1 (some ⟨A, O, none⟩) (some ⟨C, P, none⟩) ls lt s t)) := Lib.hid fun w1 h => Lib.hid (H.out.below (below_al h))
  have HL : Hid (∀ w1, Below (w.alloc (.cells #[.slice (some ⟨A, O, none⟩) ls cs, .slice (some ⟨C, P, none⟩) lt ct] 25)).heap.size (w.alloc (.cells #[.slice (some ⟨A, O, none⟩) ls cs, .slice (some ⟨C, P, none⟩) lt ct] 25)) w1 → LineAt w1 A O C P ls lt s t ∧ True) := Lib.hid fun w1 h => ⟨H0.out.below (below_al h), trivial⟩
  have HI : Hid (∀ w1, Below (w.alloc (.cells #[.slice (some ⟨A, O, none⟩) ls cs, .slice (some ⟨C, P, none⟩) lt ct] 25)).heap.size (w.alloc (.cells #[.slice (some ⟨A, O, none⟩) ls cs, .slice (some ⟨C, P, none⟩) lt ct] 25)) w1 → Hid (IntSl w1 sq lq g)) := Lib.hid fun w1 h => Lib.hid (HS.out.below (below_al h))
  have hb : Below (w.alloc (.cells #[.slice (some ⟨A, O, none⟩) ls cs, .slice (some ⟨C, P, none⟩) lt ct] 25)).heap.size (w.alloc (.cells #[.slice (some ⟨A, O, none⟩) ls cs, .slice (some ⟨C, P, none⟩) lt ct] 25)) (w.alloc (.cells #[.slice (some ⟨A, O, none⟩) ls cs, .slice (some ⟨C, P, none⟩) lt ct] 25)) := Below.refl _ _
  obtain ⟨x1, x2, x3⟩ := BX.out _ hb
  clear H
  go_enter Tryz.func7, Tryz.ntmps7
  go_wp2_with (first
    | (go_at_call 16; refine (short_w _ _ _ _ _ _ _ (by unfold maxLen; omega) (by unfold maxLen; omega)).mono ?_; rw [hsh]; rintro e wl ⟨rfl, hv⟩; replace hb := hb.trans (hv.mono hb.size); clear x1 x2 x3; obtain ⟨x1, x2, x3⟩ := BX.out _ hb)
    | (go_at_call 32; refine (latestF3 _ _ _ _ _ _ s t _ _ _ hls hlt (HN.out _ hb) HR g1 g2).mono ?_; rintro e wl ⟨rfl, hv⟩; replace hb := hb.trans (hv.mono hb.size); clear x1 x2 x3; obtain ⟨x1, x2, x3⟩ := BX.out _ hb)
    | (go_at_call 33; refine (widenF2 _ _ _ _ _ _ _ _ _ s t g _ _ hls hlt hlq (HN.out _ hb) (HI.out _ hb) HR HQ).mono ?_; rintro e wl ⟨rfl, hv⟩; replace hb := hb.trans (hv.mono hb.size); clear x1 x2 x3; obtain ⟨x1, x2, x3⟩ := BX.out _ hb)
    | (go_at_call 20; refine (right_w _ _ _ _ _ _ s t _ hls hlt (Lib.hid (HN.out _ hb).out.hs) (Lib.hid (HN.out _ hb).out.ht)).mono ?_; rintro e wl ⟨⟨rb, rfl, hrb⟩, hv⟩; obtain rfl : rb = true := hrb.2 HR.out; clear hrb; replace hb := hb.trans (hv.mono hb.size); clear x1 x2 x3; obtain ⟨x1, x2, x3⟩ := BX.out _ hb)
    | (go_at_call 21; refine (number_w _ undef _ _ _ _ _ (by unfold maxLen; omega)).mono ?_; rintro e wl ⟨rfl, hv⟩; replace hb := hb.trans (hv.mono hb.size); clear x1 x2 x3; obtain ⟨x1, x2, x3⟩ := BX.out _ hb)
    | (go_at_call 34; refine (need_w _ _).mono ?_; rintro e w' ⟨rfl, rfl⟩)
    | (go_at_call 27; refine (refAges_w _ _ _ _ _ _ _ g _ hlt hlq (HI.out _ hb)).mono ?_; rintro e wl ⟨⟨rb, rfl, hrb⟩, hv⟩; obtain rfl : rb = false := (by cases rb <;> first | rfl | exact (HQ.out (hrb.1 rfl)).elim); clear hrb; replace hb := hb.trans (hv.mono hb.size); clear x1 x2 x3; obtain ⟨x1, x2, x3⟩ := BX.out _ hb)
    | (go_at_call 17; refine (K.out _).mono ?_; rintro e wl ⟨rfl, hv⟩; replace hb := hb.trans (hv.mono hb.size); clear x1 x2 x3; obtain ⟨x1, x2, x3⟩ := BX.out _ hb))
  go_ret
  exact ⟨rfl, below_al hb⟩

set_option maxRecDepth 100000 in
set_option maxHeartbeats 4000000 in
theorem lawt_BBF (A O C P ls cs lt ct n D F cq : Nat) (s : Nat → Int) (t : Nat → St5) (g : Nat → Int) (nd : Int) (w : World) (H0 : Hid (LineAt w A O C P ls lt s t)) (hn : n < lt) (g2 : fromB 1 10000000 nd = false) (hD : D < w.heap.size) (HDD : Hid (NumAt w D F lt g)) (HQ : Hid (AgeP lt lt g)) (K : Hid KnownOk) :
    Calls Tryz.prog 7 #[.agg #[.slice (some ⟨A, O, none⟩) ls cs, .slice (some ⟨C, P, none⟩) lt ct], .int .i64 (n : Int), .slice (some ⟨D, F, none⟩) lt cq, .int .i64 nd] w
      fun e w' => e = .returned (.bool true) ∧ Below w.heap.size w w' := by
  have HR : Hid (RightP ls lt s t) := Lib.hid ⟨H0.out.ls1, H0.out.ls2, H0.out.lt1, H0.out.lt2, H0.out.sok, H0.out.tok⟩
  have q0 := H0.out.ls2
  have q1 := H0.out.lt1
  have q2 := H0.out.lt2
  have hls : ls ≤ 1000000 := by omega
  have hlt : lt ≤ 1000000 := by omega
  have hlq : lt ≤ maxLen := by unfold maxLen; omega
  have hsh : decide (ls ≤ 13 ∧ lt ≤ 10) = true := by simp; omega
  have hq10 : (lt : Int) ≤ (10 : Int) := by omega
  have H : Hid (AnyLine w (some ⟨A, O, none⟩) (some ⟨C, P, none⟩) ls lt s t) := Lib.hid ⟨.inr ⟨A, O, rfl, H0.out.hA, H0.out.sp⟩, .inr ⟨C, P, rfl, H0.out.hC, H0.out.st⟩⟩
  have g1 : fromB 0 ((lt : Int) - 1) (n : Int) = true := by simp only [fromB, decide_eq_true_eq]; omega
  have BX := Lib.hid (fun (w1 : World) (hb : Below (w.alloc (.cells #[.slice (some ⟨A, O, none⟩) ls cs, .slice (some ⟨C, P, none⟩) lt ct] 25)).heap.size (w.alloc (.cells #[.slice (some ⟨A, O, none⟩) ls cs, .slice (some ⟨C, P, none⟩) lt ct] 25)) w1) => box_cells hb)
  have HN : Hid (∀ w1, Below (w.alloc (.cells #[.slice (some ⟨A, O, none⟩) ls cs, .slice (some ⟨C, P, none⟩) lt ct] 25)).heap.size (w.alloc (.cells #[.slice (some ⟨A, O, none⟩) ls cs, .slice (some ⟨C, P, none⟩) lt ct] 25)) w1 → Hid (AnyLine w1 (some ⟨A, O, none⟩) (some ⟨C, P, none⟩) ls lt s t)) := Lib.hid fun w1 h => Lib.hid (H.out.below (below_al h))
  have HL : Hid (∀ w1, Below (w.alloc (.cells #[.slice (some ⟨A, O, none⟩) ls cs, .slice (some ⟨C, P, none⟩) lt ct] 25)).heap.size (w.alloc (.cells #[.slice (some ⟨A, O, none⟩) ls cs, .slice (some ⟨C, P, none⟩) lt ct] 25)) w1 → LineAt w1 A O C P ls lt s t ∧ True) := Lib.hid fun w1 h => ⟨H0.out.below (below_al h), trivial⟩
  have HM : Hid (∀ w1, Below (w.alloc (.cells #[.slice (some ⟨A, O, none⟩) ls cs, .slice (some ⟨C, P, none⟩) lt ct] 25)).heap.size (w.alloc (.cells #[.slice (some ⟨A, O, none⟩) ls cs, .slice (some ⟨C, P, none⟩) lt ct] 25)) w1 → D < w1.heap.size ∧ NumAt w1 D F lt g) := Lib.hid fun w1 h => ⟨Nat.lt_of_lt_of_le hD (below_al h).size, HDD.out.below hD (below_al h)⟩
  have HI : Hid (∀ w1, Below (w.alloc (.cells #[.slice (some ⟨A, O, none⟩) ls cs, .slice (some ⟨C, P, none⟩) lt ct] 25)).heap.size (w.alloc (.cells #[.slice (some ⟨A, O, none⟩) ls cs, .slice (some ⟨C, P, none⟩) lt ct] 25)) w1 → Hid (IntSl w1 (some ⟨D, F, none⟩) lt g)) := Lib.hid fun w1 h => Lib.hid (.inr ⟨D, F, rfl, (HM.out w1 h).1, (HM.out w1 h).2⟩)
  have hb : Below (w.alloc (.cells #[.slice (some ⟨A, O, none⟩) ls cs, .slice (some ⟨C, P, none⟩) lt ct] 25)).heap.size (w.alloc (.cells #[.slice (some ⟨A, O, none⟩) ls cs, .slice (some ⟨C, P, none⟩) lt ct] 25)) (w.alloc (.cells #[.slice (some ⟨A, O, none⟩) ls cs, .slice (some ⟨C, P, none⟩) lt ct] 25)) := Below.refl _ _
  obtain ⟨x1, x2, x3⟩ := BX.out _ hb
  clear H
  go_enter Tryz.func7, Tryz.ntmps7
  go_wp2_with (first
    | (go_at_call 16; refine (short_w _ _ _ _ _ _ _ (by unfold maxLen; omega) (by unfold maxLen; omega)).mono ?_; rw [hsh]; rintro e wl ⟨rfl, hv⟩; replace hb := hb.trans (hv.mono hb.size); clear x1 x2 x3; obtain ⟨x1, x2, x3⟩ := BX.out _ hb)
    | (go_at_call 32; refine (latestF3 _ _ _ _ _ _ s t _ _ _ hls hlt (HN.out _ hb) HR g1 g2).mono ?_; rintro e wl ⟨rfl, hv⟩; replace hb := hb.trans (hv.mono hb.size); clear x1 x2 x3; obtain ⟨x1, x2, x3⟩ := BX.out _ hb)
    | (go_at_call 33; refine (widenF3 _ _ _ _ _ _ _ _ _ s t g _ _ hls hlt hlq (HN.out _ hb) (HI.out _ hb) HR HQ g2).mono ?_; rintro e wl ⟨rfl, hv⟩; replace hb := hb.trans (hv.mono hb.size); clear x1 x2 x3; obtain ⟨x1, x2, x3⟩ := BX.out _ hb)
    | (go_at_call 20; refine (right_w _ _ _ _ _ _ s t _ hls hlt (Lib.hid (HN.out _ hb).out.hs) (Lib.hid (HN.out _ hb).out.ht)).mono ?_; rintro e wl ⟨⟨rb, rfl, hrb⟩, hv⟩; obtain rfl : rb = true := hrb.2 HR.out; clear hrb; replace hb := hb.trans (hv.mono hb.size); clear x1 x2 x3; obtain ⟨x1, x2, x3⟩ := BX.out _ hb)
    | (go_at_call 21; refine (number_w _ undef _ _ _ _ _ (by unfold maxLen; omega)).mono ?_; rintro e wl ⟨rfl, hv⟩; replace hb := hb.trans (hv.mono hb.size); clear x1 x2 x3; obtain ⟨x1, x2, x3⟩ := BX.out _ hb)
    | (go_at_call 34; refine (need_w _ _).mono ?_; rintro e w' ⟨rfl, rfl⟩)
    | (go_at_call 27; refine (refAges_w _ _ _ _ _ _ _ g _ hlt hlq (HI.out _ hb)).mono ?_; rintro e wl ⟨⟨rb, rfl, hrb⟩, hv⟩; obtain rfl : rb = true := hrb.2 HQ.out; clear hrb; replace hb := hb.trans (hv.mono hb.size); clear x1 x2 x3; obtain ⟨x1, x2, x3⟩ := BX.out _ hb)
    | (go_at_call 17; refine (K.out _).mono ?_; rintro e wl ⟨rfl, hv⟩; replace hb := hb.trans (hv.mono hb.size); clear x1 x2 x3; obtain ⟨x1, x2, x3⟩ := BX.out _ hb))
  go_ret
  exact ⟨rfl, below_al hb⟩

end Go.Kn

namespace Go.Kn
open Go Go.Proofs Go.RowKit

set_option maxRecDepth 100000 in
set_option maxHeartbeats 4000000 in
theorem lawt_tFT (A O C P ls cs lt ct n lq cq : Nat) (sq : Option Addr) (s : Nat → Int) (t : Nat → St5) (g : Nat → Int) (nd a : Int) (w : World) (H0 : Hid (LineAt w A O C P ls lt s t)) (hn : n < lt) (g2 : fromB 1 10000000 nd = true) (hqq : lq ≤ 10) (HS : Hid (IntSl w sq lq g)) (HQ : Hid (¬ AgeP lt lq g)) (HG : Hid (Great s (t n) nd a true)) (K : Hid KnownOk) :
    Calls Tryz.prog 7 #[.agg #[.slice (some ⟨A, O, none⟩) ls cs, .slice (some ⟨C, P, none⟩) lt ct], .int .i64 (n : Int), .slice sq lq cq, .int .i64 nd] w
      fun e w' => e = .returned (.bool true) ∧ Below w.heap.size w w' := by
  have HR : Hid (RightP ls lt s t) := Lib.hid ⟨H0.out.ls1, H0.out.ls2, H0.out.lt1, H0.out.lt2, H0.out.sok, H0.out.tok⟩
  have q0 := H0.out.ls2
  have q1 := H0.out.lt1
  have q2 := H0.out.lt2
  have hls : ls ≤ 1000000 := by omega
  have hlt : lt ≤ 1000000 := by omega
  have hlq : lq ≤ maxLen := by unfold maxLen; omega
  have hsh : decide (ls ≤ 13 ∧ lt ≤ 10) = true := by simp; omega
  have hq10 : (lq : Int) ≤ (10 : Int) := by omega
  have H : Hid (AnyLine w (some ⟨A, O, none⟩) (some ⟨C, P, none⟩) ls lt s t) := Lib.hid ⟨.inr ⟨A, O, rfl, H0.out.hA, H0.out.sp⟩, .inr ⟨C, P, rfl, H0.out.hC, H0.out.st⟩⟩
  have g1 : fromB 0 ((lt : Int) - 1) (n : Int) = true := by simp only [fromB, decide_eq_true_eq]; omega
  have ha0 := HG.out.nonneg
  have hd1 : decide ((0 : Int) ≤ a) = true := decide_eq_true ha0
  have hd2 : decide (a < (0 : Int)) = false := decide_eq_false (by omega)
  have BX := Lib.hid (fun (w1 : World) (hb : Below (w.alloc (.cells #[.slice (some ⟨A, O, none⟩) ls cs, .slice (some ⟨C, P, none⟩) lt ct] 25)).heap.size (w.alloc (.cells #[.slice (some ⟨A, O, none⟩) ls cs, .slice (some ⟨C, P, none⟩) lt ct] 25)) w1) => box_cells hb)
  have HN : Hid (∀ w1, Below (w.alloc (.cells #[.slice (some ⟨A, O, none⟩) ls cs, .slice (some ⟨C, P, none⟩) lt ct] 25)).heap.size (w.alloc (.cells #[.slice (some ⟨A, O, none⟩) ls cs, .slice (some ⟨C, P, none⟩) lt ct] 25)) w1 → Hid (AnyLine w1 (some ⟨A, O, none⟩) (some ⟨C, P, none⟩) ls lt s t)) := Lib.hid fun w1 h => Lib.hid (H.out.below (below_al h))
  have HL : Hid (∀ w1, Below (w.alloc (.cells #[.slice (some ⟨A, O, none⟩) ls cs, .slice (some ⟨C, P, none⟩) lt ct] 25)).heap.size (w.alloc (.cells #[.slice (some ⟨A, O, none⟩) ls cs, .slice (some ⟨C, P, none⟩) lt ct] 25)) w1 → LineAt w1 A O C P ls lt s t ∧ True) := Lib.hid fun w1 h => ⟨H0.out.below (below_al h), trivial⟩
  have HI : Hid (∀ w1, Below (w.alloc (.cells #[.slice (some ⟨A, O, none⟩) ls cs, .slice (some ⟨C, P, none⟩) lt ct] 25)).heap.size (w.alloc (.cells #[.slice (some ⟨A, O, none⟩) ls cs, .slice (some ⟨C, P, none⟩) lt ct] 25)) w1 → Hid (IntSl w1 sq lq g)) := Lib.hid fun w1 h => Lib.hid (HS.out.below (below_al h))
  have hb : Below (w.alloc (.cells #[.slice (some ⟨A, O, none⟩) ls cs, .slice (some ⟨C, P, none⟩) lt ct] 25)).heap.size (w.alloc (.cells #[.slice (some ⟨A, O, none⟩) ls cs, .slice (some ⟨C, P, none⟩) lt ct] 25)) (w.alloc (.cells #[.slice (some ⟨A, O, none⟩) ls cs, .slice (some ⟨C, P, none⟩) lt ct] 25)) := Below.refl _ _
  obtain ⟨x1, x2, x3⟩ := BX.out _ hb
  clear H
  go_enter Tryz.func7, Tryz.ntmps7
  go_wp2_with (first
    | (go_at_call 16; refine (short_w _ _ _ _ _ _ _ (by unfold maxLen; omega) (by unfold maxLen; omega)).mono ?_; rw [hsh]; rintro e wl ⟨rfl, hv⟩; replace hb := hb.trans (hv.mono hb.size); clear x1 x2 x3; obtain ⟨x1, x2, x3⟩ := BX.out _ hb)
    | (go_at_call 32; refine (latest_t _ _ _ _ _ _ _ _ n s t nd a _ (Lib.hid (HL.out _ hb).1) hn g2 HG).mono ?_; rintro e wl ⟨rfl, hv⟩; replace hb := hb.trans (hv.mono hb.size); clear x1 x2 x3; obtain ⟨x1, x2, x3⟩ := BX.out _ hb)
    | (go_at_call 33; refine (widenF2 _ _ _ _ _ _ _ _ _ s t g _ _ hls hlt hlq (HN.out _ hb) (HI.out _ hb) HR HQ).mono ?_; rintro e wl ⟨rfl, hv⟩; replace hb := hb.trans (hv.mono hb.size); clear x1 x2 x3; obtain ⟨x1, x2, x3⟩ := BX.out _ hb)
    | (go_at_call 20; refine (right_w _ _ _ _ _ _ s t _ hls hlt (Lib.hid (HN.out _ hb).out.hs) (Lib.hid (HN.out _ hb).out.ht)).mono ?_; rintro e wl ⟨⟨rb, rfl, hrb⟩, hv⟩; obtain rfl : rb = true := hrb.2 HR.out; clear hrb; replace hb := hb.trans (hv.mono hb.size); clear x1 x2 x3; obtain ⟨x1, x2, x3⟩ := BX.out _ hb)
    | (go_at_call 21; refine (number_w _ undef _ _ _ _ _ (by unfold maxLen; omega)).mono ?_; rintro e wl ⟨rfl, hv⟩; replace hb := hb.trans (hv.mono hb.size); clear x1 x2 x3; obtain ⟨x1, x2, x3⟩ := BX.out _ hb)
    | (go_at_call 34; refine (need_w _ _).mono ?_; rintro e w' ⟨rfl, rfl⟩)
    | (go_at_call 35; refine (rlatest_t _ _ _ _ _ _ _ _ n s t nd a _ (Lib.hid (HL.out _ hb).1) hn HG).mono ?_; rintro e wl ⟨rfl, hv⟩; replace hb := hb.trans (hv.mono hb.size); clear x1 x2 x3; obtain ⟨x1, x2, x3⟩ := BX.out _ hb)
    | (go_at_call 27; refine (refAges_w _ _ _ _ _ _ _ g _ hlt hlq (HI.out _ hb)).mono ?_; rintro e wl ⟨⟨rb, rfl, hrb⟩, hv⟩; obtain rfl : rb = false := (by cases rb <;> first | rfl | exact (HQ.out (hrb.1 rfl)).elim); clear hrb; replace hb := hb.trans (hv.mono hb.size); clear x1 x2 x3; obtain ⟨x1, x2, x3⟩ := BX.out _ hb)
    | (go_at_call 17; refine (K.out _).mono ?_; rintro e wl ⟨rfl, hv⟩; replace hb := hb.trans (hv.mono hb.size); clear x1 x2 x3; obtain ⟨x1, x2, x3⟩ := BX.out _ hb))
  go_ret
  exact ⟨rfl, below_al hb⟩

set_option maxRecDepth 100000 in
set_option maxHeartbeats 4000000 in
theorem lawt_ttT (A O C P ls cs lt ct n D F cq : Nat) (s : Nat → Int) (t : Nat → St5) (g W : Nat → Int) (nd a : Int) (w : World) (H0 : Hid (LineAt w A O C P ls lt s t)) (hn : n < lt) (g2 : fromB 1 10000000 nd = true) (hD : D < w.heap.size) (HDD : Hid (NumAt w D F lt g)) (HQ : Hid (AgeP lt lt g)) (HG : Hid (Great s (t n) nd a true)) (HW : Hid (∀ i, i < lt → IsW (cupsB s (t i) (g i)) (t i).b nd (W i))) (HT : Hid (∀ i, i < lt → W i ≤ 100)) (K : Hid KnownOk) :
    Calls Tryz.prog 7 #[.agg #[.slice (some ⟨A, O, none⟩) ls cs, .slice (some ⟨C, P, none⟩) lt ct], .int .i64 (n : Int), .slice (some ⟨D, F, none⟩) lt cq, .int .i64 nd] w
      fun e w' => e = .returned (.bool true) ∧ Below w.heap.size w w' := by
  have HR : Hid (RightP ls lt s t) := Lib.hid ⟨H0.out.ls1, H0.out.ls2, H0.out.lt1, H0.out.lt2, H0.out.sok, H0.out.tok⟩
  have q0 := H0.out.ls2
  have q1 := H0.out.lt1
  have q2 := H0.out.lt2
  have hls : ls ≤ 1000000 := by omega
  have hlt : lt ≤ 1000000 := by omega
  have hlq : lt ≤ maxLen := by unfold maxLen; omega
  have hsh : decide (ls ≤ 13 ∧ lt ≤ 10) = true := by simp; omega
  have hq10 : (lt : Int) ≤ (10 : Int) := by omega
  have H : Hid (AnyLine w (some ⟨A, O, none⟩) (some ⟨C, P, none⟩) ls lt s t) := Lib.hid ⟨.inr ⟨A, O, rfl, H0.out.hA, H0.out.sp⟩, .inr ⟨C, P, rfl, H0.out.hC, H0.out.st⟩⟩
  have g1 : fromB 0 ((lt : Int) - 1) (n : Int) = true := by simp only [fromB, decide_eq_true_eq]; omega
  have ha0 := HG.out.nonneg
  have hd1 : decide ((0 : Int) ≤ a) = true := decide_eq_true ha0
  have hd2 : decide (a < (0 : Int)) = false := decide_eq_false (by omega)
  have BX := Lib.hid (fun (w1 : World) (hb : Below (w.alloc (.cells #[.slice (some ⟨A, O, none⟩) ls cs, .slice (some ⟨C, P, none⟩) lt ct] 25)).heap.size (w.alloc (.cells #[.slice (some ⟨A, O, none⟩) ls cs, .slice (some ⟨C, P, none⟩) lt ct] 25)) w1) => box_cells hb)
  have HN : Hid (∀ w1, Below (w.alloc (.cells #[.slice (some ⟨A, O, none⟩) ls cs, .slice (some ⟨C, P, none⟩) lt ct] 25)).heap.size (w.alloc (.cells #[.slice (some ⟨A, O, none⟩) ls cs, .slice (some ⟨C, P, none⟩) lt ct] 25)) w1 → Hid (AnyLine w1 (some ⟨A, O, none⟩) (some ⟨C, P, none⟩) ls lt s t)) := Lib.hid fun w1 h => Lib.hid (H.out.below (below_al h))
  have HL : Hid (∀ w1, Below (w.alloc (.cells #[.slice (some ⟨A, O, none⟩) ls cs, .slice (some ⟨C, P, none⟩) lt ct] 25)).heap.size (w.alloc (.cells #[.slice (some ⟨A, O, none⟩) ls cs, .slice (some ⟨C, P, none⟩) lt ct] 25)) w1 → LineAt w1 A O C P ls lt s t ∧ True) := Lib.hid fun w1 h => ⟨H0.out.below (below_al h), trivial⟩
  have HM : Hid (∀ w1, Below (w.alloc (.cells #[.slice (some ⟨A, O, none⟩) ls cs, .slice (some ⟨C, P, none⟩) lt ct] 25)).heap.size (w.alloc (.cells #[.slice (some ⟨A, O, none⟩) ls cs, .slice (some ⟨C, P, none⟩) lt ct] 25)) w1 → D < w1.heap.size ∧ NumAt w1 D F lt g) := Lib.hid fun w1 h => ⟨Nat.lt_of_lt_of_le hD (below_al h).size, HDD.out.below hD (below_al h)⟩
  have HI : Hid (∀ w1, Below (w.alloc (.cells #[.slice (some ⟨A, O, none⟩) ls cs, .slice (some ⟨C, P, none⟩) lt ct] 25)).heap.size (w.alloc (.cells #[.slice (some ⟨A, O, none⟩) ls cs, .slice (some ⟨C, P, none⟩) lt ct] 25)) w1 → Hid (IntSl w1 (some ⟨D, F, none⟩) lt g)) := Lib.hid fun w1 h => Lib.hid (.inr ⟨D, F, rfl, (HM.out w1 h).1, (HM.out w1 h).2⟩)
  have hb : Below (w.alloc (.cells #[.slice (some ⟨A, O, none⟩) ls cs, .slice (some ⟨C, P, none⟩) lt ct] 25)).heap.size (w.alloc (.cells #[.slice (some ⟨A, O, none⟩) ls cs, .slice (some ⟨C, P, none⟩) lt ct] 25)) (w.alloc (.cells #[.slice (some ⟨A, O, none⟩) ls cs, .slice (some ⟨C, P, none⟩) lt ct] 25)) := Below.refl _ _
  obtain ⟨x1, x2, x3⟩ := BX.out _ hb
  clear H
  go_enter Tryz.func7, Tryz.ntmps7
  go_wp2_with (first
    | (go_at_call 16; refine (short_w _ _ _ _ _ _ _ (by unfold maxLen; omega) (by unfold maxLen; omega)).mono ?_; rw [hsh]; rintro e wl ⟨rfl, hv⟩; replace hb := hb.trans (hv.mono hb.size); (try replace hk := hk.trans (hv.mono hk.size)); clear x1 x2 x3; obtain ⟨x1, x2, x3⟩ := BX.out _ hb)
    | (go_at_call 32; refine (latest_t _ _ _ _ _ _ _ _ n s t nd a _ (Lib.hid (HL.out _ hb).1) hn g2 HG).mono ?_; rintro e wl ⟨rfl, hv⟩; replace hb := hb.trans (hv.mono hb.size); (try replace hk := hk.trans (hv.mono hk.size)); clear x1 x2 x3; obtain ⟨x1, x2, x3⟩ := BX.out _ hb)
    | (go_at_call 33; refine (pwiden_t _ _ _ _ _ _ _ _ _ _ _ s t g W nd _ (Lib.hid (HL.out _ hb).1) (HM.out _ hb).1 (Lib.hid (HM.out _ hb).2) HQ g2 HW HT).mono ?_; rintro e wl ⟨⟨va, vc, rfl, HV⟩, hv⟩; replace hb := hb.trans (hv.mono hb.size); (try replace hk := hk.trans (hv.mono hk.size)); clear x1 x2 x3; obtain ⟨x1, x2, x3⟩ := BX.out _ hb; have HVB := Lib.hid hv; have HV1 : Hid (∀ w9, Below wl.heap.size wl w9 → IntSl w9 va lt (fun i => (upto W lt).getD i 0)) := Lib.hid (fun w9 h => HV.out.below h); have hk := Below.refl wl.heap.size wl)
    | (go_at_call 20; refine (right_w _ _ _ _ _ _ s t _ hls hlt (Lib.hid (HN.out _ hb).out.hs) (Lib.hid (HN.out _ hb).out.ht)).mono ?_; rintro e wl ⟨⟨rb, rfl, hrb⟩, hv⟩; obtain rfl : rb = true := hrb.2 HR.out; clear hrb; replace hb := hb.trans (hv.mono hb.size); (try replace hk := hk.trans (hv.mono hk.size)); clear x1 x2 x3; obtain ⟨x1, x2, x3⟩ := BX.out _ hb)
    | (go_at_call 21; refine (number_w _ undef _ _ _ _ _ (by unfold maxLen; omega)).mono ?_; rintro e wl ⟨rfl, hv⟩; replace hb := hb.trans (hv.mono hb.size); (try replace hk := hk.trans (hv.mono hk.size)); clear x1 x2 x3; obtain ⟨x1, x2, x3⟩ := BX.out _ hb)
    | (go_at_call 34; refine (need_w _ _).mono ?_; rintro e w' ⟨rfl, rfl⟩)
    | (go_at_call 35; refine (rlatest_t _ _ _ _ _ _ _ _ n s t nd a _ (Lib.hid (HL.out _ hb).1) hn HG).mono ?_; rintro e wl ⟨rfl, hv⟩; replace hb := hb.trans (hv.mono hb.size); (try replace hk := hk.trans (hv.mono hk.size)); clear x1 x2 x3; obtain ⟨x1, x2, x3⟩ := BX.out _ hb)
    | (go_at_call 27; refine (refAges_w _ _ _ _ _ _ _ g _ hlt hlq (HI.out _ hb)).mono ?_; rintro e wl ⟨⟨rb, rfl, hrb⟩, hv⟩; obtain rfl : rb = true := hrb.2 HQ.out; clear hrb; replace hb := hb.trans (hv.mono hb.size); (try replace hk := hk.trans (hv.mono hk.size)); clear x1 x2 x3; obtain ⟨x1, x2, x3⟩ := BX.out _ hb)
    | (go_at_call 36; refine (rwiden_t _ _ _ _ _ _ _ _ _ _ _ s t g W nd _ (Lib.hid (HL.out _ hb).1) (HM.out _ hb).1 (Lib.hid (HM.out _ hb).2) HQ HW HT).mono ?_; rintro e wl ⟨⟨va2, vc2, rfl, HV2⟩, hv⟩; replace hb := hb.trans (hv.mono hb.size); (try replace hk := hk.trans (hv.mono hk.size)); clear x1 x2 x3; obtain ⟨x1, x2, x3⟩ := BX.out _ hb)
    | (go_at_call 29; refine (same_w _ _ _ _ _ _ _ (by unfold maxLen; omega) (Lib.hid (HV1.out _ hk)) HV2).mono ?_; rintro e wl ⟨rfl, hv⟩; replace hb := hb.trans (hv.mono hb.size); (try replace hk := hk.trans (hv.mono hk.size)); clear x1 x2 x3; obtain ⟨x1, x2, x3⟩ := BX.out _ hb)
    | (go_at_call 17; refine (K.out _).mono ?_; rintro e wl ⟨rfl, hv⟩; replace hb := hb.trans (hv.mono hb.size); (try replace hk := hk.trans (hv.mono hk.size)); clear x1 x2 x3; obtain ⟨x1, x2, x3⟩ := BX.out _ hb))
  go_ret
  exact ⟨rfl, below_al hb⟩

set_option maxRecDepth 100000 in
set_option maxHeartbeats 4000000 in
theorem lawt_tfT (A O C P ls cs lt ct n D F cq : Nat) (s : Nat → Int) (t : Nat → St5) (g W : Nat → Int) (nd a : Int) (w : World) (H0 : Hid (LineAt w A O C P ls lt s t)) (hn : n < lt) (g2 : fromB 1 10000000 nd = true) (hD : D < w.heap.size) (HDD : Hid (NumAt w D F lt g)) (HQ : Hid (AgeP lt lt g)) (HG : Hid (Great s (t n) nd a true)) (HW : Hid (∀ i, i < lt → IsW (cupsB s (t i) (g i)) (t i).b nd (W i))) (HT : Hid (∃ i, i < lt ∧ W i = 101)) (K : Hid KnownOk) :
    Calls Tryz.prog 7 #[.agg #[.slice (some ⟨A, O, none⟩) ls cs, .slice (some ⟨C, P, none⟩) lt ct], .int .i64 (n : Int), .slice (some ⟨D, F, none⟩) lt cq, .int .i64 nd] w
      fun e w' => e = .returned (.bool true) ∧ Below w.heap.size w w' := by
  have HR : Hid (RightP ls lt s t) := Lib.hid ⟨H0.out.ls1, H0.out.ls2, H0.out.lt1, H0.out.lt2, H0.out.sok, H0.out.tok⟩
  have q0 := H0.out.ls2
  have q1 := H0.out.lt1
  have q2 := H0.out.lt2
  have hls : ls ≤ 1000000 := by omega
  have hlt : lt ≤ 1000000 := by omega
  have hlq : lt ≤ maxLen := by unfold maxLen; omega
  have hsh : decide (ls ≤ 13 ∧ lt ≤ 10) = true := by simp; omega
  have hq10 : (lt : Int) ≤ (10 : Int) := by omega
  have H : Hid (AnyLine w (some ⟨A, O, none⟩) (some ⟨C, P, none⟩) ls lt s t) := Lib.hid ⟨.inr ⟨A, O, rfl, H0.out.hA, H0.out.sp⟩, .inr ⟨C, P, rfl, H0.out.hC, H0.out.st⟩⟩
  have g1 : fromB 0 ((lt : Int) - 1) (n : Int) = true := by simp only [fromB, decide_eq_true_eq]; omega
  have ha0 := HG.out.nonneg
  have hd1 : decide ((0 : Int) ≤ a) = true := decide_eq_true ha0
  have hd2 : decide (a < (0 : Int)) = false := decide_eq_false (by omega)
  have BX := Lib.hid (fun (w1 : World) (hb : Below (w.alloc (.cells #[.slice (some ⟨A, O, none⟩) ls cs, .slice (some ⟨C, P, none⟩) lt ct] 25)).heap.size (w.alloc (.cells #[.slice (some ⟨A, O, none⟩) ls cs, .slice (some ⟨C, P, none⟩) lt ct] 25)) w1) => box_cells hb)
  have HN : Hid (∀ w1, Below (w.alloc (.cells #[.slice (some ⟨A, O, none⟩) ls cs, .slice (some ⟨C, P, none⟩) lt ct] 25)).heap.size (w.alloc (.cells #[.slice (some ⟨A, O, none⟩) ls cs, .slice (some ⟨C, P, none⟩) lt ct] 25)) w1 → Hid (AnyLine w1 (some ⟨A, O, none⟩) (some ⟨C, P, none⟩) ls lt s t)) := Lib.hid fun w1 h => Lib.hid (H.out.below (below_al h))
  have HL : Hid (∀ w1, Below (w.alloc (.cells #[.slice (some ⟨A, O, none⟩) ls cs, .slice (some ⟨C, P, none⟩) lt ct] 25)).heap.size (w.alloc (.cells #[.slice (some ⟨A, O, none⟩) ls cs, .slice (some ⟨C, P, none⟩) lt ct] 25)) w1 → LineAt w1 A O C P ls lt s t ∧ True) := Lib.hid fun w1 h => ⟨H0.out.below (below_al h), trivial⟩
  have HM : Hid (∀ w1, Below (w.alloc (.cells #[.slice (some ⟨A, O, none⟩) ls cs, .slice (some ⟨C, P, none⟩) lt ct] 25)).heap.size (w.alloc (.cells #[.slice (some ⟨A, O, none⟩) ls cs, .slice (some ⟨C, P, none⟩) lt ct] 25)) w1 → D < w1.heap.size ∧ NumAt w1 D F lt g) := Lib.hid fun w1 h => ⟨Nat.lt_of_lt_of_le hD (below_al h).size, HDD.out.below hD (below_al h)⟩
  have HI : Hid (∀ w1, Below (w.alloc (.cells #[.slice (some ⟨A, O, none⟩) ls cs, .slice (some ⟨C, P, none⟩) lt ct] 25)).heap.size (w.alloc (.cells #[.slice (some ⟨A, O, none⟩) ls cs, .slice (some ⟨C, P, none⟩) lt ct] 25)) w1 → Hid (IntSl w1 (some ⟨D, F, none⟩) lt g)) := Lib.hid fun w1 h => Lib.hid (.inr ⟨D, F, rfl, (HM.out w1 h).1, (HM.out w1 h).2⟩)
  have hb : Below (w.alloc (.cells #[.slice (some ⟨A, O, none⟩) ls cs, .slice (some ⟨C, P, none⟩) lt ct] 25)).heap.size (w.alloc (.cells #[.slice (some ⟨A, O, none⟩) ls cs, .slice (some ⟨C, P, none⟩) lt ct] 25)) (w.alloc (.cells #[.slice (some ⟨A, O, none⟩) ls cs, .slice (some ⟨C, P, none⟩) lt ct] 25)) := Below.refl _ _
  obtain ⟨x1, x2, x3⟩ := BX.out _ hb
  clear H
  go_enter Tryz.func7, Tryz.ntmps7
  go_wp2_with (first
    | (go_at_call 16; refine (short_w _ _ _ _ _ _ _ (by unfold maxLen; omega) (by unfold maxLen; omega)).mono ?_; rw [hsh]; rintro e wl ⟨rfl, hv⟩; replace hb := hb.trans (hv.mono hb.size); clear x1 x2 x3; obtain ⟨x1, x2, x3⟩ := BX.out _ hb)
    | (go_at_call 32; refine (latest_t _ _ _ _ _ _ _ _ n s t nd a _ (Lib.hid (HL.out _ hb).1) hn g2 HG).mono ?_; rintro e wl ⟨rfl, hv⟩; replace hb := hb.trans (hv.mono hb.size); clear x1 x2 x3; obtain ⟨x1, x2, x3⟩ := BX.out _ hb)
    | (go_at_call 33; refine (pwiden_f _ _ _ _ _ _ _ _ _ _ _ s t g W nd _ (Lib.hid (HL.out _ hb).1) (HM.out _ hb).1 (Lib.hid (HM.out _ hb).2) HQ g2 HW HT).mono ?_; rintro e wl ⟨rfl, hv⟩; replace hb := hb.trans (hv.mono hb.size); clear x1 x2 x3; obtain ⟨x1, x2, x3⟩ := BX.out _ hb)
    | (go_at_call 20; refine (right_w _ _ _ _ _ _ s t _ hls hlt (Lib.hid (HN.out _ hb).out.hs) (Lib.hid (HN.out _ hb).out.ht)).mono ?_; rintro e wl ⟨⟨rb, rfl, hrb⟩, hv⟩; obtain rfl : rb = true := hrb.2 HR.out; clear hrb; replace hb := hb.trans (hv.mono hb.size); clear x1 x2 x3; obtain ⟨x1, x2, x3⟩ := BX.out _ hb)
    | (go_at_call 21; refine (number_w _ undef _ _ _ _ _ (by unfold maxLen; omega)).mono ?_; rintro e wl ⟨rfl, hv⟩; replace hb := hb.trans (hv.mono hb.size); clear x1 x2 x3; obtain ⟨x1, x2, x3⟩ := BX.out _ hb)
    | (go_at_call 34; refine (need_w _ _).mono ?_; rintro e w' ⟨rfl, rfl⟩)
    | (go_at_call 35; refine (rlatest_t _ _ _ _ _ _ _ _ n s t nd a _ (Lib.hid (HL.out _ hb).1) hn HG).mono ?_; rintro e wl ⟨rfl, hv⟩; replace hb := hb.trans (hv.mono hb.size); clear x1 x2 x3; obtain ⟨x1, x2, x3⟩ := BX.out _ hb)
    | (go_at_call 27; refine (refAges_w _ _ _ _ _ _ _ g _ hlt hlq (HI.out _ hb)).mono ?_; rintro e wl ⟨⟨rb, rfl, hrb⟩, hv⟩; obtain rfl : rb = true := hrb.2 HQ.out; clear hrb; replace hb := hb.trans (hv.mono hb.size); clear x1 x2 x3; obtain ⟨x1, x2, x3⟩ := BX.out _ hb)
    | (go_at_call 36; refine (rwiden_f _ _ _ _ _ _ _ _ _ _ _ s t g W nd _ (Lib.hid (HL.out _ hb).1) (HM.out _ hb).1 (Lib.hid (HM.out _ hb).2) HQ HW HT).mono ?_; rintro e wl ⟨rfl, hv⟩; replace hb := hb.trans (hv.mono hb.size); clear x1 x2 x3; obtain ⟨x1, x2, x3⟩ := BX.out _ hb)
    | (go_at_call 17; refine (K.out _).mono ?_; rintro e wl ⟨rfl, hv⟩; replace hb := hb.trans (hv.mono hb.size); clear x1 x2 x3; obtain ⟨x1, x2, x3⟩ := BX.out _ hb))
  go_ret
  exact ⟨rfl, below_al hb⟩

set_option maxRecDepth 100000 in
set_option maxHeartbeats 4000000 in
theorem lawt_fFT (A O C P ls cs lt ct n lq cq : Nat) (sq : Option Addr) (s : Nat → Int) (t : Nat → St5) (g : Nat → Int) (nd a : Int) (w : World) (H0 : Hid (LineAt w A O C P ls lt s t)) (hn : n < lt) (g2 : fromB 1 10000000 nd = true) (hqq : lq ≤ 10) (HS : Hid (IntSl w sq lq g)) (HQ : Hid (¬ AgeP lt lq g)) (HG : Hid (Great s (t n) nd a false)) (K : Hid KnownOk) :
    Calls Tryz.prog 7 #[.agg #[.slice (some ⟨A, O, none⟩) ls cs, .slice (some ⟨C, P, none⟩) lt ct], .int .i64 (n : Int), .slice sq lq cq, .int .i64 nd] w
      fun e w' => e = .returned (.bool true) ∧ Below w.heap.size w w' := by
  have HR : Hid (RightP ls lt s t) := Lib.hid ⟨H0.out.ls1, H0.out.ls2, H0.out.lt1, H0.out.lt2, H0.out.sok, H0.out.tok⟩
  have q0 := H0.out.ls2
  have q1 := H0.out.lt1
  have q2 := H0.out.lt2
  have hls : ls ≤ 1000000 := by omega
  have hlt : lt ≤ 1000000 := by omega
  have hlq : lq ≤ maxLen := by unfold maxLen; omega
  have hsh : decide (ls ≤ 13 ∧ lt ≤ 10) = true := by simp; omega
  have hq10 : (lq : Int) ≤ (10 : Int) := by omega
  have H : Hid (AnyLine w (some ⟨A, O, none⟩) (some ⟨C, P, none⟩) ls lt s t) := Lib.hid ⟨.inr ⟨A, O, rfl, H0.out.hA, H0.out.sp⟩, .inr ⟨C, P, rfl, H0.out.hC, H0.out.st⟩⟩
  have g1 : fromB 0 ((lt : Int) - 1) (n : Int) = true := by simp only [fromB, decide_eq_true_eq]; omega
  have BX := Lib.hid (fun (w1 : World) (hb : Below (w.alloc (.cells #[.slice (some ⟨A, O, none⟩) ls cs, .slice (some ⟨C, P, none⟩) lt ct] 25)).heap.size (w.alloc (.cells #[.slice (some ⟨A, O, none⟩) ls cs, .slice (some ⟨C, P, none⟩) lt ct] 25)) w1) => box_cells hb)
  have HN : Hid (∀ w1, Below (w.alloc (.cells #[.slice (some ⟨A, O, none⟩) ls cs, .slice (some ⟨C, P, none⟩) lt ct] 25)).heap.size (w.alloc (.cells #[.slice (some ⟨A, O, none⟩) ls cs, .slice (some ⟨C, P, none⟩) lt ct] 25)) w1 → Hid (AnyLine w1 (some ⟨A, O, none⟩) (some ⟨C, P, none⟩) ls lt s t)) := Lib.hid fun w1 h => Lib.hid (H.out.below (below_al h))
  have HL : Hid (∀ w1, Below (w.alloc (.cells #[.slice (some ⟨A, O, none⟩) ls cs, .slice (some ⟨C, P, none⟩) lt ct] 25)).heap.size (w.alloc (.cells #[.slice (some ⟨A, O, none⟩) ls cs, .slice (some ⟨C, P, none⟩) lt ct] 25)) w1 → LineAt w1 A O C P ls lt s t ∧ True) := Lib.hid fun w1 h => ⟨H0.out.below (below_al h), trivial⟩
  have HI : Hid (∀ w1, Below (w.alloc (.cells #[.slice (some ⟨A, O, none⟩) ls cs, .slice (some ⟨C, P, none⟩) lt ct] 25)).heap.size (w.alloc (.cells #[.slice (some ⟨A, O, none⟩) ls cs, .slice (some ⟨C, P, none⟩) lt ct] 25)) w1 → Hid (IntSl w1 sq lq g)) := Lib.hid fun w1 h => Lib.hid (HS.out.below (below_al h))
  have hb : Below (w.alloc (.cells #[.slice (some ⟨A, O, none⟩) ls cs, .slice (some ⟨C, P, none⟩) lt ct] 25)).heap.size (w.alloc (.cells #[.slice (some ⟨A, O, none⟩) ls cs, .slice (some ⟨C, P, none⟩) lt ct] 25)) (w.alloc (.cells #[.slice (some ⟨A, O, none⟩) ls cs, .slice (some ⟨C, P, none⟩) lt ct] 25)) := Below.refl _ _
  obtain ⟨x1, x2, x3⟩ := BX.out _ hb
  clear H
  go_enter Tryz.func7, Tryz.ntmps7
  go_wp2_with (first
    | (go_at_call 16; refine (short_w _ _ _ _ _ _ _ (by unfold maxLen; omega) (by unfold maxLen; omega)).mono ?_; rw [hsh]; rintro e wl ⟨rfl, hv⟩; replace hb := hb.trans (hv.mono hb.size); clear x1 x2 x3; obtain ⟨x1, x2, x3⟩ := BX.out _ hb)
    | (go_at_call 32; refine (latest_f _ _ _ _ _ _ _ _ n s t nd a _ (Lib.hid (HL.out _ hb).1) hn g2 HG).mono ?_; rintro e wl ⟨rfl, hv⟩; replace hb := hb.trans (hv.mono hb.size); clear x1 x2 x3; obtain ⟨x1, x2, x3⟩ := BX.out _ hb)
    | (go_at_call 33; refine (widenF2 _ _ _ _ _ _ _ _ _ s t g _ _ hls hlt hlq (HN.out _ hb) (HI.out _ hb) HR HQ).mono ?_; rintro e wl ⟨rfl, hv⟩; replace hb := hb.trans (hv.mono hb.size); clear x1 x2 x3; obtain ⟨x1, x2, x3⟩ := BX.out _ hb)
    | (go_at_call 20; refine (right_w _ _ _ _ _ _ s t _ hls hlt (Lib.hid (HN.out _ hb).out.hs) (Lib.hid (HN.out _ hb).out.ht)).mono ?_; rintro e wl ⟨⟨rb, rfl, hrb⟩, hv⟩; obtain rfl : rb = true := hrb.2 HR.out; clear hrb; replace hb := hb.trans (hv.mono hb.size); clear x1 x2 x3; obtain ⟨x1, x2, x3⟩ := BX.out _ hb)
    | (go_at_call 21; refine (number_w _ undef _ _ _ _ _ (by unfold maxLen; omega)).mono ?_; rintro e wl ⟨rfl, hv⟩; replace hb := hb.trans (hv.mono hb.size); clear x1 x2 x3; obtain ⟨x1, x2, x3⟩ := BX.out _ hb)
    | (go_at_call 34; refine (need_w _ _).mono ?_; rintro e w' ⟨rfl, rfl⟩)
    | (go_at_call 35; refine (rlatest_f _ _ _ _ _ _ _ _ n s t nd a _ (Lib.hid (HL.out _ hb).1) hn HG).mono ?_; rintro e wl ⟨rfl, hv⟩; replace hb := hb.trans (hv.mono hb.size); clear x1 x2 x3; obtain ⟨x1, x2, x3⟩ := BX.out _ hb)
    | (go_at_call 27; refine (refAges_w _ _ _ _ _ _ _ g _ hlt hlq (HI.out _ hb)).mono ?_; rintro e wl ⟨⟨rb, rfl, hrb⟩, hv⟩; obtain rfl : rb = false := (by cases rb <;> first | rfl | exact (HQ.out (hrb.1 rfl)).elim); clear hrb; replace hb := hb.trans (hv.mono hb.size); clear x1 x2 x3; obtain ⟨x1, x2, x3⟩ := BX.out _ hb)
    | (go_at_call 17; refine (K.out _).mono ?_; rintro e wl ⟨rfl, hv⟩; replace hb := hb.trans (hv.mono hb.size); clear x1 x2 x3; obtain ⟨x1, x2, x3⟩ := BX.out _ hb))
  go_ret
  exact ⟨rfl, below_al hb⟩

set_option maxRecDepth 100000 in
set_option maxHeartbeats 4000000 in
theorem lawt_ftT (A O C P ls cs lt ct n D F cq : Nat) (s : Nat → Int) (t : Nat → St5) (g W : Nat → Int) (nd a : Int) (w : World) (H0 : Hid (LineAt w A O C P ls lt s t)) (hn : n < lt) (g2 : fromB 1 10000000 nd = true) (hD : D < w.heap.size) (HDD : Hid (NumAt w D F lt g)) (HQ : Hid (AgeP lt lt g)) (HG : Hid (Great s (t n) nd a false)) (HW : Hid (∀ i, i < lt → IsW (cupsB s (t i) (g i)) (t i).b nd (W i))) (HT : Hid (∀ i, i < lt → W i ≤ 100)) (K : Hid KnownOk) :
    Calls Tryz.prog 7 #[.agg #[.slice (some ⟨A, O, none⟩) ls cs, .slice (some ⟨C, P, none⟩) lt ct], .int .i64 (n : Int), .slice (some ⟨D, F, none⟩) lt cq, .int .i64 nd] w
      fun e w' => e = .returned (.bool true) ∧ Below w.heap.size w w' := by
  have HR : Hid (RightP ls lt s t) := Lib.hid ⟨H0.out.ls1, H0.out.ls2, H0.out.lt1, H0.out.lt2, H0.out.sok, H0.out.tok⟩
  have q0 := H0.out.ls2
  have q1 := H0.out.lt1
  have q2 := H0.out.lt2
  have hls : ls ≤ 1000000 := by omega
  have hlt : lt ≤ 1000000 := by omega
  have hlq : lt ≤ maxLen := by unfold maxLen; omega
  have hsh : decide (ls ≤ 13 ∧ lt ≤ 10) = true := by simp; omega
  have hq10 : (lt : Int) ≤ (10 : Int) := by omega
  have H : Hid (AnyLine w (some ⟨A, O, none⟩) (some ⟨C, P, none⟩) ls lt s t) := Lib.hid ⟨.inr ⟨A, O, rfl, H0.out.hA, H0.out.sp⟩, .inr ⟨C, P, rfl, H0.out.hC, H0.out.st⟩⟩
  have g1 : fromB 0 ((lt : Int) - 1) (n : Int) = true := by simp only [fromB, decide_eq_true_eq]; omega
  have BX := Lib.hid (fun (w1 : World) (hb : Below (w.alloc (.cells #[.slice (some ⟨A, O, none⟩) ls cs, .slice (some ⟨C, P, none⟩) lt ct] 25)).heap.size (w.alloc (.cells #[.slice (some ⟨A, O, none⟩) ls cs, .slice (some ⟨C, P, none⟩) lt ct] 25)) w1) => box_cells hb)
  have HN : Hid (∀ w1, Below (w.alloc (.cells #[.slice (some ⟨A, O, none⟩) ls cs, .slice (some ⟨C, P, none⟩) lt ct] 25)).heap.size (w.alloc (.cells #[.slice (some ⟨A, O, none⟩) ls cs, .slice (some ⟨C, P, none⟩) lt ct] 25)) w1 → Hid (AnyLine w1 (some ⟨A, O, none⟩) (some ⟨C, P, none⟩) ls lt s t)) := Lib.hid fun w1 h => Lib.hid (H.out.below (below_al h))
  have HL : Hid (∀ w1, Below (w.alloc (.cells #[.slice (some ⟨A, O, none⟩) ls cs, .slice (some ⟨C, P, none⟩) lt ct] 25)).heap.size (w.alloc (.cells #[.slice (some ⟨A, O, none⟩) ls cs, .slice (some ⟨C, P, none⟩) lt ct] 25)) w1 → LineAt w1 A O C P ls lt s t ∧ True) := Lib.hid fun w1 h => ⟨H0.out.below (below_al h), trivial⟩
  have HM : Hid (∀ w1, Below (w.alloc (.cells #[.slice (some ⟨A, O, none⟩) ls cs, .slice (some ⟨C, P, none⟩) lt ct] 25)).heap.size (w.alloc (.cells #[.slice (some ⟨A, O, none⟩) ls cs, .slice (some ⟨C, P, none⟩) lt ct] 25)) w1 → D < w1.heap.size ∧ NumAt w1 D F lt g) := Lib.hid fun w1 h => ⟨Nat.lt_of_lt_of_le hD (below_al h).size, HDD.out.below hD (below_al h)⟩
  have HI : Hid (∀ w1, Below (w.alloc (.cells #[.slice (some ⟨A, O, none⟩) ls cs, .slice (some ⟨C, P, none⟩) lt ct] 25)).heap.size (w.alloc (.cells #[.slice (some ⟨A, O, none⟩) ls cs, .slice (some ⟨C, P, none⟩) lt ct] 25)) w1 → Hid (IntSl w1 (some ⟨D, F, none⟩) lt g)) := Lib.hid fun w1 h => Lib.hid (.inr ⟨D, F, rfl, (HM.out w1 h).1, (HM.out w1 h).2⟩)
  have hb : Below (w.alloc (.cells #[.slice (some ⟨A, O, none⟩) ls cs, .slice (some ⟨C, P, none⟩) lt ct] 25)).heap.size (w.alloc (.cells #[.slice (some ⟨A, O, none⟩) ls cs, .slice (some ⟨C, P, none⟩) lt ct] 25)) (w.alloc (.cells #[.slice (some ⟨A, O, none⟩) ls cs, .slice (some ⟨C, P, none⟩) lt ct] 25)) := Below.refl _ _
  obtain ⟨x1, x2, x3⟩ := BX.out _ hb
  clear H
  go_enter Tryz.func7, Tryz.ntmps7
  go_wp2_with (first
    | (go_at_call 16; refine (short_w _ _ _ _ _ _ _ (by unfold maxLen; omega) (by unfold maxLen; omega)).mono ?_; rw [hsh]; rintro e wl ⟨rfl, hv⟩; replace hb := hb.trans (hv.mono hb.size); (try replace hk := hk.trans (hv.mono hk.size)); clear x1 x2 x3; obtain ⟨x1, x2, x3⟩ := BX.out _ hb)
    | (go_at_call 32; refine (latest_f _ _ _ _ _ _ _ _ n s t nd a _ (Lib.hid (HL.out _ hb).1) hn g2 HG).mono ?_; rintro e wl ⟨rfl, hv⟩; replace hb := hb.trans (hv.mono hb.size); (try replace hk := hk.trans (hv.mono hk.size)); clear x1 x2 x3; obtain ⟨x1, x2, x3⟩ := BX.out _ hb)
    | (go_at_call 33; refine (pwiden_t _ _ _ _ _ _ _ _ _ _ _ s t g W nd _ (Lib.hid (HL.out _ hb).1) (HM.out _ hb).1 (Lib.hid (HM.out _ hb).2) HQ g2 HW HT).mono ?_; rintro e wl ⟨⟨va, vc, rfl, HV⟩, hv⟩; replace hb := hb.trans (hv.mono hb.size); (try replace hk := hk.trans (hv.mono hk.size)); clear x1 x2 x3; obtain ⟨x1, x2, x3⟩ := BX.out _ hb; have HVB := Lib.hid hv; have HV1 : Hid (∀ w9, Below wl.heap.size wl w9 → IntSl w9 va lt (fun i => (upto W lt).getD i 0)) := Lib.hid (fun w9 h => HV.out.below h); have hk := Below.refl wl.heap.size wl)
    | (go_at_call 20; refine (right_w _ _ _ _ _ _ s t _ hls hlt (Lib.hid (HN.out _ hb).out.hs) (Lib.hid (HN.out _ hb).out.ht)).mono ?_; rintro e wl ⟨⟨rb, rfl, hrb⟩, hv⟩; obtain rfl : rb = true := hrb.2 HR.out; clear hrb; replace hb := hb.trans (hv.mono hb.size); (try replace hk := hk.trans (hv.mono hk.size)); clear x1 x2 x3; obtain ⟨x1, x2, x3⟩ := BX.out _ hb)
    | (go_at_call 21; refine (number_w _ undef _ _ _ _ _ (by unfold maxLen; omega)).mono ?_; rintro e wl ⟨rfl, hv⟩; replace hb := hb.trans (hv.mono hb.size); (try replace hk := hk.trans (hv.mono hk.size)); clear x1 x2 x3; obtain ⟨x1, x2, x3⟩ := BX.out _ hb)
    | (go_at_call 34; refine (need_w _ _).mono ?_; rintro e w' ⟨rfl, rfl⟩)
    | (go_at_call 35; refine (rlatest_f _ _ _ _ _ _ _ _ n s t nd a _ (Lib.hid (HL.out _ hb).1) hn HG).mono ?_; rintro e wl ⟨rfl, hv⟩; replace hb := hb.trans (hv.mono hb.size); (try replace hk := hk.trans (hv.mono hk.size)); clear x1 x2 x3; obtain ⟨x1, x2, x3⟩ := BX.out _ hb)
    | (go_at_call 27; refine (refAges_w _ _ _ _ _ _ _ g _ hlt hlq (HI.out _ hb)).mono ?_; rintro e wl ⟨⟨rb, rfl, hrb⟩, hv⟩; obtain rfl : rb = true := hrb.2 HQ.out; clear hrb; replace hb := hb.trans (hv.mono hb.size); (try replace hk := hk.trans (hv.mono hk.size)); clear x1 x2 x3; obtain ⟨x1, x2, x3⟩ := BX.out _ hb)
    | (go_at_call 36; refine (rwiden_t _ _ _ _ _ _ _ _ _ _ _ s t g W nd _ (Lib.hid (HL.out _ hb).1) (HM.out _ hb).1 (Lib.hid (HM.out _ hb).2) HQ HW HT).mono ?_; rintro e wl ⟨⟨va2, vc2, rfl, HV2⟩, hv⟩; replace hb := hb.trans (hv.mono hb.size); (try replace hk := hk.trans (hv.mono hk.size)); clear x1 x2 x3; obtain ⟨x1, x2, x3⟩ := BX.out _ hb)
    | (go_at_call 29; refine (same_w _ _ _ _ _ _ _ (by unfold maxLen; omega) (Lib.hid (HV1.out _ hk)) HV2).mono ?_; rintro e wl ⟨rfl, hv⟩; replace hb := hb.trans (hv.mono hb.size); (try replace hk := hk.trans (hv.mono hk.size)); clear x1 x2 x3; obtain ⟨x1, x2, x3⟩ := BX.out _ hb)
    | (go_at_call 17; refine (K.out _).mono ?_; rintro e wl ⟨rfl, hv⟩; replace hb := hb.trans (hv.mono hb.size); (try replace hk := hk.trans (hv.mono hk.size)); clear x1 x2 x3; obtain ⟨x1, x2, x3⟩ := BX.out _ hb))
  go_ret
  exact ⟨rfl, below_al hb⟩

set_option maxRecDepth 100000 in
set_option maxHeartbeats 4000000 in
theorem lawt_ffT (A O C P ls cs lt ct n D F cq : Nat) (s : Nat → Int) (t : Nat → St5) (g W : Nat → Int) (nd a : Int) (w : World) (H0 : Hid (LineAt w A O C P ls lt s t)) (hn : n < lt) (g2 : fromB 1 10000000 nd = true) (hD : D < w.heap.size) (HDD : Hid (NumAt w D F lt g)) (HQ : Hid (AgeP lt lt g)) (HG : Hid (Great s (t n) nd a false)) (HW : Hid (∀ i, i < lt → IsW (cupsB s (t i) (g i)) (t i).b nd (W i))) (HT : Hid (∃ i, i < lt ∧ W i = 101)) (K : Hid KnownOk) :
    Calls Tryz.prog 7 #[.agg #[.slice (some ⟨A, O, none⟩) ls cs, .slice (some ⟨C, P, none⟩) lt ct], .int .i64 (n : Int), .slice (some ⟨D, F, none⟩) lt cq, .int .i64 nd] w
      fun e w' => e = .returned (.bool true) ∧ Below w.heap.size w w' := by
  have HR : Hid (RightP ls lt s t) := Lib.hid ⟨H0.out.ls1, H0.out.ls2, H0.out.lt1, H0.out.lt2, H0.out.sok, H0.out.tok⟩
  have q0 := H0.out.ls2
  have q1 := H0.out.lt1
  have q2 := H0.out.lt2
  have hls : ls ≤ 1000000 := by omega
  have hlt : lt ≤ 1000000 := by omega
  have hlq : lt ≤ maxLen := by unfold maxLen; omega
  have hsh : decide (ls ≤ 13 ∧ lt ≤ 10) = true := by simp; omega
  have hq10 : (lt : Int) ≤ (10 : Int) := by omega
  have H : Hid (AnyLine w (some ⟨A, O, none⟩) (some ⟨C, P, none⟩) ls lt s t) := Lib.hid ⟨.inr ⟨A, O, rfl, H0.out.hA, H0.out.sp⟩, .inr ⟨C, P, rfl, H0.out.hC, H0.out.st⟩⟩
  have g1 : fromB 0 ((lt : Int) - 1) (n : Int) = true := by simp only [fromB, decide_eq_true_eq]; omega
  have BX := Lib.hid (fun (w1 : World) (hb : Below (w.alloc (.cells #[.slice (some ⟨A, O, none⟩) ls cs, .slice (some ⟨C, P, none⟩) lt ct] 25)).heap.size (w.alloc (.cells #[.slice (some ⟨A, O, none⟩) ls cs, .slice (some ⟨C, P, none⟩) lt ct] 25)) w1) => box_cells hb)
  have HN : Hid (∀ w1, Below (w.alloc (.cells #[.slice (some ⟨A, O, none⟩) ls cs, .slice (some ⟨C, P, none⟩) lt ct] 25)).heap.size (w.alloc (.cells #[.slice (some ⟨A, O, none⟩) ls cs, .slice (some ⟨C, P, none⟩) lt ct] 25)) w1 → Hid (AnyLine w1 (some ⟨A, O, none⟩) (some ⟨C, P, none⟩) ls lt s t)) := Lib.hid fun w1 h => Lib.hid (H.out.below (below_al h))
  have HL : Hid (∀ w1, Below (w.alloc (.cells #[.slice (some ⟨A, O, none⟩) ls cs, .slice (some ⟨C, P, none⟩) lt ct] 25)).heap.size (w.alloc (.cells #[.slice (some ⟨A, O, none⟩) ls cs, .slice (some ⟨C, P, none⟩) lt ct] 25)) w1 → LineAt w1 A O C P ls lt s t ∧ True) := Lib.hid fun w1 h => ⟨H0.out.below (below_al h), trivial⟩
  have HM : Hid (∀ w1, Below (w.alloc (.cells #[.slice (some ⟨A, O, none⟩) ls cs, .slice (some ⟨C, P, none⟩) lt ct] 25)).heap.size (w.alloc (.cells #[.slice (some ⟨A, O, none⟩) ls cs, .slice (some ⟨C, P, none⟩) lt ct] 25)) w1 → D < w1.heap.size ∧ NumAt w1 D F lt g) := Lib.hid fun w1 h => ⟨Nat.lt_of_lt_of_le hD (below_al h).size, HDD.out.below hD (below_al h)⟩
  have HI : Hid (∀ w1, Below (w.alloc (.cells #[.slice (some ⟨A, O, none⟩) ls cs, .slice (some ⟨C, P, none⟩) lt ct] 25)).heap.size (w.alloc (.cells #[.slice (some ⟨A, O, none⟩) ls cs, .slice (some ⟨C, P, none⟩) lt ct] 25)) w1 → Hid (IntSl w1 (some ⟨D, F, none⟩) lt g)) := Lib.hid fun w1 h => Lib.hid (.inr ⟨D, F, rfl, (HM.out w1 h).1, (HM.out w1 h).2⟩)
  have hb : Below (w.alloc (.cells #[.slice (some ⟨A, O, none⟩) ls cs, .slice (some ⟨C, P, none⟩) lt ct] 25)).heap.size (w.alloc (.cells #[.slice (some ⟨A, O, none⟩) ls cs, .slice (some ⟨C, P, none⟩) lt ct] 25)) (w.alloc (.cells #[.slice (some ⟨A, O, none⟩) ls cs, .slice (some ⟨C, P, none⟩) lt ct] 25)) := Below.refl _ _
  obtain ⟨x1, x2, x3⟩ := BX.out _ hb
  clear H
  go_enter Tryz.func7, Tryz.ntmps7
  go_wp2_with (first
    | (go_at_call 16; refine (short_w _ _ _ _ _ _ _ (by unfold maxLen; omega) (by unfold maxLen; omega)).mono ?_; rw [hsh]; rintro e wl ⟨rfl, hv⟩; replace hb := hb.trans (hv.mono hb.size); clear x1 x2 x3; obtain ⟨x1, x2, x3⟩ := BX.out _ hb)
    | (go_at_call 32; refine (latest_f _ _ _ _ _ _ _ _ n s t nd a _ (Lib.hid (HL.out _ hb).1) hn g2 HG).mono ?_; rintro e wl ⟨rfl, hv⟩; replace hb := hb.trans (hv.mono hb.size); clear x1 x2 x3; obtain ⟨x1, x2, x3⟩ := BX.out _ hb)
    | (go_at_call 33; refine (pwiden_f _ _ _ _ _ _ _ _ _ _ _ s t g W nd _ (Lib.hid (HL.out _ hb).1) (HM.out _ hb).1 (Lib.hid (HM.out _ hb).2) HQ g2 HW HT).mono ?_; rintro e wl ⟨rfl, hv⟩; replace hb := hb.trans (hv.mono hb.size); clear x1 x2 x3; obtain ⟨x1, x2, x3⟩ := BX.out _ hb)
    | (go_at_call 20; refine (right_w _ _ _ _ _ _ s t _ hls hlt (Lib.hid (HN.out _ hb).out.hs) (Lib.hid (HN.out _ hb).out.ht)).mono ?_; rintro e wl ⟨⟨rb, rfl, hrb⟩, hv⟩; obtain rfl : rb = true := hrb.2 HR.out; clear hrb; replace hb := hb.trans (hv.mono hb.size); clear x1 x2 x3; obtain ⟨x1, x2, x3⟩ := BX.out _ hb)
    | (go_at_call 21; refine (number_w _ undef _ _ _ _ _ (by unfold maxLen; omega)).mono ?_; rintro e wl ⟨rfl, hv⟩; replace hb := hb.trans (hv.mono hb.size); clear x1 x2 x3; obtain ⟨x1, x2, x3⟩ := BX.out _ hb)
    | (go_at_call 34; refine (need_w _ _).mono ?_; rintro e w' ⟨rfl, rfl⟩)
    | (go_at_call 35; refine (rlatest_f _ _ _ _ _ _ _ _ n s t nd a _ (Lib.hid (HL.out _ hb).1) hn HG).mono ?_; rintro e wl ⟨rfl, hv⟩; replace hb := hb.trans (hv.mono hb.size); clear x1 x2 x3; obtain ⟨x1, x2, x3⟩ := BX.out _ hb)
    | (go_at_call 27; refine (refAges_w _ _ _ _ _ _ _ g _ hlt hlq (HI.out _ hb)).mono ?_; rintro e wl ⟨⟨rb, rfl, hrb⟩, hv⟩; obtain rfl : rb = true := hrb.2 HQ.out; clear hrb; replace hb := hb.trans (hv.mono hb.size); clear x1 x2 x3; obtain ⟨x1, x2, x3⟩ := BX.out _ hb)
    | (go_at_call 36; refine (rwiden_f _ _ _ _ _ _ _ _ _ _ _ s t g W nd _ (Lib.hid (HL.out _ hb).1) (HM.out _ hb).1 (Lib.hid (HM.out _ hb).2) HQ HW HT).mono ?_; rintro e wl ⟨rfl, hv⟩; replace hb := hb.trans (hv.mono hb.size); clear x1 x2 x3; obtain ⟨x1, x2, x3⟩ := BX.out _ hb)
    | (go_at_call 17; refine (K.out _).mono ?_; rintro e wl ⟨rfl, hv⟩; replace hb := hb.trans (hv.mono hb.size); clear x1 x2 x3; obtain ⟨x1, x2, x3⟩ := BX.out _ hb))
  go_ret
  exact ⟨rfl, below_al hb⟩

end Go.Kn

namespace Go.Kn
open Go Go.Proofs Go.RowKit

theorem Great.ex (s : Nat → Int) (x : St5) (nd : Int) : (∃ a, Great s x nd a true) ∨ Great s x nd 0 false := by
  have key : ∀ k : Nat, k ≤ 201 → (∃ a, Great s x nd a true) ∨ (∀ a', 200 - (k : Int) < a' → a' ≤ 200 → cupsL s x a' x.hi < nd) := by
    intro k
    induction k with
    | zero => intro _; exact .inr fun a' h1 h2 => by omega
    | succ k ih =>
      intro hk
      rcases ih (by omega) with h | h
      · exact .inl h
      · by_cases e : nd ≤ cupsL s x (200 - (k : Int)) x.hi
        · exact .inl ⟨200 - (k : Int), .inl ⟨rfl, by omega, by omega, e, h⟩⟩
        · refine .inr fun a' h1 h2 => ?_
          by_cases e2 : a' = 200 - (k : Int)
          · rw [e2]; omega
          · exact h a' (by omega) h2
  rcases key 201 (by omega) with h | h
  · exact .inl h
  · exact .inr (.inr ⟨rfl, rfl, fun a' h1 h2 => h a' (by omega) h2⟩)

theorem widths_ex {w : World} {A O C P ls lt : Nat} {s : Nat → Int} {t : Nat → St5} (H : LineAt w A O C P ls lt s t) (g : Nat → Int) (nd : Int) : ∃ W : Nat → Int, ∀ i, i < lt → IsW (cupsB s (t i) (g i)) (t i).b nd (W i) := by
  have h : ∀ i, ∃ x : Int, i < lt → IsW (cupsB s (t i) (g i)) (t i).b nd x := fun i => by
    by_cases hi : i < lt
    · have hb := (H.bds hi).1
      obtain ⟨x, hx⟩ := IsW.ex (cupsB s (t i) (g i)) nd (101 - (t i).b).toNat (t i).b (by omega)
      exact ⟨x, fun _ => hx⟩
    · exact ⟨0, fun h => (hi h).elim⟩
  exact ⟨fun i => Classical.choose (h i), fun i => Classical.choose_spec (h i)⟩

theorem lawt_w (sa ta sq : Option Addr) (ls cs lt ct lq cq : Nat) (s : Nat → Int) (t : Nat → St5) (g : Nat → Int) (st nd : Int) (w : World) (hls : ls ≤ maxLen) (hlt : lt ≤ maxLen) (hlq : lq ≤ maxLen) (HS : NumSl w sa ls s) (HT : StSl w ta lt t) (HG : IntSl w sq lq g) (K : Hid KnownOk) :
    Calls Tryz.prog 7 #[.agg #[.slice sa ls cs, .slice ta lt ct], .int .i64 st, .slice sq lq cq, .int .i64 nd] w
      fun e w' => e = .returned (.bool true) ∧ Below w.heap.size w w' := by
  by_cases hq : ls ≤ 13 ∧ lt ≤ 10
  case neg => exact lawt_a sa ta sq ls cs lt ct lq cq s t g st nd w hls hlt hlq hq (Lib.hid ⟨HS, HT⟩) (Lib.hid HG) K
  by_cases hb : lq ≤ 10
  case neg => exact lawt_b sa ta sq ls cs lt ct lq cq s t g st nd w hls hlt hlq hq hb (Lib.hid ⟨HS, HT⟩) (Lib.hid HG) K
  by_cases hR : RightP ls lt s t
  case neg => exact lawt_c sa ta sq ls cs lt ct lq cq s t g st nd w (by omega) (by omega) hlq hq hb (Lib.hid hR) (Lib.hid ⟨HS, HT⟩) (Lib.hid HG) K
  obtain ⟨A, O, rfl, hA, hsp⟩ := HS.resolve_left (by have := hR.ls1; omega)
  obtain ⟨C, P, rfl, hC, hst⟩ := HT.resolve_left (by have := hR.lt1; omega)
  have H : LineAt w A O C P ls lt s t := ⟨hA, hC, hR.ls1, hR.ls2, hR.lt1, hR.lt2, hsp, hst, hR.sok, hR.tok⟩
  obtain ⟨W, hW⟩ := widths_ex H g nd
  by_cases hQ : AgeP lt lq g
  · obtain rfl := hQ.eq
    obtain ⟨D, F, rfl, hD, hg⟩ := HG.resolve_left (by have := hR.lt1; omega)
    have hWW : (∀ i, i < lq → W i ≤ 100) ∨ (∃ i, i < lq ∧ W i = 101) := by
      by_cases e : ∃ i, i < lq ∧ W i = 101
      · exact .inr e
      · refine .inl fun i hi => ?_
        have h1 := (hW i hi).hi
        have h2 : W i ≠ 101 := fun h => e ⟨i, hi, h⟩
        omega
    cases g2 : fromB 1 10000000 nd
    · cases g1 : fromB 0 ((lq : Int) - 1) st
      · exact lawt_FBF A O C P ls cs lq ct D F cq s t g st nd w (Lib.hid H) g1 g2 hD (Lib.hid hg) (Lib.hid hQ) K
      · have h1 := fromB_tt g1
        obtain ⟨n, rfl⟩ : ∃ n : Nat, st = (n : Int) := ⟨st.toNat, by omega⟩
        exact lawt_BBF A O C P ls cs lq ct n D F cq s t g nd w (Lib.hid H) (by omega) g2 hD (Lib.hid hg) (Lib.hid hQ) K
    · cases g1 : fromB 0 ((lq : Int) - 1) st
      · rcases hWW with h | h
        · exact lawt_FtT A O C P ls cs lq ct D F cq s t g W st nd w (Lib.hid H) g1 g2 hD (Lib.hid hg) (Lib.hid hQ) (Lib.hid hW) (Lib.hid h) K
        · exact lawt_FfT A O C P ls cs lq ct D F cq s t g W st nd w (Lib.hid H) g1 g2 hD (Lib.hid hg) (Lib.hid hQ) (Lib.hid hW) (Lib.hid h) K
      · have h1 := fromB_tt g1
        obtain ⟨n, rfl⟩ : ∃ n : Nat, st = (n : Int) := ⟨st.toNat, by omega⟩
        rcases Great.ex s (t n) nd with ⟨a, hG⟩ | hG
        · rcases hWW with h | h
          · exact lawt_ttT A O C P ls cs lq ct n D F cq s t g W nd a w (Lib.hid H) (by omega) g2 hD (Lib.hid hg) (Lib.hid hQ) (Lib.hid hG) (Lib.hid hW) (Lib.hid h) K
          · exact lawt_tfT A O C P ls cs lq ct n D F cq s t g W nd a w (Lib.hid H) (by omega) g2 hD (Lib.hid hg) (Lib.hid hQ) (Lib.hid hG) (Lib.hid hW) (Lib.hid h) K
        · rcases hWW with h | h
          · exact lawt_ftT A O C P ls cs lq ct n D F cq s t g W nd 0 w (Lib.hid H) (by omega) g2 hD (Lib.hid hg) (Lib.hid hQ) (Lib.hid hG) (Lib.hid hW) (Lib.hid h) K
          · exact lawt_ffT A O C P ls cs lq ct n D F cq s t g W nd 0 w (Lib.hid H) (by omega) g2 hD (Lib.hid hg) (Lib.hid hQ) (Lib.hid hG) (Lib.hid hW) (Lib.hid h) K
  · cases g2 : fromB 1 10000000 nd
    · cases g1 : fromB 0 ((lt : Int) - 1) st
      · exact lawt_FFF A O C P ls cs lt ct lq cq sq s t g st nd w (Lib.hid H) g1 g2 hb (Lib.hid HG) (Lib.hid hQ) K
      · have h1 := fromB_tt g1
        obtain ⟨n, rfl⟩ : ∃ n : Nat, st = (n : Int) := ⟨st.toNat, by omega⟩
        exact lawt_BFF A O C P ls cs lt ct n lq cq sq s t g nd w (Lib.hid H) (by omega) g2 hb (Lib.hid HG) (Lib.hid hQ) K
    · cases g1 : fromB 0 ((lt : Int) - 1) st
      · exact lawt_FFT A O C P ls cs lt ct lq cq sq s t g st nd w (Lib.hid H) g1 g2 hb (Lib.hid HG) (Lib.hid hQ) K
      · have h1 := fromB_tt g1
        obtain ⟨n, rfl⟩ : ∃ n : Nat, st = (n : Int) := ⟨st.toNat, by omega⟩
        rcases Great.ex s (t n) nd with ⟨a, hG⟩ | hG
        · exact lawt_tFT A O C P ls cs lt ct n lq cq sq s t g nd a w (Lib.hid H) (by omega) g2 hb (Lib.hid HG) (Lib.hid hQ) (Lib.hid hG) K
        · exact lawt_fFT A O C P ls cs lt ct n lq cq sq s t g nd 0 w (Lib.hid H) (by omega) g2 hb (Lib.hid HG) (Lib.hid hQ) (Lib.hid hG) K
end Go.Kn
