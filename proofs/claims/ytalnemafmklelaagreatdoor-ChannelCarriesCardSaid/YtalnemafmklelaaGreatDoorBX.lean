/- Walks of functions of layer 2 (contracts that the laws of this seat use). Conditions: as each theorem states them. -/
import Derived.Test.YtalnemafmklelaaGreatDoorBN
import Derived.Deep.RegionHeld3
set_option linter.unusedVariables false
set_option linter.unusedSimpArgs false
namespace Go.Kn
open Go Go.Proofs Go.RowKit

theorem check_good {sa ta : Option Addr} {ls cs lt ct : Nat} {s : Nat → Int} {t : Nat → St5} {w : World} (hls : ls ≤ 1000000) (hlt : lt ≤ 1000000) (H : Hid (AnyLine w sa ta ls lt s t)) (hR : RightP ls lt s t) :
    Calls Tryz.prog 18 #[.agg #[.slice sa ls cs, .slice ta lt ct]] w fun e w' => e = .returned (.int .i64 0) ∧ Below w.heap.size w w' :=
  (check_w sa ta ls cs lt ct s t w hls hlt H).mono (by
    rintro e w' ⟨⟨rb, rfl, hrb⟩, hb⟩
    obtain rfl : rb = true := hrb.2 hR
    exact ⟨rfl, hb⟩)
theorem check_bad {sa ta : Option Addr} {ls cs lt ct : Nat} {s : Nat → Int} {t : Nat → St5} {w : World} (hls : ls ≤ 1000000) (hlt : lt ≤ 1000000) (H : Hid (AnyLine w sa ta ls lt s t)) (hR : ¬ RightP ls lt s t) :
    Calls Tryz.prog 18 #[.agg #[.slice sa ls cs, .slice ta lt ct]] w fun e w' => e = .returned (.int .i64 2) ∧ Below w.heap.size w w' :=
  (check_w sa ta ls cs lt ct s t w hls hlt H).mono (by
    rintro e w' ⟨⟨rb, rfl, hrb⟩, hb⟩
    obtain rfl : rb = false := by cases rb <;> first | rfl | exact (hR (hrb.1 rfl)).elim
    exact ⟨rfl, hb⟩)

set_option maxRecDepth 100000 in
set_option maxHeartbeats 4000000 in
theorem lawc_a (sa ta : Option Addr) (ls cs lt ct : Nat) (s : Nat → Int) (t : Nat → St5) (st ag : Int) (w : World) (hls : ls ≤ maxLen) (hlt : lt ≤ maxLen) (H0 : AnyLine w sa ta ls lt s t) (K : Hid KnownOk)
    (hq : ¬ (ls ≤ 13 ∧ lt ≤ 10)) :
    Calls Tryz.prog 3 #[.agg #[.slice sa ls cs, .slice ta lt ct], .int .i64 st, .int .i64 ag] w
      fun e w' => e = .returned (.bool true) ∧ Below w.heap.size w w' := by
  have BX := Lib.hid (fun (w1 : World) (hb : Below (w.alloc (.cells #[.slice sa ls cs, .slice ta lt ct] 25)).heap.size (w.alloc (.cells #[.slice sa ls cs, .slice ta lt ct] 25)) w1) => box_cells hb)
  have HN : Hid (∀ w1, Below (w.alloc (.cells #[.slice sa ls cs, .slice ta lt ct] 25)).heap.size (w.alloc (.cells #[.slice sa ls cs, .slice ta lt ct] 25)) w1 → Hid (AnyLine w1 sa ta ls lt s t)) := Lib.hid fun w1 h => Lib.hid (H0.below (below_al h))
  clear H0
  have hsh : decide (ls ≤ 13 ∧ lt ≤ 10) = false := decide_eq_false hq
  go_enter Tryz.func3, Tryz.ntmps3
  go_wp2_with (first
    | (go_at_call 16; refine (short_w _ _ _ _ _ _ _ hls hlt).mono ?_; rw [hsh]; rintro e w1 ⟨rfl, hb1⟩; obtain ⟨x1, x2, x3⟩ := BX.out _ hb1)
    | (go_at_call 17; refine (K.out _).mono ?_; rintro e w11 ⟨rfl, hb11⟩))
  go_ret
  exact ⟨rfl, below_al (hb1.trans (hb11.mono hb1.size))⟩

set_option maxRecDepth 100000 in
set_option maxHeartbeats 4000000 in
theorem lawc_b (sa ta : Option Addr) (ls cs lt ct : Nat) (s : Nat → Int) (t : Nat → St5) (st ag : Int) (w : World) (hls : ls ≤ maxLen) (hlt : lt ≤ maxLen) (H0 : AnyLine w sa ta ls lt s t) (K : Hid KnownOk)
    (hq : ls ≤ 13 ∧ lt ≤ 10) (hR : ¬ RightP ls lt s t) :
    Calls Tryz.prog 3 #[.agg #[.slice sa ls cs, .slice ta lt ct], .int .i64 st, .int .i64 ag] w
      fun e w' => e = .returned (.bool true) ∧ Below w.heap.size w w' := by
  have BX := Lib.hid (fun (w1 : World) (hb : Below (w.alloc (.cells #[.slice sa ls cs, .slice ta lt ct] 25)).heap.size (w.alloc (.cells #[.slice sa ls cs, .slice ta lt ct] 25)) w1) => box_cells hb)
  have HN : Hid (∀ w1, Below (w.alloc (.cells #[.slice sa ls cs, .slice ta lt ct] 25)).heap.size (w.alloc (.cells #[.slice sa ls cs, .slice ta lt ct] 25)) w1 → Hid (AnyLine w1 sa ta ls lt s t)) := Lib.hid fun w1 h => Lib.hid (H0.below (below_al h))
  clear H0
  have hsh : decide (ls ≤ 13 ∧ lt ≤ 10) = true := decide_eq_true hq
  obtain ⟨hq1, hq2⟩ := hq
  have HR := Lib.hid hR
  clear hR
  go_enter Tryz.func3, Tryz.ntmps3
  go_wp2_with (first
    | (go_at_call 16; refine (short_w _ _ _ _ _ _ _ hls hlt).mono ?_; rw [hsh]; rintro e w1 ⟨rfl, hb1⟩; obtain ⟨x1, x2, x3⟩ := BX.out _ hb1)
    | (go_at_call 18; refine (check_bad (by omega) (by omega) (HN.out _ hb1) HR.out).mono ?_; rintro e w2 ⟨rfl, hb2⟩; have hb12 := hb1.trans (hb2.mono hb1.size); clear x1 x2 x3; obtain ⟨x1, x2, x3⟩ := BX.out _ hb12)
    | (go_at_call 19; refine (pcarries_a _ _ _ _ _ _ s t _ _ _ (by omega) (by omega) (HN.out _ hb12) HR.out).mono ?_; rintro e w3 ⟨rfl, hb3⟩; have hb13 := hb12.trans (hb3.mono hb12.size); have hb14 := hb13.alloc hb13.size (.cells #[.int .i64 0, .int .i64 0] 31); clear x1 x2 x3; obtain ⟨x1, x2, x3⟩ := BX.out _ hb13)
    | (go_at_call 20; refine (right_w _ _ _ _ _ _ s t _ (by omega) (by omega) (Lib.hid (HN.out _ hb15).out.hs) (Lib.hid (HN.out _ hb15).out.ht)).mono ?_; rintro e w6 ⟨⟨rb, rfl, hrb⟩, hb6⟩; obtain rfl : rb = false := (by cases rb <;> first | rfl | exact (HR.out (hrb.1 rfl)).elim); clear hrb; have hb16 := hb15.trans (hb6.mono hb15.size); have hy6 := hb5.trans (hb6.mono hb5.size); clear x1 x2 x3; obtain ⟨x1, x2, x3⟩ := BX.out _ hb16; clear y1 y2 y3; obtain ⟨y1, y2, y3⟩ := box_cells hy6)
    | (go_at_call 20; refine (right_w _ _ _ _ _ _ s t _ (by omega) (by omega) (Lib.hid (HN.out _ hb14).out.hs) (Lib.hid (HN.out _ hb14).out.ht)).mono ?_; rintro e w5 ⟨⟨rb, rfl, hrb⟩, hb5⟩; obtain rfl : rb = false := (by cases rb <;> first | rfl | exact (HR.out (hrb.1 rfl)).elim); clear hrb; have hb15 := hb14.trans (hb5.mono hb14.size); clear x1 x2 x3; obtain ⟨x1, x2, x3⟩ := BX.out _ hb15; obtain ⟨y1, y2, y3⟩ := box_cells hb5)
    | (go_at_call 17; refine (K.out _).mono ?_; rintro e w11 ⟨rfl, hb11⟩))
  go_ret
  exact ⟨rfl, below_al (hb16.trans (hb11.mono hb16.size))⟩

set_option maxRecDepth 100000 in
set_option maxHeartbeats 4000000 in
theorem lawc_c (sa ta : Option Addr) (ls cs lt ct : Nat) (s : Nat → Int) (t : Nat → St5) (st ag : Int) (w : World) (hls : ls ≤ maxLen) (hlt : lt ≤ maxLen) (H0 : AnyLine w sa ta ls lt s t) (K : Hid KnownOk)
    (hq : ls ≤ 13 ∧ lt ≤ 10) (hR : RightP ls lt s t) (g1 : fromB 0 ((lt : Int) - 1) st = false) :
    Calls Tryz.prog 3 #[.agg #[.slice sa ls cs, .slice ta lt ct], .int .i64 st, .int .i64 ag] w
      fun e w' => e = .returned (.bool true) ∧ Below w.heap.size w w' := by
  have BX := Lib.hid (fun (w1 : World) (hb : Below (w.alloc (.cells #[.slice sa ls cs, .slice ta lt ct] 25)).heap.size (w.alloc (.cells #[.slice sa ls cs, .slice ta lt ct] 25)) w1) => box_cells hb)
  have HN : Hid (∀ w1, Below (w.alloc (.cells #[.slice sa ls cs, .slice ta lt ct] 25)).heap.size (w.alloc (.cells #[.slice sa ls cs, .slice ta lt ct] 25)) w1 → Hid (AnyLine w1 sa ta ls lt s t)) := Lib.hid fun w1 h => Lib.hid (H0.below (below_al h))
  clear H0
  have hsh : decide (ls ≤ 13 ∧ lt ≤ 10) = true := decide_eq_true hq
  obtain ⟨hq1, hq2⟩ := hq
  have HR := Lib.hid hR
  clear hR
  go_enter Tryz.func3, Tryz.ntmps3
  go_wp2_with (first
    | (go_at_call 16; refine (short_w _ _ _ _ _ _ _ hls hlt).mono ?_; rw [hsh]; rintro e w1 ⟨rfl, hb1⟩; obtain ⟨x1, x2, x3⟩ := BX.out _ hb1)
    | (go_at_call 18; refine (check_good (by omega) (by omega) (HN.out _ hb1) HR.out).mono ?_; rintro e w2 ⟨rfl, hb2⟩; have hb12 := hb1.trans (hb2.mono hb1.size); clear x1 x2 x3; obtain ⟨x1, x2, x3⟩ := BX.out _ hb12)
    | (go_at_call 19; refine (pcarries_b _ _ _ _ _ _ s t _ _ _ (by omega) (by omega) (HN.out _ hb12) HR.out g1).mono ?_; rintro e w3 ⟨rfl, hb3⟩; have hb13 := hb12.trans (hb3.mono hb12.size); have hb14 := hb13.alloc hb13.size (.cells #[.int .i64 0, .int .i64 0] 31); clear x1 x2 x3; obtain ⟨x1, x2, x3⟩ := BX.out _ hb13)
    | (go_at_call 20; refine (right_w _ _ _ _ _ _ s t _ (by omega) (by omega) (Lib.hid (HN.out _ hb15).out.hs) (Lib.hid (HN.out _ hb15).out.ht)).mono ?_; rintro e w6 ⟨⟨rb, rfl, hrb⟩, hb6⟩; obtain rfl : rb = true := hrb.2 HR.out; clear hrb; have hb16 := hb15.trans (hb6.mono hb15.size); have hy6 := hb5.trans (hb6.mono hb5.size); clear x1 x2 x3; obtain ⟨x1, x2, x3⟩ := BX.out _ hb16; clear y1 y2 y3; obtain ⟨y1, y2, y3⟩ := box_cells hy6)
    | (go_at_call 20; refine (right_w _ _ _ _ _ _ s t _ (by omega) (by omega) (Lib.hid (HN.out _ hb14).out.hs) (Lib.hid (HN.out _ hb14).out.ht)).mono ?_; rintro e w5 ⟨⟨rb, rfl, hrb⟩, hb5⟩; obtain rfl : rb = true := hrb.2 HR.out; clear hrb; have hb15 := hb14.trans (hb5.mono hb14.size); clear x1 x2 x3; obtain ⟨x1, x2, x3⟩ := BX.out _ hb15; obtain ⟨y1, y2, y3⟩ := box_cells hb5)
    | (go_at_call 21; refine (number_w _ undef _ _ _ _ _ hlt).mono ?_; rintro e w7 ⟨rfl, hb7⟩; have hb17 := hb16.trans (hb7.mono hb16.size); have hy7 := hy6.trans (hb7.mono hy6.size); clear x1 x2 x3; obtain ⟨x1, x2, x3⟩ := BX.out _ hb17; clear y1 y2 y3; obtain ⟨y1, y2, y3⟩ := box_cells hy7)
    | (go_at_call 22; refine (age_w _ _).mono ?_; rintro e w' ⟨rfl, rfl⟩)
    | (go_at_call 17; refine (K.out _).mono ?_; rintro e w11 ⟨rfl, hb11⟩))
  go_ret
  exact ⟨rfl, below_al (hb17.trans (hb11.mono hb17.size))⟩

set_option maxRecDepth 100000 in
set_option maxHeartbeats 4000000 in
theorem lawc_d (sa ta : Option Addr) (ls cs lt ct : Nat) (s : Nat → Int) (t : Nat → St5) (st ag : Int) (w : World) (hls : ls ≤ maxLen) (hlt : lt ≤ maxLen) (H0 : AnyLine w sa ta ls lt s t) (K : Hid KnownOk)
    (hq : ls ≤ 13 ∧ lt ≤ 10) (hR : RightP ls lt s t) (g1 : fromB 0 ((lt : Int) - 1) st = true) (g2 : fromB 0 200 ag = false) :
    Calls Tryz.prog 3 #[.agg #[.slice sa ls cs, .slice ta lt ct], .int .i64 st, .int .i64 ag] w
      fun e w' => e = .returned (.bool true) ∧ Below w.heap.size w w' := by
  have BX := Lib.hid (fun (w1 : World) (hb : Below (w.alloc (.cells #[.slice sa ls cs, .slice ta lt ct] 25)).heap.size (w.alloc (.cells #[.slice sa ls cs, .slice ta lt ct] 25)) w1) => box_cells hb)
  have HN : Hid (∀ w1, Below (w.alloc (.cells #[.slice sa ls cs, .slice ta lt ct] 25)).heap.size (w.alloc (.cells #[.slice sa ls cs, .slice ta lt ct] 25)) w1 → Hid (AnyLine w1 sa ta ls lt s t)) := Lib.hid fun w1 h => Lib.hid (H0.below (below_al h))
  clear H0
  have hsh : decide (ls ≤ 13 ∧ lt ≤ 10) = true := decide_eq_true hq
  obtain ⟨hq1, hq2⟩ := hq
  have HR := Lib.hid hR
  clear hR
  go_enter Tryz.func3, Tryz.ntmps3
  go_wp2_with (first
    | (go_at_call 16; refine (short_w _ _ _ _ _ _ _ hls hlt).mono ?_; rw [hsh]; rintro e w1 ⟨rfl, hb1⟩; obtain ⟨x1, x2, x3⟩ := BX.out _ hb1)
    | (go_at_call 18; refine (check_good (by omega) (by omega) (HN.out _ hb1) HR.out).mono ?_; rintro e w2 ⟨rfl, hb2⟩; have hb12 := hb1.trans (hb2.mono hb1.size); clear x1 x2 x3; obtain ⟨x1, x2, x3⟩ := BX.out _ hb12)
    | (go_at_call 19; refine (pcarries_c _ _ _ _ _ _ s t _ _ _ (by omega) (by omega) (HN.out _ hb12) HR.out g1 g2).mono ?_; rintro e w3 ⟨rfl, hb3⟩; have hb13 := hb12.trans (hb3.mono hb12.size); have hb14 := hb13.alloc hb13.size (.cells #[.int .i64 0, .int .i64 0] 31); clear x1 x2 x3; obtain ⟨x1, x2, x3⟩ := BX.out _ hb13)
    | (go_at_call 20; refine (right_w _ _ _ _ _ _ s t _ (by omega) (by omega) (Lib.hid (HN.out _ hb15).out.hs) (Lib.hid (HN.out _ hb15).out.ht)).mono ?_; rintro e w6 ⟨⟨rb, rfl, hrb⟩, hb6⟩; obtain rfl : rb = true := hrb.2 HR.out; clear hrb; have hb16 := hb15.trans (hb6.mono hb15.size); have hy6 := hb5.trans (hb6.mono hb5.size); clear x1 x2 x3; obtain ⟨x1, x2, x3⟩ := BX.out _ hb16; clear y1 y2 y3; obtain ⟨y1, y2, y3⟩ := box_cells hy6)
    | (go_at_call 20; refine (right_w _ _ _ _ _ _ s t _ (by omega) (by omega) (Lib.hid (HN.out _ hb14).out.hs) (Lib.hid (HN.out _ hb14).out.ht)).mono ?_; rintro e w5 ⟨⟨rb, rfl, hrb⟩, hb5⟩; obtain rfl : rb = true := hrb.2 HR.out; clear hrb; have hb15 := hb14.trans (hb5.mono hb14.size); clear x1 x2 x3; obtain ⟨x1, x2, x3⟩ := BX.out _ hb15; obtain ⟨y1, y2, y3⟩ := box_cells hb5)
    | (go_at_call 21; refine (number_w _ undef _ _ _ _ _ hlt).mono ?_; rintro e w7 ⟨rfl, hb7⟩; have hb17 := hb16.trans (hb7.mono hb16.size); have hy7 := hy6.trans (hb7.mono hy6.size); clear x1 x2 x3; obtain ⟨x1, x2, x3⟩ := BX.out _ hb17; clear y1 y2 y3; obtain ⟨y1, y2, y3⟩ := box_cells hy7)
    | (go_at_call 22; refine (age_w _ _).mono ?_; rintro e w' ⟨rfl, rfl⟩)
    | (go_at_call 17; refine (K.out _).mono ?_; rintro e w11 ⟨rfl, hb11⟩))
  go_ret
  exact ⟨rfl, below_al (hb17.trans (hb11.mono hb17.size))⟩
end Go.Kn

namespace Go.Kn
open Go Go.Proofs Go.RowKit

set_option maxRecDepth 100000 in
set_option maxHeartbeats 4000000 in
theorem lawc_good (A O C P ls cs lt ct n : Nat) (s : Nat → Int) (t : Nat → St5) (ag : Int) (w : World) (H : Hid (LineAt w A O C P ls lt s t)) (hn : n < lt) (ha : 0 ≤ ag ∧ ag ≤ 200) (K : Hid KnownOk) :
    Calls Tryz.prog 3 #[.agg #[.slice (some ⟨A, O, none⟩) ls cs, .slice (some ⟨C, P, none⟩) lt ct], .int .i64 (n : Int), .int .i64 ag] w
      fun e w' => e = .returned (.bool true) ∧ Below w.heap.size w w' := by
  have BX := Lib.hid (fun (w1 : World) (hb : Below (w.alloc (.cells #[.slice (some ⟨A, O, none⟩) ls cs, .slice (some ⟨C, P, none⟩) lt ct] 25)).heap.size (w.alloc (.cells #[.slice (some ⟨A, O, none⟩) ls cs, .slice (some ⟨C, P, none⟩) lt ct] 25)) w1) => box_cells hb)
  have hls' := H.out.ls2
  have hlt' := H.out.lt2
  have hls : ls ≤ maxLen := by unfold maxLen; omega
  have hlt : lt ≤ maxLen := by unfold maxLen; omega
  have HR : Hid (RightP ls lt s t) := Lib.hid ⟨H.out.ls1, H.out.ls2, H.out.lt1, H.out.lt2, H.out.sok, H.out.tok⟩
  have hsh : decide (ls ≤ 13 ∧ lt ≤ 10) = true := by simp; omega
  have f1 : fromB 0 ((lt : Int) - 1) (n : Int) = true := by simp only [fromB, decide_eq_true_eq]; omega
  have f2 : fromB 0 200 ag = true := by simp only [fromB, decide_eq_true_eq]; omega
  have HL : Hid (∀ w1, Below (w.alloc (.cells #[.slice (some ⟨A, O, none⟩) ls cs, .slice (some ⟨C, P, none⟩) lt ct] 25)).heap.size (w.alloc (.cells #[.slice (some ⟨A, O, none⟩) ls cs, .slice (some ⟨C, P, none⟩) lt ct] 25)) w1 → LineAt w1 A O C P ls lt s t) := Lib.hid fun w1 h => H.out.below (below_al h)
  have HN : Hid (∀ w1, Below (w.alloc (.cells #[.slice (some ⟨A, O, none⟩) ls cs, .slice (some ⟨C, P, none⟩) lt ct] 25)).heap.size (w.alloc (.cells #[.slice (some ⟨A, O, none⟩) ls cs, .slice (some ⟨C, P, none⟩) lt ct] 25)) w1 → Hid (AnyLine w1 (some ⟨A, O, none⟩) (some ⟨C, P, none⟩) ls lt s t)) := Lib.hid fun w1 h => Lib.hid ⟨.inr ⟨A, O, rfl, (HL.out w1 h).hA, (HL.out w1 h).sp⟩, .inr ⟨C, P, rfl, (HL.out w1 h).hC, (HL.out w1 h).st⟩⟩
  go_enter Tryz.func3, Tryz.ntmps3
  go_wp2_with (first
    | (go_at_call 16; refine (short_w _ _ _ _ _ _ _ hls hlt).mono ?_; rw [hsh]; rintro e w1 ⟨rfl, hb1⟩; obtain ⟨x1, x2, x3⟩ := BX.out _ hb1)
    | (go_at_call 18; refine (check_good (by omega) (by omega) (HN.out _ hb1) HR.out).mono ?_; rintro e w2 ⟨rfl, hb2⟩; have hb12 := hb1.trans (hb2.mono hb1.size); clear x1 x2 x3; obtain ⟨x1, x2, x3⟩ := BX.out _ hb12)
    | (go_at_call 19; refine (pcarries_w _ _ _ _ _ _ _ _ _ s t ag _ (Lib.hid (HL.out _ hb12)) hn ha).mono ?_; rintro e w3 ⟨rfl, hb3⟩; have hb13 := hb12.trans (hb3.mono hb12.size); have hb14 := hb13.alloc hb13.size (.cells #[.int .i64 (cupsL s (t n) ag (t n).hi), .int .i64 (cupsL s (t n) ag (t n).lo)] 31); clear x1 x2 x3; obtain ⟨x1, x2, x3⟩ := BX.out _ hb13)
    | (go_at_call 20; refine (right_w _ _ _ _ _ _ s t _ (by omega) (by omega) (Lib.hid (HN.out _ hb15).out.hs) (Lib.hid (HN.out _ hb15).out.ht)).mono ?_; rintro e w6 ⟨⟨rb, rfl, hrb⟩, hb6⟩; obtain rfl : rb = true := hrb.2 HR.out; clear hrb; have hb16 := hb15.trans (hb6.mono hb15.size); have hy6 := hb5.trans (hb6.mono hb5.size); clear x1 x2 x3; obtain ⟨x1, x2, x3⟩ := BX.out _ hb16; clear y1 y2 y3; obtain ⟨y1, y2, y3⟩ := box_cells hy6)
    | (go_at_call 20; refine (right_w _ _ _ _ _ _ s t _ (by omega) (by omega) (Lib.hid (HN.out _ hb14).out.hs) (Lib.hid (HN.out _ hb14).out.ht)).mono ?_; rintro e w5 ⟨⟨rb, rfl, hrb⟩, hb5⟩; obtain rfl : rb = true := hrb.2 HR.out; clear hrb; have hb15 := hb14.trans (hb5.mono hb14.size); clear x1 x2 x3; obtain ⟨x1, x2, x3⟩ := BX.out _ hb15; obtain ⟨y1, y2, y3⟩ := box_cells hb5)
    | (go_at_call 21; refine (number_w _ undef _ _ _ _ _ hlt).mono ?_; rintro e w7 ⟨rfl, hb7⟩; have hb17 := hb16.trans (hb7.mono hb16.size); have hy7 := hy6.trans (hb7.mono hy6.size); clear x1 x2 x3; obtain ⟨x1, x2, x3⟩ := BX.out _ hb17; clear y1 y2 y3; obtain ⟨y1, y2, y3⟩ := box_cells hy7)
    | (go_at_call 22; refine (age_w _ _).mono ?_; rintro e w' ⟨rfl, rfl⟩))
  have LW : Hid (∀ w', Below w7.heap.size w7 w' → LineAt w' A O C P ls lt s t) := Lib.hid fun w' h => HL.out _ (hb17.trans (h.mono hb17.size))
  have FX : Hid (∀ w', Below w7.heap.size w7 w' → w'.cell? ⟨w.heap.size, 0, none⟩ = some (.slice (some ⟨A, O, none⟩) ls cs) ∧ w'.cell? ⟨w.heap.size, 1, none⟩ = some (.slice (some ⟨C, P, none⟩) lt ct) ∧
      w'.cell? ⟨w3.heap.size, 0, none⟩ = some (.int .i64 (cupsL s (t n) ag (t n).hi)) ∧ w'.cell? ⟨w3.heap.size, 1, none⟩ = some (.int .i64 (cupsL s (t n) ag (t n).lo))) := Lib.hid fun w' h => by
    have q : ∀ b o, b < w7.heap.size → w'.cell? ⟨b, o, none⟩ = w7.cell? ⟨b, o, none⟩ := (bcell h).1
    exact ⟨(q _ _ x3).trans x1, (q _ _ x3).trans x2, (q _ _ y3).trans y1, (q _ _ y3).trans y2⟩
  have hB17 : Below w.heap.size w w7 := below_al hb17
  clear hb1 hb2 hb12 hb3 hb13 hb14 hb5 hb15 hb6 hb16 hb7 hb17 hy6 hy7 BX f1 f2 hsh HR HN HL
  have B0 : Below w7.heap.size w7 w7.drew := below_drew (Below.refl _ _)
  go_region_held3 (fun w' => w'.cell? ⟨w.heap.size, 0, none⟩ = some (.slice (some ⟨A, O, none⟩) ls cs) ∧ w'.cell? ⟨w.heap.size, 1, none⟩ = some (.slice (some ⟨C, P, none⟩) lt ct) ∧
      w'.cell? ⟨w3.heap.size, 0, none⟩ = some (.int .i64 (cupsL s (t n) ag (t n).hi)) ∧ w'.cell? ⟨w3.heap.size, 1, none⟩ = some (.int .i64 (cupsL s (t n) ag (t n).lo)))
    ((first | exact FX.out _ hB9 | exact FX.out _ hB8 | exact FX.out _ B0))
    ((first
      | (go_at_call 23; refine (refCarries_w _ _ _ _ _ _ _ _ _ s t ag _ (Lib.hid (LW.out _ B0)) hn ha).mono ?_; rintro e w8 ⟨rfl, hb8⟩; have hB8 := B0.trans (hb8.mono B0.size))
      | (go_at_call 17; refine (K.out _).mono ?_; rintro e w9 ⟨rfl, hb9⟩; have hB9 := hB8.trans (hb9.mono hB8.size))))
  all_goals
    go_wp2
    go_ret
    exact ⟨rfl, hB17.trans (hB9.mono hB17.size)⟩
end Go.Kn

namespace Go.Kn
open Go Go.Proofs Go.RowKit
theorem lawc_w (sa ta : Option Addr) (ls cs lt ct : Nat) (s : Nat → Int) (t : Nat → St5) (st ag : Int) (w : World) (hls : ls ≤ maxLen) (hlt : lt ≤ maxLen) (HS0 : NumSl w sa ls s) (HT0 : StSl w ta lt t) (K : Hid KnownOk) :
    Calls Tryz.prog 3 #[.agg #[.slice sa ls cs, .slice ta lt ct], .int .i64 st, .int .i64 ag] w
      fun e w' => e = .returned (.bool true) ∧ Below w.heap.size w w' := by
  by_cases hq : ls ≤ 13 ∧ lt ≤ 10
  case neg => exact lawc_a sa ta ls cs lt ct s t st ag w hls hlt ⟨HS0, HT0⟩ K hq
  by_cases hR : RightP ls lt s t
  case neg => exact lawc_b sa ta ls cs lt ct s t st ag w hls hlt ⟨HS0, HT0⟩ K hq hR
  cases g1 : fromB 0 ((lt : Int) - 1) st
  case false => exact lawc_c sa ta ls cs lt ct s t st ag w hls hlt ⟨HS0, HT0⟩ K hq hR g1
  cases g2 : fromB 0 200 ag
  case false => exact lawc_d sa ta ls cs lt ct s t st ag w hls hlt ⟨HS0, HT0⟩ K hq hR g1 g2
  simp only [fromB, decide_eq_true_eq] at g1 g2
  obtain ⟨n, rfl⟩ : ∃ n : Nat, st = n := ⟨st.toNat, by omega⟩
  have hn : n < lt := by omega
  obtain ⟨A, O, rfl, hA, hsp⟩ := HS0.resolve_left (by have := hR.ls1; omega)
  obtain ⟨C, P, rfl, hC, hst⟩ := HT0.resolve_left (by have := hR.lt1; omega)
  exact lawc_good A O C P ls cs lt ct n s t ag w (Lib.hid ⟨hA, hC, hR.ls1, hR.ls2, hR.lt1, hR.lt2, hsp, hst, hR.sok, hR.tok⟩) hn g2 K
end Go.Kn
