/- Walks of the functions of layer 2 that ChannelCarries calls, and the law itself (a part of it). Conditions: as each theorem states them. -/
import Derived.Test.YtifdohhffmlbaaaGreatDoorX4
set_option linter.unusedVariables false
set_option linter.unusedSimpArgs false
namespace Go.Kn
open Go Go.Proofs Go.RowKit

theorem check_good {sa ta : Option Addr} {ls cs lt ct : Nat} {s : Nat → Int} {t : Nat → St5} {w : World} (hls : ls ≤ 1000000) (hlt : lt ≤ 1000000) (H : Hid (AnyLine w sa ta ls lt s t)) (hR : RightP ls lt s t) :
    Calls Tryz.prog 17 #[.agg #[.slice sa ls cs, .slice ta lt ct]] w fun e w' => e = .returned (.int .i64 0) ∧ Below w.heap.size w w' :=
  (check_w sa ta ls cs lt ct s t w hls hlt H).mono (by
    rintro e w' ⟨⟨rb, rfl, hrb⟩, hb⟩
    obtain rfl : rb = true := hrb.2 hR
    exact ⟨rfl, hb⟩)
theorem check_bad {sa ta : Option Addr} {ls cs lt ct : Nat} {s : Nat → Int} {t : Nat → St5} {w : World} (hls : ls ≤ 1000000) (hlt : lt ≤ 1000000) (H : Hid (AnyLine w sa ta ls lt s t)) (hR : ¬ RightP ls lt s t) :
    Calls Tryz.prog 17 #[.agg #[.slice sa ls cs, .slice ta lt ct]] w fun e w' => e = .returned (.int .i64 2) ∧ Below w.heap.size w w' :=
  (check_w sa ta ls cs lt ct s t w hls hlt H).mono (by
    rintro e w' ⟨⟨rb, rfl, hrb⟩, hb⟩
    obtain rfl : rb = false := by cases rb <;> first | rfl | exact (hR (hrb.1 rfl)).elim
    exact ⟨rfl, hb⟩)

set_option maxRecDepth 100000 in
set_option maxHeartbeats 4000000 in
theorem lawc_a (sa ta : Option Addr) (ls cs lt ct : Nat) (s : Nat → Int) (t : Nat → St5) (st ag : Int) (w : World) (hls : ls ≤ maxLen) (hlt : lt ≤ maxLen) (H0 : AnyLine w sa ta ls lt s t) (K : Hid KnownOk)
    (hq : ¬ (ls ≤ 13 ∧ lt ≤ 10)) :
    Calls Tryz.prog 3 #[.agg #[.slice sa ls cs, .slice ta lt ct], .int .i64 st, .int .i64 ag] w
      fun e w' => e = .returned (.bool true) ∧ Below w.heap.size w w' := by
  have BX := Lib.hid (fun (w1 : World) (hb : Below (w.alloc (.cells #[.slice sa ls cs, .slice ta lt ct] 25)).heap.size (w.alloc (.cells #[.slice sa ls cs, .slice ta lt ct] 25)) w1) => box_cells hb)
  have HN : Hid (∀ w1, Below (w.alloc (.cells #[.slice sa ls cs, .slice ta lt ct] 25)).heap.size (w.alloc (.cells #[.slice sa ls cs, .slice ta lt ct] 25)) w1 → Hid (AnyLine w1 sa ta ls lt s t)) := Lib.hid fun w1 h => Lib.hid (H0.below (below_al h))
  clear H0
  have hsh : decide (ls ≤ 13 ∧ lt ≤ 10) = false := decide_eq_false hq
  go_enter Tryz.func3, Tryz.ntmps3
  go_wp2_with (first
    | (go_at_call 15; refine (short_w _ _ _ _ _ _ _ hls hlt).mono ?_; rw [hsh]; rintro e w1 ⟨rfl, hb1⟩; obtain ⟨x1, x2, x3⟩ := BX.out _ hb1)
    | (go_at_call 16; refine (K.out _).mono ?_; rintro e w11 ⟨rfl, hb11⟩))
  go_ret
  exact ⟨rfl, below_al (hb1.trans (hb11.mono hb1.size))⟩

set_option maxRecDepth 100000 in
set_option maxHeartbeats 4000000 in
theorem lawc_b (sa ta : Option Addr) (ls cs lt ct : Nat) (s : Nat → Int) (t : Nat → St5) (st ag : Int) (w : World) (hls : ls ≤ maxLen) (hlt : lt ≤ maxLen) (H0 : AnyLine w sa ta ls lt s t) (K : Hid KnownOk)
    (hq : ls ≤ 13 ∧ lt ≤ 10) (hR : ¬ RightP ls lt s t) :
    Calls Tryz.prog 3 #[.agg #[.slice sa ls cs, .slice ta lt ct], .int .i64 st, .int .i64 ag] w
      fun e w' => e = .returned (.bool true) ∧ Below w.heap.size w w' := by
  have BX := Lib.hid (fun (w1 : World) (hb : Below (w.alloc (.cells #[.slice sa ls cs, .slice ta lt ct] 25)).heap.size (w.alloc (.cells #[.slice sa ls cs, .slice ta lt ct] 25)) w1) => box_cells hb)
  have HN : Hid (∀ w1, Below (w.alloc (.cells #[.slice sa ls cs, .slice ta lt ct] 25)).heap.size (w.alloc (.cells #[.slice sa ls cs, .slice ta lt ct] 25)) w1 → Hid (AnyLine w1 sa ta ls lt s t)) := Lib.hid fun w1 h => Lib.hid (H0.below (below_al h))
  clear H0
  have hsh : decide (ls ≤ 13 ∧ lt ≤ 10) = true := decide_eq_true hq
  obtain ⟨hq1, hq2⟩ := hq
  have HR := Lib.hid hR
  clear hR
  go_enter Tryz.func3, Tryz.ntmps3
  go_wp2_with (first
    | (go_at_call 15; refine (short_w _ _ _ _ _ _ _ hls hlt).mono ?_; rw [hsh]; rintro e w1 ⟨rfl, hb1⟩; obtain ⟨x1, x2, x3⟩ := BX.out _ hb1)
    | (go_at_call 17; refine (check_bad (by omega) (by omega) (HN.out _ hb1) HR.out).mono ?_; rintro e w2 ⟨rfl, hb2⟩; have hb12 := hb1.trans (hb2.mono hb1.size); clear x1 x2 x3; obtain ⟨x1, x2, x3⟩ := BX.out _ hb12)
    | (go_at_call 18; refine (pcarries_a _ _ _ _ _ _ s t _ _ _ (by omega) (by omega) (HN.out _ hb12) HR.out).mono ?_; rintro e w3 ⟨rfl, hb3⟩; have hb13 := hb12.trans (hb3.mono hb12.size); have hb14 := hb13.alloc hb13.size (.cells #[.int .i64 0, .int .i64 0] 31); clear x1 x2 x3; obtain ⟨x1, x2, x3⟩ := BX.out _ hb13)
    | (go_at_call 19; refine (right_w _ _ _ _ _ _ s t _ (by omega) (by omega) (Lib.hid (HN.out _ hb15).out.hs) (Lib.hid (HN.out _ hb15).out.ht)).mono ?_; rintro e w6 ⟨⟨rb, rfl, hrb⟩, hb6⟩; obtain rfl : rb = false := (by cases rb <;> first | rfl | exact (HR.out (hrb.1 rfl)).elim); clear hrb; have hb16 := hb15.trans (hb6.mono hb15.size); have hy6 := hb5.trans (hb6.mono hb5.size); clear x1 x2 x3; obtain ⟨x1, x2, x3⟩ := BX.out _ hb16; clear y1 y2 y3; obtain ⟨y1, y2, y3⟩ := box_cells hy6)
    | (go_at_call 19; refine (right_w _ _ _ _ _ _ s t _ (by omega) (by omega) (Lib.hid (HN.out _ hb14).out.hs) (Lib.hid (HN.out _ hb14).out.ht)).mono ?_; rintro e w5 ⟨⟨rb, rfl, hrb⟩, hb5⟩; obtain rfl : rb = false := (by cases rb <;> first | rfl | exact (HR.out (hrb.1 rfl)).elim); clear hrb; have hb15 := hb14.trans (hb5.mono hb14.size); clear x1 x2 x3; obtain ⟨x1, x2, x3⟩ := BX.out _ hb15; obtain ⟨y1, y2, y3⟩ := box_cells hb5)
    | (go_at_call 16; refine (K.out _).mono ?_; rintro e w11 ⟨rfl, hb11⟩))
  go_ret
  exact ⟨rfl, below_al (hb16.trans (hb11.mono hb16.size))⟩

set_option maxRecDepth 100000 in
set_option maxHeartbeats 4000000 in
theorem lawc_c (sa ta : Option Addr) (ls cs lt ct : Nat) (s : Nat → Int) (t : Nat → St5) (st ag : Int) (w : World) (hls : ls ≤ maxLen) (hlt : lt ≤ maxLen) (H0 : AnyLine w sa ta ls lt s t) (K : Hid KnownOk)
    (hq : ls ≤ 13 ∧ lt ≤ 10) (hR : RightP ls lt s t) (g1 : fromB 0 ((lt : Int) - 1) st = false) :
    Calls Tryz.prog 3 #[.agg #[.slice sa ls cs, .slice ta lt ct], .int .i64 st, .int .i64 ag] w
      fun e w' => e = .returned (.bool true) ∧ Below w.heap.size w w' := by
  have BX := Lib.hid (fun (w1 : World) (hb : Below (w.alloc (.cells #[.slice sa ls cs, .slice ta lt ct] 25)).heap.size (w.alloc (.cells #[.slice sa ls cs, .slice ta lt ct] 25)) w1) => box_cells hb)
  have HN : Hid (∀ w1, Below (w.alloc (.cells #[.slice sa ls cs, .slice ta lt ct] 25)).heap.size (w.alloc (.cells #[.slice sa ls cs, .slice ta lt ct] 25)) w1 → Hid (AnyLine w1 sa ta ls lt s t)) := Lib.hid fun w1 h => Lib.hid (H0.below (below_al h))
  clear H0
  have hsh : decide (ls ≤ 13 ∧ lt ≤ 10) = true := decide_eq_true hq
  obtain ⟨hq1, hq2⟩ := hq
  have HR := Lib.hid hR
  clear hR
  go_enter Tryz.func3, Tryz.ntmps3
  go_wp2_with (first
    | (go_at_call 15; refine (short_w _ _ _ _ _ _ _ hls hlt).mono ?_; rw [hsh]; rintro e w1 ⟨rfl, hb1⟩; obtain ⟨x1, x2, x3⟩ := BX.out _ hb1)
    | (go_at_call 17; refine (check_good (by omega) (by omega) (HN.out _ hb1) HR.out).mono ?_; rintro e w2 ⟨rfl, hb2⟩; have hb12 := hb1.trans (hb2.mono hb1.size); clear x1 x2 x3; obtain ⟨x1, x2, x3⟩ := BX.out _ hb12)
    | (go_at_call 18; refine (pcarries_b _ _ _ _ _ _ s t _ _ _ (by omega) (by omega) (HN.out _ hb12) HR.out g1).mono ?_; rintro e w3 ⟨rfl, hb3⟩; have hb13 := hb12.trans (hb3.mono hb12.size); have hb14 := hb13.alloc hb13.size (.cells #[.int .i64 0, .int .i64 0] 31); clear x1 x2 x3; obtain ⟨x1, x2, x3⟩ := BX.out _ hb13)
    | (go_at_call 19; refine (right_w _ _ _ _ _ _ s t _ (by omega) (by omega) (Lib.hid (HN.out _ hb15).out.hs) (Lib.hid (HN.out _ hb15).out.ht)).mono ?_; rintro e w6 ⟨⟨rb, rfl, hrb⟩, hb6⟩; obtain rfl : rb = true := hrb.2 HR.out; clear hrb; have hb16 := hb15.trans (hb6.mono hb15.size); have hy6 := hb5.trans (hb6.mono hb5.size); clear x1 x2 x3; obtain ⟨x1, x2, x3⟩ := BX.out _ hb16; clear y1 y2 y3; obtain ⟨y1, y2, y3⟩ := box_cells hy6)
    | (go_at_call 19; refine (right_w _ _ _ _ _ _ s t _ (by omega) (by omega) (Lib.hid (HN.out _ hb14).out.hs) (Lib.hid (HN.out _ hb14).out.ht)).mono ?_; rintro e w5 ⟨⟨rb, rfl, hrb⟩, hb5⟩; obtain rfl : rb = true := hrb.2 HR.out; clear hrb; have hb15 := hb14.trans (hb5.mono hb14.size); clear x1 x2 x3; obtain ⟨x1, x2, x3⟩ := BX.out _ hb15; obtain ⟨y1, y2, y3⟩ := box_cells hb5)
    | (go_at_call 20; refine (number_w _ undef _ _ _ _ _ hlt).mono ?_; rintro e w7 ⟨rfl, hb7⟩; have hb17 := hb16.trans (hb7.mono hb16.size); have hy7 := hy6.trans (hb7.mono hy6.size); clear x1 x2 x3; obtain ⟨x1, x2, x3⟩ := BX.out _ hb17; clear y1 y2 y3; obtain ⟨y1, y2, y3⟩ := box_cells hy7)
    | (go_at_call 21; refine (age_w _ _).mono ?_; rintro e w' ⟨rfl, rfl⟩)
    | (go_at_call 16; refine (K.out _).mono ?_; rintro e w11 ⟨rfl, hb11⟩))
  go_ret
  exact ⟨rfl, below_al (hb17.trans (hb11.mono hb17.size))⟩

set_option maxRecDepth 100000 in
set_option maxHeartbeats 4000000 in
theorem lawc_d (sa ta : Option Addr) (ls cs lt ct : Nat) (s : Nat → Int) (t : Nat → St5) (st ag : Int) (w : World) (hls : ls ≤ maxLen) (hlt : lt ≤ maxLen) (H0 : AnyLine w sa ta ls lt s t) (K : Hid KnownOk)
    (hq : ls ≤ 13 ∧ lt ≤ 10) (hR : RightP ls lt s t) (g1 : fromB 0 ((lt : Int) - 1) st = true) (g2 : fromB 0 200 ag = false) :
    Calls Tryz.prog 3 #[.agg #[.slice sa ls cs, .slice ta lt ct], .int .i64 st, .int .i64 ag] w
      fun e w' => e = .returned (.bool true) ∧ Below w.heap.size w w' := by
  have BX := Lib.hid (fun (w1 : World) (hb : Below (w.alloc (.cells #[.slice sa ls cs, .slice ta lt ct] 25)).heap.size (w.alloc (.cells #[.slice sa ls cs, .slice ta lt ct] 25)) w1) => box_cells hb)
  have HN : Hid (∀ w1, Below (w.alloc (.cells #[.slice sa ls cs, .slice ta lt ct] 25)).heap.size (w.alloc (.cells #[.slice sa ls cs, .slice ta lt ct] 25)) w1 → Hid (AnyLine w1 sa ta ls lt s t)) := Lib.hid fun w1 h => Lib.hid (H0.below (below_al h))
  clear H0
  have hsh : decide (ls ≤ 13 ∧ lt ≤ 10) = true := decide_eq_true hq
  obtain ⟨hq1, hq2⟩ := hq
  have HR := Lib.hid hR
  clear hR
  go_enter Tryz.func3, Tryz.ntmps3
  go_wp2_with (first
    | (go_at_call 15; refine (short_w _ _ _ _ _ _ _ hls hlt).mono ?_; rw [hsh]; rintro e w1 ⟨rfl, hb1⟩; obtain ⟨x1, x2, x3⟩ := BX.out _ hb1)
    | (go_at_call 17; refine (check_good (by omega) (by omega) (HN.out _ hb1) HR.out).mono ?_; rintro e w2 ⟨rfl, hb2⟩; have hb12 := hb1.trans (hb2.mono hb1.size); clear x1 x2 x3; obtain ⟨x1, x2, x3⟩ := BX.out _ hb12)
    | (go_at_call 18; refine (pcarries_c _ _ _ _ _ _ s t _ _ _ (by omega) (by omega) (HN.out _ hb12) HR.out g1 g2).mono ?_; rintro e w3 ⟨rfl, hb3⟩; have hb13 := hb12.trans (hb3.mono hb12.size); have hb14 := hb13.alloc hb13.size (.cells #[.int .i64 0, .int .i64 0] 31); clear x1 x2 x3; obtain ⟨x1, x2, x3⟩ := BX.out _ hb13)
    | (go_at_call 19; refine (right_w _ _ _ _ _ _ s t _ (by omega) (by omega) (Lib.hid (HN.out _ hb15).out.hs) (Lib.hid (HN.out _ hb15).out.ht)).mono ?_; rintro e w6 ⟨⟨rb, rfl, hrb⟩, hb6⟩; obtain rfl : rb = true := hrb.2 HR.out; clear hrb; have hb16 := hb15.trans (hb6.mono hb15.size); have hy6 := hb5.trans (hb6.mono hb5.size); clear x1 x2 x3; obtain ⟨x1, x2, x3⟩ := BX.out _ hb16; clear y1 y2 y3; obtain ⟨y1, y2, y3⟩ := box_cells hy6)
    | (go_at_call 19; refine (right_w _ _ _ _ _ _ s t _ (by omega) (by omega) (Lib.hid (HN.out _ hb14).out.hs) (Lib.hid (HN.out _ hb14).out.ht)).mono ?_; rintro e w5 ⟨⟨rb, rfl, hrb⟩, hb5⟩; obtain rfl : rb = true := hrb.2 HR.out; clear hrb; have hb15 := hb14.trans (hb5.mono hb14.size); clear x1 x2 x3; obtain ⟨x1, x2, x3⟩ := BX.out _ hb15; obtain ⟨y1, y2, y3⟩ := box_cells hb5)
    | (go_at_call 20; refine (number_w _ undef _ _ _ _ _ hlt).mono ?_; rintro e w7 ⟨rfl, hb7⟩; have hb17 := hb16.trans (hb7.mono hb16.size); have hy7 := hy6.trans (hb7.mono hy6.size); clear x1 x2 x3; obtain ⟨x1, x2, x3⟩ := BX.out _ hb17; clear y1 y2 y3; obtain ⟨y1, y2, y3⟩ := box_cells hy7)
    | (go_at_call 21; refine (age_w _ _).mono ?_; rintro e w' ⟨rfl, rfl⟩)
    | (go_at_call 16; refine (K.out _).mono ?_; rintro e w11 ⟨rfl, hb11⟩))
  go_ret
  exact ⟨rfl, below_al (hb17.trans (hb11.mono hb17.size))⟩
end Go.Kn
