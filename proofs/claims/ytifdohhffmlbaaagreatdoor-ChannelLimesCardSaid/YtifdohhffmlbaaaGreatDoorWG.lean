/- Walks of the functions of layer 2 that ChannelTrue calls, and the law itself (a part of it). Conditions: as each theorem states them. -/
import Derived.Test.YtifdohhffmlbaaaGreatDoorWF
set_option linter.unusedVariables false
set_option linter.unusedSimpArgs false
namespace Go.Kn
open Go Go.Proofs Go.RowKit

theorem NumSl.below {w w1 : World} {sa : Option Addr} {ls : Nat} {s : Nat → Int} (h : NumSl w sa ls s) (hb : Below w.heap.size w w1) : NumSl w1 sa ls s := by
  rcases h with h | ⟨A, O, h1, h2, h3⟩
  · exact .inl h
  · exact .inr ⟨A, O, h1, Nat.lt_of_lt_of_le h2 hb.size, h3.below h2 hb⟩
theorem StSl.below {w w1 : World} {ta : Option Addr} {lt : Nat} {t : Nat → St5} (h : StSl w ta lt t) (hb : Below w.heap.size w w1) : StSl w1 ta lt t := by
  rcases h with h | ⟨A, O, h1, h2, h3⟩
  · exact .inl h
  · exact .inr ⟨A, O, h1, Nat.lt_of_lt_of_le h2 hb.size, h3.below h2 hb⟩

set_option maxRecDepth 100000 in
set_option maxHeartbeats 4000000 in
theorem law_a (sa ta : Option Addr) (ls cs lt ct : Nat) (s : Nat → Int) (t : Nat → St5) (st ag ra la : Int) (w : World) (hls : ls ≤ maxLen) (hlt : lt ≤ maxLen) (HS0 : NumSl w sa ls s) (HT0 : StSl w ta lt t) (K : Hid KnownOk)
    (hq : ¬ (ls ≤ 13 ∧ lt ≤ 10)) :
    Calls Tryz.prog 4 #[.agg #[.slice sa ls cs, .slice ta lt ct], .int .i64 st, .int .i64 ag, .int .i64 ra, .int .i64 la] w
      fun e w' => e = .returned (.bool true) ∧ Below w.heap.size w w' := by
  have BX := Lib.hid (fun (w1 : World) (hb : Below (w.alloc (.cells #[.slice sa ls cs, .slice ta lt ct] 25)).heap.size (w.alloc (.cells #[.slice sa ls cs, .slice ta lt ct] 25)) w1) => box_cells hb)
  have HS : Hid (∀ w1, Below (w.alloc (.cells #[.slice sa ls cs, .slice ta lt ct] 25)).heap.size (w.alloc (.cells #[.slice sa ls cs, .slice ta lt ct] 25)) w1 → Hid (NumSl w1 sa ls s)) := Lib.hid fun w1 h => Lib.hid (HS0.below (below_al h))
  have HT : Hid (∀ w1, Below (w.alloc (.cells #[.slice sa ls cs, .slice ta lt ct] 25)).heap.size (w.alloc (.cells #[.slice sa ls cs, .slice ta lt ct] 25)) w1 → Hid (StSl w1 ta lt t)) := Lib.hid fun w1 h => Lib.hid (HT0.below (below_al h))
  clear HS0 HT0
  have hsh : decide (ls ≤ 13 ∧ lt ≤ 10) = false := decide_eq_false hq
  go_enter Tryz.func4, Tryz.ntmps4
  go_wp2_with (first
    | (go_at_call 15; refine (short_w _ _ _ _ _ _ _ hls hlt).mono ?_; rw [hsh]; rintro e w1 ⟨rfl, hb1⟩; obtain ⟨x1, x2, x3⟩ := BX.out _ hb1)
    | (go_at_call 16; refine (K.out _).mono ?_; rintro e w11 ⟨rfl, hb11⟩))
  go_ret
  exact ⟨rfl, below_al (hb1.trans (hb11.mono hb1.size))⟩

set_option maxRecDepth 100000 in
set_option maxHeartbeats 4000000 in
theorem law_b (sa ta : Option Addr) (ls cs lt ct : Nat) (s : Nat → Int) (t : Nat → St5) (st ag ra la : Int) (w : World) (hls : ls ≤ maxLen) (hlt : lt ≤ maxLen) (HS0 : NumSl w sa ls s) (HT0 : StSl w ta lt t) (K : Hid KnownOk)
    (hq : ls ≤ 13 ∧ lt ≤ 10) (hR : ¬ RightP ls lt s t) :
    Calls Tryz.prog 4 #[.agg #[.slice sa ls cs, .slice ta lt ct], .int .i64 st, .int .i64 ag, .int .i64 ra, .int .i64 la] w
      fun e w' => e = .returned (.bool true) ∧ Below w.heap.size w w' := by
  have BX := Lib.hid (fun (w1 : World) (hb : Below (w.alloc (.cells #[.slice sa ls cs, .slice ta lt ct] 25)).heap.size (w.alloc (.cells #[.slice sa ls cs, .slice ta lt ct] 25)) w1) => box_cells hb)
  have HS : Hid (∀ w1, Below (w.alloc (.cells #[.slice sa ls cs, .slice ta lt ct] 25)).heap.size (w.alloc (.cells #[.slice sa ls cs, .slice ta lt ct] 25)) w1 → Hid (NumSl w1 sa ls s)) := Lib.hid fun w1 h => Lib.hid (HS0.below (below_al h))
  have HT : Hid (∀ w1, Below (w.alloc (.cells #[.slice sa ls cs, .slice ta lt ct] 25)).heap.size (w.alloc (.cells #[.slice sa ls cs, .slice ta lt ct] 25)) w1 → Hid (StSl w1 ta lt t)) := Lib.hid fun w1 h => Lib.hid (HT0.below (below_al h))
  clear HS0 HT0
  have hsh : decide (ls ≤ 13 ∧ lt ≤ 10) = true := decide_eq_true hq
  obtain ⟨hq1, hq2⟩ := hq
  have HR := Lib.hid hR
  clear hR
  go_enter Tryz.func4, Tryz.ntmps4
  go_wp2_with (first
    | (go_at_call 15; refine (short_w _ _ _ _ _ _ _ hls hlt).mono ?_; rw [hsh]; rintro e w1 ⟨rfl, hb1⟩; obtain ⟨x1, x2, x3⟩ := BX.out _ hb1)
    | (go_at_call 19; refine (right_w _ _ _ _ _ _ s t _ (by omega) (by omega) (HS.out _ hb1) (HT.out _ hb1)).mono ?_; rintro e w2 ⟨⟨rb, rfl, hrb⟩, hb2⟩; obtain rfl : rb = false := (by cases rb <;> first | rfl | exact (HR.out (hrb.1 rfl)).elim); clear hrb; have hb12 := hb1.trans (hb2.mono hb1.size); clear x1 x2 x3; obtain ⟨x1, x2, x3⟩ := BX.out _ hb12)
    | (go_at_call 16; refine (K.out _).mono ?_; rintro e w11 ⟨rfl, hb11⟩))
  go_ret
  exact ⟨rfl, below_al (hb12.trans (hb11.mono hb12.size))⟩

set_option maxRecDepth 100000 in
set_option maxHeartbeats 4000000 in
theorem law_c (sa ta : Option Addr) (ls cs lt ct : Nat) (s : Nat → Int) (t : Nat → St5) (st ag ra la : Int) (w : World) (hls : ls ≤ maxLen) (hlt : lt ≤ maxLen) (HS0 : NumSl w sa ls s) (HT0 : StSl w ta lt t) (K : Hid KnownOk)
    (hq : ls ≤ 13 ∧ lt ≤ 10) (hR : RightP ls lt s t) (g1 : fromB 0 ((lt : Int) - 1) st = false) :
    Calls Tryz.prog 4 #[.agg #[.slice sa ls cs, .slice ta lt ct], .int .i64 st, .int .i64 ag, .int .i64 ra, .int .i64 la] w
      fun e w' => e = .returned (.bool true) ∧ Below w.heap.size w w' := by
  have BX := Lib.hid (fun (w1 : World) (hb : Below (w.alloc (.cells #[.slice sa ls cs, .slice ta lt ct] 25)).heap.size (w.alloc (.cells #[.slice sa ls cs, .slice ta lt ct] 25)) w1) => box_cells hb)
  have HS : Hid (∀ w1, Below (w.alloc (.cells #[.slice sa ls cs, .slice ta lt ct] 25)).heap.size (w.alloc (.cells #[.slice sa ls cs, .slice ta lt ct] 25)) w1 → Hid (NumSl w1 sa ls s)) := Lib.hid fun w1 h => Lib.hid (HS0.below (below_al h))
  have HT : Hid (∀ w1, Below (w.alloc (.cells #[.slice sa ls cs, .slice ta lt ct] 25)).heap.size (w.alloc (.cells #[.slice sa ls cs, .slice ta lt ct] 25)) w1 → Hid (StSl w1 ta lt t)) := Lib.hid fun w1 h => Lib.hid (HT0.below (below_al h))
  clear HS0 HT0
  have hsh : decide (ls ≤ 13 ∧ lt ≤ 10) = true := decide_eq_true hq
  obtain ⟨hq1, hq2⟩ := hq
  have HR := Lib.hid hR
  clear hR
  go_enter Tryz.func4, Tryz.ntmps4
  go_wp2_with (first
    | (go_at_call 15; refine (short_w _ _ _ _ _ _ _ hls hlt).mono ?_; rw [hsh]; rintro e w1 ⟨rfl, hb1⟩; obtain ⟨x1, x2, x3⟩ := BX.out _ hb1)
    | (go_at_call 19; refine (right_w _ _ _ _ _ _ s t _ (by omega) (by omega) (HS.out _ hb1) (HT.out _ hb1)).mono ?_; rintro e w2 ⟨⟨rb, rfl, hrb⟩, hb2⟩; obtain rfl : rb = true := hrb.2 HR.out; clear hrb; have hb12 := hb1.trans (hb2.mono hb1.size); clear x1 x2 x3; obtain ⟨x1, x2, x3⟩ := BX.out _ hb12)
    | (go_at_call 20; refine (number_w _ undef _ _ _ _ _ hlt).mono ?_; rintro e w3 ⟨rfl, hb3⟩; have hb13 := hb12.trans (hb3.mono hb12.size); clear x1 x2 x3; obtain ⟨x1, x2, x3⟩ := BX.out _ hb13)
    | (go_at_call 16; refine (K.out _).mono ?_; rintro e w11 ⟨rfl, hb11⟩))
  go_ret
  exact ⟨rfl, below_al (hb13.trans (hb11.mono hb13.size))⟩

set_option maxRecDepth 100000 in
set_option maxHeartbeats 4000000 in
theorem law_d (sa ta : Option Addr) (ls cs lt ct : Nat) (s : Nat → Int) (t : Nat → St5) (st ag ra la : Int) (w : World) (hls : ls ≤ maxLen) (hlt : lt ≤ maxLen) (HS0 : NumSl w sa ls s) (HT0 : StSl w ta lt t) (K : Hid KnownOk)
    (hq : ls ≤ 13 ∧ lt ≤ 10) (hR : RightP ls lt s t) (g1 : fromB 0 ((lt : Int) - 1) st = true) (g2 : fromB 0 200 ag = false) :
    Calls Tryz.prog 4 #[.agg #[.slice sa ls cs, .slice ta lt ct], .int .i64 st, .int .i64 ag, .int .i64 ra, .int .i64 la] w
      fun e w' => e = .returned (.bool true) ∧ Below w.heap.size w w' := by
  have BX := Lib.hid (fun (w1 : World) (hb : Below (w.alloc (.cells #[.slice sa ls cs, .slice ta lt ct] 25)).heap.size (w.alloc (.cells #[.slice sa ls cs, .slice ta lt ct] 25)) w1) => box_cells hb)
  have HS : Hid (∀ w1, Below (w.alloc (.cells #[.slice sa ls cs, .slice ta lt ct] 25)).heap.size (w.alloc (.cells #[.slice sa ls cs, .slice ta lt ct] 25)) w1 → Hid (NumSl w1 sa ls s)) := Lib.hid fun w1 h => Lib.hid (HS0.below (below_al h))
  have HT : Hid (∀ w1, Below (w.alloc (.cells #[.slice sa ls cs, .slice ta lt ct] 25)).heap.size (w.alloc (.cells #[.slice sa ls cs, .slice ta lt ct] 25)) w1 → Hid (StSl w1 ta lt t)) := Lib.hid fun w1 h => Lib.hid (HT0.below (below_al h))
  clear HS0 HT0
  have hsh : decide (ls ≤ 13 ∧ lt ≤ 10) = true := decide_eq_true hq
  obtain ⟨hq1, hq2⟩ := hq
  have HR := Lib.hid hR
  clear hR
  go_enter Tryz.func4, Tryz.ntmps4
  go_wp2_with (first
    | (go_at_call 15; refine (short_w _ _ _ _ _ _ _ hls hlt).mono ?_; rw [hsh]; rintro e w1 ⟨rfl, hb1⟩; obtain ⟨x1, x2, x3⟩ := BX.out _ hb1)
    | (go_at_call 19; refine (right_w _ _ _ _ _ _ s t _ (by omega) (by omega) (HS.out _ hb1) (HT.out _ hb1)).mono ?_; rintro e w2 ⟨⟨rb, rfl, hrb⟩, hb2⟩; obtain rfl : rb = true := hrb.2 HR.out; clear hrb; have hb12 := hb1.trans (hb2.mono hb1.size); clear x1 x2 x3; obtain ⟨x1, x2, x3⟩ := BX.out _ hb12)
    | (go_at_call 20; refine (number_w _ undef _ _ _ _ _ hlt).mono ?_; rintro e w3 ⟨rfl, hb3⟩; have hb13 := hb12.trans (hb3.mono hb12.size); clear x1 x2 x3; obtain ⟨x1, x2, x3⟩ := BX.out _ hb13)
    | (go_at_call 21; refine (age_w _ _).mono ?_; rintro e w' ⟨rfl, rfl⟩)
    | (go_at_call 16; refine (K.out _).mono ?_; rintro e w11 ⟨rfl, hb11⟩))
  go_ret
  exact ⟨rfl, below_al (hb13.trans (hb11.mono hb13.size))⟩

set_option maxRecDepth 100000 in
set_option maxHeartbeats 4000000 in
theorem law_e (sa ta : Option Addr) (ls cs lt ct : Nat) (s : Nat → Int) (t : Nat → St5) (st ag ra la : Int) (w : World) (hls : ls ≤ maxLen) (hlt : lt ≤ maxLen) (HS0 : NumSl w sa ls s) (HT0 : StSl w ta lt t) (K : Hid KnownOk)
    (hq : ls ≤ 13 ∧ lt ≤ 10) (hR : RightP ls lt s t) (g1 : fromB 0 ((lt : Int) - 1) st = true) (g2 : fromB 0 200 ag = true) (g3 : fromB 0 200 la = false) :
    Calls Tryz.prog 4 #[.agg #[.slice sa ls cs, .slice ta lt ct], .int .i64 st, .int .i64 ag, .int .i64 ra, .int .i64 la] w
      fun e w' => e = .returned (.bool true) ∧ Below w.heap.size w w' := by
  have BX := Lib.hid (fun (w1 : World) (hb : Below (w.alloc (.cells #[.slice sa ls cs, .slice ta lt ct] 25)).heap.size (w.alloc (.cells #[.slice sa ls cs, .slice ta lt ct] 25)) w1) => box_cells hb)
  have HS : Hid (∀ w1, Below (w.alloc (.cells #[.slice sa ls cs, .slice ta lt ct] 25)).heap.size (w.alloc (.cells #[.slice sa ls cs, .slice ta lt ct] 25)) w1 → Hid (NumSl w1 sa ls s)) := Lib.hid fun w1 h => Lib.hid (HS0.below (below_al h))
  have HT : Hid (∀ w1, Below (w.alloc (.cells #[.slice sa ls cs, .slice ta lt ct] 25)).heap.size (w.alloc (.cells #[.slice sa ls cs, .slice ta lt ct] 25)) w1 → Hid (StSl w1 ta lt t)) := Lib.hid fun w1 h => Lib.hid (HT0.below (below_al h))
  clear HS0 HT0
  have hsh : decide (ls ≤ 13 ∧ lt ≤ 10) = true := decide_eq_true hq
  obtain ⟨hq1, hq2⟩ := hq
  have HR := Lib.hid hR
  clear hR
  go_enter Tryz.func4, Tryz.ntmps4
  go_wp2_with (first
    | (go_at_call 15; refine (short_w _ _ _ _ _ _ _ hls hlt).mono ?_; rw [hsh]; rintro e w1 ⟨rfl, hb1⟩; obtain ⟨x1, x2, x3⟩ := BX.out _ hb1)
    | (go_at_call 19; refine (right_w _ _ _ _ _ _ s t _ (by omega) (by omega) (HS.out _ hb1) (HT.out _ hb1)).mono ?_; rintro e w2 ⟨⟨rb, rfl, hrb⟩, hb2⟩; obtain rfl : rb = true := hrb.2 HR.out; clear hrb; have hb12 := hb1.trans (hb2.mono hb1.size); clear x1 x2 x3; obtain ⟨x1, x2, x3⟩ := BX.out _ hb12)
    | (go_at_call 20; refine (number_w _ undef _ _ _ _ _ hlt).mono ?_; rintro e w3 ⟨rfl, hb3⟩; have hb13 := hb12.trans (hb3.mono hb12.size); clear x1 x2 x3; obtain ⟨x1, x2, x3⟩ := BX.out _ hb13)
    | (go_at_call 21; refine (age_w _ _).mono ?_; rintro e w' ⟨rfl, rfl⟩)
    | (go_at_call 16; refine (K.out _).mono ?_; rintro e w11 ⟨rfl, hb11⟩))
  go_ret
  exact ⟨rfl, below_al (hb13.trans (hb11.mono hb13.size))⟩

set_option maxRecDepth 100000 in
set_option maxHeartbeats 4000000 in
theorem law_f (sa ta : Option Addr) (ls cs lt ct : Nat) (s : Nat → Int) (t : Nat → St5) (st ag ra la : Int) (w : World) (hls : ls ≤ maxLen) (hlt : lt ≤ maxLen) (HS0 : NumSl w sa ls s) (HT0 : StSl w ta lt t) (K : Hid KnownOk)
    (hq : ls ≤ 13 ∧ lt ≤ 10) (hR : RightP ls lt s t) (g1 : fromB 0 ((lt : Int) - 1) st = true) (g2 : fromB 0 200 ag = true) (g3 : fromB 0 200 la = true) (g4 : la < ag) :
    Calls Tryz.prog 4 #[.agg #[.slice sa ls cs, .slice ta lt ct], .int .i64 st, .int .i64 ag, .int .i64 ra, .int .i64 la] w
      fun e w' => e = .returned (.bool true) ∧ Below w.heap.size w w' := by
  have BX := Lib.hid (fun (w1 : World) (hb : Below (w.alloc (.cells #[.slice sa ls cs, .slice ta lt ct] 25)).heap.size (w.alloc (.cells #[.slice sa ls cs, .slice ta lt ct] 25)) w1) => box_cells hb)
  have HS : Hid (∀ w1, Below (w.alloc (.cells #[.slice sa ls cs, .slice ta lt ct] 25)).heap.size (w.alloc (.cells #[.slice sa ls cs, .slice ta lt ct] 25)) w1 → Hid (NumSl w1 sa ls s)) := Lib.hid fun w1 h => Lib.hid (HS0.below (below_al h))
  have HT : Hid (∀ w1, Below (w.alloc (.cells #[.slice sa ls cs, .slice ta lt ct] 25)).heap.size (w.alloc (.cells #[.slice sa ls cs, .slice ta lt ct] 25)) w1 → Hid (StSl w1 ta lt t)) := Lib.hid fun w1 h => Lib.hid (HT0.below (below_al h))
  clear HS0 HT0
  have hsh : decide (ls ≤ 13 ∧ lt ≤ 10) = true := decide_eq_true hq
  obtain ⟨hq1, hq2⟩ := hq
  have HR := Lib.hid hR
  clear hR
  go_enter Tryz.func4, Tryz.ntmps4
  go_wp2_with (first
    | (go_at_call 15; refine (short_w _ _ _ _ _ _ _ hls hlt).mono ?_; rw [hsh]; rintro e w1 ⟨rfl, hb1⟩; obtain ⟨x1, x2, x3⟩ := BX.out _ hb1)
    | (go_at_call 19; refine (right_w _ _ _ _ _ _ s t _ (by omega) (by omega) (HS.out _ hb1) (HT.out _ hb1)).mono ?_; rintro e w2 ⟨⟨rb, rfl, hrb⟩, hb2⟩; obtain rfl : rb = true := hrb.2 HR.out; clear hrb; have hb12 := hb1.trans (hb2.mono hb1.size); clear x1 x2 x3; obtain ⟨x1, x2, x3⟩ := BX.out _ hb12)
    | (go_at_call 20; refine (number_w _ undef _ _ _ _ _ hlt).mono ?_; rintro e w3 ⟨rfl, hb3⟩; have hb13 := hb12.trans (hb3.mono hb12.size); clear x1 x2 x3; obtain ⟨x1, x2, x3⟩ := BX.out _ hb13)
    | (go_at_call 21; refine (age_w _ _).mono ?_; rintro e w' ⟨rfl, rfl⟩)
    | (go_at_call 16; refine (K.out _).mono ?_; rintro e w11 ⟨rfl, hb11⟩))
  go_ret
  exact ⟨rfl, below_al (hb13.trans (hb11.mono hb13.size))⟩
end Go.Kn
