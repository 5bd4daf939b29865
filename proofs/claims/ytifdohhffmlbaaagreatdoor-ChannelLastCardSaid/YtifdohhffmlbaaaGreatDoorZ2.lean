/- Walks of the functions of layer 2 that ChannelLast calls, and the law itself (a part of it). Conditions: as each theorem states them. -/
import Derived.Test.YtifdohhffmlbaaaGreatDoorZ1
set_option linter.unusedVariables false
set_option linter.unusedSimpArgs false
namespace Go.Kn
open Go Go.Proofs Go.RowKit

theorem great_exists (s : Nat → Int) (x : St5) (nd : Int) : ∃ a b, Great s x nd a b := by
  have key : ∀ k : Nat, k ≤ 201 → (∃ a, 0 ≤ a ∧ a ≤ 200 ∧ nd ≤ cupsL s x a x.hi ∧ ∀ a', a < a' → a' ≤ 200 → cupsL s x a' x.hi < nd) ∨ (∀ a' : Int, 200 - (k : Int) < a' → a' ≤ 200 → cupsL s x a' x.hi < nd) := by
    intro k
    induction k with
    | zero => intro _; exact .inr (fun a' h1 h2 => by omega)
    | succ k ih =>
      intro hk
      rcases ih (by omega) with h | h
      · exact .inl h
      · by_cases hv : nd ≤ cupsL s x (200 - (k : Int)) x.hi
        · exact .inl ⟨200 - (k : Int), by omega, by omega, hv, h⟩
        · refine .inr (fun a' h1 h2 => ?_)
          by_cases e : a' = 200 - (k : Int)
          · rw [e]; omega
          · exact h a' (by omega) h2
  rcases key 201 (by omega) with ⟨a, h1, h2, h3, h4⟩ | h
  · exact ⟨a, true, .inl ⟨rfl, h1, h2, h3, h4⟩⟩
  · exact ⟨0, false, .inr ⟨rfl, rfl, fun a' h1 h2 => h a' (by omega) h2⟩⟩

theorem great_same {s : Nat → Int} {x : St5} {nd a a2 : Int} {b b2 : Bool} (h : Great s x nd a b) (h2 : Great s x nd a2 b2) : a2 = a ∧ b2 = b := by
  rcases h with ⟨rfl, p1, p2, p3, p4⟩ | ⟨rfl, rfl, p1⟩ <;> rcases h2 with ⟨rfl, q1, q2, q3, q4⟩ | ⟨rfl, rfl, q1⟩
  · refine ⟨?_, rfl⟩
    rcases Int.lt_trichotomy a2 a with h | h | h
    · have := q4 a h p2; omega
    · exact h
    · have := p4 a2 h q2; omega
  · have := q1 a p1 p2; omega
  · have := p1 a2 q1 q2; omega
  · exact ⟨rfl, rfl⟩

theorem latest_is {A O C P ls lt : Nat} (cs ct : Nat) {n : Nat} {s : Nat → Int} {t : Nat → St5} {nd a : Int} {b : Bool} {w : World} (H : Hid (LineAt w A O C P ls lt s t)) (hn : n < lt) (hnd : fromB 1 10000000 nd = true) (hG : Great s (t n) nd a b) :
    Calls Tryz.prog 31 #[.agg #[.slice (some ⟨A, O, none⟩) ls cs, .slice (some ⟨C, P, none⟩) lt ct], .int .i64 (n : Int), .int .i64 nd] w
      fun e w' => e = .returned (.tuple #[.int .i64 a, .int .i64 (cond b 0 5)]) ∧ Below w.heap.size w w' :=
  (latest_w A O C P ls cs lt ct n s t nd w H hn hnd).mono (by
    rintro e w' ⟨⟨a2, b2, rfl, h2⟩, hb⟩
    obtain ⟨rfl, rfl⟩ := great_same hG h2
    exact ⟨rfl, hb⟩)

set_option maxRecDepth 100000 in
set_option maxHeartbeats 4000000 in
theorem lawl_a (sa ta : Option Addr) (ls cs lt ct : Nat) (s : Nat → Int) (t : Nat → St5) (st nd ot : Int) (w : World) (hls : ls ≤ maxLen) (hlt : lt ≤ maxLen) (HS0 : NumSl w sa ls s) (HT0 : StSl w ta lt t) (K : Hid KnownOk)
    (hq : ¬ (ls ≤ 13 ∧ lt ≤ 10)) :
    Calls Tryz.prog 8 #[.agg #[.slice sa ls cs, .slice ta lt ct], .int .i64 st, .int .i64 nd, .int .i64 ot] w
      fun e w' => e = .returned (.bool true) ∧ Below w.heap.size w w' := by
  have BX := Lib.hid (fun (w1 : World) (hb : Below (w.alloc (.cells #[.slice sa ls cs, .slice ta lt ct] 25)).heap.size (w.alloc (.cells #[.slice sa ls cs, .slice ta lt ct] 25)) w1) => box_cells hb)
  have HS : Hid (∀ w1, Below (w.alloc (.cells #[.slice sa ls cs, .slice ta lt ct] 25)).heap.size (w.alloc (.cells #[.slice sa ls cs, .slice ta lt ct] 25)) w1 → Hid (NumSl w1 sa ls s)) := Lib.hid fun w1 h => Lib.hid (HS0.below (below_al h))
  have HT : Hid (∀ w1, Below (w.alloc (.cells #[.slice sa ls cs, .slice ta lt ct] 25)).heap.size (w.alloc (.cells #[.slice sa ls cs, .slice ta lt ct] 25)) w1 → Hid (StSl w1 ta lt t)) := Lib.hid fun w1 h => Lib.hid (HT0.below (below_al h))
  clear HS0 HT0
  have hsh : decide (ls ≤ 13 ∧ lt ≤ 10) = false := decide_eq_false hq
  go_enter Tryz.func8, Tryz.ntmps8
  go_wp2_with (first
    | (go_at_call 15; refine (short_w _ _ _ _ _ _ _ hls hlt).mono ?_; rw [hsh]; rintro e w1 ⟨rfl, hb1⟩; obtain ⟨x1, x2, x3⟩ := BX.out _ hb1)
    | (go_at_call 16; refine (K.out _).mono ?_; rintro e w11 ⟨rfl, hb11⟩))
  go_ret
  exact ⟨rfl, below_al (hb1.trans (hb11.mono hb1.size))⟩

set_option maxRecDepth 100000 in
set_option maxHeartbeats 4000000 in
theorem lawl_b (sa ta : Option Addr) (ls cs lt ct : Nat) (s : Nat → Int) (t : Nat → St5) (st nd ot : Int) (w : World) (hls : ls ≤ maxLen) (hlt : lt ≤ maxLen) (HS0 : NumSl w sa ls s) (HT0 : StSl w ta lt t) (K : Hid KnownOk)
    (hq : ls ≤ 13 ∧ lt ≤ 10) (hR : ¬ RightP ls lt s t) :
    Calls Tryz.prog 8 #[.agg #[.slice sa ls cs, .slice ta lt ct], .int .i64 st, .int .i64 nd, .int .i64 ot] w
      fun e w' => e = .returned (.bool true) ∧ Below w.heap.size w w' := by
  have BX := Lib.hid (fun (w1 : World) (hb : Below (w.alloc (.cells #[.slice sa ls cs, .slice ta lt ct] 25)).heap.size (w.alloc (.cells #[.slice sa ls cs, .slice ta lt ct] 25)) w1) => box_cells hb)
  have HS : Hid (∀ w1, Below (w.alloc (.cells #[.slice sa ls cs, .slice ta lt ct] 25)).heap.size (w.alloc (.cells #[.slice sa ls cs, .slice ta lt ct] 25)) w1 → Hid (NumSl w1 sa ls s)) := Lib.hid fun w1 h => Lib.hid (HS0.below (below_al h))
  have HT : Hid (∀ w1, Below (w.alloc (.cells #[.slice sa ls cs, .slice ta lt ct] 25)).heap.size (w.alloc (.cells #[.slice sa ls cs, .slice ta lt ct] 25)) w1 → Hid (StSl w1 ta lt t)) := Lib.hid fun w1 h => Lib.hid (HT0.below (below_al h))
  clear HS0 HT0
  have hsh : decide (ls ≤ 13 ∧ lt ≤ 10) = true := decide_eq_true hq
  obtain ⟨hq1, hq2⟩ := hq
  have HR := Lib.hid hR
  clear hR
  go_enter Tryz.func8, Tryz.ntmps8
  go_wp2_with (first
    | (go_at_call 15; refine (short_w _ _ _ _ _ _ _ hls hlt).mono ?_; rw [hsh]; rintro e w1 ⟨rfl, hb1⟩; obtain ⟨x1, x2, x3⟩ := BX.out _ hb1)
    | (go_at_call 19; refine (right_w _ _ _ _ _ _ s t _ (by omega) (by omega) (HS.out _ hb1) (HT.out _ hb1)).mono ?_; rintro e w2 ⟨⟨rb, rfl, hrb⟩, hb2⟩; obtain rfl : rb = false := (by cases rb <;> first | rfl | exact (HR.out (hrb.1 rfl)).elim); clear hrb; have hb12 := hb1.trans (hb2.mono hb1.size); clear x1 x2 x3; obtain ⟨x1, x2, x3⟩ := BX.out _ hb12)
    | (go_at_call 16; refine (K.out _).mono ?_; rintro e w11 ⟨rfl, hb11⟩))
  go_ret
  exact ⟨rfl, below_al (hb12.trans (hb11.mono hb12.size))⟩

set_option maxRecDepth 100000 in
set_option maxHeartbeats 4000000 in
theorem lawl_c (sa ta : Option Addr) (ls cs lt ct : Nat) (s : Nat → Int) (t : Nat → St5) (st nd ot : Int) (w : World) (hls : ls ≤ maxLen) (hlt : lt ≤ maxLen) (HS0 : NumSl w sa ls s) (HT0 : StSl w ta lt t) (K : Hid KnownOk)
    (hq : ls ≤ 13 ∧ lt ≤ 10) (hR : RightP ls lt s t) (g1 : fromB 0 ((lt : Int) - 1) st = false) :
    Calls Tryz.prog 8 #[.agg #[.slice sa ls cs, .slice ta lt ct], .int .i64 st, .int .i64 nd, .int .i64 ot] w
      fun e w' => e = .returned (.bool true) ∧ Below w.heap.size w w' := by
  have BX := Lib.hid (fun (w1 : World) (hb : Below (w.alloc (.cells #[.slice sa ls cs, .slice ta lt ct] 25)).heap.size (w.alloc (.cells #[.slice sa ls cs, .slice ta lt ct] 25)) w1) => box_cells hb)
  have HS : Hid (∀ w1, Below (w.alloc (.cells #[.slice sa ls cs, .slice ta lt ct] 25)).heap.size (w.alloc (.cells #[.slice sa ls cs, .slice ta lt ct] 25)) w1 → Hid (NumSl w1 sa ls s)) := Lib.hid fun w1 h => Lib.hid (HS0.below (below_al h))
  have HT : Hid (∀ w1, Below (w.alloc (.cells #[.slice sa ls cs, .slice ta lt ct] 25)).heap.size (w.alloc (.cells #[.slice sa ls cs, .slice ta lt ct] 25)) w1 → Hid (StSl w1 ta lt t)) := Lib.hid fun w1 h => Lib.hid (HT0.below (below_al h))
  clear HS0 HT0
  have hsh : decide (ls ≤ 13 ∧ lt ≤ 10) = true := decide_eq_true hq
  obtain ⟨hq1, hq2⟩ := hq
  have HR := Lib.hid hR
  clear hR
  go_enter Tryz.func8, Tryz.ntmps8
  go_wp2_with (first
    | (go_at_call 15; refine (short_w _ _ _ _ _ _ _ hls hlt).mono ?_; rw [hsh]; rintro e w1 ⟨rfl, hb1⟩; obtain ⟨x1, x2, x3⟩ := BX.out _ hb1)
    | (go_at_call 19; refine (right_w _ _ _ _ _ _ s t _ (by omega) (by omega) (HS.out _ hb1) (HT.out _ hb1)).mono ?_; rintro e w2 ⟨⟨rb, rfl, hrb⟩, hb2⟩; obtain rfl : rb = true := hrb.2 HR.out; clear hrb; have hb12 := hb1.trans (hb2.mono hb1.size); clear x1 x2 x3; obtain ⟨x1, x2, x3⟩ := BX.out _ hb12)
    | (go_at_call 20; refine (number_w _ undef _ _ _ _ _ hlt).mono ?_; rintro e w3 ⟨rfl, hb3⟩; have hb13 := hb12.trans (hb3.mono hb12.size); clear x1 x2 x3; obtain ⟨x1, x2, x3⟩ := BX.out _ hb13)
    | (go_at_call 33; refine (need_w _ _).mono ?_; rintro e w' ⟨rfl, rfl⟩)
    | (go_at_call 21; refine (age_w _ _).mono ?_; rintro e w' ⟨rfl, rfl⟩)
    | (go_at_call 16; refine (K.out _).mono ?_; rintro e w11 ⟨rfl, hb11⟩))
  go_ret
  exact ⟨rfl, below_al (hb13.trans (hb11.mono hb13.size))⟩

set_option maxRecDepth 100000 in
set_option maxHeartbeats 4000000 in
theorem lawl_d (sa ta : Option Addr) (ls cs lt ct : Nat) (s : Nat → Int) (t : Nat → St5) (st nd ot : Int) (w : World) (hls : ls ≤ maxLen) (hlt : lt ≤ maxLen) (HS0 : NumSl w sa ls s) (HT0 : StSl w ta lt t) (K : Hid KnownOk)
    (hq : ls ≤ 13 ∧ lt ≤ 10) (hR : RightP ls lt s t) (g1 : fromB 0 ((lt : Int) - 1) st = true) (g2 : fromB 1 10000000 nd = false) :
    Calls Tryz.prog 8 #[.agg #[.slice sa ls cs, .slice ta lt ct], .int .i64 st, .int .i64 nd, .int .i64 ot] w
      fun e w' => e = .returned (.bool true) ∧ Below w.heap.size w w' := by
  have BX := Lib.hid (fun (w1 : World) (hb : Below (w.alloc (.cells #[.slice sa ls cs, .slice ta lt ct] 25)).heap.size (w.alloc (.cells #[.slice sa ls cs, .slice ta lt ct] 25)) w1) => box_cells hb)
  have HS : Hid (∀ w1, Below (w.alloc (.cells #[.slice sa ls cs, .slice ta lt ct] 25)).heap.size (w.alloc (.cells #[.slice sa ls cs, .slice ta lt ct] 25)) w1 → Hid (NumSl w1 sa ls s)) := Lib.hid fun w1 h => Lib.hid (HS0.below (below_al h))
  have HT : Hid (∀ w1, Below (w.alloc (.cells #[.slice sa ls cs, .slice ta lt ct] 25)).heap.size (w.alloc (.cells #[.slice sa ls cs, .slice ta lt ct] 25)) w1 → Hid (StSl w1 ta lt t)) := Lib.hid fun w1 h => Lib.hid (HT0.below (below_al h))
  clear HS0 HT0
  have hsh : decide (ls ≤ 13 ∧ lt ≤ 10) = true := decide_eq_true hq
  obtain ⟨hq1, hq2⟩ := hq
  have HR := Lib.hid hR
  clear hR
  go_enter Tryz.func8, Tryz.ntmps8
  go_wp2_with (first
    | (go_at_call 15; refine (short_w _ _ _ _ _ _ _ hls hlt).mono ?_; rw [hsh]; rintro e w1 ⟨rfl, hb1⟩; obtain ⟨x1, x2, x3⟩ := BX.out _ hb1)
    | (go_at_call 19; refine (right_w _ _ _ _ _ _ s t _ (by omega) (by omega) (HS.out _ hb1) (HT.out _ hb1)).mono ?_; rintro e w2 ⟨⟨rb, rfl, hrb⟩, hb2⟩; obtain rfl : rb = true := hrb.2 HR.out; clear hrb; have hb12 := hb1.trans (hb2.mono hb1.size); clear x1 x2 x3; obtain ⟨x1, x2, x3⟩ := BX.out _ hb12)
    | (go_at_call 20; refine (number_w _ undef _ _ _ _ _ hlt).mono ?_; rintro e w3 ⟨rfl, hb3⟩; have hb13 := hb12.trans (hb3.mono hb12.size); clear x1 x2 x3; obtain ⟨x1, x2, x3⟩ := BX.out _ hb13)
    | (go_at_call 33; refine (need_w _ _).mono ?_; rintro e w' ⟨rfl, rfl⟩)
    | (go_at_call 21; refine (age_w _ _).mono ?_; rintro e w' ⟨rfl, rfl⟩)
    | (go_at_call 16; refine (K.out _).mono ?_; rintro e w11 ⟨rfl, hb11⟩))
  go_ret
  exact ⟨rfl, below_al (hb13.trans (hb11.mono hb13.size))⟩

set_option maxRecDepth 100000 in
set_option maxHeartbeats 4000000 in
theorem lawl_e (sa ta : Option Addr) (ls cs lt ct : Nat) (s : Nat → Int) (t : Nat → St5) (st nd ot : Int) (w : World) (hls : ls ≤ maxLen) (hlt : lt ≤ maxLen) (HS0 : NumSl w sa ls s) (HT0 : StSl w ta lt t) (K : Hid KnownOk)
    (hq : ls ≤ 13 ∧ lt ≤ 10) (hR : RightP ls lt s t) (g1 : fromB 0 ((lt : Int) - 1) st = true) (g2 : fromB 1 10000000 nd = true) (g3 : fromB 0 200 ot = false) :
    Calls Tryz.prog 8 #[.agg #[.slice sa ls cs, .slice ta lt ct], .int .i64 st, .int .i64 nd, .int .i64 ot] w
      fun e w' => e = .returned (.bool true) ∧ Below w.heap.size w w' := by
  have BX := Lib.hid (fun (w1 : World) (hb : Below (w.alloc (.cells #[.slice sa ls cs, .slice ta lt ct] 25)).heap.size (w.alloc (.cells #[.slice sa ls cs, .slice ta lt ct] 25)) w1) => box_cells hb)
  have HS : Hid (∀ w1, Below (w.alloc (.cells #[.slice sa ls cs, .slice ta lt ct] 25)).heap.size (w.alloc (.cells #[.slice sa ls cs, .slice ta lt ct] 25)) w1 → Hid (NumSl w1 sa ls s)) := Lib.hid fun w1 h => Lib.hid (HS0.below (below_al h))
  have HT : Hid (∀ w1, Below (w.alloc (.cells #[.slice sa ls cs, .slice ta lt ct] 25)).heap.size (w.alloc (.cells #[.slice sa ls cs, .slice ta lt ct] 25)) w1 → Hid (StSl w1 ta lt t)) := Lib.hid fun w1 h => Lib.hid (HT0.below (below_al h))
  clear HS0 HT0
  have hsh : decide (ls ≤ 13 ∧ lt ≤ 10) = true := decide_eq_true hq
  obtain ⟨hq1, hq2⟩ := hq
  have HR := Lib.hid hR
  clear hR
  go_enter Tryz.func8, Tryz.ntmps8
  go_wp2_with (first
    | (go_at_call 15; refine (short_w _ _ _ _ _ _ _ hls hlt).mono ?_; rw [hsh]; rintro e w1 ⟨rfl, hb1⟩; obtain ⟨x1, x2, x3⟩ := BX.out _ hb1)
    | (go_at_call 19; refine (right_w _ _ _ _ _ _ s t _ (by omega) (by omega) (HS.out _ hb1) (HT.out _ hb1)).mono ?_; rintro e w2 ⟨⟨rb, rfl, hrb⟩, hb2⟩; obtain rfl : rb = true := hrb.2 HR.out; clear hrb; have hb12 := hb1.trans (hb2.mono hb1.size); clear x1 x2 x3; obtain ⟨x1, x2, x3⟩ := BX.out _ hb12)
    | (go_at_call 20; refine (number_w _ undef _ _ _ _ _ hlt).mono ?_; rintro e w3 ⟨rfl, hb3⟩; have hb13 := hb12.trans (hb3.mono hb12.size); clear x1 x2 x3; obtain ⟨x1, x2, x3⟩ := BX.out _ hb13)
    | (go_at_call 33; refine (need_w _ _).mono ?_; rintro e w' ⟨rfl, rfl⟩)
    | (go_at_call 21; refine (age_w _ _).mono ?_; rintro e w' ⟨rfl, rfl⟩)
    | (go_at_call 16; refine (K.out _).mono ?_; rintro e w11 ⟨rfl, hb11⟩))
  go_ret
  exact ⟨rfl, below_al (hb13.trans (hb11.mono hb13.size))⟩
end Go.Kn
