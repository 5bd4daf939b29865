/- Walks of functions of layer 2 (contracts that the laws of this seat use). Conditions: as each theorem states them. -/
import Derived.Test.YtalnemafmklelaaGreatDoorBP
set_option linter.unusedVariables false
set_option linter.unusedSimpArgs false
namespace Go.Kn
open Go Go.Proofs Go.RowKit

theorem great_exists (s : Nat → Int) (x : St5) (nd : Int) : ∃ a b, Great s x nd a b := by
  have key : ∀ k : Nat, k ≤ 201 → (∃ a, 0 ≤ a ∧ a ≤ 200 ∧ nd ≤ cupsL s x a x.hi ∧ ∀ a', a < a' → a' ≤ 200 → cupsL s x a' x.hi < nd) ∨ (∀ a' : Int, 200 - (k : Int) < a' → a' ≤ 200 → cupsL s x a' x.hi < nd) := by
    intro k
    induction k with
    | zero => intro _; exact .inr (fun a' h1 h2 => by omega)
    | succ k ih =>
      intro hk
      rcases ih (by omega) with h | h
      · exact .inl h
      · by_cases hv : nd ≤ cupsL s x (200 - (k : Int)) x.hi
        · exact .inl ⟨200 - (k : Int), by omega, by omega, hv, h⟩
        · refine .inr (fun a' h1 h2 => ?_)
          by_cases e : a' = 200 - (k : Int)
          · rw [e]; omega
          · exact h a' (by omega) h2
  rcases key 201 (by omega) with ⟨a, h1, h2, h3, h4⟩ | h
  · exact ⟨a, true, .inl ⟨rfl, h1, h2, h3, h4⟩⟩
  · exact ⟨0, false, .inr ⟨rfl, rfl, fun a' h1 h2 => h a' (by omega) h2⟩⟩

theorem great_same {s : Nat → Int} {x : St5} {nd a a2 : Int} {b b2 : Bool} (h : Great s x nd a b) (h2 : Great s x nd a2 b2) : a2 = a ∧ b2 = b := by
  rcases h with ⟨rfl, p1, p2, p3, p4⟩ | ⟨rfl, rfl, p1⟩ <;> rcases h2 with ⟨rfl, q1, q2, q3, q4⟩ | ⟨rfl, rfl, q1⟩
  · refine ⟨?_, rfl⟩
    rcases Int.lt_trichotomy a2 a with h | h | h
    · have := q4 a h p2; omega
    · exact h
    · have := p4 a2 h q2; omega
  · have := q1 a p1 p2; omega
  · have := p1 a2 q1 q2; omega
  · exact ⟨rfl, rfl⟩

theorem latest_is {A O C P ls lt : Nat} (cs ct : Nat) {n : Nat} {s : Nat → Int} {t : Nat → St5} {nd a : Int} {b : Bool} {w : World} (H : Hid (LineAt w A O C P ls lt s t)) (hn : n < lt) (hnd : fromB 1 10000000 nd = true) (hG : Great s (t n) nd a b) :
    Calls Tryz.prog 32 #[.agg #[.slice (some ⟨A, O, none⟩) ls cs, .slice (some ⟨C, P, none⟩) lt ct], .int .i64 (n : Int), .int .i64 nd] w
      fun e w' => e = .returned (.tuple #[.int .i64 a, .int .i64 (cond b 0 5)]) ∧ Below w.heap.size w w' :=
  (latest_w A O C P ls cs lt ct n s t nd w H hn hnd).mono (by
    rintro e w' ⟨⟨a2, b2, rfl, h2⟩, hb⟩
    obtain ⟨rfl, rfl⟩ := great_same hG h2
    exact ⟨rfl, hb⟩)

set_option maxRecDepth 100000 in
set_option maxHeartbeats 4000000 in
theorem lawl_a (sa ta : Option Addr) (ls cs lt ct : Nat) (s : Nat → Int) (t : Nat → St5) (st nd ot : Int) (w : World) (hls : ls ≤ maxLen) (hlt : lt ≤ maxLen) (HS0 : NumSl w sa ls s) (HT0 : StSl w ta lt t) (K : Hid KnownOk)
    (hq : ¬ (ls ≤ 13 ∧ lt ≤ 10)) :
    Calls Tryz.prog 8 #[.agg #[.slice sa ls cs, .slice ta lt ct], .int .i64 st, .int .i64 nd, .int .i64 ot] w
      fun e w' => e = .returned (.bool true) ∧ Below w.heap.size w w' := by
  have BX := Lib.hid (fun (w1 : World) (hb : Below (w.alloc (.cells #[.slice sa ls cs, .slice ta lt ct] 25)).heap.size (w.alloc (.cells #[.slice sa ls cs, .slice ta lt ct] 25)) w1) => box_cells hb)
  have HS : Hid (∀ w1, Below (w.alloc (.cells #[.slice sa ls cs, .slice ta lt ct] 25)).heap.size (w.alloc (.cells #[.slice sa ls cs, .slice ta lt ct] 25)) w1 → Hid (NumSl w1 sa ls s)) := Lib.hid fun w1 h => Lib.hid (HS0.below (below_al h))
  have HT : Hid (∀ w1, Below (w.alloc (.cells #[.slice sa ls cs, .slice ta lt ct] 25)).heap.size (w.alloc (.cells #[.slice sa ls cs, .slice ta lt ct] 25)) w1 → Hid (StSl w1 ta lt t)) := Lib.hid fun w1 h => Lib.hid (HT0.below (below_al h))
  clear HS0 HT0
  have hsh : decide (ls ≤ 13 ∧ lt ≤ 10) = false := decide_eq_false hq
  go_enter Tryz.func8, Tryz.ntmps8
  go_wp2_with (first
    | (go_at_call 16; refine (short_w _ _ _ _ _ _ _ hls hlt).mono ?_; rw [hsh]; rintro e w1 ⟨rfl, hb1⟩; obtain ⟨x1, x2, x3⟩ := BX.out _ hb1)
    | (go_at_call 17; refine (K.out _).mono ?_; rintro e w11 ⟨rfl, hb11⟩))
  go_ret
  exact ⟨rfl, below_al (hb1.trans (hb11.mono hb1.size))⟩

set_option maxRecDepth 100000 in
set_option maxHeartbeats 4000000 in
theorem lawl_b (sa ta : Option Addr) (ls cs lt ct : Nat) (s : Nat → Int) (t : Nat → St5) (st nd ot : Int) (w : World) (hls : ls ≤ maxLen) (hlt : lt ≤ maxLen) (HS0 : NumSl w sa ls s) (HT0 : StSl w ta lt t) (K : Hid KnownOk)
    (hq : ls ≤ 13 ∧ lt ≤ 10) (hR : ¬ RightP ls lt s t) :
    Calls Tryz.prog 8 #[.agg #[.slice sa ls cs, .slice ta lt ct], .int .i64 st, .int .i64 nd, .int .i64 ot] w
      fun e w' => e = .returned (.bool true) ∧ Below w.heap.size w w' := by
  have BX := Lib.hid (fun (w1 : World) (hb : Below (w.alloc (.cells #[.slice sa ls cs, .slice ta lt ct] 25)).heap.size (w.alloc (.cells #[.slice sa ls cs, .slice ta lt ct] 25)) w1) => box_cells hb)
  have HS : Hid (∀ w1, Below (w.alloc (.cells #[.slice sa ls cs, .slice ta lt ct] 25)).heap.size (w.alloc (.cells #[.slice sa ls cs, .slice ta lt ct] 25)) w1 → Hid (NumSl w1 sa ls s)) := Lib.hid fun w1 h => Lib.hid (HS0.below (below_al h))
  have HT : Hid (∀ w1, Below (w.alloc (.cells #[.slice sa ls cs, .slice ta lt ct] 25)).heap.size (w.alloc (.cells #[.slice sa ls cs, .slice ta lt ct] 25)) w1 → Hid (StSl w1 ta lt t)) := Lib.hid fun w1 h => Lib.hid (HT0.below (below_al h))
  clear HS0 HT0
  have hsh : decide (ls ≤ 13 ∧ lt ≤ 10) = true := decide_eq_true hq
  obtain ⟨hq1, hq2⟩ := hq
  have HR := Lib.hid hR
  clear hR
  go_enter Tryz.func8, Tryz.ntmps8
  go_wp2_with (first
    | (go_at_call 16; refine (short_w _ _ _ _ _ _ _ hls hlt).mono ?_; rw [hsh]; rintro e w1 ⟨rfl, hb1⟩; obtain ⟨x1, x2, x3⟩ := BX.out _ hb1)
    | (go_at_call 20; refine (right_w _ _ _ _ _ _ s t _ (by omega) (by omega) (HS.out _ hb1) (HT.out _ hb1)).mono ?_; rintro e w2 ⟨⟨rb, rfl, hrb⟩, hb2⟩; obtain rfl : rb = false := (by cases rb <;> first | rfl | exact (HR.out (hrb.1 rfl)).elim); clear hrb; have hb12 := hb1.trans (hb2.mono hb1.size); clear x1 x2 x3; obtain ⟨x1, x2, x3⟩ := BX.out _ hb12)
    | (go_at_call 17; refine (K.out _).mono ?_; rintro e w11 ⟨rfl, hb11⟩))
  go_ret
  exact ⟨rfl, below_al (hb12.trans (hb11.mono hb12.size))⟩

set_option maxRecDepth 100000 in
set_option maxHeartbeats 4000000 in
theorem lawl_c (sa ta : Option Addr) (ls cs lt ct : Nat) (s : Nat → Int) (t : Nat → St5) (st nd ot : Int) (w : World) (hls : ls ≤ maxLen) (hlt : lt ≤ maxLen) (HS0 : NumSl w sa ls s) (HT0 : StSl w ta lt t) (K : Hid KnownOk)
    (hq : ls ≤ 13 ∧ lt ≤ 10) (hR : RightP ls lt s t) (g1 : fromB 0 ((lt : Int) - 1) st = false) :
    Calls Tryz.prog 8 #[.agg #[.slice sa ls cs, .slice ta lt ct], .int .i64 st, .int .i64 nd, .int .i64 ot] w
      fun e w' => e = .returned (.bool true) ∧ Below w.heap.size w w' := by
  have BX := Lib.hid (fun (w1 : World) (hb : Below (w.alloc (.cells #[.slice sa ls cs, .slice ta lt ct] 25)).heap.size (w.alloc (.cells #[.slice sa ls cs, .slice ta lt ct] 25)) w1) => box_cells hb)
  have HS : Hid (∀ w1, Below (w.alloc (.cells #[.slice sa ls cs, .slice ta lt ct] 25)).heap.size (w.alloc (.cells #[.slice sa ls cs, .slice ta lt ct] 25)) w1 → Hid (NumSl w1 sa ls s)) := Lib.hid fun w1 h => Lib.hid (HS0.below (below_al h))
  have HT : Hid (∀ w1, Below (w.alloc (.cells #[.slice sa ls cs, .slice ta lt ct] 25)).heap.size (w.alloc (.cells #[.slice sa ls cs, .slice ta lt ct] 25)) w1 → Hid (StSl w1 ta lt t)) := Lib.hid fun w1 h => Lib.hid (HT0.below (below_al h))
  clear HS0 HT0
  have hsh : decide (ls ≤ 13 ∧ lt ≤ 10) = true := decide_eq_true hq
  obtain ⟨hq1, hq2⟩ := hq
  have HR := Lib.hid hR
  clear hR
  go_enter Tryz.func8, Tryz.ntmps8
  go_wp2_with (first
    | (go_at_call 16; refine (short_w _ _ _ _ _ _ _ hls hlt).mono ?_; rw [hsh]; rintro e w1 ⟨rfl, hb1⟩; obtain ⟨x1, x2, x3⟩ := BX.out _ hb1)
    | (go_at_call 20; refine (right_w _ _ _ _ _ _ s t _ (by omega) (by omega) (HS.out _ hb1) (HT.out _ hb1)).mono ?_; rintro e w2 ⟨⟨rb, rfl, hrb⟩, hb2⟩; obtain rfl : rb = true := hrb.2 HR.out; clear hrb; have hb12 := hb1.trans (hb2.mono hb1.size); clear x1 x2 x3; obtain ⟨x1, x2, x3⟩ := BX.out _ hb12)
    | (go_at_call 21; refine (number_w _ undef _ _ _ _ _ hlt).mono ?_; rintro e w3 ⟨rfl, hb3⟩; have hb13 := hb12.trans (hb3.mono hb12.size); clear x1 x2 x3; obtain ⟨x1, x2, x3⟩ := BX.out _ hb13)
    | (go_at_call 34; refine (need_w _ _).mono ?_; rintro e w' ⟨rfl, rfl⟩)
    | (go_at_call 22; refine (age_w _ _).mono ?_; rintro e w' ⟨rfl, rfl⟩)
    | (go_at_call 17; refine (K.out _).mono ?_; rintro e w11 ⟨rfl, hb11⟩))
  go_ret
  exact ⟨rfl, below_al (hb13.trans (hb11.mono hb13.size))⟩

set_option maxRecDepth 100000 in
set_option maxHeartbeats 4000000 in
theorem lawl_d (sa ta : Option Addr) (ls cs lt ct : Nat) (s : Nat → Int) (t : Nat → St5) (st nd ot : Int) (w : World) (hls : ls ≤ maxLen) (hlt : lt ≤ maxLen) (HS0 : NumSl w sa ls s) (HT0 : StSl w ta lt t) (K : Hid KnownOk)
    (hq : ls ≤ 13 ∧ lt ≤ 10) (hR : RightP ls lt s t) (g1 : fromB 0 ((lt : Int) - 1) st = true) (g2 : fromB 1 10000000 nd = false) :
    Calls Tryz.prog 8 #[.agg #[.slice sa ls cs, .slice ta lt ct], .int .i64 st, .int .i64 nd, .int .i64 ot] w
      fun e w' => e = .returned (.bool true) ∧ Below w.heap.size w w' := by
  have BX := Lib.hid (fun (w1 : World) (hb : Below (w.alloc (.cells #[.slice sa ls cs, .slice ta lt ct] 25)).heap.size (w.alloc (.cells #[.slice sa ls cs, .slice ta lt ct] 25)) w1) => box_cells hb)
  have HS : Hid (∀ w1, Below (w.alloc (.cells #[.slice sa ls cs, .slice ta lt ct] 25)).heap.size (w.alloc (.cells #[.slice sa ls cs, .slice ta lt ct] 25)) w1 → Hid (NumSl w1 sa ls s)) := Lib.hid fun w1 h => Lib.hid (HS0.below (below_al h))
  have HT : Hid (∀ w1, Below (w.alloc (.cells #[.slice sa ls cs, .slice ta lt ct] 25)).heap.size (w.alloc (.cells #[.slice sa ls cs, .slice ta lt ct] 25)) w1 → Hid (StSl w1 ta lt t)) := Lib.hid fun w1 h => Lib.hid (HT0.below (below_al h))
  clear HS0 HT0
  have hsh : decide (ls ≤ 13 ∧ lt ≤ 10) = true := decide_eq_true hq
  obtain ⟨hq1, hq2⟩ := hq
  have HR := Lib.hid hR
  clear hR
  go_enter Tryz.func8, Tryz.ntmps8
  go_wp2_with (first
    | (go_at_call 16; refine (short_w _ _ _ _ _ _ _ hls hlt).mono ?_; rw [hsh]; rintro e w1 ⟨rfl, hb1⟩; obtain ⟨x1, x2, x3⟩ := BX.out _ hb1)
    | (go_at_call 20; refine (right_w _ _ _ _ _ _ s t _ (by omega) (by omega) (HS.out _ hb1) (HT.out _ hb1)).mono ?_; rintro e w2 ⟨⟨rb, rfl, hrb⟩, hb2⟩; obtain rfl : rb = true := hrb.2 HR.out; clear hrb; have hb12 := hb1.trans (hb2.mono hb1.size); clear x1 x2 x3; obtain ⟨x1, x2, x3⟩ := BX.out _ hb12)
    | (go_at_call 21; refine (number_w _ undef _ _ _ _ _ hlt).mono ?_; rintro e w3 ⟨rfl, hb3⟩; have hb13 := hb12.trans (hb3.mono hb12.size); clear x1 x2 x3; obtain ⟨x1, x2, x3⟩ := BX.out _ hb13)
    | (go_at_call 34; refine (need_w _ _).mono ?_; rintro e w' ⟨rfl, rfl⟩)
    | (go_at_call 22; refine (age_w _ _).mono ?_; rintro e w' ⟨rfl, rfl⟩)
    | (go_at_call 17; refine (K.out _).mono ?_; rintro e w11 ⟨rfl, hb11⟩))
  go_ret
  exact ⟨rfl, below_al (hb13.trans (hb11.mono hb13.size))⟩

set_option maxRecDepth 100000 in
set_option maxHeartbeats 4000000 in
theorem lawl_e (sa ta : Option Addr) (ls cs lt ct : Nat) (s : Nat → Int) (t : Nat → St5) (st nd ot : Int) (w : World) (hls : ls ≤ maxLen) (hlt : lt ≤ maxLen) (HS0 : NumSl w sa ls s) (HT0 : StSl w ta lt t) (K : Hid KnownOk)
    (hq : ls ≤ 13 ∧ lt ≤ 10) (hR : RightP ls lt s t) (g1 : fromB 0 ((lt : Int) - 1) st = true) (g2 : fromB 1 10000000 nd = true) (g3 : fromB 0 200 ot = false) :
    Calls Tryz.prog 8 #[.agg #[.slice sa ls cs, .slice ta lt ct], .int .i64 st, .int .i64 nd, .int .i64 ot] w
      fun e w' => e = .returned (.bool true) ∧ Below w.heap.size w w' := by
  have BX := Lib.hid (fun (w1 : World) (hb : Below (w.alloc (.cells #[.slice sa ls cs, .slice ta lt ct] 25)).heap.size (w.alloc (.cells #[.slice sa ls cs, .slice ta lt ct] 25)) w1) => box_cells hb)
  have HS : Hid (∀ w1, Below (w.alloc (.cells #[.slice sa ls cs, .slice ta lt ct] 25)).heap.size (w.alloc (.cells #[.slice sa ls cs, .slice ta lt ct] 25)) w1 → Hid (NumSl w1 sa ls s)) := Lib.hid fun w1 h => Lib.hid (HS0.below (below_al h))
  have HT : Hid (∀ w1, Below (w.alloc (.cells #[.slice sa ls cs, .slice ta lt ct] 25)).heap.size (w.alloc (.cells #[.slice sa ls cs, .slice ta lt ct] 25)) w1 → Hid (StSl w1 ta lt t)) := Lib.hid fun w1 h => Lib.hid (HT0.below (below_al h))
  clear HS0 HT0
  have hsh : decide (ls ≤ 13 ∧ lt ≤ 10) = true := decide_eq_true hq
  obtain ⟨hq1, hq2⟩ := hq
  have HR := Lib.hid hR
  clear hR
  go_enter Tryz.func8, Tryz.ntmps8
  go_wp2_with (first
    | (go_at_call 16; refine (short_w _ _ _ _ _ _ _ hls hlt).mono ?_; rw [hsh]; rintro e w1 ⟨rfl, hb1⟩; obtain ⟨x1, x2, x3⟩ := BX.out _ hb1)
    | (go_at_call 20; refine (right_w _ _ _ _ _ _ s t _ (by omega) (by omega) (HS.out _ hb1) (HT.out _ hb1)).mono ?_; rintro e w2 ⟨⟨rb, rfl, hrb⟩, hb2⟩; obtain rfl : rb = true := hrb.2 HR.out; clear hrb; have hb12 := hb1.trans (hb2.mono hb1.size); clear x1 x2 x3; obtain ⟨x1, x2, x3⟩ := BX.out _ hb12)
    | (go_at_call 21; refine (number_w _ undef _ _ _ _ _ hlt).mono ?_; rintro e w3 ⟨rfl, hb3⟩; have hb13 := hb12.trans (hb3.mono hb12.size); clear x1 x2 x3; obtain ⟨x1, x2, x3⟩ := BX.out _ hb13)
    | (go_at_call 34; refine (need_w _ _).mono ?_; rintro e w' ⟨rfl, rfl⟩)
    | (go_at_call 22; refine (age_w _ _).mono ?_; rintro e w' ⟨rfl, rfl⟩)
    | (go_at_call 17; refine (K.out _).mono ?_; rintro e w11 ⟨rfl, hb11⟩))
  go_ret
  exact ⟨rfl, below_al (hb13.trans (hb11.mono hb13.size))⟩
end Go.Kn

namespace Go.Kn
open Go Go.Proofs Go.RowKit

set_option maxRecDepth 100000 in
set_option maxHeartbeats 1000000 in
theorem lawl_n (A O C P ls cs lt ct n : Nat) (s : Nat → Int) (t : Nat → St5) (nd ot a : Int) (w : World) (H : Hid (LineAt w A O C P ls lt s t)) (hn : n < lt) (g2 : fromB 1 10000000 nd = true) (ho : 0 ≤ ot ∧ ot ≤ 200) (K : Hid KnownOk)
    (hG : Great s (t n) nd a false) :
    Calls Tryz.prog 8 #[.agg #[.slice (some ⟨A, O, none⟩) ls cs, .slice (some ⟨C, P, none⟩) lt ct], .int .i64 (n : Int), .int .i64 nd, .int .i64 ot] w
      fun e w' => e = .returned (.bool true) ∧ Below w.heap.size w w' := by
  have BX := Lib.hid (fun (w1 : World) (hb : Below (w.alloc (.cells #[.slice (some ⟨A, O, none⟩) ls cs, .slice (some ⟨C, P, none⟩) lt ct] 25)).heap.size (w.alloc (.cells #[.slice (some ⟨A, O, none⟩) ls cs, .slice (some ⟨C, P, none⟩) lt ct] 25)) w1) => box_cells hb)
  have HL : Hid (∀ w1, Below (w.alloc (.cells #[.slice (some ⟨A, O, none⟩) ls cs, .slice (some ⟨C, P, none⟩) lt ct] 25)).heap.size (w.alloc (.cells #[.slice (some ⟨A, O, none⟩) ls cs, .slice (some ⟨C, P, none⟩) lt ct] 25)) w1 → LineAt w1 A O C P ls lt s t) := Lib.hid fun w1 h => H.out.below (below_al h)
  have HS : Hid (∀ w1, Below (w.alloc (.cells #[.slice (some ⟨A, O, none⟩) ls cs, .slice (some ⟨C, P, none⟩) lt ct] 25)).heap.size (w.alloc (.cells #[.slice (some ⟨A, O, none⟩) ls cs, .slice (some ⟨C, P, none⟩) lt ct] 25)) w1 → Hid (NumSl w1 (some ⟨A, O, none⟩) ls s)) := Lib.hid fun w1 h => Lib.hid (.inr ⟨A, O, rfl, (HL.out w1 h).hA, (HL.out w1 h).sp⟩)
  have HT : Hid (∀ w1, Below (w.alloc (.cells #[.slice (some ⟨A, O, none⟩) ls cs, .slice (some ⟨C, P, none⟩) lt ct] 25)).heap.size (w.alloc (.cells #[.slice (some ⟨A, O, none⟩) ls cs, .slice (some ⟨C, P, none⟩) lt ct] 25)) w1 → Hid (StSl w1 (some ⟨C, P, none⟩) lt t)) := Lib.hid fun w1 h => Lib.hid (.inr ⟨C, P, rfl, (HL.out w1 h).hC, (HL.out w1 h).st⟩)
  have q0 := H.out.ls2
  have q1 := H.out.lt2
  have hls : ls ≤ maxLen := by unfold maxLen; omega
  have hlt : lt ≤ maxLen := by unfold maxLen; omega
  have HR : Hid (RightP ls lt s t) := Lib.hid ⟨H.out.ls1, H.out.ls2, H.out.lt1, H.out.lt2, H.out.sok, H.out.tok⟩
  have hsh : decide (ls ≤ 13 ∧ lt ≤ 10) = true := by simp; omega
  have g1 : fromB 0 ((lt : Int) - 1) (n : Int) = true := by simp only [fromB, decide_eq_true_eq]; omega
  have g3 : fromB 0 200 ot = true := by simp only [fromB, decide_eq_true_eq]; omega
  have HG := Lib.hid hG
  clear hG
  have d1 : decide (cupsL s (t n) ot (t n).hi < nd) = true := decide_eq_true (by rcases HG.out with ⟨h, _⟩ | ⟨_, _, h⟩; cases h; exact h ot ho.1 ho.2)
  go_enter Tryz.func8, Tryz.ntmps8
  go_wp2_with (first
    | (go_at_call 16; refine (short_w _ _ _ _ _ _ _ hls hlt).mono ?_; rw [hsh]; rintro e w1 ⟨rfl, hb1⟩; obtain ⟨x1, x2, x3⟩ := BX.out _ hb1)
    | (go_at_call 20; refine (right_w _ _ _ _ _ _ s t _ (by omega) (by omega) (HS.out _ hb1) (HT.out _ hb1)).mono ?_; rintro e w2 ⟨⟨rb, rfl, hrb⟩, hb2⟩; obtain rfl : rb = true := hrb.2 HR.out; clear hrb; have hb12 := hb1.trans (hb2.mono hb1.size); clear x1 x2 x3; obtain ⟨x1, x2, x3⟩ := BX.out _ hb12)
    | (go_at_call 21; refine (number_w _ undef _ _ _ _ _ hlt).mono ?_; rintro e w3 ⟨rfl, hb3⟩; have hb13 := hb12.trans (hb3.mono hb12.size); clear x1 x2 x3; obtain ⟨x1, x2, x3⟩ := BX.out _ hb13)
    | (go_at_call 34; refine (need_w _ _).mono ?_; rintro e w' ⟨rfl, rfl⟩)
    | (go_at_call 22; refine (age_w _ _).mono ?_; rintro e w' ⟨rfl, rfl⟩)
    | (go_at_call 32; refine (latest_is _ _ (Lib.hid (HL.out _ hb13)) hn g2 HG.out).mono ?_; rintro e w4 ⟨rfl, hb4⟩; have hb14 := hb13.trans (hb4.mono hb13.size); clear x1 x2 x3; obtain ⟨x1, x2, x3⟩ := BX.out _ hb14)
    | (go_at_call_of 19 ot; refine (pcarries_w _ _ _ _ _ _ _ _ _ s t ot _ (Lib.hid (HL.out _ hb14)) hn ho).mono ?_; rintro e w5 ⟨rfl, hb5⟩; have hb15 := hb14.trans (hb5.mono hb14.size); have hb15a := hb15.alloc hb15.size (.cells #[.int .i64 (cupsL s (t n) ot (t n).hi), .int .i64 (cupsL s (t n) ot (t n).lo)] 31); clear x1 x2 x3; obtain ⟨x1, x2, x3⟩ := BX.out _ hb15)
    | (go_at_call 17; refine (K.out _).mono ?_; rintro e w11 ⟨rfl, hb11⟩))
  go_ret
  exact ⟨rfl, below_al (hb15a.trans (hb11.mono hb15a.size))⟩

set_option maxRecDepth 100000 in
set_option maxHeartbeats 1000000 in
theorem lawl_s1 (A O C P ls cs lt ct n : Nat) (s : Nat → Int) (t : Nat → St5) (nd ot a : Int) (w : World) (H : Hid (LineAt w A O C P ls lt s t)) (hn : n < lt) (g2 : fromB 1 10000000 nd = true) (ho : 0 ≤ ot ∧ ot ≤ 200) (K : Hid KnownOk)
    (hoa : ot ≤ a) (hG : Great s (t n) nd a true) (h2 : a = 200) :
    Calls Tryz.prog 8 #[.agg #[.slice (some ⟨A, O, none⟩) ls cs, .slice (some ⟨C, P, none⟩) lt ct], .int .i64 (n : Int), .int .i64 nd, .int .i64 ot] w
      fun e w' => e = .returned (.bool true) ∧ Below w.heap.size w w' := by
  have BX := Lib.hid (fun (w1 : World) (hb : Below (w.alloc (.cells #[.slice (some ⟨A, O, none⟩) ls cs, .slice (some ⟨C, P, none⟩) lt ct] 25)).heap.size (w.alloc (.cells #[.slice (some ⟨A, O, none⟩) ls cs, .slice (some ⟨C, P, none⟩) lt ct] 25)) w1) => box_cells hb)
  have HL : Hid (∀ w1, Below (w.alloc (.cells #[.slice (some ⟨A, O, none⟩) ls cs, .slice (some ⟨C, P, none⟩) lt ct] 25)).heap.size (w.alloc (.cells #[.slice (some ⟨A, O, none⟩) ls cs, .slice (some ⟨C, P, none⟩) lt ct] 25)) w1 → LineAt w1 A O C P ls lt s t) := Lib.hid fun w1 h => H.out.below (below_al h)
  have HS : Hid (∀ w1, Below (w.alloc (.cells #[.slice (some ⟨A, O, none⟩) ls cs, .slice (some ⟨C, P, none⟩) lt ct] 25)).heap.size (w.alloc (.cells #[.slice (some ⟨A, O, none⟩) ls cs, .slice (some ⟨C, P, none⟩) lt ct] 25)) w1 → Hid (NumSl w1 (some ⟨A, O, none⟩) ls s)) := Lib.hid fun w1 h => Lib.hid (.inr ⟨A, O, rfl, (HL.out w1 h).hA, (HL.out w1 h).sp⟩)
  have HT : Hid (∀ w1, Below (w.alloc (.cells #[.slice (some ⟨A, O, none⟩) ls cs, .slice (some ⟨C, P, none⟩) lt ct] 25)).heap.size (w.alloc (.cells #[.slice (some ⟨A, O, none⟩) ls cs, .slice (some ⟨C, P, none⟩) lt ct] 25)) w1 → Hid (StSl w1 (some ⟨C, P, none⟩) lt t)) := Lib.hid fun w1 h => Lib.hid (.inr ⟨C, P, rfl, (HL.out w1 h).hC, (HL.out w1 h).st⟩)
  have q0 := H.out.ls2
  have q1 := H.out.lt2
  have hls : ls ≤ maxLen := by unfold maxLen; omega
  have hlt : lt ≤ maxLen := by unfold maxLen; omega
  have HR : Hid (RightP ls lt s t) := Lib.hid ⟨H.out.ls1, H.out.ls2, H.out.lt1, H.out.lt2, H.out.sok, H.out.tok⟩
  have hsh : decide (ls ≤ 13 ∧ lt ≤ 10) = true := by simp; omega
  have g1 : fromB 0 ((lt : Int) - 1) (n : Int) = true := by simp only [fromB, decide_eq_true_eq]; omega
  have g3 : fromB 0 200 ot = true := by simp only [fromB, decide_eq_true_eq]; omega
  have HG := Lib.hid hG
  clear hG
  obtain ⟨p1, p2, p3, p4⟩ : 0 ≤ a ∧ a ≤ 200 ∧ nd ≤ cupsL s (t n) a (t n).hi ∧ ∀ a', a < a' → a' ≤ 200 → cupsL s (t n) a' (t n).hi < nd := by
    rcases HG.out with ⟨_, h1, h2, h3, h4⟩ | ⟨h, _⟩
    · exact ⟨h1, h2, h3, h4⟩
    · cases h
  have P4 := Lib.hid p4
  clear p4
  have ha : 0 ≤ a ∧ a ≤ 200 := ⟨p1, p2⟩
  have g4 : fromB 0 200 a = true := by simp only [fromB, decide_eq_true_eq]; omega
  obtain ⟨u1, u2, u3, u4, u5⟩ := H.out.bds hn
  have hsp : 0 ≤ s (t n).f.toNat := by omega
  have hhi : 0 ≤ (t n).hi := by omega
  clear u1 u2 u3 u4 u5
  have d3 : decide (cupsL s (t n) a (t n).hi < nd) = false := decide_eq_false (by omega)
  have d1 : decide (nd ≤ cupsL s (t n) ot (t n).hi) = true := decide_eq_true (Int.le_trans p3 (cupsL_mono hsp hhi (Int.le_refl _) ho.1 hoa))
  subst h2
  go_enter Tryz.func8, Tryz.ntmps8
  go_wp2_with (first
    | (go_at_call 16; refine (short_w _ _ _ _ _ _ _ hls hlt).mono ?_; rw [hsh]; rintro e w1 ⟨rfl, hb1⟩; obtain ⟨x1, x2, x3⟩ := BX.out _ hb1)
    | (go_at_call 20; refine (right_w _ _ _ _ _ _ s t _ (by omega) (by omega) (HS.out _ hb1) (HT.out _ hb1)).mono ?_; rintro e w2 ⟨⟨rb, rfl, hrb⟩, hb2⟩; obtain rfl : rb = true := hrb.2 HR.out; clear hrb; have hb12 := hb1.trans (hb2.mono hb1.size); clear x1 x2 x3; obtain ⟨x1, x2, x3⟩ := BX.out _ hb12)
    | (go_at_call 21; refine (number_w _ undef _ _ _ _ _ hlt).mono ?_; rintro e w3 ⟨rfl, hb3⟩; have hb13 := hb12.trans (hb3.mono hb12.size); clear x1 x2 x3; obtain ⟨x1, x2, x3⟩ := BX.out _ hb13)
    | (go_at_call 34; refine (need_w _ _).mono ?_; rintro e w' ⟨rfl, rfl⟩)
    | (go_at_call 22; refine (age_w _ _).mono ?_; rintro e w' ⟨rfl, rfl⟩)
    | (go_at_call 32; refine (latest_is _ _ (Lib.hid (HL.out _ hb13)) hn g2 HG.out).mono ?_; rintro e w4 ⟨rfl, hb4⟩; have hb14 := hb13.trans (hb4.mono hb13.size); clear x1 x2 x3; obtain ⟨x1, x2, x3⟩ := BX.out _ hb14)
    | (go_at_call_of 19 ot; refine (pcarries_w _ _ _ _ _ _ _ _ _ s t ot _ (Lib.hid (HL.out _ hb14)) hn ho).mono ?_; rintro e w5 ⟨rfl, hb5⟩; have hb15 := hb14.trans (hb5.mono hb14.size); have hb15a := hb15.alloc hb15.size (.cells #[.int .i64 (cupsL s (t n) ot (t n).hi), .int .i64 (cupsL s (t n) ot (t n).lo)] 31); clear x1 x2 x3; obtain ⟨x1, x2, x3⟩ := BX.out _ hb15)
    | (go_at_call 19; refine (pcarries_w _ _ _ _ _ _ _ _ _ s t 200 _ (Lib.hid (HL.out _ hb15a)) hn ha).mono ?_; rintro e w6 ⟨rfl, hb6⟩; have hb16 := hb15a.trans (hb6.mono hb15a.size); have hb16a := hb16.alloc hb16.size (.cells #[.int .i64 (cupsL s (t n) 200 (t n).hi), .int .i64 (cupsL s (t n) 200 (t n).lo)] 31); clear x1 x2 x3; obtain ⟨x1, x2, x3⟩ := BX.out _ hb16)
    | (go_at_call 17; refine (K.out _).mono ?_; rintro e w11 ⟨rfl, hb11⟩))
  go_ret
  exact ⟨rfl, below_al (hb16a.trans (hb11.mono hb16a.size))⟩

set_option maxRecDepth 100000 in
set_option maxHeartbeats 1000000 in
theorem lawl_s2 (A O C P ls cs lt ct n : Nat) (s : Nat → Int) (t : Nat → St5) (nd ot a : Int) (w : World) (H : Hid (LineAt w A O C P ls lt s t)) (hn : n < lt) (g2 : fromB 1 10000000 nd = true) (ho : 0 ≤ ot ∧ ot ≤ 200) (K : Hid KnownOk)
    (hoa : ot ≤ a) (hG : Great s (t n) nd a true) (h2 : ¬ a = 200) :
    Calls Tryz.prog 8 #[.agg #[.slice (some ⟨A, O, none⟩) ls cs, .slice (some ⟨C, P, none⟩) lt ct], .int .i64 (n : Int), .int .i64 nd, .int .i64 ot] w
      fun e w' => e = .returned (.bool true) ∧ Below w.heap.size w w' := by
  have BX := Lib.hid (fun (w1 : World) (hb : Below (w.alloc (.cells #[.slice (some ⟨A, O, none⟩) ls cs, .slice (some ⟨C, P, none⟩) lt ct] 25)).heap.size (w.alloc (.cells #[.slice (some ⟨A, O, none⟩) ls cs, .slice (some ⟨C, P, none⟩) lt ct] 25)) w1) => box_cells hb)
  have HL : Hid (∀ w1, Below (w.alloc (.cells #[.slice (some ⟨A, O, none⟩) ls cs, .slice (some ⟨C, P, none⟩) lt ct] 25)).heap.size (w.alloc (.cells #[.slice (some ⟨A, O, none⟩) ls cs, .slice (some ⟨C, P, none⟩) lt ct] 25)) w1 → LineAt w1 A O C P ls lt s t) := Lib.hid fun w1 h => H.out.below (below_al h)
  have HS : Hid (∀ w1, Below (w.alloc (.cells #[.slice (some ⟨A, O, none⟩) ls cs, .slice (some ⟨C, P, none⟩) lt ct] 25)).heap.size (w.alloc (.cells #[.slice (some ⟨A, O, none⟩) ls cs, .slice (some ⟨C, P, none⟩) lt ct] 25)) w1 → Hid (NumSl w1 (some ⟨A, O, none⟩) ls s)) := Lib.hid fun w1 h => Lib.hid (.inr ⟨A, O, rfl, (HL.out w1 h).hA, (HL.out w1 h).sp⟩)
  have HT : Hid (∀ w1, Below (w.alloc (.cells #[.slice (some ⟨A, O, none⟩) ls cs, .slice (some ⟨C, P, none⟩) lt ct] 25)).heap.size (w.alloc (.cells #[.slice (some ⟨A, O, none⟩) ls cs, .slice (some ⟨C, P, none⟩) lt ct] 25)) w1 → Hid (StSl w1 (some ⟨C, P, none⟩) lt t)) := Lib.hid fun w1 h => Lib.hid (.inr ⟨C, P, rfl, (HL.out w1 h).hC, (HL.out w1 h).st⟩)
  have q0 := H.out.ls2
  have q1 := H.out.lt2
  have hls : ls ≤ maxLen := by unfold maxLen; omega
  have hlt : lt ≤ maxLen := by unfold maxLen; omega
  have HR : Hid (RightP ls lt s t) := Lib.hid ⟨H.out.ls1, H.out.ls2, H.out.lt1, H.out.lt2, H.out.sok, H.out.tok⟩
  have hsh : decide (ls ≤ 13 ∧ lt ≤ 10) = true := by simp; omega
  have g1 : fromB 0 ((lt : Int) - 1) (n : Int) = true := by simp only [fromB, decide_eq_true_eq]; omega
  have g3 : fromB 0 200 ot = true := by simp only [fromB, decide_eq_true_eq]; omega
  have HG := Lib.hid hG
  clear hG
  obtain ⟨p1, p2, p3, p4⟩ : 0 ≤ a ∧ a ≤ 200 ∧ nd ≤ cupsL s (t n) a (t n).hi ∧ ∀ a', a < a' → a' ≤ 200 → cupsL s (t n) a' (t n).hi < nd := by
    rcases HG.out with ⟨_, h1, h2, h3, h4⟩ | ⟨h, _⟩
    · exact ⟨h1, h2, h3, h4⟩
    · cases h
  have P4 := Lib.hid p4
  clear p4
  have ha : 0 ≤ a ∧ a ≤ 200 := ⟨p1, p2⟩
  have g4 : fromB 0 200 a = true := by simp only [fromB, decide_eq_true_eq]; omega
  obtain ⟨u1, u2, u3, u4, u5⟩ := H.out.bds hn
  have hsp : 0 ≤ s (t n).f.toNat := by omega
  have hhi : 0 ≤ (t n).hi := by omega
  clear u1 u2 u3 u4 u5
  have d3 : decide (cupsL s (t n) a (t n).hi < nd) = false := decide_eq_false (by omega)
  have d1 : decide (nd ≤ cupsL s (t n) ot (t n).hi) = true := decide_eq_true (Int.le_trans p3 (cupsL_mono hsp hhi (Int.le_refl _) ho.1 hoa))
  have ha1 : 0 ≤ a + 1 ∧ a + 1 ≤ 200 := ⟨by omega, by omega⟩
  have d5 : decide (cupsL s (t n) (a + 1) (t n).hi < nd) = true := decide_eq_true (P4.out (a + 1) (by omega) (by omega))
  go_enter Tryz.func8, Tryz.ntmps8
  go_wp2_with (first
    | (go_at_call 16; refine (short_w _ _ _ _ _ _ _ hls hlt).mono ?_; rw [hsh]; rintro e w1 ⟨rfl, hb1⟩; obtain ⟨x1, x2, x3⟩ := BX.out _ hb1)
    | (go_at_call 20; refine (right_w _ _ _ _ _ _ s t _ (by omega) (by omega) (HS.out _ hb1) (HT.out _ hb1)).mono ?_; rintro e w2 ⟨⟨rb, rfl, hrb⟩, hb2⟩; obtain rfl : rb = true := hrb.2 HR.out; clear hrb; have hb12 := hb1.trans (hb2.mono hb1.size); clear x1 x2 x3; obtain ⟨x1, x2, x3⟩ := BX.out _ hb12)
    | (go_at_call 21; refine (number_w _ undef _ _ _ _ _ hlt).mono ?_; rintro e w3 ⟨rfl, hb3⟩; have hb13 := hb12.trans (hb3.mono hb12.size); clear x1 x2 x3; obtain ⟨x1, x2, x3⟩ := BX.out _ hb13)
    | (go_at_call 34; refine (need_w _ _).mono ?_; rintro e w' ⟨rfl, rfl⟩)
    | (go_at_call 22; refine (age_w _ _).mono ?_; rintro e w' ⟨rfl, rfl⟩)
    | (go_at_call 32; refine (latest_is _ _ (Lib.hid (HL.out _ hb13)) hn g2 HG.out).mono ?_; rintro e w4 ⟨rfl, hb4⟩; have hb14 := hb13.trans (hb4.mono hb13.size); clear x1 x2 x3; obtain ⟨x1, x2, x3⟩ := BX.out _ hb14)
    | (go_at_call_of 19 ot; refine (pcarries_w _ _ _ _ _ _ _ _ _ s t ot _ (Lib.hid (HL.out _ hb14)) hn ho).mono ?_; rintro e w5 ⟨rfl, hb5⟩; have hb15 := hb14.trans (hb5.mono hb14.size); have hb15a := hb15.alloc hb15.size (.cells #[.int .i64 (cupsL s (t n) ot (t n).hi), .int .i64 (cupsL s (t n) ot (t n).lo)] 31); clear x1 x2 x3; obtain ⟨x1, x2, x3⟩ := BX.out _ hb15)
    | (go_at_call 19; refine (pcarries_w _ _ _ _ _ _ _ _ _ s t (a + 1) _ (Lib.hid (HL.out _ hb16a)) hn ha1).mono ?_; rintro e w7 ⟨rfl, hb7⟩; have hb17 := hb16a.trans (hb7.mono hb16a.size); have hb17a := hb17.alloc hb17.size (.cells #[.int .i64 (cupsL s (t n) (a + 1) (t n).hi), .int .i64 (cupsL s (t n) (a + 1) (t n).lo)] 31); clear x1 x2 x3; obtain ⟨x1, x2, x3⟩ := BX.out _ hb17)
    | (go_at_call_of 19 a; refine (pcarries_w _ _ _ _ _ _ _ _ _ s t a _ (Lib.hid (HL.out _ hb15a)) hn ha).mono ?_; rintro e w6 ⟨rfl, hb6⟩; have hb16 := hb15a.trans (hb6.mono hb15a.size); have hb16a := hb16.alloc hb16.size (.cells #[.int .i64 (cupsL s (t n) a (t n).hi), .int .i64 (cupsL s (t n) a (t n).lo)] 31); clear x1 x2 x3; obtain ⟨x1, x2, x3⟩ := BX.out _ hb16)
    | (go_at_call 17; refine (K.out _).mono ?_; rintro e w11 ⟨rfl, hb11⟩))
  go_ret
  exact ⟨rfl, below_al (hb17a.trans (hb11.mono hb17a.size))⟩

set_option maxRecDepth 100000 in
set_option maxHeartbeats 1000000 in
theorem lawl_t2 (A O C P ls cs lt ct n : Nat) (s : Nat → Int) (t : Nat → St5) (nd ot a : Int) (w : World) (H : Hid (LineAt w A O C P ls lt s t)) (hn : n < lt) (g2 : fromB 1 10000000 nd = true) (ho : 0 ≤ ot ∧ ot ≤ 200) (K : Hid KnownOk)
    (hoa : ¬ ot ≤ a) (hG : Great s (t n) nd a true) (h2 : ¬ a = 200) :
    Calls Tryz.prog 8 #[.agg #[.slice (some ⟨A, O, none⟩) ls cs, .slice (some ⟨C, P, none⟩) lt ct], .int .i64 (n : Int), .int .i64 nd, .int .i64 ot] w
      fun e w' => e = .returned (.bool true) ∧ Below w.heap.size w w' := by
  have BX := Lib.hid (fun (w1 : World) (hb : Below (w.alloc (.cells #[.slice (some ⟨A, O, none⟩) ls cs, .slice (some ⟨C, P, none⟩) lt ct] 25)).heap.size (w.alloc (.cells #[.slice (some ⟨A, O, none⟩) ls cs, .slice (some ⟨C, P, none⟩) lt ct] 25)) w1) => box_cells hb)
  have HL : Hid (∀ w1, Below (w.alloc (.cells #[.slice (some ⟨A, O, none⟩) ls cs, .slice (some ⟨C, P, none⟩) lt ct] 25)).heap.size (w.alloc (.cells #[.slice (some ⟨A, O, none⟩) ls cs, .slice (some ⟨C, P, none⟩) lt ct] 25)) w1 → LineAt w1 A O C P ls lt s t) := Lib.hid fun w1 h => H.out.below (below_al h)
  have HS : Hid (∀ w1, Below (w.alloc (.cells #[.slice (some ⟨A, O, none⟩) ls cs, .slice (some ⟨C, P, none⟩) lt ct] 25)).heap.size (w.alloc (.cells #[.slice (some ⟨A, O, none⟩) ls cs, .slice (some ⟨C, P, none⟩) lt ct] 25)) w1 → Hid (NumSl w1 (some ⟨A, O, none⟩) ls s)) := Lib.hid fun w1 h => Lib.hid (.inr ⟨A, O, rfl, (HL.out w1 h).hA, (HL.out w1 h).sp⟩)
  have HT : Hid (∀ w1, Below (w.alloc (.cells #[.slice (some ⟨A, O, none⟩) ls cs, .slice (some ⟨C, P, none⟩) lt ct] 25)).heap.size (w.alloc (.cells #[.slice (some ⟨A, O, none⟩) ls cs, .slice (some ⟨C, P, none⟩) lt ct] 25)) w1 → Hid (StSl w1 (some ⟨C, P, none⟩) lt t)) := Lib.hid fun w1 h => Lib.hid (.inr ⟨C, P, rfl, (HL.out w1 h).hC, (HL.out w1 h).st⟩)
  have q0 := H.out.ls2
  have q1 := H.out.lt2
  have hls : ls ≤ maxLen := by unfold maxLen; omega
  have hlt : lt ≤ maxLen := by unfold maxLen; omega
  have HR : Hid (RightP ls lt s t) := Lib.hid ⟨H.out.ls1, H.out.ls2, H.out.lt1, H.out.lt2, H.out.sok, H.out.tok⟩
  have hsh : decide (ls ≤ 13 ∧ lt ≤ 10) = true := by simp; omega
  have g1 : fromB 0 ((lt : Int) - 1) (n : Int) = true := by simp only [fromB, decide_eq_true_eq]; omega
  have g3 : fromB 0 200 ot = true := by simp only [fromB, decide_eq_true_eq]; omega
  have HG := Lib.hid hG
  clear hG
  obtain ⟨p1, p2, p3, p4⟩ : 0 ≤ a ∧ a ≤ 200 ∧ nd ≤ cupsL s (t n) a (t n).hi ∧ ∀ a', a < a' → a' ≤ 200 → cupsL s (t n) a' (t n).hi < nd := by
    rcases HG.out with ⟨_, h1, h2, h3, h4⟩ | ⟨h, _⟩
    · exact ⟨h1, h2, h3, h4⟩
    · cases h
  have P4 := Lib.hid p4
  clear p4
  have ha : 0 ≤ a ∧ a ≤ 200 := ⟨p1, p2⟩
  have g4 : fromB 0 200 a = true := by simp only [fromB, decide_eq_true_eq]; omega
  obtain ⟨u1, u2, u3, u4, u5⟩ := H.out.bds hn
  have hsp : 0 ≤ s (t n).f.toNat := by omega
  have hhi : 0 ≤ (t n).hi := by omega
  clear u1 u2 u3 u4 u5
  have d3 : decide (cupsL s (t n) a (t n).hi < nd) = false := decide_eq_false (by omega)
  have d1 : decide (nd ≤ cupsL s (t n) ot (t n).hi) = false := decide_eq_false (by have := P4.out ot (by omega) ho.2; omega)
  have ha1 : 0 ≤ a + 1 ∧ a + 1 ≤ 200 := ⟨by omega, by omega⟩
  have d5 : decide (cupsL s (t n) (a + 1) (t n).hi < nd) = true := decide_eq_true (P4.out (a + 1) (by omega) (by omega))
  go_enter Tryz.func8, Tryz.ntmps8
  go_wp2_with (first
    | (go_at_call 16; refine (short_w _ _ _ _ _ _ _ hls hlt).mono ?_; rw [hsh]; rintro e w1 ⟨rfl, hb1⟩; obtain ⟨x1, x2, x3⟩ := BX.out _ hb1)
    | (go_at_call 20; refine (right_w _ _ _ _ _ _ s t _ (by omega) (by omega) (HS.out _ hb1) (HT.out _ hb1)).mono ?_; rintro e w2 ⟨⟨rb, rfl, hrb⟩, hb2⟩; obtain rfl : rb = true := hrb.2 HR.out; clear hrb; have hb12 := hb1.trans (hb2.mono hb1.size); clear x1 x2 x3; obtain ⟨x1, x2, x3⟩ := BX.out _ hb12)
    | (go_at_call 21; refine (number_w _ undef _ _ _ _ _ hlt).mono ?_; rintro e w3 ⟨rfl, hb3⟩; have hb13 := hb12.trans (hb3.mono hb12.size); clear x1 x2 x3; obtain ⟨x1, x2, x3⟩ := BX.out _ hb13)
    | (go_at_call 34; refine (need_w _ _).mono ?_; rintro e w' ⟨rfl, rfl⟩)
    | (go_at_call 22; refine (age_w _ _).mono ?_; rintro e w' ⟨rfl, rfl⟩)
    | (go_at_call 32; refine (latest_is _ _ (Lib.hid (HL.out _ hb13)) hn g2 HG.out).mono ?_; rintro e w4 ⟨rfl, hb4⟩; have hb14 := hb13.trans (hb4.mono hb13.size); clear x1 x2 x3; obtain ⟨x1, x2, x3⟩ := BX.out _ hb14)
    | (go_at_call_of 19 ot; refine (pcarries_w _ _ _ _ _ _ _ _ _ s t ot _ (Lib.hid (HL.out _ hb14)) hn ho).mono ?_; rintro e w5 ⟨rfl, hb5⟩; have hb15 := hb14.trans (hb5.mono hb14.size); have hb15a := hb15.alloc hb15.size (.cells #[.int .i64 (cupsL s (t n) ot (t n).hi), .int .i64 (cupsL s (t n) ot (t n).lo)] 31); clear x1 x2 x3; obtain ⟨x1, x2, x3⟩ := BX.out _ hb15)
    | (go_at_call 19; refine (pcarries_w _ _ _ _ _ _ _ _ _ s t (a + 1) _ (Lib.hid (HL.out _ hb16a)) hn ha1).mono ?_; rintro e w7 ⟨rfl, hb7⟩; have hb17 := hb16a.trans (hb7.mono hb16a.size); have hb17a := hb17.alloc hb17.size (.cells #[.int .i64 (cupsL s (t n) (a + 1) (t n).hi), .int .i64 (cupsL s (t n) (a + 1) (t n).lo)] 31); clear x1 x2 x3; obtain ⟨x1, x2, x3⟩ := BX.out _ hb17)
    | (go_at_call_of 19 a; refine (pcarries_w _ _ _ _ _ _ _ _ _ s t a _ (Lib.hid (HL.out _ hb15a)) hn ha).mono ?_; rintro e w6 ⟨rfl, hb6⟩; have hb16 := hb15a.trans (hb6.mono hb15a.size); have hb16a := hb16.alloc hb16.size (.cells #[.int .i64 (cupsL s (t n) a (t n).hi), .int .i64 (cupsL s (t n) a (t n).lo)] 31); clear x1 x2 x3; obtain ⟨x1, x2, x3⟩ := BX.out _ hb16)
    | (go_at_call 17; refine (K.out _).mono ?_; rintro e w11 ⟨rfl, hb11⟩))
  go_ret
  exact ⟨rfl, below_al (hb17a.trans (hb11.mono hb17a.size))⟩
end Go.Kn

namespace Go.Kn
open Go Go.Proofs Go.RowKit
theorem lawl_w (sa ta : Option Addr) (ls cs lt ct : Nat) (s : Nat → Int) (t : Nat → St5) (st nd ot : Int) (w : World) (hls : ls ≤ maxLen) (hlt : lt ≤ maxLen) (HS0 : NumSl w sa ls s) (HT0 : StSl w ta lt t) (K : Hid KnownOk) :
    Calls Tryz.prog 8 #[.agg #[.slice sa ls cs, .slice ta lt ct], .int .i64 st, .int .i64 nd, .int .i64 ot] w
      fun e w' => e = .returned (.bool true) ∧ Below w.heap.size w w' := by
  by_cases hq : ls ≤ 13 ∧ lt ≤ 10
  case neg => exact lawl_a sa ta ls cs lt ct s t st nd ot w hls hlt HS0 HT0 K hq
  by_cases hR : RightP ls lt s t
  case neg => exact lawl_b sa ta ls cs lt ct s t st nd ot w hls hlt HS0 HT0 K hq hR
  cases g1 : fromB 0 ((lt : Int) - 1) st
  case false => exact lawl_c sa ta ls cs lt ct s t st nd ot w hls hlt HS0 HT0 K hq hR g1
  cases g2 : fromB 1 10000000 nd
  case false => exact lawl_d sa ta ls cs lt ct s t st nd ot w hls hlt HS0 HT0 K hq hR g1 g2
  cases g3 : fromB 0 200 ot
  case false => exact lawl_e sa ta ls cs lt ct s t st nd ot w hls hlt HS0 HT0 K hq hR g1 g2 g3
  simp only [fromB, decide_eq_true_eq] at g1 g3
  obtain ⟨n, rfl⟩ : ∃ n : Nat, st = n := ⟨st.toNat, by omega⟩
  have hn : n < lt := by omega
  obtain ⟨A, O, rfl, hA, hsp⟩ := HS0.resolve_left (by have := hR.ls1; omega)
  obtain ⟨C, P, rfl, hC, hst⟩ := HT0.resolve_left (by have := hR.lt1; omega)
  have H : Hid (LineAt w A O C P ls lt s t) := Lib.hid ⟨hA, hC, hR.ls1, hR.ls2, hR.lt1, hR.lt2, hsp, hst, hR.sok, hR.tok⟩
  obtain ⟨a, b, hG⟩ := great_exists s (t n) nd
  cases b
  · exact lawl_n A O C P ls cs lt ct n s t nd ot a w H hn g2 g3 K hG
  · by_cases ho : ot ≤ a
    · by_cases h2 : a = 200
      · exact lawl_s1 A O C P ls cs lt ct n s t nd ot a w H hn g2 g3 K ho hG h2
      · exact lawl_s2 A O C P ls cs lt ct n s t nd ot a w H hn g2 g3 K ho hG h2
    · exact lawl_t2 A O C P ls cs lt ct n s t nd ot a w H hn g2 g3 K ho hG (by omega)
end Go.Kn
