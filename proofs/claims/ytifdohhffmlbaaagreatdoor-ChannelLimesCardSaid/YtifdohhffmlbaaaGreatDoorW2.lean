/- Walks of the functions of layer 2 that ChannelTrue calls, and the law itself (a part of it). Conditions: as each theorem states them. -/
import Derived.Test.YtifdohhffmlbaaaGreatDoorW1
set_option linter.unusedVariables false
set_option linter.unusedSimpArgs false
namespace Go.Kn
open Go Go.Proofs Go.RowKit

def stB (b d f lo hi sp : Int) : Bool := decide (1 ≤ b ∧ b ≤ 100 ∧ 1 ≤ d ∧ d ≤ 100 ∧ 0 ≤ f ∧ f ≤ sp - 1 ∧ 0 ≤ lo ∧ lo ≤ hi ∧ hi ≤ 100)

set_option maxHeartbeats 1000000 in
theorem stretch_w (b d f lo hi sp : Int) (w : World) (hsp : 0 ≤ sp ∧ sp ≤ 1000000) :
    Calls Tryz.prog 66 #[.agg #[.int .i64 b, .int .i64 d, .int .i64 f, .int .i64 lo, .int .i64 hi], .int .i64 sp] w fun e w' => e = .returned (.bool (stB b d f lo hi sp)) ∧ Below w.heap.size w w' := by
  obtain ⟨s1, s2⟩ := hsp
  cases h1 : fromB 1 100 b
  case false =>
    go_enter Tryz.func66, Tryz.ntmps66
    go_wp2_with (first | (go_at_call 65; refine (in_w _ _ _ _).mono ?_; rintro e w' ⟨rfl, rfl⟩) | (go_at_call 100; refine (between_w _ _ _ _ _).mono ?_; rintro e w' ⟨rfl, hbl⟩))
    go_ret
    refine ⟨?_, (Below.refl _ _).alloc (Nat.le_refl _) _⟩
    have := fromB_f h1
    rw [show stB b d f lo hi sp = false from by simp only [stB, decide_eq_false_iff_not]; omega]; rfl
  cases h2 : fromB 1 100 d
  case false =>
    go_enter Tryz.func66, Tryz.ntmps66
    go_wp2_with (first | (go_at_call 65; refine (in_w _ _ _ _).mono ?_; rintro e w' ⟨rfl, rfl⟩) | (go_at_call 100; refine (between_w _ _ _ _ _).mono ?_; rintro e w' ⟨rfl, hbl⟩))
    go_ret
    refine ⟨?_, (Below.refl _ _).alloc (Nat.le_refl _) _⟩
    have := fromB_f h2
    rw [show stB b d f lo hi sp = false from by simp only [stB, decide_eq_false_iff_not]; omega]; rfl
  cases h3 : fromB 0 (sp - 1) f
  case false =>
    go_enter Tryz.func66, Tryz.ntmps66
    go_wp2_with (first | (go_at_call 65; refine (in_w _ _ _ _).mono ?_; rintro e w' ⟨rfl, rfl⟩) | (go_at_call 100; refine (between_w _ _ _ _ _).mono ?_; rintro e w' ⟨rfl, hbl⟩))
    go_ret
    refine ⟨?_, (Below.refl _ _).alloc (Nat.le_refl _) _⟩
    have := fromB_f h3
    rw [show stB b d f lo hi sp = false from by simp only [stB, decide_eq_false_iff_not]; omega]; rfl
  go_enter Tryz.func66, Tryz.ntmps66
  go_wp2_with (first | (go_at_call 65; refine (in_w _ _ _ _).mono ?_; rintro e w' ⟨rfl, rfl⟩) | (go_at_call 100; refine (between_w _ _ _ _ _).mono ?_; rintro e w' ⟨rfl, hbl⟩))
  go_ret
  refine ⟨?_, below_al hbl⟩
  have e1 := fromB_tt h1
  have e2 := fromB_tt h2
  have e3 := fromB_tt h3
  have : betB lo hi 0 100 = stB b d f lo hi sp := by simp only [betB, stB]; rw [decide_eq_decide]; omega
  rw [← this]; rfl

set_option maxHeartbeats 400000 in
theorem number_w (x y : Value) (ad : Option Addr) (len cap : Nat) (n : Int) (w : World) (hl : len ≤ maxLen) :
    Calls Tryz.prog 20 #[.agg #[x, .slice ad len cap], .int .i64 n] w fun e w' => e = .returned (.bool (fromB 0 ((len : Int) - 1) n)) ∧ Below w.heap.size w w' := by
  unfold maxLen at hl
  go_enter Tryz.func20, Tryz.ntmps20
  go_wp2_with (go_at_call 65; refine (in_w _ _ _ _).mono ?_; rintro e w' ⟨rfl, rfl⟩)
  go_ret
  exact ⟨rfl, (Below.refl _ _).alloc (Nat.le_refl _) _⟩

set_option maxHeartbeats 400000 in
theorem isStretch_w (x : Value) (ad : Option Addr) (len cap : Nat) (n : Int) (w : World) (hl : len ≤ maxLen) :
    Calls Tryz.prog 61 #[.agg #[x, .slice ad len cap], .int .i64 n] w fun e w' => e = .returned (.bool (fromB 0 ((len : Int) - 1) n)) ∧ Below w.heap.size w w' := by
  unfold maxLen at hl
  go_enter Tryz.func61, Tryz.ntmps61
  go_wp2_with (go_at_call 88; refine (isFrom_w _ _ _ _).mono ?_; rintro e w' ⟨rfl, rfl⟩)
  go_ret
  exact ⟨rfl, (Below.refl _ _).alloc (Nat.le_refl _) _⟩
end Go.Kn
