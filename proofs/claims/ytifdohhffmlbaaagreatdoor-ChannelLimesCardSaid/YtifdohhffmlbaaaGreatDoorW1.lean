/- Walks of the functions of layer 2 that ChannelTrue calls, and the law itself (a part of it). Conditions: as each theorem states them. -/
import Derived.Test.YtifdohhffmlbaaaGreatDoorProg
import Derived.WalkKit
import Derived.WalkSpells
import Derived.WalkLawsBesides
set_option linter.unusedVariables false
set_option linter.unusedSimpArgs false
namespace Go.Kn
open Go Go.Proofs Go.RowKit

def fromB (a b c : Int) : Bool := decide (a ≤ c ∧ c ≤ b)

set_option maxHeartbeats 400000 in
theorem isFrom_w (a b c : Int) (w : World) :
    Calls Tryz.prog 88 #[.int .i64 a, .int .i64 b, .int .i64 c] w fun e w' => e = .returned (.bool (fromB a b c)) ∧ w = w' := by
  by_cases h1 : a ≤ c <;> by_cases h2 : c ≤ b
  all_goals
    go_enter Tryz.func88, Tryz.ntmps88
    go_wp2
    go_ret
    exact ⟨by simp [fromB, h1, h2], rfl⟩

set_option maxHeartbeats 400000 in
theorem in_w (a b c : Int) (w : World) :
    Calls Tryz.prog 65 #[.int .i64 c, .int .i64 a, .int .i64 b] w fun e w' => e = .returned (.bool (fromB a b c)) ∧ w = w' := by
  by_cases h1 : a ≤ c <;> by_cases h2 : c ≤ b
  all_goals
    go_enter Tryz.func65, Tryz.ntmps65
    go_wp2
    go_ret
    exact ⟨by simp [fromB, h1, h2], rfl⟩

set_option maxHeartbeats 400000 in
theorem isSpeed_w (c : Int) (w : World) :
    Calls Tryz.prog 93 #[.int .i64 c] w fun e w' => e = .returned (.bool (fromB 1 1000 c)) ∧ w = w' := by
  go_enter Tryz.func93, Tryz.ntmps93
  go_wp2_with (go_at_call 88; refine (isFrom_w _ _ _ _).mono ?_; rintro e w' ⟨rfl, rfl⟩)
  go_ret
  exact ⟨rfl, rfl⟩

set_option maxHeartbeats 400000 in
theorem isAge_w (c : Int) (w : World) :
    Calls Tryz.prog 62 #[.int .i64 c] w fun e w' => e = .returned (.bool (fromB 0 200 c)) ∧ w = w' := by
  go_enter Tryz.func62, Tryz.ntmps62
  go_wp2_with (go_at_call 88; refine (isFrom_w _ _ _ _).mono ?_; rintro e w' ⟨rfl, rfl⟩)
  go_ret
  exact ⟨rfl, rfl⟩

set_option maxHeartbeats 400000 in
theorem age_w (c : Int) (w : World) :
    Calls Tryz.prog 21 #[.int .i64 c] w fun e w' => e = .returned (.bool (fromB 0 200 c)) ∧ w = w' := by
  go_enter Tryz.func21, Tryz.ntmps21
  go_wp2_with (go_at_call 65; refine (in_w _ _ _ _).mono ?_; rintro e w' ⟨rfl, rfl⟩)
  go_ret
  exact ⟨rfl, rfl⟩

def spanB (lim lo hi : Int) : Bool := decide (0 ≤ lo ∧ lo ≤ lim ∧ lo ≤ hi ∧ hi ≤ lim)


theorem spanB_tt {lim lo hi : Int} (h1 : fromB 0 lim lo = true) : fromB lo lim hi = spanB lim lo hi := by
  simp only [fromB, spanB, decide_eq_true_eq] at *
  rw [decide_eq_decide]; omega
theorem spanB_f {lim lo hi : Int} (h1 : fromB 0 lim lo = false) : false = spanB lim lo hi := by
  simp only [fromB, spanB, decide_eq_false_iff_not] at *
  symm
  rw [decide_eq_false_iff_not]; omega

set_option maxHeartbeats 400000 in
theorem isSpan_w (lim lo hi : Int) (w : World) :
    Calls Tryz.prog 104 #[.int .i64 lim, .agg #[.int .i64 lo, .int .i64 hi]] w fun e w' => e = .returned (.bool (spanB lim lo hi)) ∧ Below w.heap.size w w' := by
  cases h1 : fromB 0 lim lo
  · go_enter Tryz.func104, Tryz.ntmps104
    go_wp2_with (go_at_call 88; refine (isFrom_w _ _ _ _).mono ?_; rintro e w' ⟨rfl, rfl⟩)
    go_ret
    exact ⟨by rw [← spanB_f h1]; rfl, (Below.refl _ _).alloc (Nat.le_refl _) _⟩
  · go_enter Tryz.func104, Tryz.ntmps104
    go_wp2_with (go_at_call 88; refine (isFrom_w _ _ _ _).mono ?_; rintro e w' ⟨rfl, rfl⟩)
    go_ret
    exact ⟨by rw [← spanB_tt h1]; rfl, (Below.refl _ _).alloc (Nat.le_refl _) _⟩


theorem ret_int {k : IntKind} {a b : Int} (h : a = b) : Ending.returned (.int k a) = .returned (.int k b) := by rw [h]

theorem mul_bd {a b A B : Int} (h1 : 0 ≤ a) (h2 : a ≤ A) (h3 : 0 ≤ b) (h4 : b ≤ B) : 0 ≤ a * b ∧ a * b ≤ A * B :=
  ⟨Int.mul_nonneg h1 h3, Int.mul_le_mul h2 h4 h3 (Int.le_trans h1 h2)⟩

theorem cups_fin {X Y sp : Int} (h1 : 0 ≤ X) (h2 : X ≤ 100) (h3 : 0 ≤ Y) (h4 : Y ≤ 100) (h5 : 0 ≤ sp) (h6 : sp ≤ 1000) : wrap64 (wrap64 (X * Y) * sp) = X * Y * sp := by
  have a := mul_bd h1 h2 h3 h4
  have e1 : wrap64 (X * Y) = X * Y := IntWalk.wrap64_in _ (by omega)
  rw [e1]
  have b := mul_bd a.1 a.2 h5 h6
  exact IntWalk.wrap64_in _ (by omega)

def cupsV (b d sp ag r : Int) : Int := max 0 (b - 2 * (r * ag / 100)) * max 0 (d - r * ag / 100) * sp

set_option maxHeartbeats 400000 in
theorem cups_w (b d f lo hi sp ag r : Int) (w : World) (hb : 0 ≤ b ∧ b ≤ 100) (hd : 0 ≤ d ∧ d ≤ 100) (hs : 0 ≤ sp ∧ sp ≤ 1000) (ha : 0 ≤ ag ∧ ag ≤ 200) (hr : 0 ≤ r ∧ r ≤ 100) :
    Calls Tryz.prog 128 #[.agg #[.int .i64 b, .int .i64 d, .int .i64 f, .int .i64 lo, .int .i64 hi, .int .i64 sp, .int .i64 ag], .int .i64 r] w fun e w' => e = .returned (.int .i64 (cupsV b d sp ag r)) ∧ Below w.heap.size w w' := by
  have hra := mul_bd hr.1 hr.2 ha.1 ha.2
  obtain ⟨hra1, hra2⟩ := hra
  obtain ⟨hb1, hb2⟩ := hb
  obtain ⟨hd1, hd2⟩ := hd
  by_cases h1 : 0 < b - 2 * (r * ag / 100) <;> by_cases h2 : 0 < d - r * ag / 100
  all_goals
    go_enter Tryz.func128, Tryz.ntmps128
    go_wp2
    go_ret
    refine ⟨ret_int ?_, (Below.refl _ _).alloc (Nat.le_refl _) _⟩
    unfold cupsV
    have z : wrap64 0 = 0 := IntWalk.wrap64_in _ (by omega)
    first
      | (rw [Int.max_eq_right (by omega), Int.max_eq_right (by omega)]; exact cups_fin (by omega) (by omega) (by omega) (by omega) hs.1 hs.2)
      | (rw [Int.max_eq_left (a := 0) (b := b - 2 * (r * ag / 100)) (by omega)]; simp [z])
      | (rw [Int.max_eq_left (a := 0) (b := d - r * ag / 100) (by omega)]; simp [z])

theorem bcell {W w1 : World} (hb : Below W.heap.size W w1) : (∀ b o, b < W.heap.size → w1.cell? ⟨b, o, none⟩ = W.cell? ⟨b, o, none⟩) ∧ (∀ b o, b < W.heap.size → w1.frozen? ⟨b, o, none⟩ = W.frozen? ⟨b, o, none⟩) :=
  ⟨fun b o h => hb.cell (p := ⟨b, o, none⟩) h, fun b o h => hb.frozen (p := ⟨b, o, none⟩) h⟩

theorem below_al {w w1 : World} {o : Obj} (h : Below (w.alloc o).heap.size (w.alloc o) w1) : Below w.heap.size w w1 :=
  ((Below.refl _ _).alloc (Nat.le_refl _) _).trans (h.mono (by simp))

set_option maxHeartbeats 400000 in
theorem least_w (b d f lo hi sp ag : Int) (w : World) (hb : 0 ≤ b ∧ b ≤ 100) (hd : 0 ≤ d ∧ d ≤ 100) (hs : 0 ≤ sp ∧ sp ≤ 1000) (ha : 0 ≤ ag ∧ ag ≤ 200) (hr : 0 ≤ hi ∧ hi ≤ 100) :
    Calls Tryz.prog 98 #[.agg #[.int .i64 b, .int .i64 d, .int .i64 f, .int .i64 lo, .int .i64 hi, .int .i64 sp, .int .i64 ag]] w fun e w' => e = .returned (.int .i64 (cupsV b d sp ag hi)) ∧ Below w.heap.size w w' := by
  go_enter Tryz.func98, Tryz.ntmps98
  go_wp2_with (go_at_call 128; refine (cups_w _ _ _ _ _ _ _ _ _ hb hd hs ha hr).mono ?_; rintro e w' ⟨rfl, hbl⟩)
  go_ret
  exact ⟨rfl, below_al hbl⟩

set_option maxHeartbeats 400000 in
theorem most_w (b d f lo hi sp ag : Int) (w : World) (hb : 0 ≤ b ∧ b ≤ 100) (hd : 0 ≤ d ∧ d ≤ 100) (hs : 0 ≤ sp ∧ sp ≤ 1000) (ha : 0 ≤ ag ∧ ag ≤ 200) (hr : 0 ≤ lo ∧ lo ≤ 100) :
    Calls Tryz.prog 99 #[.agg #[.int .i64 b, .int .i64 d, .int .i64 f, .int .i64 lo, .int .i64 hi, .int .i64 sp, .int .i64 ag]] w fun e w' => e = .returned (.int .i64 (cupsV b d sp ag lo)) ∧ Below w.heap.size w w' := by
  go_enter Tryz.func99, Tryz.ntmps99
  go_wp2_with (go_at_call 128; refine (cups_w _ _ _ _ _ _ _ _ _ hb hd hs ha hr).mono ?_; rintro e w' ⟨rfl, hbl⟩)
  go_ret
  exact ⟨rfl, below_al hbl⟩

theorem fromB_tt {a b c : Int} (h : fromB a b c = true) : a ≤ c ∧ c ≤ b := by simpa [fromB] using h
theorem fromB_f {a b c : Int} (h : fromB a b c = false) : ¬ (a ≤ c ∧ c ≤ b) := by simpa [fromB] using h

def betB (lo hi a b : Int) : Bool := decide (a ≤ lo ∧ lo ≤ b ∧ a ≤ hi ∧ hi ≤ b ∧ lo ≤ hi)

set_option maxHeartbeats 400000 in
theorem between_w (lo hi a b : Int) (w : World) :
    Calls Tryz.prog 100 #[.agg #[.int .i64 lo, .int .i64 hi], .int .i64 a, .int .i64 b] w fun e w' => e = .returned (.bool (betB lo hi a b)) ∧ Below w.heap.size w w' := by
  cases h1 : fromB a b lo <;> cases h2 : fromB a b hi <;> by_cases h3 : lo ≤ hi
  all_goals
    go_enter Tryz.func100, Tryz.ntmps100
    go_wp2_with (go_at_call 65; refine (in_w _ _ _ _).mono ?_; rintro e w' ⟨rfl, rfl⟩)
    go_ret
    refine ⟨?_, (Below.refl _ _).alloc (Nat.le_refl _) _⟩
    simp only [betB, fromB] at *
    simp only [decide_eq_true_eq, decide_eq_false_iff_not] at h1 h2
    simp (config := { maxSteps := 100000 }) [*]
end Go.Kn
