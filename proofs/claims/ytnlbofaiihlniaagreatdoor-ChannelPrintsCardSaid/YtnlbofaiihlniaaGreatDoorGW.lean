/- Walks of functions of layer 2 (contracts that the laws of this seat use). Conditions: as each theorem states them. -/
import Derived.Test.YtnlbofaiihlniaaGreatDoorProg
import Derived.WalkKit
import Derived.WalkSpells
import Derived.WalkLawsBesides
import Derived.Deep.QuietTactic
import Derived.BigQuiet
import Derived.WalkSmall
import Derived.Deep.RegionWith
import Derived.Lib.Hide
import Derived.Deep.RegionHeld3
import Derived.Deep.Slices
import Derived.Deep.Fields
import Derived.ChangeSame
import Derived.Lib.SmallJoins
set_option linter.unusedVariables false
set_option linter.unusedSimpArgs false
namespace Go.Kn
open Go Go.Proofs Go.RowKit

def fromB (a b c : Int) : Bool := decide (a ≤ c ∧ c ≤ b)

set_option maxHeartbeats 400000 in
theorem isFrom_w (a b c : Int) (w : World) :
    Calls Tryz.prog 54 #[.int .i64 a, .int .i64 b, .int .i64 c] w fun e w' => e = .returned (.bool (fromB a b c)) ∧ w = w' := by
  by_cases h1 : a ≤ c <;> by_cases h2 : c ≤ b
  all_goals
    go_enter Tryz.func54, Tryz.ntmps54
    go_wp2
    go_ret
    exact ⟨by simp [fromB, h1, h2], rfl⟩

set_option maxHeartbeats 400000 in
theorem in_w (a b c : Int) (w : World) :
    Calls Tryz.prog 38 #[.int .i64 c, .int .i64 a, .int .i64 b] w fun e w' => e = .returned (.bool (fromB a b c)) ∧ w = w' := by
  by_cases h1 : a ≤ c <;> by_cases h2 : c ≤ b
  all_goals
    go_enter Tryz.func38, Tryz.ntmps38
    go_wp2
    go_ret
    exact ⟨by simp [fromB, h1, h2], rfl⟩

set_option maxHeartbeats 400000 in
theorem isSpeed_w (c : Int) (w : World) :
    Calls Tryz.prog 68 #[.int .i64 c] w fun e w' => e = .returned (.bool (fromB 1 1000 c)) ∧ w = w' := by
  go_enter Tryz.func68, Tryz.ntmps68
  go_wp2_with (go_at_call 54; refine (isFrom_w _ _ _ _).mono ?_; rintro e w' ⟨rfl, rfl⟩)
  go_ret
  exact ⟨rfl, rfl⟩

set_option maxHeartbeats 400000 in
theorem isAge_w (c : Int) (w : World) :
    Calls Tryz.prog 35 #[.int .i64 c] w fun e w' => e = .returned (.bool (fromB 0 200 c)) ∧ w = w' := by
  go_enter Tryz.func35, Tryz.ntmps35
  go_wp2_with (go_at_call 54; refine (isFrom_w _ _ _ _).mono ?_; rintro e w' ⟨rfl, rfl⟩)
  go_ret
  exact ⟨rfl, rfl⟩

set_option maxHeartbeats 400000 in
theorem age_w (c : Int) (w : World) :
    Calls Tryz.prog 12 #[.int .i64 c] w fun e w' => e = .returned (.bool (fromB 0 200 c)) ∧ w = w' := by
  go_enter Tryz.func12, Tryz.ntmps12
  go_wp2_with (go_at_call 38; refine (in_w _ _ _ _).mono ?_; rintro e w' ⟨rfl, rfl⟩)
  go_ret
  exact ⟨rfl, rfl⟩

def spanB (lim lo hi : Int) : Bool := decide (0 ≤ lo ∧ lo ≤ lim ∧ lo ≤ hi ∧ hi ≤ lim)


theorem spanB_tt {lim lo hi : Int} (h1 : fromB 0 lim lo = true) : fromB lo lim hi = spanB lim lo hi := by
  simp only [fromB, spanB, decide_eq_true_eq] at *
  rw [decide_eq_decide]; omega
theorem spanB_f {lim lo hi : Int} (h1 : fromB 0 lim lo = false) : false = spanB lim lo hi := by
  simp only [fromB, spanB, decide_eq_false_iff_not] at *
  symm
  rw [decide_eq_false_iff_not]; omega

set_option maxHeartbeats 400000 in
theorem isSpan_w (lim lo hi : Int) (w : World) :
    Calls Tryz.prog 88 #[.int .i64 lim, .agg #[.int .i64 lo, .int .i64 hi]] w fun e w' => e = .returned (.bool (spanB lim lo hi)) ∧ Below w.heap.size w w' := by
  cases h1 : fromB 0 lim lo
  · go_enter Tryz.func88, Tryz.ntmps88
    go_wp2_with (go_at_call 54; refine (isFrom_w _ _ _ _).mono ?_; rintro e w' ⟨rfl, rfl⟩)
    go_ret
    exact ⟨by rw [← spanB_f h1]; rfl, (Below.refl _ _).alloc (Nat.le_refl _) _⟩
  · go_enter Tryz.func88, Tryz.ntmps88
    go_wp2_with (go_at_call 54; refine (isFrom_w _ _ _ _).mono ?_; rintro e w' ⟨rfl, rfl⟩)
    go_ret
    exact ⟨by rw [← spanB_tt h1]; rfl, (Below.refl _ _).alloc (Nat.le_refl _) _⟩


theorem ret_int {k : IntKind} {a b : Int} (h : a = b) : Ending.returned (.int k a) = .returned (.int k b) := by rw [h]

theorem mul_bd {a b A B : Int} (h1 : 0 ≤ a) (h2 : a ≤ A) (h3 : 0 ≤ b) (h4 : b ≤ B) : 0 ≤ a * b ∧ a * b ≤ A * B :=
  ⟨Int.mul_nonneg h1 h3, Int.mul_le_mul h2 h4 h3 (Int.le_trans h1 h2)⟩

theorem cups_fin {X Y sp : Int} (h1 : 0 ≤ X) (h2 : X ≤ 100) (h3 : 0 ≤ Y) (h4 : Y ≤ 100) (h5 : 0 ≤ sp) (h6 : sp ≤ 1000) : wrap64 (wrap64 (X * Y) * sp) = X * Y * sp := by
  have a := mul_bd h1 h2 h3 h4
  have e1 : wrap64 (X * Y) = X * Y := IntWalk.wrap64_in _ (by omega)
  rw [e1]
  have b := mul_bd a.1 a.2 h5 h6
  exact IntWalk.wrap64_in _ (by omega)

def cupsV (b d sp ag r : Int) : Int := max 0 (b - 2 * (r * ag / 100)) * max 0 (d - r * ag / 100) * sp

set_option maxHeartbeats 400000 in
theorem cups_w (b d f lo hi sp ag r : Int) (w : World) (hb : 0 ≤ b ∧ b ≤ 100) (hd : 0 ≤ d ∧ d ≤ 100) (hs : 0 ≤ sp ∧ sp ≤ 1000) (ha : 0 ≤ ag ∧ ag ≤ 200) (hr : 0 ≤ r ∧ r ≤ 100) :
    Calls Tryz.prog 105 #[.agg #[.int .i64 b, .int .i64 d, .int .i64 f, .int .i64 lo, .int .i64 hi, .int .i64 sp, .int .i64 ag], .int .i64 r] w fun e w' => e = .returned (.int .i64 (cupsV b d sp ag r)) ∧ Below w.heap.size w w' := by
  have hra := mul_bd hr.1 hr.2 ha.1 ha.2
  obtain ⟨hra1, hra2⟩ := hra
  obtain ⟨hb1, hb2⟩ := hb
  obtain ⟨hd1, hd2⟩ := hd
  by_cases h1 : 0 < b - 2 * (r * ag / 100) <;> by_cases h2 : 0 < d - r * ag / 100
  all_goals
    go_enter Tryz.func105, Tryz.ntmps105
    go_wp2
    go_ret
    refine ⟨ret_int ?_, (Below.refl _ _).alloc (Nat.le_refl _) _⟩
    unfold cupsV
    have z : wrap64 0 = 0 := IntWalk.wrap64_in _ (by omega)
    first
      | (rw [Int.max_eq_right (by omega), Int.max_eq_right (by omega)]; exact cups_fin (by omega) (by omega) (by omega) (by omega) hs.1 hs.2)
      | (rw [Int.max_eq_left (a := 0) (b := b - 2 * (r * ag / 100)) (by omega)]; simp [z])
      | (rw [Int.max_eq_left (a := 0) (b := d - r * ag / 100) (by omega)]; simp [z])

theorem bcell {W w1 : World} (hb : Below W.heap.size W w1) : (∀ b o, b < W.heap.size → w1.cell? ⟨b, o, none⟩ = W.cell? ⟨b, o, none⟩) ∧ (∀ b o, b < W.heap.size → w1.frozen? ⟨b, o, none⟩ = W.frozen? ⟨b, o, none⟩) :=
  ⟨fun b o h => hb.cell (p := ⟨b, o, none⟩) h, fun b o h => hb.frozen (p := ⟨b, o, none⟩) h⟩

theorem below_al {w w1 : World} {o : Obj} (h : Below (w.alloc o).heap.size (w.alloc o) w1) : Below w.heap.size w w1 :=
  ((Below.refl _ _).alloc (Nat.le_refl _) _).trans (h.mono (by simp))

set_option maxHeartbeats 400000 in
theorem least_w (b d f lo hi sp ag : Int) (w : World) (hb : 0 ≤ b ∧ b ≤ 100) (hd : 0 ≤ d ∧ d ≤ 100) (hs : 0 ≤ sp ∧ sp ≤ 1000) (ha : 0 ≤ ag ∧ ag ≤ 200) (hr : 0 ≤ hi ∧ hi ≤ 100) :
    Calls Tryz.prog 73 #[.agg #[.int .i64 b, .int .i64 d, .int .i64 f, .int .i64 lo, .int .i64 hi, .int .i64 sp, .int .i64 ag]] w fun e w' => e = .returned (.int .i64 (cupsV b d sp ag hi)) ∧ Below w.heap.size w w' := by
  go_enter Tryz.func73, Tryz.ntmps73
  go_wp2_with (go_at_call 105; refine (cups_w _ _ _ _ _ _ _ _ _ hb hd hs ha hr).mono ?_; rintro e w' ⟨rfl, hbl⟩)
  go_ret
  exact ⟨rfl, below_al hbl⟩

set_option maxHeartbeats 400000 in
theorem most_w (b d f lo hi sp ag : Int) (w : World) (hb : 0 ≤ b ∧ b ≤ 100) (hd : 0 ≤ d ∧ d ≤ 100) (hs : 0 ≤ sp ∧ sp ≤ 1000) (ha : 0 ≤ ag ∧ ag ≤ 200) (hr : 0 ≤ lo ∧ lo ≤ 100) :
    Calls Tryz.prog 74 #[.agg #[.int .i64 b, .int .i64 d, .int .i64 f, .int .i64 lo, .int .i64 hi, .int .i64 sp, .int .i64 ag]] w fun e w' => e = .returned (.int .i64 (cupsV b d sp ag lo)) ∧ Below w.heap.size w w' := by
  go_enter Tryz.func74, Tryz.ntmps74
  go_wp2_with (go_at_call 105; refine (cups_w _ _ _ _ _ _ _ _ _ hb hd hs ha hr).mono ?_; rintro e w' ⟨rfl, hbl⟩)
  go_ret
  exact ⟨rfl, below_al hbl⟩

theorem fromB_tt {a b c : Int} (h : fromB a b c = true) : a ≤ c ∧ c ≤ b := by simpa [fromB] using h
theorem fromB_f {a b c : Int} (h : fromB a b c = false) : ¬ (a ≤ c ∧ c ≤ b) := by simpa [fromB] using h

def betB (lo hi a b : Int) : Bool := decide (a ≤ lo ∧ lo ≤ b ∧ a ≤ hi ∧ hi ≤ b ∧ lo ≤ hi)

set_option maxHeartbeats 400000 in
theorem between_w (lo hi a b : Int) (w : World) :
    Calls Tryz.prog 75 #[.agg #[.int .i64 lo, .int .i64 hi], .int .i64 a, .int .i64 b] w fun e w' => e = .returned (.bool (betB lo hi a b)) ∧ Below w.heap.size w w' := by
  cases h1 : fromB a b lo <;> cases h2 : fromB a b hi <;> by_cases h3 : lo ≤ hi
  all_goals
    go_enter Tryz.func75, Tryz.ntmps75
    go_wp2_with (go_at_call 38; refine (in_w _ _ _ _).mono ?_; rintro e w' ⟨rfl, rfl⟩)
    go_ret
    refine ⟨?_, (Below.refl _ _).alloc (Nat.le_refl _) _⟩
    simp only [betB, fromB] at *
    simp only [decide_eq_true_eq, decide_eq_false_iff_not] at h1 h2
    simp (config := { maxSteps := 100000 }) [*]
end Go.Kn

namespace Go.Kn
open Go Go.Proofs Go.RowKit

def stB (b d f lo hi sp : Int) : Bool := decide (1 ≤ b ∧ b ≤ 100 ∧ 1 ≤ d ∧ d ≤ 100 ∧ 0 ≤ f ∧ f ≤ sp - 1 ∧ 0 ≤ lo ∧ lo ≤ hi ∧ hi ≤ 100)

set_option maxHeartbeats 1000000 in
theorem stretch_w (b d f lo hi sp : Int) (w : World) (hsp : 0 ≤ sp ∧ sp ≤ 1000000) :
    Calls Tryz.prog 39 #[.agg #[.int .i64 b, .int .i64 d, .int .i64 f, .int .i64 lo, .int .i64 hi], .int .i64 sp] w fun e w' => e = .returned (.bool (stB b d f lo hi sp)) ∧ Below w.heap.size w w' := by
  obtain ⟨s1, s2⟩ := hsp
  cases h1 : fromB 1 100 b
  case false =>
    go_enter Tryz.func39, Tryz.ntmps39
    go_wp2_with (first | (go_at_call 38; refine (in_w _ _ _ _).mono ?_; rintro e w' ⟨rfl, rfl⟩) | (go_at_call 75; refine (between_w _ _ _ _ _).mono ?_; rintro e w' ⟨rfl, hbl⟩))
    go_ret
    refine ⟨?_, (Below.refl _ _).alloc (Nat.le_refl _) _⟩
    have := fromB_f h1
    rw [show stB b d f lo hi sp = false from by simp only [stB, decide_eq_false_iff_not]; omega]; rfl
  cases h2 : fromB 1 100 d
  case false =>
    go_enter Tryz.func39, Tryz.ntmps39
    go_wp2_with (first | (go_at_call 38; refine (in_w _ _ _ _).mono ?_; rintro e w' ⟨rfl, rfl⟩) | (go_at_call 75; refine (between_w _ _ _ _ _).mono ?_; rintro e w' ⟨rfl, hbl⟩))
    go_ret
    refine ⟨?_, (Below.refl _ _).alloc (Nat.le_refl _) _⟩
    have := fromB_f h2
    rw [show stB b d f lo hi sp = false from by simp only [stB, decide_eq_false_iff_not]; omega]; rfl
  cases h3 : fromB 0 (sp - 1) f
  case false =>
    go_enter Tryz.func39, Tryz.ntmps39
    go_wp2_with (first | (go_at_call 38; refine (in_w _ _ _ _).mono ?_; rintro e w' ⟨rfl, rfl⟩) | (go_at_call 75; refine (between_w _ _ _ _ _).mono ?_; rintro e w' ⟨rfl, hbl⟩))
    go_ret
    refine ⟨?_, (Below.refl _ _).alloc (Nat.le_refl _) _⟩
    have := fromB_f h3
    rw [show stB b d f lo hi sp = false from by simp only [stB, decide_eq_false_iff_not]; omega]; rfl
  go_enter Tryz.func39, Tryz.ntmps39
  go_wp2_with (first | (go_at_call 38; refine (in_w _ _ _ _).mono ?_; rintro e w' ⟨rfl, rfl⟩) | (go_at_call 75; refine (between_w _ _ _ _ _).mono ?_; rintro e w' ⟨rfl, hbl⟩))
  go_ret
  refine ⟨?_, below_al hbl⟩
  have e1 := fromB_tt h1
  have e2 := fromB_tt h2
  have e3 := fromB_tt h3
  have : betB lo hi 0 100 = stB b d f lo hi sp := by simp only [betB, stB]; rw [decide_eq_decide]; omega
  rw [← this]; rfl

set_option maxHeartbeats 400000 in
theorem number_w (x y : Value) (ad : Option Addr) (len cap : Nat) (n : Int) (w : World) (hl : len ≤ maxLen) :
    Calls Tryz.prog 11 #[.agg #[x, .slice ad len cap], .int .i64 n] w fun e w' => e = .returned (.bool (fromB 0 ((len : Int) - 1) n)) ∧ Below w.heap.size w w' := by
  unfold maxLen at hl
  go_enter Tryz.func11, Tryz.ntmps11
  go_wp2_with (go_at_call 38; refine (in_w _ _ _ _).mono ?_; rintro e w' ⟨rfl, rfl⟩)
  go_ret
  exact ⟨rfl, (Below.refl _ _).alloc (Nat.le_refl _) _⟩

set_option maxHeartbeats 400000 in
theorem isStretch_w (x : Value) (ad : Option Addr) (len cap : Nat) (n : Int) (w : World) (hl : len ≤ maxLen) :
    Calls Tryz.prog 34 #[.agg #[x, .slice ad len cap], .int .i64 n] w fun e w' => e = .returned (.bool (fromB 0 ((len : Int) - 1) n)) ∧ Below w.heap.size w w' := by
  unfold maxLen at hl
  go_enter Tryz.func34, Tryz.ntmps34
  go_wp2_with (go_at_call 54; refine (isFrom_w _ _ _ _).mono ?_; rintro e w' ⟨rfl, rfl⟩)
  go_ret
  exact ⟨rfl, (Below.refl _ _).alloc (Nat.le_refl _) _⟩
end Go.Kn

namespace Go.Kn
open Go Go.Proofs Go.RowKit
set_option maxHeartbeats 1000000 in
theorem rcups_w (A O C P ls cs lt ct n : Nat) (b d lo hi sp ag r : Int) (f : Nat) (w : World) (hls : ls ≤ maxLen) (hlt : lt ≤ maxLen) (hn : n < lt) (hf : f < ls) (hA : A < w.heap.size) (hC : C < w.heap.size)
    (c0 : w.cell? ⟨C, P + n * 5, none⟩ = some (.int .i64 b)) (c1 : w.cell? ⟨C, P + n * 5 + 1, none⟩ = some (.int .i64 d)) (c2 : w.cell? ⟨C, P + n * 5 + 2, none⟩ = some (.int .i64 (f : Int))) (c3 : w.cell? ⟨C, P + n * 5 + 3, none⟩ = some (.int .i64 lo)) (c4 : w.cell? ⟨C, P + n * 5 + 4, none⟩ = some (.int .i64 hi))
    (hsp : w.cell? ⟨A, O + f, none⟩ = some (.int .i64 sp))
    (hb : 0 ≤ b ∧ b ≤ 100) (hd : 0 ≤ d ∧ d ≤ 100) (hs : 0 ≤ sp ∧ sp ≤ 1000) (ha : 0 ≤ ag ∧ ag ≤ 200) (hr : 0 ≤ r ∧ r ≤ 100) :
    Calls Tryz.prog 40 #[.agg #[.slice (some ⟨A, O, none⟩) ls cs, .slice (some ⟨C, P, none⟩) lt ct], .int .i64 (n : Int), .int .i64 ag, .int .i64 r] w fun e w' => e = .returned (.int .i64 (cupsV b d sp ag r)) ∧ Below w.heap.size w w' := by
  unfold maxLen at hls hlt
  have hra := mul_bd hr.1 hr.2 ha.1 ha.2
  obtain ⟨hra1, hra2⟩ := hra
  obtain ⟨hb1, hb2⟩ := hb
  obtain ⟨hd1, hd2⟩ := hd
  have hA' : A ≠ w.heap.size := by omega
  have hC' : C ≠ w.heap.size := by omega
  have hal : ∀ (o : Obj) (k : Nat), (w.alloc o).cell? ⟨C, k, none⟩ = w.cell? ⟨C, k, none⟩ := fun o k => World.cell?_alloc_lt w o _ hC
  have hal2 : ∀ (o : Obj) (k : Nat), (w.alloc o).cell? ⟨A, k, none⟩ = w.cell? ⟨A, k, none⟩ := fun o k => World.cell?_alloc_lt w o _ hA
  by_cases h1 : 0 < b - 2 * (r * ag / 100) <;> by_cases h2 : 0 < d - r * ag / 100
  all_goals
    go_enter Tryz.func40, Tryz.ntmps40
    go_wp2
    go_quiet (fail)
    go_wp2
    go_ret
    refine ⟨ret_int ?_, below_drewN (((Below.refl _ _).alloc (Nat.le_refl _) _).alloc (by simp) _) _⟩
    unfold cupsV
    have z : wrap64 0 = 0 := IntWalk.wrap64_in _ (by omega)
    first
      | (rw [Int.max_eq_right (by omega), Int.max_eq_right (by omega)]; exact cups_fin (by omega) (by omega) (by omega) (by omega) hs.1 hs.2)
      | (rw [Int.max_eq_left (a := 0) (b := b - 2 * (r * ag / 100)) (by omega)]; simp [z])
      | (rw [Int.max_eq_left (a := 0) (b := d - r * ag / 100) (by omega)]; simp [z])

end Go.Kn

namespace Go.Kn
open Go Go.Proofs Go.RowKit
theorem below_drew {B : Nat} {a w : World} (h : Below B a w) : Below B a w.drew := h.trans ⟨rfl, rfl, rfl, Nat.le_refl _, fun _ _ => rfl⟩

set_option maxRecDepth 100000 in
set_option maxHeartbeats 1000000 in
theorem at_w (A O C P ls cs lt ct n : Nat) (b d lo hi sp ag : Int) (f : Nat) (w : World) (hls : ls ≤ maxLen) (hlt : lt ≤ maxLen) (hn : n < lt) (hf : f < ls) (hA : A < w.heap.size) (hC : C < w.heap.size)
    (c0 : w.cell? ⟨C, P + n * 5, none⟩ = some (.int .i64 b)) (c1 : w.cell? ⟨C, P + n * 5 + 1, none⟩ = some (.int .i64 d)) (c2 : w.cell? ⟨C, P + n * 5 + 2, none⟩ = some (.int .i64 (f : Int))) (c3 : w.cell? ⟨C, P + n * 5 + 3, none⟩ = some (.int .i64 lo)) (c4 : w.cell? ⟨C, P + n * 5 + 4, none⟩ = some (.int .i64 hi))
    (hsp : w.cell? ⟨A, O + f, none⟩ = some (.int .i64 sp)) :
    Calls Tryz.prog 36 #[.agg #[.slice (some ⟨A, O, none⟩) ls cs, .slice (some ⟨C, P, none⟩) lt ct], .int .i64 (n : Int), .int .i64 ag] w fun e w' => e = .returned (.agg #[.int .i64 b, .int .i64 d, .int .i64 (f : Int), .int .i64 lo, .int .i64 hi, .int .i64 sp, .int .i64 ag]) ∧ Below w.heap.size w w' := by
  unfold maxLen at hls hlt
  have hA' : A ≠ w.heap.size := by omega
  have hal3 : ∀ (o1 o2 o3 : Obj) (k : Nat), (((w.alloc o1).alloc o2).alloc o3).cell? ⟨A, k, none⟩ = w.cell? ⟨A, k, none⟩ := fun o1 o2 o3 k => by
    rw [World.cell?_alloc_lt _ _ _ (by simp; omega), World.cell?_alloc_lt _ _ _ (by simp; omega), World.cell?_alloc_lt _ _ _ hA]
  have hC' : C ≠ w.heap.size := by omega
  have hal : ∀ (o : Obj) (k : Nat), (w.alloc o).cell? ⟨C, k, none⟩ = w.cell? ⟨C, k, none⟩ := fun o k => World.cell?_alloc_lt w o _ hC
  have hal2 : ∀ (o : Obj) (k : Nat), (w.alloc o).cell? ⟨A, k, none⟩ = w.cell? ⟨A, k, none⟩ := fun o k => World.cell?_alloc_lt w o _ hA
  go_enter Tryz.func36, Tryz.ntmps36
  go_wp2
  go_region_with (fail)
  all_goals
    go_wp2
    exact bodyPost_ret (v := .agg #[.int .i64 b, .int .i64 d, .int .i64 (f : Int), .int .i64 lo, .int .i64 hi, .int .i64 sp, .int .i64 ag]) (by simp [results, Tryz.results36, go_sem]) rfl ⟨rfl, below_drew ((((Below.refl _ _).alloc (Nat.le_refl _) _).alloc (by simp) _).alloc (by simp; omega) _)⟩
end Go.Kn

namespace Go.Kn
open Go Go.Proofs Go.RowKit
set_option maxRecDepth 100000 in
set_option maxHeartbeats 2000000 in
theorem spanOf_w (b d f lo hi sp ag : Int) (w : World) (hb : 0 ≤ b ∧ b ≤ 100) (hd : 0 ≤ d ∧ d ≤ 100) (hs : 0 ≤ sp ∧ sp ≤ 1000) (ha : 0 ≤ ag ∧ ag ≤ 200) (hlo : 0 ≤ lo ∧ lo ≤ 100) (hhi : 0 ≤ hi ∧ hi ≤ 100) :
    Calls Tryz.prog 72 #[.agg #[.func (.func 73) #[.agg #[.int .i64 b, .int .i64 d, .int .i64 f, .int .i64 lo, .int .i64 hi, .int .i64 sp, .int .i64 ag]] #[], .func (.func 74) #[.agg #[.int .i64 b, .int .i64 d, .int .i64 f, .int .i64 lo, .int .i64 hi, .int .i64 sp, .int .i64 ag]] #[]]] w
      fun e w' => e = .returned (.agg #[.int .i64 (cupsV b d sp ag hi), .int .i64 (cupsV b d sp ag lo)]) ∧ Below w.heap.size w w' := by
  go_enter Tryz.func72, Tryz.ntmps72
  go_wp2
  go_region_with (first
    | (go_at_call 73; refine (least_w _ _ _ _ _ _ _ _ hb hd hs ha hhi).mono ?_; rintro e w1 ⟨rfl, hb1⟩; obtain ⟨hc1, hf1⟩ := bcell hb1; have hz1 : w.heap.size + 1 < w1.heap.size := by (have := hb1.size; simp at this; omega))
    | (go_at_call 74; refine (most_w _ _ _ _ _ _ _ _ hb hd hs ha hlo).mono ?_; rintro e w2 ⟨rfl, hb2⟩; obtain ⟨hc2, hf2⟩ := bcell hb2; have hz2 : w.heap.size + 1 < w2.heap.size := by (have := hb2.size; omega)))
  all_goals
    have k0 : w2.cell? ⟨w.heap.size + 1, 0, none⟩ = some (.int .i64 0) := (hc2 (w.heap.size + 1) 0 hz1).trans ((hc1 (w.heap.size + 1) 0 (by simp)).trans (by simp))
    have k1 : w2.cell? ⟨w.heap.size + 1, 1, none⟩ = some (.int .i64 0) := (hc2 (w.heap.size + 1) 1 hz1).trans ((hc1 (w.heap.size + 1) 1 (by simp)).trans (by simp))
    clear hc1 hf1
    go_wp2
    refine bodyPost_ret (v := .agg #[.int .i64 (cupsV b d sp ag hi), .int .i64 (cupsV b d sp ag lo)]) (by simp [results, Tryz.results72, go_sem, k0, k1]) rfl ⟨rfl, ?_⟩
    have hB : Below w.heap.size w w1 := by
      refine Below.trans ?_ (hb1.mono (by simp; omega))
      first
        | exact below_drew (((Below.refl _ _).alloc (Nat.le_refl _) _).alloc (by simp) _)
        | exact ((Below.refl _ _).alloc (Nat.le_refl _) _).alloc (by simp) _
    exact ((hB.trans (hb2.mono (by omega))).setCell (by simp) _).setCell (by simp) _
end Go.Kn

namespace Go.Kn
open Go Go.Proofs Go.RowKit
set_option maxRecDepth 100000 in
set_option maxHeartbeats 2000000 in
theorem carries_w (b d f lo hi sp ag : Int) (w : World) (hb : 0 ≤ b ∧ b ≤ 100) (hd : 0 ≤ d ∧ d ≤ 100) (hs : 0 ≤ sp ∧ sp ≤ 1000) (ha : 0 ≤ ag ∧ ag ≤ 200) (hlo : 0 ≤ lo ∧ lo ≤ 100) (hhi : 0 ≤ hi ∧ hi ≤ 100) :
    Calls Tryz.prog 37 #[.agg #[.int .i64 b, .int .i64 d, .int .i64 f, .int .i64 lo, .int .i64 hi, .int .i64 sp, .int .i64 ag]] w
      fun e w' => e = .returned (.agg #[.int .i64 (cupsV b d sp ag hi), .int .i64 (cupsV b d sp ag lo)]) ∧ Below w.heap.size w w' := by
  go_enter Tryz.func37, Tryz.ntmps37
  go_wp2_with (go_at_call 72; refine (spanOf_w _ _ _ _ _ _ _ _ hb hd hs ha hlo hhi).mono ?_; rintro e w1 ⟨rfl, hb1⟩; obtain ⟨hc1, hf1⟩ := bcell hb1; have hz1 : w.heap.size + 1 < w1.heap.size := by (have := hb1.size; simp at this; omega))
  have k0 : w1.cell? ⟨w.heap.size + 1, 0, none⟩ = some (.int .i64 0) := (hc1 (w.heap.size + 1) 0 (by simp)).trans (by simp)
  have k1 : w1.cell? ⟨w.heap.size + 1, 1, none⟩ = some (.int .i64 0) := (hc1 (w.heap.size + 1) 1 (by simp)).trans (by simp)
  refine bodyPost_ret (v := .agg #[.int .i64 (cupsV b d sp ag hi), .int .i64 (cupsV b d sp ag lo)]) (by simp [results, Tryz.results37, go_sem, k0, k1]) rfl ⟨rfl, ?_⟩
  exact (((((Below.refl _ _).alloc (Nat.le_refl _) _).alloc (by simp) _).trans (hb1.mono (by simp; omega))).setCell (by simp) _).setCell (by simp) _
end Go.Kn

namespace Go.Kn
open Go Go.Proofs Go.RowKit

set_option maxHeartbeats 400000 in
theorem notSpeed_w (B : Nat) (x : Int) (w : World) (hB : w.cell? ⟨B, 0, none⟩ = some (.func (.func 68) #[] #[])) :
    Calls Tryz.prog 102 #[.int .i64 x, .pointer (some ⟨B, 0, none⟩)] w fun e w' => e = .returned (.bool (!fromB 1 1000 x)) ∧ w = w' := by
  go_enter Tryz.func102, Tryz.ntmps102
  go_wp2_with (go_at_call 68; refine (isSpeed_w _ _).mono ?_; rintro e w1 ⟨rfl, rfl⟩)
  go_ret
  exact ⟨rfl, rfl⟩

/-- the first number of a list that is not from 1 to 1000 -/
def firstBad (s : Nat → Int) : Nat → Nat → Int
  | _, 0 => -1
  | i, n + 1 => if fromB 1 1000 (s i) then firstBad s (i + 1) n else i

set_option maxRecDepth 100000 in
set_option maxHeartbeats 1000000 in
theorem idxSpeed_w (A O ls cs B : Nat) (s : Nat → Int) (w : World) (hls : ls ≤ maxLen) (hB : w.cell? ⟨B, 0, none⟩ = some (.func (.func 68) #[] #[]))
    (hA : ∀ i, i < ls → w.cell? ⟨A, O + i, none⟩ = some (.int .i64 (s i))) :
    Calls Tryz.prog 123 #[.slice (some ⟨A, O, none⟩) ls cs, .func (.func 102) #[] #[.pointer (some ⟨B, 0, none⟩)]] w
      fun e w' => (∃ i : Int, e = .returned (.int .i64 i) ∧ ((i < 0 ∧ ∀ k, k < ls → fromB 1 1000 (s k) = true) ∨ (0 ≤ i ∧ ∃ k, k < ls ∧ fromB 1 1000 (s k) = false))) ∧ w = w' := by
  unfold maxLen at hls
  go_enter Tryz.func123, Tryz.ntmps123
  go_wp2
  go_loop [8] (fun i => ∃ k : Nat, k ≤ ls ∧ i = .int .i64 k ∧ ∀ j, j < k → fromB 1 1000 (s j) = true) (fun i => ls - (intOf i).toNat)
  case atStart => exact ⟨0, Nat.zero_le _, rfl, fun j hj => absurd hj (by omega)⟩
  case round =>
    obtain ⟨k, hk, rfl, hall⟩ := hrel
    have HA := Lib.hid hall
    clear hall
    by_cases hlt : k < ls
    · have hcell := hA k hlt
      clear hA
      cases hv : fromB 1 1000 (s k)
      · go_wp2_with (go_at_call 102; refine (notSpeed_w _ _ _ hB).mono ?_; rintro e w1 ⟨rfl, rfl⟩)
        go_ret
        exact ⟨⟨_, rfl, .inr ⟨by omega, k, hlt, hv⟩⟩, rfl⟩
      · go_wp2_with (go_at_call 102; refine (notSpeed_w _ _ _ hB).mono ?_; rintro e w1 ⟨rfl, rfl⟩)
        go_round
        case rel => exact ⟨k + 1, by omega, by go_num, fun j hj => by
          rcases Nat.lt_succ_iff_lt_or_eq.1 hj with h | h
          · exact HA.out j h
          · rw [h]; exact hv⟩
        case measure => simp [intOf]; omega
    · clear hA
      go_wp2
      go_ret
      exact ⟨⟨_, rfl, .inl ⟨by omega, fun j hj => HA.out j (by omega)⟩⟩, rfl⟩
end Go.Kn

namespace Go.Kn
open Go Go.Proofs Go.RowKit

set_option maxRecDepth 100000 in
set_option maxHeartbeats 1000000 in
theorem contSpeed_w (A O ls cs B : Nat) (s : Nat → Int) (w : World) (hls : ls ≤ maxLen) (hB : w.cell? ⟨B, 0, none⟩ = some (.func (.func 68) #[] #[]))
    (hA : ∀ i, i < ls → w.cell? ⟨A, O + i, none⟩ = some (.int .i64 (s i))) (hg : ∀ k, k < ls → fromB 1 1000 (s k) = true) :
    Calls Tryz.prog 101 #[.slice (some ⟨A, O, none⟩) ls cs, .func (.func 102) #[] #[.pointer (some ⟨B, 0, none⟩)]] w
      fun e w' => e = .returned (.bool false) ∧ w = w' := by
  have HA := Lib.hid hA
  have HG := Lib.hid hg
  clear hA hg
  go_enter Tryz.func101, Tryz.ntmps101
  go_wp2_with (go_at_call 123; refine (idxSpeed_w _ _ _ _ _ s _ hls hB HA.out).mono ?_; rintro e w1 ⟨⟨i, rfl, hi⟩, rfl⟩; have hi0 : i < 0 := (hi.resolve_right (by rintro ⟨_, k, hk, hf⟩; rw [HG.out k hk] at hf; cases hf)).1; clear hi)
  go_ret
  exact ⟨by simp; omega, rfl⟩

theorem cell_new (w : World) (v : Value) (t : TypeId) : (w.alloc (.cells #[v] t)).cell? ⟨w.heap.size, 0, none⟩ = some v := by simp

set_option maxRecDepth 100000 in
set_option maxHeartbeats 1000000 in
theorem allSpeed_w (A O ls cs : Nat) (s : Nat → Int) (w : World) (hls : ls ≤ maxLen) (hAw : A < w.heap.size)
    (hA : ∀ i, i < ls → w.cell? ⟨A, O + i, none⟩ = some (.int .i64 (s i))) (hg : ∀ k, k < ls → fromB 1 1000 (s k) = true) :
    Calls Tryz.prog 67 #[.slice (some ⟨A, O, none⟩) ls cs, .func (.func 68) #[] #[]] w
      fun e w' => e = .returned (.bool true) ∧ Below w.heap.size w w' := by
  have HG := Lib.hid hg
  have HA : Hid (∀ (o : Obj) (i : Nat), i < ls → (w.alloc o).cell? ⟨A, O + i, none⟩ = some (.int .i64 (s i))) := Lib.hid (fun o i hi => (World.cell?_alloc_lt w o _ hAw).trans (hA i hi))
  clear hA hg
  go_enter Tryz.func67, Tryz.ntmps67
  go_wp2_with (go_at_call 101; refine (contSpeed_w _ _ _ _ _ s _ hls (cell_new _ _ _) (HA.out _) HG.out).mono ?_; rintro e w1 ⟨rfl, rfl⟩)
  go_ret
  exact ⟨rfl, (Below.refl _ _).alloc (Nat.le_refl _) _⟩
end Go.Kn

namespace Go.Kn
open Go Go.Proofs Go.RowKit

theorem stB_tt {b d f lo hi sp : Int} (h : stB b d f lo hi sp = true) : fromB 1 100 b = true ∧ fromB 1 100 d = true ∧ fromB 0 (sp - 1) f = true ∧ spanB 100 lo hi = true := by
  simp only [stB, fromB, spanB, decide_eq_true_eq] at *
  omega

set_option maxHeartbeats 1000000 in
theorem isBuilt_w (sa : Option Addr) (ls cs : Nat) (y : Value) (b d f lo hi : Int) (w : World) (hls : ls ≤ 1000000) (hg : stB b d f lo hi ls = true) :
    Calls Tryz.prog 71 #[.agg #[.slice sa ls cs, y], .agg #[.int .i64 b, .int .i64 d, .int .i64 f, .int .i64 lo, .int .i64 hi]] w fun e w' => e = .returned (.bool true) ∧ Below w.heap.size w w' := by
  obtain ⟨h1, h2, h3, h4⟩ := stB_tt hg
  clear hg
  go_enter Tryz.func71, Tryz.ntmps71
  go_wp2_with (first | (go_at_call 54; refine (isFrom_w _ _ _ _).mono ?_; rintro e w' ⟨rfl, rfl⟩) | (go_at_call 88; refine (isSpan_w _ _ _ _).mono ?_; rintro e w' ⟨rfl, hbl⟩))
  go_ret
  refine ⟨?_, (((Below.refl _ _).alloc (Nat.le_refl _) _).alloc (by simp) _).trans (hbl.mono (by simp; omega))⟩
  rw [← h4]; rfl

set_option maxHeartbeats 1000000 in
theorem line1_w (L : Nat) (sa : Option Addr) (ls cs : Nat) (y : Value) (b d f lo hi : Int) (w : World) (hls : ls ≤ 1000000) (hg : stB b d f lo hi ls = true) (hL : L < w.heap.size)
    (l0 : w.cell? ⟨L, 0, none⟩ = some (.slice sa ls cs)) (l1 : w.cell? ⟨L, 1, none⟩ = some y) :
    Calls Tryz.prog 70 #[.agg #[.int .i64 b, .int .i64 d, .int .i64 f, .int .i64 lo, .int .i64 hi], .pointer (some ⟨L, 0, none⟩)] w fun e w' => e = .returned (.bool true) ∧ Below w.heap.size w w' := by
  have hal : ∀ (o : Obj) (k : Nat), (w.alloc o).cell? ⟨L, k, none⟩ = w.cell? ⟨L, k, none⟩ := fun o k => World.cell?_alloc_lt w o _ hL
  go_enter Tryz.func70, Tryz.ntmps70
  go_wp2_with (go_at_call 71; refine (isBuilt_w _ _ _ _ _ _ _ _ _ _ hls hg).mono ?_; rintro e w' ⟨rfl, hbl⟩)
  go_ret
  exact ⟨rfl, below_al hbl⟩

set_option maxHeartbeats 1000000 in
theorem notLine_w (B L : Nat) (sa : Option Addr) (ls cs : Nat) (y : Value) (b d f lo hi : Int) (w : World) (hls : ls ≤ 1000000) (hg : stB b d f lo hi ls = true) (hL : L < w.heap.size) (hBw : B < w.heap.size)
    (l0 : w.cell? ⟨L, 0, none⟩ = some (.slice sa ls cs)) (l1 : w.cell? ⟨L, 1, none⟩ = some y) (hB : w.cell? ⟨B, 0, none⟩ = some (.func (.func 70) #[] #[.pointer (some ⟨L, 0, none⟩)])) :
    Calls Tryz.prog 104 #[.agg #[.int .i64 b, .int .i64 d, .int .i64 f, .int .i64 lo, .int .i64 hi], .pointer (some ⟨B, 0, none⟩)] w fun e w' => e = .returned (.bool false) ∧ Below w.heap.size w w' := by
  have hal : ∀ (o : Obj) (k : Nat), (w.alloc o).cell? ⟨L, k, none⟩ = w.cell? ⟨L, k, none⟩ := fun o k => World.cell?_alloc_lt w o _ hL
  have hal2 : ∀ (o : Obj) (k : Nat), (w.alloc o).cell? ⟨B, k, none⟩ = w.cell? ⟨B, k, none⟩ := fun o k => World.cell?_alloc_lt w o _ hBw
  go_enter Tryz.func104, Tryz.ntmps104
  go_wp2_with (go_at_call 70; refine (line1_w _ _ _ _ _ _ _ _ _ _ _ hls hg (by simp; omega) ((hal _ _).trans l0) ((hal _ _).trans l1)).mono ?_; rintro e w' ⟨rfl, hbl⟩)
  go_ret
  exact ⟨rfl, below_al hbl⟩
end Go.Kn

namespace Go.Kn
open Go Go.Proofs Go.RowKit

structure St5 where
  b : Int
  d : Int
  f : Int
  lo : Int
  hi : Int

def St5.val (x : St5) : Value := .agg #[.int .i64 x.b, .int .i64 x.d, .int .i64 x.f, .int .i64 x.lo, .int .i64 x.hi]

/-- stretches in memory -/
def StAt (w : World) (C P lt : Nat) (t : Nat → St5) : Prop := ∀ i, i < lt → w.cell? ⟨C, P + i * 5, none⟩ = some (.int .i64 (t i).b) ∧ w.cell? ⟨C, P + i * 5 + 1, none⟩ = some (.int .i64 (t i).d) ∧ w.cell? ⟨C, P + i * 5 + 2, none⟩ = some (.int .i64 (t i).f) ∧
  w.cell? ⟨C, P + i * 5 + 3, none⟩ = some (.int .i64 (t i).lo) ∧ w.cell? ⟨C, P + i * 5 + 4, none⟩ = some (.int .i64 (t i).hi)

theorem StAt.below {w w1 : World} {C P lt : Nat} {t : Nat → St5} (h : StAt w C P lt t) (hC : C < w.heap.size) (hb : Below w.heap.size w w1) : StAt w1 C P lt t := by
  intro i hi
  obtain ⟨h0, h1, h2, h3, h4⟩ := h i hi
  have e : ∀ o, w1.cell? ⟨C, o, none⟩ = w.cell? ⟨C, o, none⟩ := fun o => hb.cell (p := ⟨C, o, none⟩) hC
  exact ⟨(e _).trans h0, (e _).trans h1, (e _).trans h2, (e _).trans h3, (e _).trans h4⟩

def NumAt (w : World) (A O ls : Nat) (s : Nat → Int) : Prop := ∀ i, i < ls → w.cell? ⟨A, O + i, none⟩ = some (.int .i64 (s i))

theorem NumAt.below {w w1 : World} {A O ls : Nat} {s : Nat → Int} (h : NumAt w A O ls s) (hA : A < w.heap.size) (hb : Below w.heap.size w w1) : NumAt w1 A O ls s := fun i hi => (hb.cell (p := ⟨A, O + i, none⟩) hA).trans (h i hi)

def StOk (ls lt : Nat) (t : Nat → St5) : Prop := ∀ i, i < lt → stB (t i).b (t i).d (t i).f (t i).lo (t i).hi ls = true

set_option maxRecDepth 100000 in
set_option maxHeartbeats 2000000 in
theorem idxSt_w (C P lt ct B L ls cs : Nat) (sa : Option Addr) (y : Value) (t : Nat → St5) (w : World) (hlt : lt ≤ 1000000) (hls : ls ≤ 1000000) (hC : C < w.heap.size) (hBw : B < w.heap.size) (hL : L < w.heap.size)
    (l0 : w.cell? ⟨L, 0, none⟩ = some (.slice sa ls cs)) (l1 : w.cell? ⟨L, 1, none⟩ = some y) (hB : w.cell? ⟨B, 0, none⟩ = some (.func (.func 70) #[] #[.pointer (some ⟨L, 0, none⟩)]))
    (ht : StAt w C P lt t) (hg : StOk ls lt t) :
    Calls Tryz.prog 124 #[.slice (some ⟨C, P, none⟩) lt ct, .func (.func 104) #[] #[.pointer (some ⟨B, 0, none⟩)]] w
      fun e w' => e = .returned (.int .i64 (-1)) ∧ Below w.heap.size w w' := by
  have HT := Lib.hid ht
  have HG := Lib.hid hg
  clear ht hg
  go_enter Tryz.func124, Tryz.ntmps124
  go_wp2
  go_loopw [8] (fun i wr => ∃ k : Nat, k ≤ lt ∧ i = .int .i64 k ∧ Below w.heap.size w wr) (fun i _ => lt - (intOf i).toNat)
  case atStart => exact ⟨0, Nat.zero_le _, rfl, Below.refl _ _⟩
  case round =>
    obtain ⟨k, hk, rfl, hbw⟩ := hrel
    by_cases hlt' : k < lt
    · obtain ⟨c0, c1, c2, c3, c4⟩ := HT.out.below hC hbw k hlt'
      have m0 : wr.cell? ⟨L, 0, none⟩ = some (.slice sa ls cs) := (hbw.cell (p := ⟨L, 0, none⟩) hL).trans l0
      have m1 : wr.cell? ⟨L, 1, none⟩ = some y := (hbw.cell (p := ⟨L, 1, none⟩) hL).trans l1
      have mB : wr.cell? ⟨B, 0, none⟩ = some (.func (.func 70) #[] #[.pointer (some ⟨L, 0, none⟩)]) := (hbw.cell (p := ⟨B, 0, none⟩) hBw).trans hB
      have hz : w.heap.size ≤ wr.heap.size := hbw.size
      have hgk := HG.out k hlt'
      go_wp2_with (go_at_call 104; refine (notLine_w _ _ _ _ _ _ _ _ _ _ _ _ hls hgk (by omega) (by omega) m0 m1 mB).mono ?_; rintro e w1 ⟨rfl, hb1⟩)
      go_roundw
      case rel => exact ⟨k + 1, by omega, by go_num, hbw.trans (hb1.mono hz)⟩
      case measure => simp [intOf]; omega
    · go_wp2
      go_ret
      exact ⟨rfl, hbw⟩
end Go.Kn

namespace Go.Kn
open Go Go.Proofs Go.RowKit

set_option maxRecDepth 100000 in
set_option maxHeartbeats 2000000 in
theorem contSt_w (C P lt ct B L ls cs : Nat) (sa : Option Addr) (y : Value) (t : Nat → St5) (w : World) (hlt : lt ≤ 1000000) (hls : ls ≤ 1000000) (hC : C < w.heap.size) (hBw : B < w.heap.size) (hL : L < w.heap.size)
    (l0 : w.cell? ⟨L, 0, none⟩ = some (.slice sa ls cs)) (l1 : w.cell? ⟨L, 1, none⟩ = some y) (hB : w.cell? ⟨B, 0, none⟩ = some (.func (.func 70) #[] #[.pointer (some ⟨L, 0, none⟩)]))
    (ht : StAt w C P lt t) (hg : StOk ls lt t) :
    Calls Tryz.prog 103 #[.slice (some ⟨C, P, none⟩) lt ct, .func (.func 104) #[] #[.pointer (some ⟨B, 0, none⟩)]] w
      fun e w' => e = .returned (.bool false) ∧ Below w.heap.size w w' := by
  have HT := Lib.hid ht
  have HG := Lib.hid hg
  clear ht hg
  go_enter Tryz.func103, Tryz.ntmps103
  go_wp2_with (go_at_call 124; refine (idxSt_w _ _ _ _ _ _ _ _ _ _ t _ hlt hls hC hBw hL l0 l1 hB HT.out HG.out).mono ?_; rintro e w1 ⟨rfl, hb1⟩)
  go_ret
  exact ⟨rfl, hb1⟩

set_option maxRecDepth 100000 in
set_option maxHeartbeats 2000000 in
theorem allSt_w (C P lt ct L ls cs : Nat) (sa : Option Addr) (y : Value) (t : Nat → St5) (w : World) (hlt : lt ≤ 1000000) (hls : ls ≤ 1000000) (hC : C < w.heap.size) (hL : L < w.heap.size)
    (l0 : w.cell? ⟨L, 0, none⟩ = some (.slice sa ls cs)) (l1 : w.cell? ⟨L, 1, none⟩ = some y) (ht : StAt w C P lt t) (hg : StOk ls lt t) :
    Calls Tryz.prog 69 #[.slice (some ⟨C, P, none⟩) lt ct, .func (.func 70) #[] #[.pointer (some ⟨L, 0, none⟩)]] w
      fun e w' => e = .returned (.bool true) ∧ Below w.heap.size w w' := by
  have HT : Hid (∀ o : Obj, StAt (w.alloc o) C P lt t) := Lib.hid fun o => ht.below hC ((Below.refl _ _).alloc (Nat.le_refl _) _)
  have HG := Lib.hid hg
  have H0 : Hid (∀ o : Obj, (w.alloc o).cell? ⟨L, 0, none⟩ = some (.slice sa ls cs)) := Lib.hid fun o => (World.cell?_alloc_lt w o _ hL).trans l0
  have H1 : Hid (∀ o : Obj, (w.alloc o).cell? ⟨L, 1, none⟩ = some y) := Lib.hid fun o => (World.cell?_alloc_lt w o _ hL).trans l1
  clear ht hg l0 l1
  go_enter Tryz.func69, Tryz.ntmps69
  go_wp2_with (go_at_call 103; refine (contSt_w _ _ _ _ _ _ _ _ _ _ t _ hlt hls (by simp; omega) (by simp) (by simp; omega) (H0.out _) (H1.out _) (cell_new _ _ _) (HT.out _) HG.out).mono ?_; rintro e w1 ⟨rfl, hb1⟩)
  go_ret
  exact ⟨rfl, below_al hb1⟩

theorem lt_alloc {w : World} {k : Nat} (o : Obj) (h : k < w.heap.size) : k < (w.alloc o).heap.size := by simp; omega

/-- a line as it lies in memory, and as it should be -/
structure LineAt (w : World) (A O C P ls lt : Nat) (s : Nat → Int) (t : Nat → St5) : Prop where
  hA : A < w.heap.size
  hC : C < w.heap.size
  ls1 : 1 ≤ ls
  ls2 : ls ≤ 10
  lt1 : 1 ≤ lt
  lt2 : lt ≤ 8
  sp : NumAt w A O ls s
  st : StAt w C P lt t
  sok : ∀ k, k < ls → fromB 1 1000 (s k) = true
  tok : StOk ls lt t

theorem LineAt.below {w w1 : World} {A O C P ls lt : Nat} {s : Nat → Int} {t : Nat → St5} (h : LineAt w A O C P ls lt s t) (hb : Below w.heap.size w w1) : LineAt w1 A O C P ls lt s t :=
  ⟨Nat.lt_of_lt_of_le h.hA hb.size, Nat.lt_of_lt_of_le h.hC hb.size, h.ls1, h.ls2, h.lt1, h.lt2, h.sp.below h.hA hb, h.st.below h.hC hb, h.sok, h.tok⟩

theorem LineAt.alloc {w : World} {A O C P ls lt : Nat} {s : Nat → Int} {t : Nat → St5} (h : LineAt w A O C P ls lt s t) (o : Obj) : LineAt (w.alloc o) A O C P ls lt s t :=
  h.below ((Below.refl _ _).alloc (Nat.le_refl _) _)

set_option maxRecDepth 100000 in
set_option maxHeartbeats 2000000 in
theorem isLine_w (A O C P ls cs lt ct : Nat) (s : Nat → Int) (t : Nat → St5) (w : World) (H : Hid (LineAt w A O C P ls lt s t)) :
    Calls Tryz.prog 33 #[.agg #[.slice (some ⟨A, O, none⟩) ls cs, .slice (some ⟨C, P, none⟩) lt ct]] w
      fun e w' => e = .returned (.bool true) ∧ Below w.heap.size w w' := by
  have a1 := H.out.ls1
  have a2 := H.out.ls2
  have a3 := H.out.lt1
  have a4 := H.out.lt2
  have hA := H.out.hA
  have hC := H.out.hC
  have f1 : fromB 1 10 (ls : Int) = true := by simp only [fromB, decide_eq_true_eq]; omega
  have f2 : fromB 1 8 (lt : Int) = true := by simp only [fromB, decide_eq_true_eq]; omega
  have Hal : Hid (∀ o : Obj, LineAt (w.alloc o) A O C P ls lt s t) := Lib.hid fun o => H.out.alloc o
  have m0 : ∀ w1 : World, (∀ b o, b < (w.alloc (.cells #[.slice (some ⟨A, O, none⟩) ls cs, .slice (some ⟨C, P, none⟩) lt ct] 25)).heap.size → w1.cell? ⟨b, o, none⟩ = (w.alloc (.cells #[.slice (some ⟨A, O, none⟩) ls cs, .slice (some ⟨C, P, none⟩) lt ct] 25)).cell? ⟨b, o, none⟩) →
      w1.cell? ⟨w.heap.size, 0, none⟩ = some (.slice (some ⟨A, O, none⟩) ls cs) := fun w1 h => (h _ _ (by simp)).trans (by simp)
  have m1 : ∀ w1 : World, (∀ b o, b < (w.alloc (.cells #[.slice (some ⟨A, O, none⟩) ls cs, .slice (some ⟨C, P, none⟩) lt ct] 25)).heap.size → w1.cell? ⟨b, o, none⟩ = (w.alloc (.cells #[.slice (some ⟨A, O, none⟩) ls cs, .slice (some ⟨C, P, none⟩) lt ct] 25)).cell? ⟨b, o, none⟩) →
      w1.cell? ⟨w.heap.size, 1, none⟩ = some (.slice (some ⟨C, P, none⟩) lt ct) := fun w1 h => (h _ _ (by simp)).trans (by simp)
  have M0 := Lib.hid m0
  have M1 := Lib.hid m1
  clear m0 m1
  go_enter Tryz.func33, Tryz.ntmps33
  go_wp2_with (first
    | (go_at_call 54; refine (isFrom_w _ _ _ _).mono ?_; rintro e w' ⟨rfl, rfl⟩)
    | (go_at_call 67; refine (allSpeed_w _ _ _ _ s _ (by unfold maxLen; omega) (lt_alloc _ hA) (Hal.out _).sp H.out.sok).mono ?_; rintro e w1 ⟨rfl, hb1⟩; obtain ⟨hc1, hf1⟩ := bcell hb1; have hz1 : w.heap.size < w1.heap.size := by (have := hb1.size; simp at this; omega))
    | (go_at_call 69; refine (allSt_w _ _ _ _ _ _ _ _ _ t _ (by omega) (by omega) (by omega) (by omega) (M0.out _ hc1) (M1.out _ hc1) ((Hal.out _).below hb1).st H.out.tok).mono ?_; rintro e w2 ⟨rfl, hb2⟩))
  go_ret
  exact ⟨rfl, (below_al hb1).trans (hb2.mono (by omega))⟩
end Go.Kn

namespace Go.Kn
open Go Go.Proofs Go.RowKit

section
variable {w : World} {A O C P ls lt : Nat} {s : Nat → Int} {t : Nat → St5}

theorem LineAt.bds (H : LineAt w A O C P ls lt s t) {n : Nat} (hn : n < lt) : (1 ≤ (t n).b ∧ (t n).b ≤ 100) ∧ (1 ≤ (t n).d ∧ (t n).d ≤ 100) ∧ (0 ≤ (t n).f ∧ (t n).f.toNat < ls ∧ (((t n).f.toNat : Nat) : Int) = (t n).f) ∧ (0 ≤ (t n).lo ∧ (t n).lo ≤ (t n).hi ∧ (t n).hi ≤ 100) ∧
    (1 ≤ s (t n).f.toNat ∧ s (t n).f.toNat ≤ 1000) := by
  have h := H.tok n hn
  simp only [stB, decide_eq_true_eq] at h
  obtain ⟨h1, h2, h3, h4, h5, h6, h7, h8, h9⟩ := h
  have hf : (t n).f.toNat < ls := by omega
  have h10 := H.sok _ hf
  simp only [fromB, decide_eq_true_eq] at h10
  exact ⟨⟨h1, h2⟩, ⟨h3, h4⟩, ⟨h5, hf, by omega⟩, ⟨h7, h8, h9⟩, h10⟩

/-- what a stretch carries at an age with a rate -/
def cupsL (s : Nat → Int) (x : St5) (ag r : Int) : Int := cupsV x.b x.d (s x.f.toNat) ag r

theorem at_l (H : LineAt w A O C P ls lt s t) {n : Nat} (hn : n < lt) (cs ct : Nat) (ag : Int) :
    Calls Tryz.prog 36 #[.agg #[.slice (some ⟨A, O, none⟩) ls cs, .slice (some ⟨C, P, none⟩) lt ct], .int .i64 (n : Int), .int .i64 ag] w fun e w' => e = .returned (.agg #[.int .i64 (t n).b, .int .i64 (t n).d, .int .i64 (t n).f, .int .i64 (t n).lo, .int .i64 (t n).hi, .int .i64 (s (t n).f.toNat), .int .i64 ag]) ∧ Below w.heap.size w w' := by
  obtain ⟨_, _, ⟨_, hf, hfe⟩, _, _⟩ := H.bds hn
  obtain ⟨c0, c1, c2, c3, c4⟩ := H.st n hn
  have h1 := H.ls2
  have h2 := H.lt2
  have := at_w A O C P ls cs lt ct n (t n).b (t n).d (t n).lo (t n).hi (s (t n).f.toNat) ag (t n).f.toNat w (by unfold maxLen; omega) (by unfold maxLen; omega) hn hf H.hA H.hC c0 c1 (by rw [hfe]; exact c2) c3 c4 (H.sp _ hf)
  rw [hfe] at this
  exact this

theorem rcups_l (H : LineAt w A O C P ls lt s t) {n : Nat} (hn : n < lt) (cs ct : Nat) (ag r : Int) (ha : 0 ≤ ag ∧ ag ≤ 200) (hr : 0 ≤ r ∧ r ≤ 100) :
    Calls Tryz.prog 40 #[.agg #[.slice (some ⟨A, O, none⟩) ls cs, .slice (some ⟨C, P, none⟩) lt ct], .int .i64 (n : Int), .int .i64 ag, .int .i64 r] w fun e w' => e = .returned (.int .i64 (cupsL s (t n) ag r)) ∧ Below w.heap.size w w' := by
  obtain ⟨b1, b2, ⟨_, hf, hfe⟩, b4, b5⟩ := H.bds hn
  obtain ⟨c0, c1, c2, c3, c4⟩ := H.st n hn
  have h1 := H.ls2
  have h2 := H.lt2
  exact rcups_w A O C P ls cs lt ct n (t n).b (t n).d (t n).lo (t n).hi (s (t n).f.toNat) ag r (t n).f.toNat w (by unfold maxLen; omega) (by unfold maxLen; omega) hn hf H.hA H.hC c0 c1 (by rw [hfe]; exact c2) c3 c4 (H.sp _ hf) ⟨by omega, b1.2⟩ ⟨by omega, b2.2⟩ ⟨by omega, b5.2⟩ ha hr

theorem carries_l (H : LineAt w A O C P ls lt s t) {n : Nat} (hn : n < lt) (ag : Int) (ha : 0 ≤ ag ∧ ag ≤ 200) (w' : World) :
    Calls Tryz.prog 37 #[.agg #[.int .i64 (t n).b, .int .i64 (t n).d, .int .i64 (t n).f, .int .i64 (t n).lo, .int .i64 (t n).hi, .int .i64 (s (t n).f.toNat), .int .i64 ag]] w'
      fun e w2 => e = .returned (.agg #[.int .i64 (cupsL s (t n) ag (t n).hi), .int .i64 (cupsL s (t n) ag (t n).lo)]) ∧ Below w'.heap.size w' w2 := by
  obtain ⟨b1, b2, _, b4, b5⟩ := H.bds hn
  exact carries_w _ _ _ _ _ _ _ w' ⟨by omega, b1.2⟩ ⟨by omega, b2.2⟩ ⟨by omega, b5.2⟩ ha ⟨b4.1, by omega⟩ ⟨by omega, b4.2.2⟩
end

set_option maxRecDepth 100000 in
set_option maxHeartbeats 2000000 in
theorem pcarries_w (A O C P ls cs lt ct n : Nat) (s : Nat → Int) (t : Nat → St5) (ag : Int) (w : World) (H : Hid (LineAt w A O C P ls lt s t)) (hn : n < lt) (ha : 0 ≤ ag ∧ ag ≤ 200) :
    Calls Tryz.prog 9 #[.agg #[.slice (some ⟨A, O, none⟩) ls cs, .slice (some ⟨C, P, none⟩) lt ct], .int .i64 (n : Int), .int .i64 ag] w
      fun e w' => e = .returned (.tuple #[.agg #[.int .i64 (cupsL s (t n) ag (t n).hi), .int .i64 (cupsL s (t n) ag (t n).lo)], .int .i64 0]) ∧ Below w.heap.size w w' := by
  have a4 := H.out.lt2
  have f1 : fromB 0 ((lt : Int) - 1) (n : Int) = true := by simp only [fromB, decide_eq_true_eq]; omega
  have f2 : fromB 0 200 ag = true := by simp only [fromB, decide_eq_true_eq]; omega
  have Hal : Hid (∀ o o' : Obj, LineAt ((w.alloc o).alloc o') A O C P ls lt s t) := Lib.hid fun o o' => (H.out.alloc o).alloc o'
  have m0 : ∀ w1 : World, Below (((w.alloc (.cells #[.slice (some ⟨A, O, none⟩) ls cs, .slice (some ⟨C, P, none⟩) lt ct] 25)).alloc (.cells #[.int .i64 0, .int .i64 0] 31))).heap.size ((w.alloc (.cells #[.slice (some ⟨A, O, none⟩) ls cs, .slice (some ⟨C, P, none⟩) lt ct] 25)).alloc (.cells #[.int .i64 0, .int .i64 0] 31)) w1 →
      w1.cell? ⟨w.heap.size, 0, none⟩ = some (.slice (some ⟨A, O, none⟩) ls cs) ∧ w1.cell? ⟨w.heap.size, 1, none⟩ = some (.slice (some ⟨C, P, none⟩) lt ct) ∧ w1.cell? ⟨w.heap.size + 1, 0, none⟩ = some (.int .i64 0) ∧ w1.cell? ⟨w.heap.size + 1, 1, none⟩ = some (.int .i64 0) ∧
      w1.frozen? ⟨w.heap.size + 1, 0, none⟩ = false ∧ w1.frozen? ⟨w.heap.size + 1, 1, none⟩ = false ∧ w.heap.size + 1 < w1.heap.size := by
    intro w1 hb
    obtain ⟨hc, hf⟩ := bcell hb
    refine ⟨(hc _ _ (by first | (simp; done) | (simp; omega))).trans (by simp), (hc _ _ (by first | (simp; done) | (simp; omega))).trans (by simp), (hc _ _ (by first | (simp; done) | (simp; omega))).trans (by simp), (hc _ _ (by first | (simp; done) | (simp; omega))).trans (by simp), (hf _ _ (by first | (simp; done) | (simp; omega))).trans (by simp), (hf _ _ (by first | (simp; done) | (simp; omega))).trans (by simp), ?_⟩
    have := hb.size
    simp at this; omega
  have M0 := Lib.hid m0
  clear m0
  go_enter Tryz.func9, Tryz.ntmps9
  go_wp2_with (first
    | (go_at_call 33; refine (isLine_w _ _ _ _ _ _ _ _ s t _ (Lib.hid (Hal.out _ _))).mono ?_; rintro e w1 ⟨rfl, hb1⟩; obtain ⟨x1, x2, x3, x4, x5, x6, x7⟩ := M0.out _ hb1)
    | (go_at_call 34; refine (isStretch_w _ _ _ _ _ _ (by unfold maxLen; omega)).mono ?_; rintro e w2 ⟨rfl, hb2⟩; have hb12 := hb1.trans (hb2.mono hb1.size); clear x1 x2 x3 x4 x5 x6 x7; obtain ⟨x1, x2, x3, x4, x5, x6, x7⟩ := M0.out _ hb12)
    | (go_at_call 35; refine (isAge_w _ _).mono ?_; rintro e w' ⟨rfl, rfl⟩)
    | (go_at_call 36; refine (at_l ((Hal.out _ _).below hb12) hn _ _ _).mono ?_; rintro e w3 ⟨rfl, hb3⟩; have hb13 := hb12.trans (hb3.mono hb12.size); clear x1 x2 x3 x4 x5 x6 x7; obtain ⟨x1, x2, x3, x4, x5, x6, x7⟩ := M0.out _ hb13)
    | (go_at_call 37; refine (carries_l H.out hn _ ha _).mono ?_; rintro e w4 ⟨rfl, hb4⟩; have hb14 := hb13.trans (hb4.mono hb13.size); clear x1 x2 x3 x4 x5 x6 x7; obtain ⟨x1, x2, x3, x4, x5, x6, x7⟩ := M0.out _ hb14))
  refine bodyPost_ret (v := .tuple #[.agg #[.int .i64 (cupsL s (t n) ag (t n).hi), .int .i64 (cupsL s (t n) ag (t n).lo)], .int .i64 0]) (by simp [results, Tryz.results9, go_sem, x3, x4]) rfl ⟨rfl, ?_⟩
  exact (((((Below.refl _ _).alloc (Nat.le_refl _) _).alloc (by simp) _).trans (hb14.mono (by simp; omega))).setCell (by simp) _).setCell (by simp) _
end Go.Kn

namespace Go.Kn
open Go Go.Proofs Go.RowKit

/-- a slice of numbers, nil, empty or not -/
def NumSl (w : World) (sa : Option Addr) (ls : Nat) (s : Nat → Int) : Prop := ls = 0 ∨ ∃ A O, sa = some ⟨A, O, none⟩ ∧ A < w.heap.size ∧ NumAt w A O ls s
def StSl (w : World) (ta : Option Addr) (lt : Nat) (t : Nat → St5) : Prop := lt = 0 ∨ ∃ C P, ta = some ⟨C, P, none⟩ ∧ C < w.heap.size ∧ StAt w C P lt t
structure RightP (ls lt : Nat) (s : Nat → Int) (t : Nat → St5) : Prop where
  ls1 : 1 ≤ ls
  ls2 : ls ≤ 10
  lt1 : 1 ≤ lt
  lt2 : lt ≤ 8
  sok : ∀ k, k < ls → fromB 1 1000 (s k) = true
  tok : StOk ls lt t

theorem no_iff {p : Prop} (h : p → False) : (false = true ↔ p) := ⟨fun e => Bool.noConfusion e, fun x => (h x).elim⟩

set_option maxRecDepth 100000 in
set_option maxHeartbeats 4000000 in
theorem right_w (sa ta : Option Addr) (ls cs lt ct : Nat) (s : Nat → Int) (t : Nat → St5) (w : World) (hls : ls ≤ 1000000) (hlt : lt ≤ 1000000)
    (HS : Hid (NumSl w sa ls s)) (HT : Hid (StSl w ta lt t)) :
    Calls Tryz.prog 10 #[.agg #[.slice sa ls cs, .slice ta lt ct]] w
      fun e w' => (∃ rb : Bool, e = .returned (.bool rb) ∧ (rb = true ↔ RightP ls lt s t)) ∧ Below w.heap.size w w' := by
  go_enter Tryz.func10, Tryz.ntmps10
  go_wp2
  go_loop [3] (fun i => ∃ k : Nat, k ≤ ls ∧ i = .int .i64 k ∧ ∀ j, j < k → fromB 1 1000 (s j) = true) (fun i => ls - (intOf i).toNat)
  case atStart => exact ⟨0, Nat.zero_le _, rfl, fun j hj => absurd hj (by omega)⟩
  case round =>
    obtain ⟨k, hk, rfl, hall⟩ := hrel
    have HALL := Lib.hid hall
    clear hall
    by_cases hlt1 : k < ls
    · obtain ⟨A, O, rfl, hA, hcells⟩ := HS.out.resolve_left (by omega)
      have hcell : (w.alloc (.cells #[.slice (some ⟨A, O, none⟩) ls cs, .slice ta lt ct] 25)).cell? ⟨A, O + k, none⟩ = some (.int .i64 (s k)) := (World.cell?_alloc_lt w _ _ hA).trans (hcells k hlt1)
      clear hcells
      cases hv : fromB 1 1000 (s k)
      · go_wp2_with (go_at_call 38; refine (in_w _ _ _ _).mono ?_; rintro e w1 ⟨rfl, rfl⟩)
        go_ret
        exact ⟨⟨false, rfl, no_iff (fun h => by rw [h.sok k hlt1] at hv; exact Bool.noConfusion hv)⟩, (Below.refl _ _).alloc (Nat.le_refl _) _⟩
      · go_wp2_with (go_at_call 38; refine (in_w _ _ _ _).mono ?_; rintro e w1 ⟨rfl, rfl⟩)
        go_round
        case rel => exact ⟨k + 1, by omega, by go_num, fun j hj => by
          rcases Nat.lt_succ_iff_lt_or_eq.1 hj with h | h
          · exact HALL.out j h
          · rw [h]; exact hv⟩
        case measure => simp [intOf]; omega
    · have HSP : Hid (∀ k, k < ls → fromB 1 1000 (s k) = true) := Lib.hid fun j hj => HALL.out j (by omega)
      go_wp2
      go_loopw [4] (fun i wr => ∃ k : Nat, k ≤ lt ∧ i = .int .i64 k ∧ Below (w.heap.size + 1) (w.alloc (.cells #[.slice sa ls cs, .slice ta lt ct] 25)) wr ∧ (∀ j, j < k → stB (t j).b (t j).d (t j).f (t j).lo (t j).hi ls = true)) (fun i _ => lt - (intOf i).toNat)
      case atStart => exact ⟨0, Nat.zero_le _, rfl, Below.refl _ _, fun j hj => absurd hj (by omega)⟩
      case round =>
        obtain ⟨j, hj, rfl, hbw, hall⟩ := hrel
        have HALL2 := Lib.hid hall
        clear hall
        have x0 : wr.cell? ⟨w.heap.size, 0, none⟩ = some (.slice sa ls cs) := (hbw.cell (p := ⟨w.heap.size, 0, none⟩) (by simp)).trans (by simp)
        have x1 : wr.cell? ⟨w.heap.size, 1, none⟩ = some (.slice ta lt ct) := (hbw.cell (p := ⟨w.heap.size, 1, none⟩) (by simp)).trans (by simp)
        have hz : w.heap.size + 1 ≤ wr.heap.size := by have := hbw.size; simp at this; omega
        have HBW := Lib.hid hbw
        by_cases hlt2 : j < lt
        · obtain ⟨C, P, rfl, hC, hcells⟩ := HT.out.resolve_left (by omega)
          obtain ⟨c0, c1, c2, c3, c4⟩ := hcells.below hC (((Below.refl _ _).alloc (Nat.le_refl _) _).trans (hbw.mono (by simp))) j hlt2
          clear hcells hbw
          cases hv : stB (t j).b (t j).d (t j).f (t j).lo (t j).hi ls
          · go_wp2
            go_region_with (go_at_call 39; refine (stretch_w _ _ _ _ _ _ _ ⟨by omega, by omega⟩).mono ?_; rintro e w1 ⟨rfl, hb1⟩)
            all_goals
              go_wp2
              go_ret
              have hB : Below (w.heap.size + 1) (w.alloc (.cells #[.slice sa ls cs, .slice (some ⟨C, P, none⟩) lt ct] 25)) w1 := by
                first
                  | exact HBW.out.trans (hb1.mono hz)
                  | exact (below_drew HBW.out).trans (hb1.mono hz)
              exact ⟨⟨false, rfl, no_iff (fun h => by rw [h.tok j hlt2] at hv; exact Bool.noConfusion hv)⟩, ((Below.refl _ _).alloc (Nat.le_refl _) _).trans (hB.mono (Nat.le_succ _))⟩
          · go_wp2
            go_region_with (go_at_call 39; refine (stretch_w _ _ _ _ _ _ _ ⟨by omega, by omega⟩).mono ?_; rintro e w1 ⟨rfl, hb1⟩)
            all_goals
              go_wp2
              go_roundw
              case rel =>
                have hB : Below (w.heap.size + 1) (w.alloc (.cells #[.slice sa ls cs, .slice (some ⟨C, P, none⟩) lt ct] 25)) w1 := by
                  first
                    | exact HBW.out.trans (hb1.mono hz)
                    | exact (below_drew HBW.out).trans (hb1.mono hz)
                exact ⟨j + 1, by omega, by go_num, hB, fun i hi => by
                  rcases Nat.lt_succ_iff_lt_or_eq.1 hi with h | h
                  · exact HALL2.out i h
                  · rw [h]; exact hv⟩
              case measure => simp [intOf]; omega
        · have HTOK : Hid (StOk ls lt t) := Lib.hid fun i hi => HALL2.out i (by omega)
          clear HALL2
          have fin : Below w.heap.size w wr := ((Below.refl _ _).alloc (Nat.le_refl _) _).trans (hbw.mono (Nat.le_succ _))
          cases hv : fromB 1 10 (ls : Int)
          · go_wp2_with (go_at_call 38; refine (in_w _ _ _ _).mono ?_; rintro e w1 ⟨rfl, rfl⟩)
            go_ret
            exact ⟨⟨false, rfl, no_iff (fun h => by have := h.ls1; have := h.ls2; simp only [fromB, decide_eq_false_iff_not] at hv; omega)⟩, fin⟩
          · go_wp2_with (go_at_call 38; refine (in_w _ _ _ _).mono ?_; rintro e w1 ⟨rfl, rfl⟩)
            go_ret
            refine ⟨⟨fromB 1 8 (lt : Int), rfl, (fun h => ?_), (fun h => by have := h.lt1; have := h.lt2; simp only [fromB, decide_eq_true_eq]; omega)⟩, fin⟩
            simp only [fromB, decide_eq_true_eq] at h hv
            exact ⟨by omega, by omega, by omega, by omega, HSP.out, HTOK.out⟩
end Go.Kn

namespace Go.Kn
open Go Go.Proofs Go.RowKit
set_option maxHeartbeats 1000000 in
theorem short_w (sa ta : Option Addr) (ls cs lt ct : Nat) (w : World) (hls : ls ≤ maxLen) (hlt : lt ≤ maxLen) :
    Calls Tryz.prog 6 #[.agg #[.slice sa ls cs, .slice ta lt ct]] w fun e w' => e = .returned (.bool (decide (ls ≤ 13 ∧ lt ≤ 10))) ∧ Below w.heap.size w w' := by
  unfold maxLen at hls hlt
  by_cases h : ls ≤ 13
  · go_enter Tryz.func6, Tryz.ntmps6
    go_wp2
    go_ret
    exact ⟨by (simp [h]; try omega), (Below.refl _ _).alloc (Nat.le_refl _) _⟩
  · go_enter Tryz.func6, Tryz.ntmps6
    go_wp2
    go_ret
    exact ⟨by (simp [h]; try omega), (Below.refl _ _).alloc (Nat.le_refl _) _⟩
end Go.Kn

namespace Go.Kn
open Go Go.Proofs Go.RowKit

theorem cups_mono {b d sp ag r ag' r' : Int} (hs : 0 ≤ sp) (h : r * ag ≤ r' * ag') : cupsV b d sp ag' r' ≤ cupsV b d sp ag r := by
  unfold cupsV
  have h1 : r * ag / 100 ≤ r' * ag' / 100 := Int.ediv_le_ediv (by omega) h
  have h2 : max 0 (b - 2 * (r' * ag' / 100)) ≤ max 0 (b - 2 * (r * ag / 100)) := by omega
  have h3 : max 0 (d - r' * ag' / 100) ≤ max 0 (d - r * ag / 100) := by omega
  have h4 : max 0 (b - 2 * (r' * ag' / 100)) * max 0 (d - r' * ag' / 100) ≤ max 0 (b - 2 * (r * ag / 100)) * max 0 (d - r * ag / 100) :=
    Int.mul_le_mul h2 h3 (by omega) (by omega)
  exact Int.mul_le_mul_of_nonneg_right h4 hs

theorem cupsL_mono {s : Nat → Int} {x : St5} {ag r ag' r' : Int} (hs : 0 ≤ s x.f.toNat) (h0 : 0 ≤ r) (h1 : r ≤ r') (h2 : 0 ≤ ag) (h3 : ag ≤ ag') : cupsL s x ag' r' ≤ cupsL s x ag r :=
  cups_mono hs (Int.mul_le_mul h1 h3 h2 (by omega))

abbrev KnownOk : Prop := ∀ w : World, Calls Tryz.prog 7 #[] w fun e w' => e = .returned (.bool true) ∧ Below w.heap.size w w'

/-- a boxed line, in any world that comes later -/
theorem box_cells {w w1 : World} {x y : Value} {T : TypeId} (hb : Below (w.alloc (.cells #[x, y] T)).heap.size (w.alloc (.cells #[x, y] T)) w1) :
    w1.cell? ⟨w.heap.size, 0, none⟩ = some x ∧ w1.cell? ⟨w.heap.size, 1, none⟩ = some y ∧ w.heap.size < w1.heap.size := by
  obtain ⟨hc, _⟩ := bcell hb
  refine ⟨(hc _ _ (by simp)).trans (by simp), (hc _ _ (by simp)).trans (by simp), ?_⟩
  have := hb.size
  simp at this; omega

end Go.Kn

namespace Go.Kn
open Go Go.Proofs Go.RowKit

theorem NumSl.below {w w1 : World} {sa : Option Addr} {ls : Nat} {s : Nat → Int} (h : NumSl w sa ls s) (hb : Below w.heap.size w w1) : NumSl w1 sa ls s := by
  rcases h with h | ⟨A, O, h1, h2, h3⟩
  · exact .inl h
  · exact .inr ⟨A, O, h1, Nat.lt_of_lt_of_le h2 hb.size, h3.below h2 hb⟩
theorem StSl.below {w w1 : World} {ta : Option Addr} {lt : Nat} {t : Nat → St5} (h : StSl w ta lt t) (hb : Below w.heap.size w w1) : StSl w1 ta lt t := by
  rcases h with h | ⟨A, O, h1, h2, h3⟩
  · exact .inl h
  · exact .inr ⟨A, O, h1, Nat.lt_of_lt_of_le h2 hb.size, h3.below h2 hb⟩
end Go.Kn

namespace Go.Kn
open Go Go.Proofs Go.RowKit Go.ChangeShapes Go.WideShapes Go.Deep

def numOf : Value → Int
  | .int _ k => k
  | _ => 0

theorem cells3 : Tryz.prog.cellsOf 3 = 1 := by kernel_rfl
theorem cells22 : Tryz.prog.cellsOf 22 = 1 := by kernel_rfl
theorem cells23 : Tryz.prog.cellsOf 23 = 1 := by kernel_rfl
theorem cells25 : Tryz.prog.cellsOf 25 = 2 := by kernel_rfl
theorem cells31 : Tryz.prog.cellsOf 31 = 2 := by kernel_rfl
theorem cells39 : Tryz.prog.cellsOf 74 = 5 := by kernel_rfl

section
variable {H : Type} {enc : TypeId × Value → H} {w : World} {base : Nat} {spare : Nat → Bool} {held : Bool}

theorem addr_mk {a : Addr} {v : Value} (h : w.cell? a = some v) : a = ⟨a.block, a.off, none⟩ := by
  have := World.cell?_spot h
  obtain ⟨b, o, s⟩ := a
  simp at this
  subst this; rfl

theorem add_mk (b o i : Nat) : (⟨b, o, none⟩ : Addr).add i = ⟨b, o + i, none⟩ := by
  unfold Addr.add
  split
  · rename_i h; subst h; rfl
  · rfl

theorem num_open {n : Nat} {v : Value} {y : DataW H × List MemPlace} (h : DataW.trod enc Tryz.prog w base spare held n 22 [v] = some y) :
    ∃ (sa : Option Addr) (ls cs : Nat) (s : Nat → Int), v = .slice sa ls cs ∧ ls ≤ maxLen ∧ NumSl w sa ls s := by
  rcases open_slice1 Tryz.underlying22 cells3 h with ⟨h1, _⟩ | ⟨a, len, cap, m, n', V, D, Pl, h1, _, hl, hm, hmm, _, hi⟩
  · exact ⟨none, 0, 0, fun _ => 0, by simpa using h1, by decide, .inl rfl⟩
  · refine ⟨some a, len, cap, fun i => numOf (V i), by simpa using h1, by omega, ?_⟩
    by_cases h0 : len = 0
    · exact .inl h0
    · have hml : len ≤ m := by rw [hmm]; split <;> omega
      have hc0 := (hi 0 (by omega)).1
      have ea : a.add 0 = a := rfl
      rw [ea] at hc0
      have e := addr_mk hc0
      refine .inr ⟨a.block, a.off, by rw [← e], World.block_lt_of_cell? w a hc0, fun i hil => ?_⟩
      obtain ⟨hc, ht⟩ := hi i (by omega)
      obtain ⟨k, hk, _⟩ := DataW.trod_int Tryz.underlying3 ht
      have hv : V i = .int .i64 k := by simpa using hk
      have q : a.add i = ⟨a.block, a.off + i, none⟩ := (congrArg (fun x => Addr.add x i) e).trans (add_mk _ _ _)
      rw [q] at hc
      show w.cell? _ = some (.int .i64 (numOf (V i)))
      rw [hc, hv]; rfl

theorem list2 {α : Type} {l : List α} (h : l.length = 2) : ∃ a b, l = [a, b] := by
  match l, h with
  | [a, b], _ => exact ⟨a, b, rfl⟩
theorem list4 {α : Type} {l : List α} (h : l.length = 4) : ∃ a b c d, l = [a, b, c, d] := by
  match l, h with
  | [a, b, c, d], _ => exact ⟨a, b, c, d, rfl⟩
theorem list5 {α : Type} {l : List α} (h : l.length = 5) : ∃ a b c d e, l = [a, b, c, d, e] := by
  match l, h with
  | [a, b, c, d, e], _ => exact ⟨a, b, c, d, e, rfl⟩
def st5Of (cs : List Value) : St5 := ⟨numOf (cs.getD 0 undef), numOf (cs.getD 1 undef), numOf (cs.getD 2 undef), numOf (cs.getD 3 undef), numOf (cs.getD 4 undef)⟩

theorem st_cells {n : Nat} {cs : List Value} {y : DataW H × List MemPlace} (h : DataW.trod enc Tryz.prog w base spare held n 74 cs = some y) :
    ∃ a b c d e : Int, cs = [.int .i64 a, .int .i64 b, .int .i64 c, .int .i64 d, .int .i64 e] := by
  obtain ⟨xs, n', _, _, hlen, hxl, hf⟩ := DataW.trod_struct Tryz.underlying74 h
  rw [cells39] at hlen
  obtain ⟨c0, c1, c2, c3, c4, rfl⟩ := list5 hlen
  obtain ⟨x0, x1, x2, x3, rfl⟩ := list4 hxl
  have f0 : DataW.trod enc Tryz.prog w base spare held n' 3 (([c0, c1, c2, c3, c4].drop 0).take (Tryz.prog.cellsOf 3)) = some x0 := hf 0 _ rfl
  rw [cells3] at f0
  have f1 : DataW.trod enc Tryz.prog w base spare held n' 3 (([c0, c1, c2, c3, c4].drop 1).take (Tryz.prog.cellsOf 3)) = some x1 := hf 1 _ rfl
  rw [cells3] at f1
  have f2 : DataW.trod enc Tryz.prog w base spare held n' 3 (([c0, c1, c2, c3, c4].drop 2).take (Tryz.prog.cellsOf 3)) = some x2 := hf 2 _ rfl
  rw [cells3] at f2
  have f3 : DataW.trod enc Tryz.prog w base spare held n' 31 (([c0, c1, c2, c3, c4].drop 3).take (Tryz.prog.cellsOf 31)) = some x3 := hf 3 _ rfl
  rw [cells31] at f3
  obtain ⟨k0, e0, _⟩ := DataW.trod_int Tryz.underlying3 f0
  obtain ⟨k1, e1, _⟩ := DataW.trod_int Tryz.underlying3 f1
  obtain ⟨k2, e2, _⟩ := DataW.trod_int Tryz.underlying3 f2
  obtain ⟨zs, n2, _, _, hlen2, hzl, hg⟩ := DataW.trod_struct Tryz.underlying31 f3
  obtain ⟨z0, z1, rfl⟩ := list2 hzl
  have g0 : DataW.trod enc Tryz.prog w base spare held n2 3 (((([c0, c1, c2, c3, c4].drop 3).take 2).drop 0).take (Tryz.prog.cellsOf 3)) = some z0 := hg 0 _ rfl
  rw [cells3] at g0
  have g1 : DataW.trod enc Tryz.prog w base spare held n2 3 (((([c0, c1, c2, c3, c4].drop 3).take 2).drop 1).take (Tryz.prog.cellsOf 3)) = some z1 := hg 1 _ rfl
  rw [cells3] at g1
  obtain ⟨k3, e3, _⟩ := DataW.trod_int Tryz.underlying3 g0
  obtain ⟨k4, e4, _⟩ := DataW.trod_int Tryz.underlying3 g1
  simp at e0 e1 e2 e3 e4
  exact ⟨k0, k1, k2, k3, k4, by rw [e0, e1, e2, e3, e4]⟩

theorem st_open {n : Nat} {v : Value} {y : DataW H × List MemPlace} (h : DataW.trod enc Tryz.prog w base spare held n 23 [v] = some y) :
    ∃ (ta : Option Addr) (lt ct : Nat) (t : Nat → St5), v = .slice ta lt ct ∧ lt ≤ maxLen ∧ StSl w ta lt t := by
  rcases open_slice Tryz.underlying23 h with ⟨h1, _⟩ | ⟨a, len, cap, m, n', D, Pl, h1, _, hl, hm, hmm, _, hi⟩
  · exact ⟨none, 0, 0, fun _ => ⟨0, 0, 0, 0, 0⟩, by simpa using h1, by decide, .inl rfl⟩
  · have hml : len ≤ m := by rw [hmm]; split <;> omega
    have key : ∀ i, i < len → ∃ x : St5, ∀ j c, [x.b, x.d, x.f, x.lo, x.hi][j]? = some c → w.cell? (a.add (i * 5 + j)) = some (.int .i64 c) := by
      intro i hil
      obtain ⟨cs', hc, ht⟩ := hi i (by omega)
      rw [cells39] at hc
      obtain ⟨_, hcl, hat⟩ := World.cells?_some hc
      obtain ⟨k0, k1, k2, k3, k4, rfl⟩ := st_cells ht
      refine ⟨⟨k0, k1, k2, k3, k4⟩, fun j c hj => ?_⟩
      have hj5 : j < 5 := by
        have := (List.getElem?_eq_some_iff.1 hj).1
        simpa using this
      have h1 := hat j hj5
      rw [← Go.Deep.add_add] at *
      rw [h1]
      match j, hj5, hj with
      | 0, _, hj => simpa using hj
      | 1, _, hj => simpa using hj
      | 2, _, hj => simpa using hj
      | 3, _, hj => simpa using hj
      | 4, _, hj => simpa using hj
    by_cases h0 : len = 0
    · exact ⟨some a, len, cap, fun _ => ⟨0, 0, 0, 0, 0⟩, by simpa using h1, by omega, .inl h0⟩
    · obtain ⟨x0, hx0⟩ := key 0 (by omega)
      have hc0 := hx0 0 _ rfl
      have ea : a.add (0 * 5 + 0) = a := rfl
      rw [ea] at hc0
      have e := addr_mk hc0
      refine ⟨some a, len, cap, fun i => if h : i < len then Classical.choose (key i h) else ⟨0, 0, 0, 0, 0⟩, by simpa using h1, by omega, .inr ⟨a.block, a.off, by rw [← e], World.block_lt_of_cell? w a hc0, fun i hil => ?_⟩⟩
      simp only [hil, dif_pos]
      have hk := Classical.choose_spec (key i hil)
      have q : ∀ j, a.add (i * 5 + j) = ⟨a.block, a.off + (i * 5 + j), none⟩ := fun j => (congrArg (fun x => Addr.add x (i * 5 + j)) e).trans (add_mk _ _ _)
      have c0 := hk 0 _ rfl
      have c1 := hk 1 _ rfl
      have c2 := hk 2 _ rfl
      have c3 := hk 3 _ rfl
      have c4 := hk 4 _ rfl
      rw [q] at c0 c1 c2 c3 c4
      exact ⟨c0, c1, c2, c3, c4⟩
end
end Go.Kn

namespace Go.Kn
open Go Go.Proofs Go.RowKit

/-- The lexical walk, behind a door: so that nobody lays it open unasked. -/
structure Calm (P : Program) (ops : Array Oper) (C : World → Prop) (Q : Act → Prop) (l : List Oper) (a : Act) : Prop where
  out : wpQuiet P ops C Q l a

/-- One walk of the lexical order serves every order: the class of worlds in which nothing below a mark has changed. -/
theorem wp_region_calm {P : Program} {id : Nat} {Q : Exit → Act → World → Prop} {a : Act} {w W : World} {l : List Oper} (hm : P.follows .mixedOrders = true) (hB : Region.lexB .any l.toArray = true) (h0 : Below W.heap.size W w)
    (h : Calm P l.toArray (fun w' => Below W.heap.size W w') (fun a' => ∀ w', Below W.heap.size W w' → Q .normal a' w') l a) : (Code.region id l.toArray true).wp P Q a w :=
  wp_region_quiet (C := fun w' => Below W.heap.size W w') hm hB (below_drew h0) (by simpa using h.out)

theorem calm_nil {P : Program} {ops : Array Oper} {C : World → Prop} {Q : Act → Prop} {a : Act} (h : Q a) : Calm P ops C Q [] a := ⟨wpQuiet_nil h⟩

theorem calm_yes {P : Program} {ops : Array Oper} {C : World → Prop} {Q : Act → Prop} {a : Act} {o : Oper} {rest : List Oper} {v : Value} (hw : Region.wanted o (yielded ops a.tmps) = true)
    (h1 : ∀ w', C w' → o.quietAt P a C w' v) (h2 : Calm P ops C Q rest (a.put o.dst v)) : Calm P ops C Q (o :: rest) a := by
  refine ⟨?_⟩
  unfold wpQuiet
  rw [if_pos hw]
  exact ⟨v, h1, h2.out⟩

theorem calm_no {P : Program} {ops : Array Oper} {C : World → Prop} {Q : Act → Prop} {a : Act} {o : Oper} {rest : List Oper} (hw : Region.wanted o (yielded ops a.tmps) = false)
    (h2 : Calm P ops C Q rest (a.put o.dst undef)) : Calm P ops C Q (o :: rest) a := by
  refine ⟨?_⟩
  unfold wpQuiet
  rw [if_neg (by rw [hw]; decide)]
  exact h2.out
end Go.Kn
