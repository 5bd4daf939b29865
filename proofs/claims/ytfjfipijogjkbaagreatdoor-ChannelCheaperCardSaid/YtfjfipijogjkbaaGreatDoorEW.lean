/- Walks of functions of layer 2 (contracts that the laws of this seat use). Conditions: as each theorem states them. -/
import Derived.Test.YtfjfipijogjkbaaGreatDoorProg
import Derived.WalkKit
import Derived.WalkSpells
import Derived.WalkLawsBesides
import Derived.Deep.QuietTactic
import Derived.BigQuiet
import Derived.WalkSmall
import Derived.Deep.RegionWith
import Derived.Lib.Hide
set_option linter.unusedVariables false
set_option linter.unusedSimpArgs false
namespace Go.Kn
open Go Go.Proofs Go.RowKit

def fromB (a b c : Int) : Bool := decide (a ≤ c ∧ c ≤ b)

set_option maxHeartbeats 400000 in
theorem isFrom_w (a b c : Int) (w : World) :
    Calls Tryz.prog 70 #[.int .i64 a, .int .i64 b, .int .i64 c] w fun e w' => e = .returned (.bool (fromB a b c)) ∧ w = w' := by
  by_cases h1 : a ≤ c <;> by_cases h2 : c ≤ b
  all_goals
    go_enter Tryz.func70, Tryz.ntmps70
    go_wp2
    go_ret
    exact ⟨by simp [fromB, h1, h2], rfl⟩

set_option maxHeartbeats 400000 in
theorem in_w (a b c : Int) (w : World) :
    Calls Tryz.prog 50 #[.int .i64 c, .int .i64 a, .int .i64 b] w fun e w' => e = .returned (.bool (fromB a b c)) ∧ w = w' := by
  by_cases h1 : a ≤ c <;> by_cases h2 : c ≤ b
  all_goals
    go_enter Tryz.func50, Tryz.ntmps50
    go_wp2
    go_ret
    exact ⟨by simp [fromB, h1, h2], rfl⟩

set_option maxHeartbeats 400000 in
theorem isSpeed_w (c : Int) (w : World) :
    Calls Tryz.prog 79 #[.int .i64 c] w fun e w' => e = .returned (.bool (fromB 1 1000 c)) ∧ w = w' := by
  go_enter Tryz.func79, Tryz.ntmps79
  go_wp2_with (go_at_call 70; refine (isFrom_w _ _ _ _).mono ?_; rintro e w' ⟨rfl, rfl⟩)
  go_ret
  exact ⟨rfl, rfl⟩

set_option maxHeartbeats 400000 in
theorem isAge_w (c : Int) (w : World) :
    Calls Tryz.prog 47 #[.int .i64 c] w fun e w' => e = .returned (.bool (fromB 0 200 c)) ∧ w = w' := by
  go_enter Tryz.func47, Tryz.ntmps47
  go_wp2_with (go_at_call 70; refine (isFrom_w _ _ _ _).mono ?_; rintro e w' ⟨rfl, rfl⟩)
  go_ret
  exact ⟨rfl, rfl⟩

set_option maxHeartbeats 400000 in
theorem age_w (c : Int) (w : World) :
    Calls Tryz.prog 14 #[.int .i64 c] w fun e w' => e = .returned (.bool (fromB 0 200 c)) ∧ w = w' := by
  go_enter Tryz.func14, Tryz.ntmps14
  go_wp2_with (go_at_call 50; refine (in_w _ _ _ _).mono ?_; rintro e w' ⟨rfl, rfl⟩)
  go_ret
  exact ⟨rfl, rfl⟩

def spanB (lim lo hi : Int) : Bool := decide (0 ≤ lo ∧ lo ≤ lim ∧ lo ≤ hi ∧ hi ≤ lim)


theorem spanB_tt {lim lo hi : Int} (h1 : fromB 0 lim lo = true) : fromB lo lim hi = spanB lim lo hi := by
  simp only [fromB, spanB, decide_eq_true_eq] at *
  rw [decide_eq_decide]; omega
theorem spanB_f {lim lo hi : Int} (h1 : fromB 0 lim lo = false) : false = spanB lim lo hi := by
  simp only [fromB, spanB, decide_eq_false_iff_not] at *
  symm
  rw [decide_eq_false_iff_not]; omega

set_option maxHeartbeats 400000 in
theorem isSpan_w (lim lo hi : Int) (w : World) :
    Calls Tryz.prog 103 #[.int .i64 lim, .agg #[.int .i64 lo, .int .i64 hi]] w fun e w' => e = .returned (.bool (spanB lim lo hi)) ∧ Below w.heap.size w w' := by
  cases h1 : fromB 0 lim lo
  · go_enter Tryz.func103, Tryz.ntmps103
    go_wp2_with (go_at_call 70; refine (isFrom_w _ _ _ _).mono ?_; rintro e w' ⟨rfl, rfl⟩)
    go_ret
    exact ⟨by rw [← spanB_f h1]; rfl, (Below.refl _ _).alloc (Nat.le_refl _) _⟩
  · go_enter Tryz.func103, Tryz.ntmps103
    go_wp2_with (go_at_call 70; refine (isFrom_w _ _ _ _).mono ?_; rintro e w' ⟨rfl, rfl⟩)
    go_ret
    exact ⟨by rw [← spanB_tt h1]; rfl, (Below.refl _ _).alloc (Nat.le_refl _) _⟩


theorem ret_int {k : IntKind} {a b : Int} (h : a = b) : Ending.returned (.int k a) = .returned (.int k b) := by rw [h]

theorem mul_bd {a b A B : Int} (h1 : 0 ≤ a) (h2 : a ≤ A) (h3 : 0 ≤ b) (h4 : b ≤ B) : 0 ≤ a * b ∧ a * b ≤ A * B :=
  ⟨Int.mul_nonneg h1 h3, Int.mul_le_mul h2 h4 h3 (Int.le_trans h1 h2)⟩

theorem cups_fin {X Y sp : Int} (h1 : 0 ≤ X) (h2 : X ≤ 100) (h3 : 0 ≤ Y) (h4 : Y ≤ 100) (h5 : 0 ≤ sp) (h6 : sp ≤ 1000) : wrap64 (wrap64 (X * Y) * sp) = X * Y * sp := by
  have a := mul_bd h1 h2 h3 h4
  have e1 : wrap64 (X * Y) = X * Y := IntWalk.wrap64_in _ (by omega)
  rw [e1]
  have b := mul_bd a.1 a.2 h5 h6
  exact IntWalk.wrap64_in _ (by omega)

def cupsV (b d sp ag r : Int) : Int := max 0 (b - 2 * (r * ag / 100)) * max 0 (d - r * ag / 100) * sp

set_option maxHeartbeats 400000 in
theorem cups_w (b d f lo hi sp ag r : Int) (w : World) (hb : 0 ≤ b ∧ b ≤ 100) (hd : 0 ≤ d ∧ d ≤ 100) (hs : 0 ≤ sp ∧ sp ≤ 1000) (ha : 0 ≤ ag ∧ ag ≤ 200) (hr : 0 ≤ r ∧ r ≤ 100) :
    Calls Tryz.prog 113 #[.agg #[.int .i64 b, .int .i64 d, .int .i64 f, .int .i64 lo, .int .i64 hi, .int .i64 sp, .int .i64 ag], .int .i64 r] w fun e w' => e = .returned (.int .i64 (cupsV b d sp ag r)) ∧ Below w.heap.size w w' := by
  have hra := mul_bd hr.1 hr.2 ha.1 ha.2
  obtain ⟨hra1, hra2⟩ := hra
  obtain ⟨hb1, hb2⟩ := hb
  obtain ⟨hd1, hd2⟩ := hd
  by_cases h1 : 0 < b - 2 * (r * ag / 100) <;> by_cases h2 : 0 < d - r * ag / 100
  all_goals
    go_enter Tryz.func113, Tryz.ntmps113
    go_wp2
    go_ret
    refine ⟨ret_int ?_, (Below.refl _ _).alloc (Nat.le_refl _) _⟩
    unfold cupsV
    have z : wrap64 0 = 0 := IntWalk.wrap64_in _ (by omega)
    first
      | (rw [Int.max_eq_right (by omega), Int.max_eq_right (by omega)]; exact cups_fin (by omega) (by omega) (by omega) (by omega) hs.1 hs.2)
      | (rw [Int.max_eq_left (a := 0) (b := b - 2 * (r * ag / 100)) (by omega)]; simp [z])
      | (rw [Int.max_eq_left (a := 0) (b := d - r * ag / 100) (by omega)]; simp [z])

theorem bcell {W w1 : World} (hb : Below W.heap.size W w1) : (∀ b o, b < W.heap.size → w1.cell? ⟨b, o, none⟩ = W.cell? ⟨b, o, none⟩) ∧ (∀ b o, b < W.heap.size → w1.frozen? ⟨b, o, none⟩ = W.frozen? ⟨b, o, none⟩) :=
  ⟨fun b o h => hb.cell (p := ⟨b, o, none⟩) h, fun b o h => hb.frozen (p := ⟨b, o, none⟩) h⟩

theorem below_al {w w1 : World} {o : Obj} (h : Below (w.alloc o).heap.size (w.alloc o) w1) : Below w.heap.size w w1 :=
  ((Below.refl _ _).alloc (Nat.le_refl _) _).trans (h.mono (by simp))

set_option maxHeartbeats 400000 in
theorem least_w (b d f lo hi sp ag : Int) (w : World) (hb : 0 ≤ b ∧ b ≤ 100) (hd : 0 ≤ d ∧ d ≤ 100) (hs : 0 ≤ sp ∧ sp ≤ 1000) (ha : 0 ≤ ag ∧ ag ≤ 200) (hr : 0 ≤ hi ∧ hi ≤ 100) :
    Calls Tryz.prog 84 #[.agg #[.int .i64 b, .int .i64 d, .int .i64 f, .int .i64 lo, .int .i64 hi, .int .i64 sp, .int .i64 ag]] w fun e w' => e = .returned (.int .i64 (cupsV b d sp ag hi)) ∧ Below w.heap.size w w' := by
  go_enter Tryz.func84, Tryz.ntmps84
  go_wp2_with (go_at_call 113; refine (cups_w _ _ _ _ _ _ _ _ _ hb hd hs ha hr).mono ?_; rintro e w' ⟨rfl, hbl⟩)
  go_ret
  exact ⟨rfl, below_al hbl⟩

set_option maxHeartbeats 400000 in
theorem most_w (b d f lo hi sp ag : Int) (w : World) (hb : 0 ≤ b ∧ b ≤ 100) (hd : 0 ≤ d ∧ d ≤ 100) (hs : 0 ≤ sp ∧ sp ≤ 1000) (ha : 0 ≤ ag ∧ ag ≤ 200) (hr : 0 ≤ lo ∧ lo ≤ 100) :
    Calls Tryz.prog 85 #[.agg #[.int .i64 b, .int .i64 d, .int .i64 f, .int .i64 lo, .int .i64 hi, .int .i64 sp, .int .i64 ag]] w fun e w' => e = .returned (.int .i64 (cupsV b d sp ag lo)) ∧ Below w.heap.size w w' := by
  go_enter Tryz.func85, Tryz.ntmps85
  go_wp2_with (go_at_call 113; refine (cups_w _ _ _ _ _ _ _ _ _ hb hd hs ha hr).mono ?_; rintro e w' ⟨rfl, hbl⟩)
  go_ret
  exact ⟨rfl, below_al hbl⟩

theorem fromB_tt {a b c : Int} (h : fromB a b c = true) : a ≤ c ∧ c ≤ b := by simpa [fromB] using h
theorem fromB_f {a b c : Int} (h : fromB a b c = false) : ¬ (a ≤ c ∧ c ≤ b) := by simpa [fromB] using h

def betB (lo hi a b : Int) : Bool := decide (a ≤ lo ∧ lo ≤ b ∧ a ≤ hi ∧ hi ≤ b ∧ lo ≤ hi)

set_option maxHeartbeats 400000 in
theorem between_w (lo hi a b : Int) (w : World) :
    Calls Tryz.prog 86 #[.agg #[.int .i64 lo, .int .i64 hi], .int .i64 a, .int .i64 b] w fun e w' => e = .returned (.bool (betB lo hi a b)) ∧ Below w.heap.size w w' := by
  cases h1 : fromB a b lo <;> cases h2 : fromB a b hi <;> by_cases h3 : lo ≤ hi
  all_goals
    go_enter Tryz.func86, Tryz.ntmps86
    go_wp2_with (go_at_call 50; refine (in_w _ _ _ _).mono ?_; rintro e w' ⟨rfl, rfl⟩)
    go_ret
    refine ⟨?_, (Below.refl _ _).alloc (Nat.le_refl _) _⟩
    simp only [betB, fromB] at *
    simp only [decide_eq_true_eq, decide_eq_false_iff_not] at h1 h2
    simp (config := { maxSteps := 100000 }) [*]
end Go.Kn

namespace Go.Kn
open Go Go.Proofs Go.RowKit

def stB (b d f lo hi sp : Int) : Bool := decide (1 ≤ b ∧ b ≤ 100 ∧ 1 ≤ d ∧ d ≤ 100 ∧ 0 ≤ f ∧ f ≤ sp - 1 ∧ 0 ≤ lo ∧ lo ≤ hi ∧ hi ≤ 100)

set_option maxHeartbeats 1000000 in
theorem stretch_w (b d f lo hi sp : Int) (w : World) (hsp : 0 ≤ sp ∧ sp ≤ 1000000) :
    Calls Tryz.prog 51 #[.agg #[.int .i64 b, .int .i64 d, .int .i64 f, .int .i64 lo, .int .i64 hi], .int .i64 sp] w fun e w' => e = .returned (.bool (stB b d f lo hi sp)) ∧ Below w.heap.size w w' := by
  obtain ⟨s1, s2⟩ := hsp
  cases h1 : fromB 1 100 b
  case false =>
    go_enter Tryz.func51, Tryz.ntmps51
    go_wp2_with (first | (go_at_call 50; refine (in_w _ _ _ _).mono ?_; rintro e w' ⟨rfl, rfl⟩) | (go_at_call 86; refine (between_w _ _ _ _ _).mono ?_; rintro e w' ⟨rfl, hbl⟩))
    go_ret
    refine ⟨?_, (Below.refl _ _).alloc (Nat.le_refl _) _⟩
    have := fromB_f h1
    rw [show stB b d f lo hi sp = false from by simp only [stB, decide_eq_false_iff_not]; omega]; rfl
  cases h2 : fromB 1 100 d
  case false =>
    go_enter Tryz.func51, Tryz.ntmps51
    go_wp2_with (first | (go_at_call 50; refine (in_w _ _ _ _).mono ?_; rintro e w' ⟨rfl, rfl⟩) | (go_at_call 86; refine (between_w _ _ _ _ _).mono ?_; rintro e w' ⟨rfl, hbl⟩))
    go_ret
    refine ⟨?_, (Below.refl _ _).alloc (Nat.le_refl _) _⟩
    have := fromB_f h2
    rw [show stB b d f lo hi sp = false from by simp only [stB, decide_eq_false_iff_not]; omega]; rfl
  cases h3 : fromB 0 (sp - 1) f
  case false =>
    go_enter Tryz.func51, Tryz.ntmps51
    go_wp2_with (first | (go_at_call 50; refine (in_w _ _ _ _).mono ?_; rintro e w' ⟨rfl, rfl⟩) | (go_at_call 86; refine (between_w _ _ _ _ _).mono ?_; rintro e w' ⟨rfl, hbl⟩))
    go_ret
    refine ⟨?_, (Below.refl _ _).alloc (Nat.le_refl _) _⟩
    have := fromB_f h3
    rw [show stB b d f lo hi sp = false from by simp only [stB, decide_eq_false_iff_not]; omega]; rfl
  go_enter Tryz.func51, Tryz.ntmps51
  go_wp2_with (first | (go_at_call 50; refine (in_w _ _ _ _).mono ?_; rintro e w' ⟨rfl, rfl⟩) | (go_at_call 86; refine (between_w _ _ _ _ _).mono ?_; rintro e w' ⟨rfl, hbl⟩))
  go_ret
  refine ⟨?_, below_al hbl⟩
  have e1 := fromB_tt h1
  have e2 := fromB_tt h2
  have e3 := fromB_tt h3
  have : betB lo hi 0 100 = stB b d f lo hi sp := by simp only [betB, stB]; rw [decide_eq_decide]; omega
  rw [← this]; rfl

set_option maxHeartbeats 400000 in
theorem number_w (x y : Value) (ad : Option Addr) (len cap : Nat) (n : Int) (w : World) (hl : len ≤ maxLen) :
    Calls Tryz.prog 13 #[.agg #[x, .slice ad len cap], .int .i64 n] w fun e w' => e = .returned (.bool (fromB 0 ((len : Int) - 1) n)) ∧ Below w.heap.size w w' := by
  unfold maxLen at hl
  go_enter Tryz.func13, Tryz.ntmps13
  go_wp2_with (go_at_call 50; refine (in_w _ _ _ _).mono ?_; rintro e w' ⟨rfl, rfl⟩)
  go_ret
  exact ⟨rfl, (Below.refl _ _).alloc (Nat.le_refl _) _⟩

set_option maxHeartbeats 400000 in
theorem isStretch_w (x : Value) (ad : Option Addr) (len cap : Nat) (n : Int) (w : World) (hl : len ≤ maxLen) :
    Calls Tryz.prog 46 #[.agg #[x, .slice ad len cap], .int .i64 n] w fun e w' => e = .returned (.bool (fromB 0 ((len : Int) - 1) n)) ∧ Below w.heap.size w w' := by
  unfold maxLen at hl
  go_enter Tryz.func46, Tryz.ntmps46
  go_wp2_with (go_at_call 70; refine (isFrom_w _ _ _ _).mono ?_; rintro e w' ⟨rfl, rfl⟩)
  go_ret
  exact ⟨rfl, (Below.refl _ _).alloc (Nat.le_refl _) _⟩
end Go.Kn

namespace Go.Kn
open Go Go.Proofs Go.RowKit
set_option maxHeartbeats 1000000 in
theorem rcups_w (A O C P ls cs lt ct n : Nat) (b d lo hi sp ag r : Int) (f : Nat) (w : World) (hls : ls ≤ maxLen) (hlt : lt ≤ maxLen) (hn : n < lt) (hf : f < ls) (hA : A < w.heap.size) (hC : C < w.heap.size)
    (c0 : w.cell? ⟨C, P + n * 5, none⟩ = some (.int .i64 b)) (c1 : w.cell? ⟨C, P + n * 5 + 1, none⟩ = some (.int .i64 d)) (c2 : w.cell? ⟨C, P + n * 5 + 2, none⟩ = some (.int .i64 (f : Int))) (c3 : w.cell? ⟨C, P + n * 5 + 3, none⟩ = some (.int .i64 lo)) (c4 : w.cell? ⟨C, P + n * 5 + 4, none⟩ = some (.int .i64 hi))
    (hsp : w.cell? ⟨A, O + f, none⟩ = some (.int .i64 sp))
    (hb : 0 ≤ b ∧ b ≤ 100) (hd : 0 ≤ d ∧ d ≤ 100) (hs : 0 ≤ sp ∧ sp ≤ 1000) (ha : 0 ≤ ag ∧ ag ≤ 200) (hr : 0 ≤ r ∧ r ≤ 100) :
    Calls Tryz.prog 52 #[.agg #[.slice (some ⟨A, O, none⟩) ls cs, .slice (some ⟨C, P, none⟩) lt ct], .int .i64 (n : Int), .int .i64 ag, .int .i64 r] w fun e w' => e = .returned (.int .i64 (cupsV b d sp ag r)) ∧ Below w.heap.size w w' := by
  unfold maxLen at hls hlt
  have hra := mul_bd hr.1 hr.2 ha.1 ha.2
  obtain ⟨hra1, hra2⟩ := hra
  obtain ⟨hb1, hb2⟩ := hb
  obtain ⟨hd1, hd2⟩ := hd
  have hA' : A ≠ w.heap.size := by omega
  have hC' : C ≠ w.heap.size := by omega
  have hal : ∀ (o : Obj) (k : Nat), (w.alloc o).cell? ⟨C, k, none⟩ = w.cell? ⟨C, k, none⟩ := fun o k => World.cell?_alloc_lt w o _ hC
  have hal2 : ∀ (o : Obj) (k : Nat), (w.alloc o).cell? ⟨A, k, none⟩ = w.cell? ⟨A, k, none⟩ := fun o k => World.cell?_alloc_lt w o _ hA
  by_cases h1 : 0 < b - 2 * (r * ag / 100) <;> by_cases h2 : 0 < d - r * ag / 100
  all_goals
    go_enter Tryz.func52, Tryz.ntmps52
    go_wp2
    go_quiet (fail)
    go_wp2
    go_ret
    refine ⟨ret_int ?_, below_drewN (((Below.refl _ _).alloc (Nat.le_refl _) _).alloc (by simp) _) _⟩
    unfold cupsV
    have z : wrap64 0 = 0 := IntWalk.wrap64_in _ (by omega)
    first
      | (rw [Int.max_eq_right (by omega), Int.max_eq_right (by omega)]; exact cups_fin (by omega) (by omega) (by omega) (by omega) hs.1 hs.2)
      | (rw [Int.max_eq_left (a := 0) (b := b - 2 * (r * ag / 100)) (by omega)]; simp [z])
      | (rw [Int.max_eq_left (a := 0) (b := d - r * ag / 100) (by omega)]; simp [z])

end Go.Kn

namespace Go.Kn
open Go Go.Proofs Go.RowKit
theorem below_drew {B : Nat} {a w : World} (h : Below B a w) : Below B a w.drew := h.trans ⟨rfl, rfl, rfl, Nat.le_refl _, fun _ _ => rfl⟩

set_option maxRecDepth 100000 in
set_option maxHeartbeats 1000000 in
theorem at_w (A O C P ls cs lt ct n : Nat) (b d lo hi sp ag : Int) (f : Nat) (w : World) (hls : ls ≤ maxLen) (hlt : lt ≤ maxLen) (hn : n < lt) (hf : f < ls) (hA : A < w.heap.size) (hC : C < w.heap.size)
    (c0 : w.cell? ⟨C, P + n * 5, none⟩ = some (.int .i64 b)) (c1 : w.cell? ⟨C, P + n * 5 + 1, none⟩ = some (.int .i64 d)) (c2 : w.cell? ⟨C, P + n * 5 + 2, none⟩ = some (.int .i64 (f : Int))) (c3 : w.cell? ⟨C, P + n * 5 + 3, none⟩ = some (.int .i64 lo)) (c4 : w.cell? ⟨C, P + n * 5 + 4, none⟩ = some (.int .i64 hi))
    (hsp : w.cell? ⟨A, O + f, none⟩ = some (.int .i64 sp)) :
    Calls Tryz.prog 48 #[.agg #[.slice (some ⟨A, O, none⟩) ls cs, .slice (some ⟨C, P, none⟩) lt ct], .int .i64 (n : Int), .int .i64 ag] w fun e w' => e = .returned (.agg #[.int .i64 b, .int .i64 d, .int .i64 (f : Int), .int .i64 lo, .int .i64 hi, .int .i64 sp, .int .i64 ag]) ∧ Below w.heap.size w w' := by
  unfold maxLen at hls hlt
  have hA' : A ≠ w.heap.size := by omega
  have hal3 : ∀ (o1 o2 o3 : Obj) (k : Nat), (((w.alloc o1).alloc o2).alloc o3).cell? ⟨A, k, none⟩ = w.cell? ⟨A, k, none⟩ := fun o1 o2 o3 k => by
    rw [World.cell?_alloc_lt _ _ _ (by simp; omega), World.cell?_alloc_lt _ _ _ (by simp; omega), World.cell?_alloc_lt _ _ _ hA]
  have hC' : C ≠ w.heap.size := by omega
  have hal : ∀ (o : Obj) (k : Nat), (w.alloc o).cell? ⟨C, k, none⟩ = w.cell? ⟨C, k, none⟩ := fun o k => World.cell?_alloc_lt w o _ hC
  have hal2 : ∀ (o : Obj) (k : Nat), (w.alloc o).cell? ⟨A, k, none⟩ = w.cell? ⟨A, k, none⟩ := fun o k => World.cell?_alloc_lt w o _ hA
  go_enter Tryz.func48, Tryz.ntmps48
  go_wp2
  go_region_with (fail)
  all_goals
    go_wp2
    exact bodyPost_ret (v := .agg #[.int .i64 b, .int .i64 d, .int .i64 (f : Int), .int .i64 lo, .int .i64 hi, .int .i64 sp, .int .i64 ag]) (by simp [results, Tryz.results48, go_sem]) rfl ⟨rfl, below_drew ((((Below.refl _ _).alloc (Nat.le_refl _) _).alloc (by simp) _).alloc (by simp; omega) _)⟩
end Go.Kn

namespace Go.Kn
open Go Go.Proofs Go.RowKit

theorem stB_tt {b d f lo hi sp : Int} (h : stB b d f lo hi sp = true) : fromB 1 100 b = true ∧ fromB 1 100 d = true ∧ fromB 0 (sp - 1) f = true ∧ spanB 100 lo hi = true := by
  simp only [stB, fromB, spanB, decide_eq_true_eq] at *
  omega

set_option maxHeartbeats 1000000 in
theorem isBuilt_w (sa : Option Addr) (ls cs : Nat) (y : Value) (b d f lo hi : Int) (w : World) (hls : ls ≤ 1000000) (hg : stB b d f lo hi ls = true) :
    Calls Tryz.prog 82 #[.agg #[.slice sa ls cs, y], .agg #[.int .i64 b, .int .i64 d, .int .i64 f, .int .i64 lo, .int .i64 hi]] w fun e w' => e = .returned (.bool true) ∧ Below w.heap.size w w' := by
  obtain ⟨h1, h2, h3, h4⟩ := stB_tt hg
  clear hg
  go_enter Tryz.func82, Tryz.ntmps82
  go_wp2_with (first | (go_at_call 70; refine (isFrom_w _ _ _ _).mono ?_; rintro e w' ⟨rfl, rfl⟩) | (go_at_call 103; refine (isSpan_w _ _ _ _).mono ?_; rintro e w' ⟨rfl, hbl⟩))
  go_ret
  refine ⟨?_, (((Below.refl _ _).alloc (Nat.le_refl _) _).alloc (by simp) _).trans (hbl.mono (by simp; omega))⟩
  rw [← h4]; rfl

set_option maxHeartbeats 1000000 in
theorem line1_w (L : Nat) (sa : Option Addr) (ls cs : Nat) (y : Value) (b d f lo hi : Int) (w : World) (hls : ls ≤ 1000000) (hg : stB b d f lo hi ls = true) (hL : L < w.heap.size)
    (l0 : w.cell? ⟨L, 0, none⟩ = some (.slice sa ls cs)) (l1 : w.cell? ⟨L, 1, none⟩ = some y) :
    Calls Tryz.prog 81 #[.agg #[.int .i64 b, .int .i64 d, .int .i64 f, .int .i64 lo, .int .i64 hi], .pointer (some ⟨L, 0, none⟩)] w fun e w' => e = .returned (.bool true) ∧ Below w.heap.size w w' := by
  have hal : ∀ (o : Obj) (k : Nat), (w.alloc o).cell? ⟨L, k, none⟩ = w.cell? ⟨L, k, none⟩ := fun o k => World.cell?_alloc_lt w o _ hL
  go_enter Tryz.func81, Tryz.ntmps81
  go_wp2_with (go_at_call 82; refine (isBuilt_w _ _ _ _ _ _ _ _ _ _ hls hg).mono ?_; rintro e w' ⟨rfl, hbl⟩)
  go_ret
  exact ⟨rfl, below_al hbl⟩

set_option maxHeartbeats 1000000 in
theorem notLine_w (B L : Nat) (sa : Option Addr) (ls cs : Nat) (y : Value) (b d f lo hi : Int) (w : World) (hls : ls ≤ 1000000) (hg : stB b d f lo hi ls = true) (hL : L < w.heap.size) (hBw : B < w.heap.size)
    (l0 : w.cell? ⟨L, 0, none⟩ = some (.slice sa ls cs)) (l1 : w.cell? ⟨L, 1, none⟩ = some y) (hB : w.cell? ⟨B, 0, none⟩ = some (.func (.func 81) #[] #[.pointer (some ⟨L, 0, none⟩)])) :
    Calls Tryz.prog 112 #[.agg #[.int .i64 b, .int .i64 d, .int .i64 f, .int .i64 lo, .int .i64 hi], .pointer (some ⟨B, 0, none⟩)] w fun e w' => e = .returned (.bool false) ∧ Below w.heap.size w w' := by
  have hal : ∀ (o : Obj) (k : Nat), (w.alloc o).cell? ⟨L, k, none⟩ = w.cell? ⟨L, k, none⟩ := fun o k => World.cell?_alloc_lt w o _ hL
  have hal2 : ∀ (o : Obj) (k : Nat), (w.alloc o).cell? ⟨B, k, none⟩ = w.cell? ⟨B, k, none⟩ := fun o k => World.cell?_alloc_lt w o _ hBw
  go_enter Tryz.func112, Tryz.ntmps112
  go_wp2_with (go_at_call 81; refine (line1_w _ _ _ _ _ _ _ _ _ _ _ hls hg (by simp; omega) ((hal _ _).trans l0) ((hal _ _).trans l1)).mono ?_; rintro e w' ⟨rfl, hbl⟩)
  go_ret
  exact ⟨rfl, below_al hbl⟩
end Go.Kn

namespace Go.Kn
open Go Go.Proofs Go.RowKit

structure St5 where
  b : Int
  d : Int
  f : Int
  lo : Int
  hi : Int

def St5.val (x : St5) : Value := .agg #[.int .i64 x.b, .int .i64 x.d, .int .i64 x.f, .int .i64 x.lo, .int .i64 x.hi]

/-- stretches in memory -/
def StAt (w : World) (C P lt : Nat) (t : Nat → St5) : Prop := ∀ i, i < lt → w.cell? ⟨C, P + i * 5, none⟩ = some (.int .i64 (t i).b) ∧ w.cell? ⟨C, P + i * 5 + 1, none⟩ = some (.int .i64 (t i).d) ∧ w.cell? ⟨C, P + i * 5 + 2, none⟩ = some (.int .i64 (t i).f) ∧
  w.cell? ⟨C, P + i * 5 + 3, none⟩ = some (.int .i64 (t i).lo) ∧ w.cell? ⟨C, P + i * 5 + 4, none⟩ = some (.int .i64 (t i).hi)

theorem StAt.below {w w1 : World} {C P lt : Nat} {t : Nat → St5} (h : StAt w C P lt t) (hC : C < w.heap.size) (hb : Below w.heap.size w w1) : StAt w1 C P lt t := by
  intro i hi
  obtain ⟨h0, h1, h2, h3, h4⟩ := h i hi
  have e : ∀ o, w1.cell? ⟨C, o, none⟩ = w.cell? ⟨C, o, none⟩ := fun o => hb.cell (p := ⟨C, o, none⟩) hC
  exact ⟨(e _).trans h0, (e _).trans h1, (e _).trans h2, (e _).trans h3, (e _).trans h4⟩

def NumAt (w : World) (A O ls : Nat) (s : Nat → Int) : Prop := ∀ i, i < ls → w.cell? ⟨A, O + i, none⟩ = some (.int .i64 (s i))

theorem NumAt.below {w w1 : World} {A O ls : Nat} {s : Nat → Int} (h : NumAt w A O ls s) (hA : A < w.heap.size) (hb : Below w.heap.size w w1) : NumAt w1 A O ls s := fun i hi => (hb.cell (p := ⟨A, O + i, none⟩) hA).trans (h i hi)

def StOk (ls lt : Nat) (t : Nat → St5) : Prop := ∀ i, i < lt → stB (t i).b (t i).d (t i).f (t i).lo (t i).hi ls = true

set_option maxRecDepth 100000 in
set_option maxHeartbeats 2000000 in
theorem idxSt_w (C P lt ct B L ls cs : Nat) (sa : Option Addr) (y : Value) (t : Nat → St5) (w : World) (hlt : lt ≤ 1000000) (hls : ls ≤ 1000000) (hC : C < w.heap.size) (hBw : B < w.heap.size) (hL : L < w.heap.size)
    (l0 : w.cell? ⟨L, 0, none⟩ = some (.slice sa ls cs)) (l1 : w.cell? ⟨L, 1, none⟩ = some y) (hB : w.cell? ⟨B, 0, none⟩ = some (.func (.func 81) #[] #[.pointer (some ⟨L, 0, none⟩)]))
    (ht : StAt w C P lt t) (hg : StOk ls lt t) :
    Calls Tryz.prog 127 #[.slice (some ⟨C, P, none⟩) lt ct, .func (.func 112) #[] #[.pointer (some ⟨B, 0, none⟩)]] w
      fun e w' => e = .returned (.int .i64 (-1)) ∧ Below w.heap.size w w' := by
  have HT := Lib.hid ht
  have HG := Lib.hid hg
  clear ht hg
  go_enter Tryz.func127, Tryz.ntmps127
  go_wp2
  go_loopw [8] (fun i wr => ∃ k : Nat, k ≤ lt ∧ i = .int .i64 k ∧ Below w.heap.size w wr) (fun i _ => lt - (intOf i).toNat)
  case atStart => exact ⟨0, Nat.zero_le _, rfl, Below.refl _ _⟩
  case round =>
    obtain ⟨k, hk, rfl, hbw⟩ := hrel
    by_cases hlt' : k < lt
    · obtain ⟨c0, c1, c2, c3, c4⟩ := HT.out.below hC hbw k hlt'
      have m0 : wr.cell? ⟨L, 0, none⟩ = some (.slice sa ls cs) := (hbw.cell (p := ⟨L, 0, none⟩) hL).trans l0
      have m1 : wr.cell? ⟨L, 1, none⟩ = some y := (hbw.cell (p := ⟨L, 1, none⟩) hL).trans l1
      have mB : wr.cell? ⟨B, 0, none⟩ = some (.func (.func 81) #[] #[.pointer (some ⟨L, 0, none⟩)]) := (hbw.cell (p := ⟨B, 0, none⟩) hBw).trans hB
      have hz : w.heap.size ≤ wr.heap.size := hbw.size
      have hgk := HG.out k hlt'
      go_wp2_with (go_at_call 112; refine (notLine_w _ _ _ _ _ _ _ _ _ _ _ _ hls hgk (by omega) (by omega) m0 m1 mB).mono ?_; rintro e w1 ⟨rfl, hb1⟩)
      go_roundw
      case rel => exact ⟨k + 1, by omega, by go_num, hbw.trans (hb1.mono hz)⟩
      case measure => simp [intOf]; omega
    · go_wp2
      go_ret
      exact ⟨rfl, hbw⟩
end Go.Kn
