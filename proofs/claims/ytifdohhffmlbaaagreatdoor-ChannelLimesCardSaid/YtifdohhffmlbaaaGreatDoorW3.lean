/- Walks of the functions of layer 2 that ChannelTrue calls, and the law itself (a part of it). Conditions: as each theorem states them. -/
import Derived.Test.YtifdohhffmlbaaaGreatDoorW2
import Derived.Deep.QuietTactic
import Derived.BigQuiet
import Derived.WalkSmall
set_option linter.unusedVariables false
set_option linter.unusedSimpArgs false
namespace Go.Kn
open Go Go.Proofs Go.RowKit
set_option maxHeartbeats 1000000 in
theorem rcups_w (A O C P ls cs lt ct n : Nat) (b d lo hi sp ag r : Int) (f : Nat) (w : World) (hls : ls ≤ maxLen) (hlt : lt ≤ maxLen) (hn : n < lt) (hf : f < ls) (hA : A < w.heap.size) (hC : C < w.heap.size)
    (c0 : w.cell? ⟨C, P + n * 5, none⟩ = some (.int .i64 b)) (c1 : w.cell? ⟨C, P + n * 5 + 1, none⟩ = some (.int .i64 d)) (c2 : w.cell? ⟨C, P + n * 5 + 2, none⟩ = some (.int .i64 (f : Int))) (c3 : w.cell? ⟨C, P + n * 5 + 3, none⟩ = some (.int .i64 lo)) (c4 : w.cell? ⟨C, P + n * 5 + 4, none⟩ = some (.int .i64 hi))
    (hsp : w.cell? ⟨A, O + f, none⟩ = some (.int .i64 sp))
    (hb : 0 ≤ b ∧ b ≤ 100) (hd : 0 ≤ d ∧ d ≤ 100) (hs : 0 ≤ sp ∧ sp ≤ 1000) (ha : 0 ≤ ag ∧ ag ≤ 200) (hr : 0 ≤ r ∧ r ≤ 100) :
    Calls Tryz.prog 23 #[.agg #[.slice (some ⟨A, O, none⟩) ls cs, .slice (some ⟨C, P, none⟩) lt ct], .int .i64 (n : Int), .int .i64 ag, .int .i64 r] w fun e w' => e = .returned (.int .i64 (cupsV b d sp ag r)) ∧ Below w.heap.size w w' := by
  unfold maxLen at hls hlt
  have hra := mul_bd hr.1 hr.2 ha.1 ha.2
  obtain ⟨hra1, hra2⟩ := hra
  obtain ⟨hb1, hb2⟩ := hb
  obtain ⟨hd1, hd2⟩ := hd
  have hA' : A ≠ w.heap.size := by omega
  have hC' : C ≠ w.heap.size := by omega
  have hal : ∀ (o : Obj) (k : Nat), (w.alloc o).cell? ⟨C, k, none⟩ = w.cell? ⟨C, k, none⟩ := fun o k => World.cell?_alloc_lt w o _ hC
  have hal2 : ∀ (o : Obj) (k : Nat), (w.alloc o).cell? ⟨A, k, none⟩ = w.cell? ⟨A, k, none⟩ := fun o k => World.cell?_alloc_lt w o _ hA
  by_cases h1 : 0 < b - 2 * (r * ag / 100) <;> by_cases h2 : 0 < d - r * ag / 100
  all_goals
    go_enter Tryz.func23, Tryz.ntmps23
    go_wp2
    go_quiet (fail)
    go_wp2
    go_ret
    refine ⟨ret_int ?_, below_drewN (((Below.refl _ _).alloc (Nat.le_refl _) _).alloc (by simp) _) _⟩
    unfold cupsV
    have z : wrap64 0 = 0 := IntWalk.wrap64_in _ (by omega)
    first
      | (rw [Int.max_eq_right (by omega), Int.max_eq_right (by omega)]; exact cups_fin (by omega) (by omega) (by omega) (by omega) hs.1 hs.2)
      | (rw [Int.max_eq_left (a := 0) (b := b - 2 * (r * ag / 100)) (by omega)]; simp [z])
      | (rw [Int.max_eq_left (a := 0) (b := d - r * ag / 100) (by omega)]; simp [z])

end Go.Kn
