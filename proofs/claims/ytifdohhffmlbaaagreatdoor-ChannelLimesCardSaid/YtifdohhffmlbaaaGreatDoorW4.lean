/- Walks of the functions of layer 2 that ChannelTrue calls, and the law itself (a part of it). Conditions: as each theorem states them. -/
import Derived.Test.YtifdohhffmlbaaaGreatDoorW3
import Derived.Deep.RegionWith
set_option linter.unusedVariables false
set_option linter.unusedSimpArgs false
namespace Go.Kn
open Go Go.Proofs Go.RowKit
theorem below_drew {B : Nat} {a w : World} (h : Below B a w) : Below B a w.drew := h.trans ⟨rfl, rfl, rfl, Nat.le_refl _, fun _ _ => rfl⟩

set_option maxRecDepth 100000 in
set_option maxHeartbeats 1000000 in
theorem at_w (A O C P ls cs lt ct n : Nat) (b d lo hi sp ag : Int) (f : Nat) (w : World) (hls : ls ≤ maxLen) (hlt : lt ≤ maxLen) (hn : n < lt) (hf : f < ls) (hA : A < w.heap.size) (hC : C < w.heap.size)
    (c0 : w.cell? ⟨C, P + n * 5, none⟩ = some (.int .i64 b)) (c1 : w.cell? ⟨C, P + n * 5 + 1, none⟩ = some (.int .i64 d)) (c2 : w.cell? ⟨C, P + n * 5 + 2, none⟩ = some (.int .i64 (f : Int))) (c3 : w.cell? ⟨C, P + n * 5 + 3, none⟩ = some (.int .i64 lo)) (c4 : w.cell? ⟨C, P + n * 5 + 4, none⟩ = some (.int .i64 hi))
    (hsp : w.cell? ⟨A, O + f, none⟩ = some (.int .i64 sp)) :
    Calls Tryz.prog 63 #[.agg #[.slice (some ⟨A, O, none⟩) ls cs, .slice (some ⟨C, P, none⟩) lt ct], .int .i64 (n : Int), .int .i64 ag] w fun e w' => e = .returned (.agg #[.int .i64 b, .int .i64 d, .int .i64 (f : Int), .int .i64 lo, .int .i64 hi, .int .i64 sp, .int .i64 ag]) ∧ Below w.heap.size w w' := by
  unfold maxLen at hls hlt
  have hA' : A ≠ w.heap.size := by omega
  have hal3 : ∀ (o1 o2 o3 : Obj) (k : Nat), (((w.alloc o1).alloc o2).alloc o3).cell? ⟨A, k, none⟩ = w.cell? ⟨A, k, none⟩ := fun o1 o2 o3 k => by
    rw [World.cell?_alloc_lt _ _ _ (by simp; omega), World.cell?_alloc_lt _ _ _ (by simp; omega), World.cell?_alloc_lt _ _ _ hA]
  have hC' : C ≠ w.heap.size := by omega
  have hal : ∀ (o : Obj) (k : Nat), (w.alloc o).cell? ⟨C, k, none⟩ = w.cell? ⟨C, k, none⟩ := fun o k => World.cell?_alloc_lt w o _ hC
  have hal2 : ∀ (o : Obj) (k : Nat), (w.alloc o).cell? ⟨A, k, none⟩ = w.cell? ⟨A, k, none⟩ := fun o k => World.cell?_alloc_lt w o _ hA
  go_enter Tryz.func63, Tryz.ntmps63
  go_wp2
  go_region_with (fail)
  all_goals
    go_wp2
    exact bodyPost_ret (v := .agg #[.int .i64 b, .int .i64 d, .int .i64 (f : Int), .int .i64 lo, .int .i64 hi, .int .i64 sp, .int .i64 ag]) (by simp [results, Tryz.results63, go_sem]) rfl ⟨rfl, below_drew ((((Below.refl _ _).alloc (Nat.le_refl _) _).alloc (by simp) _).alloc (by simp; omega) _)⟩
end Go.Kn
