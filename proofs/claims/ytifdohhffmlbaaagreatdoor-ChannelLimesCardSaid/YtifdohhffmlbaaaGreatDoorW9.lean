/- Walks of the functions of layer 2 that ChannelTrue calls, and the law itself (a part of it). Conditions: as each theorem states them. -/
import Derived.Test.YtifdohhffmlbaaaGreatDoorW2
import Derived.Lib.Hide
set_option linter.unusedVariables false
set_option linter.unusedSimpArgs false
namespace Go.Kn
open Go Go.Proofs Go.RowKit

theorem stB_tt {b d f lo hi sp : Int} (h : stB b d f lo hi sp = true) : fromB 1 100 b = true ∧ fromB 1 100 d = true ∧ fromB 0 (sp - 1) f = true ∧ spanB 100 lo hi = true := by
  simp only [stB, fromB, spanB, decide_eq_true_eq] at *
  omega

set_option maxHeartbeats 1000000 in
theorem isBuilt_w (sa : Option Addr) (ls cs : Nat) (y : Value) (b d f lo hi : Int) (w : World) (hls : ls ≤ 1000000) (hg : stB b d f lo hi ls = true) :
    Calls Tryz.prog 96 #[.agg #[.slice sa ls cs, y], .agg #[.int .i64 b, .int .i64 d, .int .i64 f, .int .i64 lo, .int .i64 hi]] w fun e w' => e = .returned (.bool true) ∧ Below w.heap.size w w' := by
  obtain ⟨h1, h2, h3, h4⟩ := stB_tt hg
  clear hg
  go_enter Tryz.func96, Tryz.ntmps96
  go_wp2_with (first | (go_at_call 88; refine (isFrom_w _ _ _ _).mono ?_; rintro e w' ⟨rfl, rfl⟩) | (go_at_call 104; refine (isSpan_w _ _ _ _).mono ?_; rintro e w' ⟨rfl, hbl⟩))
  go_ret
  refine ⟨?_, (((Below.refl _ _).alloc (Nat.le_refl _) _).alloc (by simp) _).trans (hbl.mono (by simp; omega))⟩
  rw [← h4]; rfl

set_option maxHeartbeats 1000000 in
theorem line1_w (L : Nat) (sa : Option Addr) (ls cs : Nat) (y : Value) (b d f lo hi : Int) (w : World) (hls : ls ≤ 1000000) (hg : stB b d f lo hi ls = true) (hL : L < w.heap.size)
    (l0 : w.cell? ⟨L, 0, none⟩ = some (.slice sa ls cs)) (l1 : w.cell? ⟨L, 1, none⟩ = some y) :
    Calls Tryz.prog 95 #[.agg #[.int .i64 b, .int .i64 d, .int .i64 f, .int .i64 lo, .int .i64 hi], .pointer (some ⟨L, 0, none⟩)] w fun e w' => e = .returned (.bool true) ∧ Below w.heap.size w w' := by
  have hal : ∀ (o : Obj) (k : Nat), (w.alloc o).cell? ⟨L, k, none⟩ = w.cell? ⟨L, k, none⟩ := fun o k => World.cell?_alloc_lt w o _ hL
  go_enter Tryz.func95, Tryz.ntmps95
  go_wp2_with (go_at_call 96; refine (isBuilt_w _ _ _ _ _ _ _ _ _ _ hls hg).mono ?_; rintro e w' ⟨rfl, hbl⟩)
  go_ret
  exact ⟨rfl, below_al hbl⟩

set_option maxHeartbeats 1000000 in
theorem notLine_w (B L : Nat) (sa : Option Addr) (ls cs : Nat) (y : Value) (b d f lo hi : Int) (w : World) (hls : ls ≤ 1000000) (hg : stB b d f lo hi ls = true) (hL : L < w.heap.size) (hBw : B < w.heap.size)
    (l0 : w.cell? ⟨L, 0, none⟩ = some (.slice sa ls cs)) (l1 : w.cell? ⟨L, 1, none⟩ = some y) (hB : w.cell? ⟨B, 0, none⟩ = some (.func (.func 95) #[] #[.pointer (some ⟨L, 0, none⟩)])) :
    Calls Tryz.prog 127 #[.agg #[.int .i64 b, .int .i64 d, .int .i64 f, .int .i64 lo, .int .i64 hi], .pointer (some ⟨B, 0, none⟩)] w fun e w' => e = .returned (.bool false) ∧ Below w.heap.size w w' := by
  have hal : ∀ (o : Obj) (k : Nat), (w.alloc o).cell? ⟨L, k, none⟩ = w.cell? ⟨L, k, none⟩ := fun o k => World.cell?_alloc_lt w o _ hL
  have hal2 : ∀ (o : Obj) (k : Nat), (w.alloc o).cell? ⟨B, k, none⟩ = w.cell? ⟨B, k, none⟩ := fun o k => World.cell?_alloc_lt w o _ hBw
  go_enter Tryz.func127, Tryz.ntmps127
  go_wp2_with (go_at_call 95; refine (line1_w _ _ _ _ _ _ _ _ _ _ _ hls hg (by simp; omega) ((hal _ _).trans l0) ((hal _ _).trans l1)).mono ?_; rintro e w' ⟨rfl, hbl⟩)
  go_ret
  exact ⟨rfl, below_al hbl⟩
end Go.Kn
