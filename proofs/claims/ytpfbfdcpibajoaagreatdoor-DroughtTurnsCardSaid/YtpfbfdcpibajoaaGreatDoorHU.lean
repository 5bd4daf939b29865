/- Contracts of functions that the laws of this seat call, or the evaluator of closed calls and its runs. Conditions: as each theorem states them. -/
import Derived.Test.YtpfbfdcpibajoaaGreatDoorHG
import Derived.Test.YtpfbfdcpibajoaaGreatDoorHP
set_option linter.unusedVariables false
set_option linter.unusedSimpArgs false
/- Contracts of functions that the laws of this seat call, or the evaluator of closed calls and its runs. Conditions: as each theorem states them. -/
set_option linter.unusedVariables false
set_option linter.unusedSimpArgs false
namespace Go.Kn
open Go Go.Proofs Go.RowKit

theorem cell_new (W : World) {n : Nat} (hn : W.heap.size = n) (xs : Array Value) (T : TypeId) (j : Nat) : (W.alloc (.cells xs T)).drew.cell? ⟨n, j, none⟩ = xs[j]? := by
  subst hn
  have hg : (W.alloc (.cells xs T)).heap[W.heap.size]? = some (.cells xs T) := by
    show (W.heap.push _)[W.heap.size]? = _
    simp
  show (W.alloc (.cells xs T)).cell? _ = _
  unfold World.cell?
  simp only []
  rw [hg]
  simp
theorem cell_two (w : World) (o1 : Obj) {n i : Nat} (h : i < n) (o2 o3 : Obj) : (((w.alloc o1).alloc (.cells (zc n) 3)).alloc o2 |>.alloc o3).drew.cell? ⟨w.heap.size + 1, i, none⟩ = some (.int .i64 0) ∧ (((w.alloc o1).alloc (.cells (zc n) 3)).alloc o2 |>.alloc o3).drew.frozen? ⟨w.heap.size + 1, i, none⟩ = false := by
  have h1 := zc_cell (w.alloc o1) h
  rw [World.size_alloc] at h1
  have hb : Below (w.heap.size + 1 + 1) ((w.alloc o1).alloc (.cells (zc n) 3)) (((w.alloc o1).alloc (.cells (zc n) 3)).alloc o2 |>.alloc o3).drew := (((Below.refl _ _).alloc (by simp) _).alloc (by simp) _).drew
  exact ⟨(hb.cell (p := ⟨w.heap.size + 1, i, none⟩) (by simp only []; omega)).trans h1.1, (hb.frozen (p := ⟨w.heap.size + 1, i, none⟩) (by simp only []; omega)).trans h1.2⟩
theorem cell_three (w : World) (o1 o2 : Obj) {n i : Nat} (h : i < n) (o3 : Obj) : (((w.alloc o1).alloc o2).alloc (.cells (zc n) 3) |>.alloc o3).drew.cell? ⟨w.heap.size + 1 + 1, i, none⟩ = some (.int .i64 0) ∧ (((w.alloc o1).alloc o2).alloc (.cells (zc n) 3) |>.alloc o3).drew.frozen? ⟨w.heap.size + 1 + 1, i, none⟩ = false := by
  have h1 := zc_cell ((w.alloc o1).alloc o2) h
  rw [World.size_alloc, World.size_alloc] at h1
  have hb : Below (w.heap.size + 1 + 1 + 1) (((w.alloc o1).alloc o2).alloc (.cells (zc n) 3)) ((((w.alloc o1).alloc o2).alloc (.cells (zc n) 3)).alloc o3).drew := ((Below.refl _ _).alloc (by simp) _).drew
  exact ⟨(hb.cell (p := ⟨w.heap.size + 1 + 1, i, none⟩) (by simp only []; omega)).trans h1.1, (hb.frozen (p := ⟨w.heap.size + 1 + 1, i, none⟩) (by simp only []; omega)).trans h1.2⟩

theorem uns_A (f : Int) (na oa : Option Addr) (ln cn lo co : Nat) (w : World) (o1 : Obj) : SvAt ((((w.alloc o1).alloc (.cells (zc lo) 3)).alloc (.cells (zc (ln + 1)) 3)).alloc (.cells #[.int .i64 f, .slice na ln cn, .slice oa lo co, .slice (some ⟨w.heap.size + 1, 0, none⟩) lo lo, .slice (some ⟨w.heap.size + 1 + 1, 0, none⟩) (ln + 1) (ln + 1)] 94)).drew (w.heap.size + 1 + 1 + 1) (w.heap.size + 1) (w.heap.size + 1 + 1) f na oa ln cn lo co lo (ln + 1) (fun _ => 0) (fun _ => 0) :=
  ⟨cell_new _ (by simp) _ _ _, cell_new _ (by simp) _ _ _, cell_new _ (by simp) _ _ _, cell_new _ (by simp) _ _ _, cell_new _ (by simp) _ _ _, fun i hi => cell_two w o1 hi _ _, fun i hi => cell_three w o1 _ hi _, by simp, by simp <;> omega, by simp <;> omega, by omega, by omega, by omega⟩
theorem uns_B (f : Int) (na oa : Option Addr) (ln cn lo co : Nat) (w : World) (o1 : Obj) : SvAt ((((w.alloc o1).alloc (.cells (zc (ln + 1)) 3)).alloc (.cells (zc lo) 3)).alloc (.cells #[.int .i64 f, .slice na ln cn, .slice oa lo co, .slice (some ⟨w.heap.size + 1 + 1, 0, none⟩) lo lo, .slice (some ⟨w.heap.size + 1, 0, none⟩) (ln + 1) (ln + 1)] 94)).drew (w.heap.size + 1 + 1 + 1) (w.heap.size + 1 + 1) (w.heap.size + 1) f na oa ln cn lo co lo (ln + 1) (fun _ => 0) (fun _ => 0) :=
  ⟨cell_new _ (by simp) _ _ _, cell_new _ (by simp) _ _ _, cell_new _ (by simp) _ _ _, cell_new _ (by simp) _ _ _, cell_new _ (by simp) _ _ _, fun i hi => cell_three w o1 _ hi _, fun i hi => cell_two w o1 hi _ _, by simp, by simp <;> omega, by simp <;> omega, by omega, by omega, by omega⟩
theorem uns_bel (w : World) (o1 o2 o3 o4 : Obj) : Below w.heap.size w ((((w.alloc o1).alloc o2).alloc o3).alloc o4).drew := (((((Below.refl _ _).alloc (Nat.le_refl _) _).alloc (by simp) _).alloc (by simp; omega) _).alloc (by simp; omega) _).drew

set_option maxRecDepth 100000 in
set_option maxHeartbeats 4000000 in
theorem unserved_w (f : Int) (na oa : Option Addr) (ln cn lo co : Nat) (w : World) (hln : ln ≤ 6) (hlo : lo ≤ 8) :
    Calls Tryz.prog 64 #[.agg #[.int .i64 f, .slice na ln cn, .slice oa lo co]] w fun e w' =>
      (∃ sv SH FL cs cf, e = .returned (.pointer (some ⟨sv, 0, none⟩)) ∧ SvAt w' sv SH FL f na oa ln cn lo co cs cf (fun _ => 0) (fun _ => 0) ∧ w.heap.size ≤ sv ∧ w.heap.size ≤ SH ∧ w.heap.size ≤ FL) ∧ Below w.heap.size w w' := by
  have hm1 := fun w' => mk_w lo (by omega) w'
  have hm2 : ∀ w', (Instr.makeSlice 26 (.int .i64 (1 + (ln : Int))) (.int .i64 (1 + (ln : Int)))).run Tryz.prog w' = .ok (.slice (some ⟨w'.heap.size, 0, none⟩) (ln + 1) (ln + 1)) (w'.alloc (.cells (zc (ln + 1)) 3)) := fun w' => by
    have := mk_w (ln + 1) (by omega) w'
    rw [show ((ln + 1 : Nat) : Int) = 1 + (ln : Int) by omega] at this
    exact this
  have hw := iw ln (by omega)
  go_enter Tryz.func64, Tryz.ntmps64
  go_wp2
  go_region_law ((first | fail))
  all_goals
    go_wp2
    go_ret
    first
      | exact ⟨⟨_, _, _, _, _, rfl, uns_A f na oa ln cn lo co w _, by omega, by omega, by omega⟩, uns_bel w _ _ _ _⟩
      | exact ⟨⟨_, _, _, _, _, rfl, uns_B f na oa ln cn lo co w _, by omega, by omega, by omega⟩, uns_bel w _ _ _ _⟩
end Go.Kn
