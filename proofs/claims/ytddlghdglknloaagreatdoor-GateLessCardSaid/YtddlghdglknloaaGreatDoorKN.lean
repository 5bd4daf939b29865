/- Contracts of functions that the laws of this seat call, or the evaluator of closed calls and its runs. Conditions: as each theorem states them. -/
import Derived.Test.YtddlghdglknloaaGreatDoorG1
set_option linter.unusedVariables false
set_option linter.unusedSimpArgs false
namespace Go.Kn
open Go Go.Proofs Go.RowKit
set_option maxRecDepth 100000 in
set_option maxHeartbeats 2000000 in
theorem digits142_w (w : World) (hc : w.cell? ⟨3, 2, none⟩ = some (.int .u64 100)) :
    Calls Tryz.prog 198 #[.int .u64 142] w fun e w' => e = .returned (.int .i64 3) ∧ Below w.heap.size w w' := by
  have hq : wrap64 (wrap64 (wrap64 (Lib.len8 142)) * 78913) / 262144 = 2 := by kernel_rfl
  go_enter Tryz.func198, Tryz.ntmps198
  go_wp2
  go_ret
  exact ⟨rfl, Below.refl _ _⟩
/-- the table of tens lies in the world -/
def Pw (w : World) : Prop := ∃ c : Array Value, w.heap[3]? = some (.cells c 221 (0, 0)) ∧ c[0]? = some (.int .u64 1) ∧ c[1]? = some (.int .u64 10) ∧ c[2]? = some (.int .u64 100)
theorem Pw.on {w w1 : World} (h : Pw w) (hb : Below w.heap.size w w1) : Pw w1 := by
  obtain ⟨c, h1, h2⟩ := h
  exact ⟨c, by rw [hb.block 3 (Array.getElem?_eq_some_iff.1 h1).1]; exact h1, h2⟩
/-- the chapter's examples hold -/
def KnownOk : Prop := ∀ w, Pw w → Calls Tryz.prog 16 #[] w fun e w' => e = .returned (.bool true) ∧ Below w.heap.size w w'
end Go.Kn
