/- Walks of the functions of layer 2 that ChannelTrue calls, and the law itself (a part of it). Conditions: as each theorem states them. -/
import Derived.Test.YtifdohhffmlbaaaGreatDoorWC
set_option linter.unusedVariables false
set_option linter.unusedSimpArgs false
namespace Go.Kn
open Go Go.Proofs Go.RowKit
set_option maxHeartbeats 1000000 in
theorem short_w (sa ta : Option Addr) (ls cs lt ct : Nat) (w : World) (hls : ls ≤ maxLen) (hlt : lt ≤ maxLen) :
    Calls Tryz.prog 15 #[.agg #[.slice sa ls cs, .slice ta lt ct]] w fun e w' => e = .returned (.bool (decide (ls ≤ 13 ∧ lt ≤ 10))) ∧ Below w.heap.size w w' := by
  unfold maxLen at hls hlt
  by_cases h : ls ≤ 13
  · go_enter Tryz.func15, Tryz.ntmps15
    go_wp2
    go_ret
    exact ⟨by (simp [h]; try omega), (Below.refl _ _).alloc (Nat.le_refl _) _⟩
  · go_enter Tryz.func15, Tryz.ntmps15
    go_wp2
    go_ret
    exact ⟨by (simp [h]; try omega), (Below.refl _ _).alloc (Nat.le_refl _) _⟩
end Go.Kn
