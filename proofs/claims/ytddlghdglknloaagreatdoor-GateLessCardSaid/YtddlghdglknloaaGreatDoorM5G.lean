/- Contracts of functions that the laws of this seat call, or the evaluator of closed calls and its runs. Conditions: as each theorem states them. -/
import Derived.Test.YtddlghdglknloaaGreatDoorM2
set_option linter.unusedVariables false
set_option linter.unusedSimpArgs false
namespace Go.Kn
open Go Go.Proofs Go.RowKit

theorem KpR.belowW {w W1 : World} (h : KpR (fun _ => False) w W1) : Below w.heap.size w { w with heap := W1.heap } := ⟨rfl, rfl, rfl, h.1, fun k hk => h.2 k hk (fun x => x)⟩
theorem Ne8.blocks {w W1 : World} {pa ca : Option Addr} {lp lc : Nat} {P : Nat → P8} {C : Nat → C8} (h : Ne8 w pa ca lp lc P C) (k : KpR (fun _ => False) w W1) : Ne8 W1 pa ca lp lc P C := by
  have h1 : Ne8 { w with heap := W1.heap } pa ca lp lc P C := h.below k.belowW
  exact ⟨h1.hp, h1.hc⟩
theorem B12.blocks {w W1 : World} {B : Nat} {pa ca : Option Addr} {lp cp lc cc : Nat} {op : Nat → Bool} (h : B12 w B pa ca lp cp lc cc op) (k : KpR (fun _ => False) w W1) : B12 W1 B pa ca lp cp lc cc op := by
  have this : B12 { w with heap := W1.heap } B pa ca lp cp lc cc op := h.below k.belowW
  exact ⟨this.x0, this.x1, this.x2, this.x3, this.x4, this.x5, this.x6, this.x7, this.x8, this.x9, this.x10, this.x11, this.lt⟩
end Go.Kn
