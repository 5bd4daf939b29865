/- Contracts of functions that the laws of this seat call, or the evaluator of closed calls and its runs. Conditions: as each theorem states them. -/
import Derived.Test.YtpfbfdcpibajoaaGreatDoorHS
import Derived.Test.YtpfbfdcpibajoaaGreatDoorHB
set_option linter.unusedVariables false
set_option linter.unusedSimpArgs false
namespace Go.Kn
open Go Go.Proofs Go.RowKit

theorem sumB_zero {N : Nat → N2} {U : Nat → O3} {m : Nat} : ∀ k, sumB N U (fun _ => 0) m k = 0
  | 0 => rfl
  | k + 1 => by simp only [sumB]; rw [sumB_zero k]; split <;> rfl

theorem svs_zero {w : World} {sv SH FL : Nat} {f : Int} {na oa : Option Addr} {ln cn lo co cs cf : Nat} {N : Nat → N2} {U : Nat → O3} (h : SvAt w sv SH FL f na oa ln cn lo co cs cf (fun _ => 0) (fun _ => 0)) : SvS w sv SH FL f na oa ln cn lo co cs cf N U (fun _ => 0) :=
  ⟨by rw [show (fun m => sumB N U (fun _ => 0) m lo) = fun _ => 0 from funext fun m => sumB_zero lo]; exact h⟩
end Go.Kn
