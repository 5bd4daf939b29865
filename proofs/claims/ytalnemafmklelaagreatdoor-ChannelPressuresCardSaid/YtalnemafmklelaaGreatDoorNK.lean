/- The law ChannelPressures returns true, without a panic, for every siphon, at commit 31547c6. No condition beyond those of the given statement. -/
import Derived.Test.YtalnemafmklelaaGreatDoorNKb
import Derived.Test.YtalnemafmklelaaGreatDoorBS
import Derived.Test.YtalnemafmklelaaGreatDoorTie
import Derived.Test.YtalnemafmklelaaGreatDoorCards
import Derived.ProofKit
import Derived.OpenShut
import Derived.LaidMore
import Derived.Lay
import Derived.SevenTiedAt
import Derived.Stop.Joined
import Derived.Test.YtalnemafmklelaaGreatDoorKB
set_option linter.unusedVariables false
set_option linter.unusedSimpArgs false
namespace Go.Proofs.YtalnemafmklelaaGreatDoor
open Go Go.Proofs Go.ChangeShapes Go.WideShapes Go.ChangeAt Go.RowKit Go.Kn Go.Joins

theorem channelPressures_card (K : KnownOk') : Rows.ChannelPressuresCardSaid :=
  Claim7.holds_tied_plain_at .later [] [.data, .data, .data, .data, .pinned] true (true, "d78a54d5d51cf96cfbf60f43de404bdf384c77fb2ebd75421d8771455adfc882") true (channelPressures_holds K) (fun _ h => by cases h) (by kernel_rfl) (fun _ h => by cases h) channelPressures_row_tie rfl ⟨rfl, rfl⟩ (by kernel_rfl) rfl
    (fun f fn hf hfn => by
      obtain rfl : f = 11 := Option.some.inj ((show Tryz.prog.funcNamed "quinaria/quinarialaw02.ChannelPressures" = some 11 by kernel_rfl).symm.trans hf) |>.symm
      obtain rfl : fn = Tryz.f11 := (Option.some.inj (Tryz.func11.symm.trans hfn)).symm
      exact ⟨by kernel_rfl, fun j t ht => by
        rw [Tryz.params11] at ht
        have hm : t ∈ [70] := by simpa using Array.mem_of_getElem? ht
        have hall : ([70].all fun u => !Tryz.prog.wantsStandIn u) = true := by kernel_rfl
        exact (show Tryz.prog.wantsStandIn t = false by simpa using List.all_eq_true.1 hall t hm)⟩)
    (by kernel_rfl)
/-- THE CARD. -/
theorem channelPressures_proved : Rows.ChannelPressuresCardSaid := channelPressures_card known_calls
#print axioms channelPressures_proved
end Go.Proofs.YtalnemafmklelaaGreatDoor
