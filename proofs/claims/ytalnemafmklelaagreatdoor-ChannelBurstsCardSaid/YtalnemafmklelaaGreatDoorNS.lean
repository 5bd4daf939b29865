/- The law ChannelBursts returns true, without a panic, for every siphon, all classes and choices, at commit 31547c6. No condition beyond those of the given statement. -/
import Derived.Test.YtalnemafmklelaaGreatDoorNSb
import Derived.Test.YtalnemafmklelaaGreatDoorBS
import Derived.Test.YtalnemafmklelaaGreatDoorTie
import Derived.Test.YtalnemafmklelaaGreatDoorCards
import Derived.ProofKit
import Derived.OpenShut
import Derived.LaidMore
import Derived.Lay
import Derived.SevenTiedAt
import Derived.Stop.Joined
import Derived.Test.YtalnemafmklelaaGreatDoorKB
set_option linter.unusedVariables false
set_option linter.unusedSimpArgs false
namespace Go.Proofs.YtalnemafmklelaaGreatDoor
open Go Go.Proofs Go.ChangeShapes Go.WideShapes Go.ChangeAt Go.RowKit Go.Kn Go.Joins

theorem channelBursts_card (K : KnownOk') : Rows.ChannelBurstsCardSaid :=
  Claim7.holds_tied_plain_at .later [] [.data, .data, .data, .data, .pinned] true (true, "d78a54d5d51cf96cfbf60f43de404bdf384c77fb2ebd75421d8771455adfc882") true (channelBursts_holds K) (fun _ h => by cases h) (by kernel_rfl) (fun _ h => by cases h) channelBursts_row_tie rfl ⟨rfl, rfl⟩ (by kernel_rfl) rfl
    (fun f fn hf hfn => by
      obtain rfl : f = 13 := Option.some.inj ((show Tryz.prog.funcNamed "quinaria/quinarialaw02.ChannelBursts" = some 13 by kernel_rfl).symm.trans hf) |>.symm
      obtain rfl : fn = Tryz.f13 := (Option.some.inj (Tryz.func13.symm.trans hfn)).symm
      exact ⟨by kernel_rfl, fun j t ht => by
        rw [Tryz.params13] at ht
        have hm : t ∈ [70, 83, 22] := by simpa using Array.mem_of_getElem? ht
        have hall : ([70, 83, 22].all fun u => !Tryz.prog.wantsStandIn u) = true := by kernel_rfl
        exact (show Tryz.prog.wantsStandIn t = false by simpa using List.all_eq_true.1 hall t hm)⟩)
    (by kernel_rfl)
/-- THE CARD. -/
theorem channelBursts_proved : Rows.ChannelBurstsCardSaid := channelBursts_card known_calls
#print axioms channelBursts_proved
end Go.Proofs.YtalnemafmklelaaGreatDoor
