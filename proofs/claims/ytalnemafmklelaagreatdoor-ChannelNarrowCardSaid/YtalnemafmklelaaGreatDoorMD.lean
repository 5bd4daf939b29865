/- The law ChannelNarrow returns true, without a panic, for every line, all ages and all rates, at commit 31547c6. No condition beyond those of the given statement. -/
import Derived.Test.YtalnemafmklelaaGreatDoorMDb
import Derived.Test.YtalnemafmklelaaGreatDoorBW
import Derived.Test.YtalnemafmklelaaGreatDoorBL
import Derived.Test.YtalnemafmklelaaGreatDoorBM
import Derived.Test.YtalnemafmklelaaGreatDoorTie
import Derived.Test.YtalnemafmklelaaGreatDoorCards
import Derived.ProofKit
import Derived.OpenShut
import Derived.LaidMore
import Derived.Lay
import Derived.Carry
import Derived.SevenTiedAt
import Derived.Stop.Joined
import Derived.Test.YtalnemafmklelaaGreatDoorKB
set_option linter.unusedVariables false
set_option linter.unusedSimpArgs false
namespace Go.Proofs.YtalnemafmklelaaGreatDoor
open Go Go.Proofs Go.ChangeShapes Go.WideShapes Go.ChangeAt Go.RowKit Go.Kn Go.Joins

theorem channelNarrow_card (K : KnownOk) : Rows.ChannelNarrowCardSaid :=
  Claim7.holds_tied_plain_at .later [] [.data, .data, .data, .data, .pinned] true (true, "d78a54d5d51cf96cfbf60f43de404bdf384c77fb2ebd75421d8771455adfc882") true (channelNarrow_holds K) (fun _ h => by cases h) (by kernel_rfl) (fun _ h => by cases h) channelNarrow_row_tie rfl ⟨rfl, rfl⟩ (by kernel_rfl) rfl
    (fun f fn hf hfn => by
      obtain rfl : f = 6 := Option.some.inj ((show Tryz.prog.funcNamed "quinaria/quinarialaw02.ChannelNarrow" = some 6 by kernel_rfl).symm.trans hf) |>.symm
      obtain rfl : fn = Tryz.f6 := (Option.some.inj (Tryz.func6.symm.trans hfn)).symm
      exact ⟨by kernel_rfl, fun j t ht => by
        rw [Tryz.params6] at ht
        have hm : t ∈ [25, 22, 22] := by simpa using Array.mem_of_getElem? ht
        have hall : ([25, 22, 22].all fun u => !Tryz.prog.wantsStandIn u) = true := by kernel_rfl
        exact (show Tryz.prog.wantsStandIn t = false by simpa using List.all_eq_true.1 hall t hm)⟩)
    (by kernel_rfl)
/-- THE CARD. -/
theorem channelNarrow_proved : Rows.ChannelNarrowCardSaid := channelNarrow_card known_calls
#print axioms channelNarrow_proved
end Go.Proofs.YtalnemafmklelaaGreatDoor
