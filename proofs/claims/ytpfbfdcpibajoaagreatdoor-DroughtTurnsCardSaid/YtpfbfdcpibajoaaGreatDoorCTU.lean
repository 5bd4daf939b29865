/- DroughtTurns is true of every tree, every number of days and every plan: the plan of turns is the reference's, and whether a plan fits is told as the reference tells it. Conditions: none but those of the card itself. -/
import Derived.Test.YtpfbfdcpibajoaaGreatDoorJR
import Derived.Test.YtpfbfdcpibajoaaGreatDoorHI
import Derived.Test.YtpfbfdcpibajoaaGreatDoorJA
import Derived.Test.YtpfbfdcpibajoaaGreatDoorTie
import Derived.Test.YtpfbfdcpibajoaaGreatDoorCards
import Derived.ProofKit
import Derived.OpenShut
import Derived.LaidMore
import Derived.Lay
import Derived.Carry
import Derived.SevenTiedAt
import Derived.Stop.Joined
import Derived.Test.YtpfbfdcpibajoaaGreatDoorKB
set_option linter.unusedVariables false
set_option linter.unusedSimpArgs false
namespace Go.Proofs.YtpfbfdcpibajoaaGreatDoor
open Go Go.Proofs Go.ChangeShapes Go.WideShapes Go.ChangeAt Go.RowKit Go.Kn Go.Joins

theorem kturn_own : ownKnob Tryz.prog.godebug = none := by kernel_rfl
theorem kturn_laidOut : laidOutB Tryz.prog = true := by kernel_rfl

set_option maxRecDepth 100000 in
theorem droughtTurns_lifted (K : KnownOk) (os : Os) (started : os.Started) (H : Type) (enc : TypeId × Value → H) :
    ReturnsInHanded {} Tryz.checked os 9 .any (fun w args => (Rows.droughtTurnsSpec.pre enc Tryz.prog Tryz.f9 Rows.droughtTurnsRow.domain false w args ∧ laidMetH Tryz.prog Rows.droughtTurnsRow.laid w) ∧ sizedMet enc Tryz.prog Tryz.f9 (OpenSpec.ofChange Rows.droughtTurnsSpec) false w args)
      (Rows.droughtTurnsSpec.post enc Tryz.prog Tryz.f9 false true false false) := by
  refine retShaped (C := Tryz.checked) (X := fun w _ => laidMetH Tryz.prog Rows.droughtTurnsRow.laid w) (fun _ _ _ hh h => h.of_heap hh) kturn_own started (by kernel_rfl) Tryz.func9
    (ChangeSpec.witness_shaped (enc := enc) (C := Tryz.checked) (os := os) (X := fun w _ => laidMetH Tryz.prog Rows.droughtTurnsRow.laid w) false (World.laidAll Tryz.prog os Rows.droughtTurnsRow.laid) #[.agg #[.int .i64 0, .slice none 0 0, .slice none 0 0], .int .i64 0, .slice none 0 0] 8 (World.laidAll_os _ _ _)
      (World.shaped_of_ZipB (by kernel_rfl) (by kernel_rfl)) (by kernel_rfl) (by kernel_rfl) (by kernel_rfl)
      (by rw [MakeChecks.laidMetH_plain _ _ _ (by kernel_rfl)]; exact laidMet_laidAll _ (by kernel_rfl) (by kernel_rfl))) ?_
  intro W base args ds gs before hval0 hW hL hsh
  clear hL hsh
  have hval : ∀ (j : Nat) t v, Tryz.f9.params[j]? = some t → args[j]? = some v → Value.okWide Tryz.prog W .any base t v := hval0
  have hW' := hW
  obtain ⟨p, q, hA0, hV, rfl, _, _⟩ := hW
  have hA : DataW.TrodAll enc Tryz.prog W 0 (fun _ => true) true Tryz.f9.params.toList args.toList ds p := hA0
  rw [Tryz.params9] at hA hval
  obtain ⟨v0, v1, v2, d0, d1, d2, p0, p1, p2, rfl, rfl, rfl, h0, h1, h2⟩ := trodAll_three hA
  obtain ⟨rfl, rfl⟩ := trodVars_none hV
  obtain ⟨z1, rfl, rfl, rfl, wz1⟩ := open_int Tryz.underlying3 (hval 1 3 v1 rfl rfl) h1
  obtain ⟨f, na, oa, ln, cn, lo, co, N, U, rfl, hln, hlo, HN, HU⟩ := tree_open rfl (hval 0 25 v0 rfl rfl) h0
  obtain ⟨a2, n2, c2, rfl⟩ := okWide_slice Tryz.underlying59 (hval 2 59 v2 rfl rfl)
  obtain ⟨fu2, hf2⟩ := id h2
  obtain ⟨sq2, lq2, cq2, g2, e2, hlq2, HG2⟩ := plan_open (v := .slice a2 n2 c2) hf2
  cases e2
  clear hA0 hval0
  have hlt0 : ∀ x ∈ p0, x.block < W.heap.size := fun x hx => by
    have := hW'.lt x (by simp [hx])
    simpa using this
  have hlt2 : ∀ x ∈ p2, x.block < W.heap.size := fun x hx => by
    have := hW'.lt x (by simp [hx])
    simpa using this
  refine (lawtu_w f na oa a2 ln cn lo co n2 c2 N U g2 z1 W hln hlo hlq2 ⟨HN, HU⟩ HG2 K).mono fun e W' ⟨he, hb⟩ => ?_
  subst he
  refine ⟨_, rfl, ?_⟩
  refine ⟨_, _, _, [], p0 ++ ([] ++ (p2)), [], hW', ?_, ?_, rfl, hb.frame _, fun h => by cases h⟩
  · exact trodAll_mk1 (shut_bool Tryz.underlying4 _)
  · exact trodAll_cons_mk (Below.trod kturn_laidOut (by kernel_rfl) (of_decide_eq_true (by kernel_rfl)) h0 hb hlt0) (trodAll_cons_mk (shut_int Tryz.underlying3 wz1) (trodAll_mk1 (Below.trod kturn_laidOut (by kernel_rfl) (of_decide_eq_true (by kernel_rfl)) h2 hb hlt2)))

theorem droughtTurns_holds (K : KnownOk) : Rows.DroughtTurnsSaid :=
  OpenClaim.holds_of_wide 9 Tryz.f9 rfl rfl rfl rfl rfl rfl rfl ⟨rfl, rfl, rfl, rfl, rfl⟩ rfl rfl rfl rfl rfl (by kernel_rfl) Tryz.func9 (by kernel_rfl)
    (of_decide_eq_true (by kernel_rfl)) (by unfold Func.isWrapper; first | (rw [if_pos (by decide +kernel)]; kernel_rfl) | (rw [if_neg (by decide +kernel)]; exact ⟨rfl, rfl⟩))
    (fun os started H enc _ => droughtTurns_lifted K os started H enc)

theorem droughtTurns_card (K : KnownOk) : Rows.DroughtTurnsCardSaid :=
  Claim7.holds_tied_plain_at .later [] [.data, .data, .data, .data, .pinned] true (true, "4dcb92abeae176e3b737d9aced86d2e60fe2344eab3fb058c8c025f517a414b8") true (droughtTurns_holds K) (fun _ h => by cases h) (by kernel_rfl) (fun _ h => by cases h) droughtTurns_row_tie rfl ⟨rfl, rfl⟩ (by kernel_rfl) rfl
    (fun f fn hf hfn => by
      obtain rfl : f = 9 := Option.some.inj ((show Tryz.prog.funcNamed "quinaria/quinarialaw07.DroughtTurns" = some 9 by kernel_rfl).symm.trans hf) |>.symm
      obtain rfl : fn = Tryz.f9 := (Option.some.inj (Tryz.func9.symm.trans hfn)).symm
      exact ⟨by kernel_rfl, fun j t ht => by
        rw [Tryz.params9] at ht
        have hm : t ∈ [25, 3, 59] := by simpa using Array.mem_of_getElem? ht
        have hall : ([25, 3, 59].all fun u => !Tryz.prog.wantsStandIn u) = true := by kernel_rfl
        exact (show Tryz.prog.wantsStandIn t = false by simpa using List.all_eq_true.1 hall t hm)⟩)
    (by kernel_rfl)
/-- THE CARD. -/
theorem droughtTurns_proved : Rows.DroughtTurnsCardSaid := droughtTurns_card known_calls
#print axioms droughtTurns_proved
end Go.Proofs.YtpfbfdcpibajoaaGreatDoor
