/- The law ChannelNarrow returns true, without a panic, for every line, all ages and all rates, at commit 31547c6. No condition beyond those of the given statement. -/
import Derived.Test.YtalnemafmklelaaGreatDoorBW
import Derived.Test.YtalnemafmklelaaGreatDoorBL
import Derived.Test.YtalnemafmklelaaGreatDoorBM
import Derived.Test.YtalnemafmklelaaGreatDoorTie
import Derived.Test.YtalnemafmklelaaGreatDoorCards
import Derived.ProofKit
import Derived.OpenShut
import Derived.LaidMore
import Derived.Lay
import Derived.Carry
import Derived.SevenTiedAt
import Derived.Stop.Joined
import Derived.Test.YtalnemafmklelaaGreatDoorKB
set_option linter.unusedVariables false
set_option linter.unusedSimpArgs false
namespace Go.Proofs.YtalnemafmklelaaGreatDoor
open Go Go.Proofs Go.ChangeShapes Go.WideShapes Go.ChangeAt Go.RowKit Go.Kn Go.Joins

theorem knarr_own : ownKnob Tryz.prog.godebug = none := by kernel_rfl
theorem knarr_laidOut : laidOutB Tryz.prog = true := by kernel_rfl

set_option maxRecDepth 100000 in
theorem channelNarrow_lifted (K : KnownOk) (os : Os) (started : os.Started) (H : Type) (enc : TypeId × Value → H) :
    ReturnsInHanded {} Tryz.checked os 6 .any (fun w args => (Rows.channelNarrowSpec.pre enc Tryz.prog Tryz.f6 Rows.channelNarrowRow.domain false w args ∧ laidMetH Tryz.prog Rows.channelNarrowRow.laid w) ∧ sizedMet enc Tryz.prog Tryz.f6 (OpenSpec.ofChange Rows.channelNarrowSpec) false w args)
      (Rows.channelNarrowSpec.post enc Tryz.prog Tryz.f6 false true false false) := by
  refine returnsInHanded_of_change_and (C := Tryz.checked) (X := fun w _ => laidMetH Tryz.prog Rows.channelNarrowRow.laid w) (fun _ _ _ hh h => h.of_heap hh) knarr_own started (by kernel_rfl) Tryz.func6
    (ChangeSpec.witness_shaped (enc := enc) (C := Tryz.checked) (os := os) (X := fun w _ => laidMetH Tryz.prog Rows.channelNarrowRow.laid w) false (World.laidAll Tryz.prog os Rows.channelNarrowRow.laid) #[.agg #[.slice none 0 0, .slice none 0 0], .slice none 0 0, .slice none 0 0] 8 (World.laidAll_os _ _ _)
      (World.shaped_of_ZipB (by kernel_rfl) (by kernel_rfl)) (by kernel_rfl) (by kernel_rfl) (by kernel_rfl)
      (by rw [MakeChecks.laidMetH_plain _ _ _ (by kernel_rfl)]; exact laidMet_laidAll _ (by kernel_rfl) (by kernel_rfl))) ?_
  intro W base args ds gs before hval0 hW _ _ hL _
  have hval : ∀ (j : Nat) t v, Tryz.f6.params[j]? = some t → args[j]? = some v → Value.okWide Tryz.prog W .any base t v := hval0
  have hW' := hW
  obtain ⟨p, q, hA0, hV, rfl, _, _⟩ := hW
  have hA : DataW.TrodAll enc Tryz.prog W 0 (fun _ => true) true Tryz.f6.params.toList args.toList ds p := hA0
  rw [Tryz.params6] at hA hval
  obtain ⟨v0, v1, v2, d0, d1, d2, p0, p1, p2, rfl, rfl, rfl, h0, h1, h2⟩ := trodAll_three hA
  obtain ⟨rfl, rfl⟩ := trodVars_none hV
  have hk0 := h0
  obtain ⟨u0, u1, y0, y1, n, rfl, rfl, rfl, hy0, hy1⟩ := open_agg2 Tryz.underlying25 (by kernel_rfl) cells25 (hval 0 25 v0 rfl rfl) h0
  obtain ⟨sa, ls, cs, s, rfl, hls, HS⟩ := num_open hy0
  obtain ⟨ta, lt, ct, t, rfl, hlt, HT⟩ := st_open hy1
  obtain ⟨a1, n1, c1, rfl⟩ := okWide_slice Tryz.underlying22 (hval 1 22 v1 rfl rfl)
  obtain ⟨fu1, hf1⟩ := id h1
  obtain ⟨sq1, lq1, cq1, g1, e1, hlq1, HG1⟩ := int_openL (v := .slice a1 n1 c1) hf1
  cases e1
  obtain ⟨a2, n2, c2, rfl⟩ := okWide_slice Tryz.underlying22 (hval 2 22 v2 rfl rfl)
  obtain ⟨fu2, hf2⟩ := id h2
  obtain ⟨sq2, lq2, cq2, g2, e2, hlq2, HG2⟩ := int_openL (v := .slice a2 n2 c2) hf2
  cases e2
  clear hA0 hval0
  have hlt0 : ∀ x ∈ y0.2 ++ y1.2, x.block < W.heap.size := fun x hx => by
    have := hW'.lt x (by simp at hx ⊢; rcases hx with hx | hx <;> simp [hx])
    simpa using this
  have hlt1 : ∀ x ∈ p1, x.block < W.heap.size := fun x hx => by
    have := hW'.lt x (by simp [hx])
    simpa using this
  have hlt2 : ∀ x ∈ p2, x.block < W.heap.size := fun x hx => by
    have := hW'.lt x (by simp [hx])
    simpa using this
  refine (lawr_w sa ta a1 a2 ls cs lt ct n1 c1 n2 c2 s t g1 g2 W hls hlt hlq1 hlq2 HS HT HG1 HG2 (Lib.hid K)).mono fun e W' ⟨he, hb⟩ => ?_
  subst he
  refine ⟨_, rfl, ?_⟩
  refine ⟨_, _, _, [], (y0.2 ++ y1.2) ++ (p1 ++ (p2)), [], hW', ?_, ?_, rfl, hb.frame _, fun h => by cases h⟩
  · exact trodAll_mk1 (shut_bool Tryz.underlying4 _)
  · exact trodAll_cons_mk (Below.trod knarr_laidOut (by kernel_rfl) (of_decide_eq_true (by kernel_rfl)) hk0 hb hlt0) (trodAll_cons_mk (Below.trod knarr_laidOut (by kernel_rfl) (of_decide_eq_true (by kernel_rfl)) h1 hb hlt1) (trodAll_mk1 (Below.trod knarr_laidOut (by kernel_rfl) (of_decide_eq_true (by kernel_rfl)) h2 hb hlt2)))
end Go.Proofs.YtalnemafmklelaaGreatDoor
