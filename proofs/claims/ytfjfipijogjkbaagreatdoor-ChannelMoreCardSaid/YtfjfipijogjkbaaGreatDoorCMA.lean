/- Walks of functions of layer 2 (contracts that the laws of this seat use). Conditions: as each theorem states them. -/
import Derived.Test.YtfjfipijogjkbaaGreatDoorES
import Derived.Test.YtfjfipijogjkbaaGreatDoorEH
import Derived.Test.YtfjfipijogjkbaaGreatDoorTie
import Derived.Test.YtfjfipijogjkbaaGreatDoorCards
import Derived.ProofKit
import Derived.OpenShut
import Derived.LaidMore
import Derived.Lay
import Derived.Carry
import Derived.SevenTiedAt
import Derived.Stop.Joined
set_option linter.unusedVariables false
set_option linter.unusedSimpArgs false
namespace Go.Proofs.YtfjfipijogjkbaaGreatDoor
open Go Go.Proofs Go.ChangeShapes Go.WideShapes Go.ChangeAt Go.RowKit Go.Kn Go.Joins

theorem kmore_own : ownKnob Tryz.prog.godebug = none := by kernel_rfl
theorem kmore_laidOut : laidOutB Tryz.prog = true := by kernel_rfl

theorem kmore_args {H : Type} {enc : TypeId × Value → H} {P : Program} {w : World} {base : Nat} {spare : Nat → Bool} {held : Bool} {t0 t1 t2 t3 t4 t5 t6 t7 t8 t9 : TypeId} {args : Array Value} {ds : List (DataW H)} {ps : List MemPlace} (h : DataW.TrodAll enc P w base spare held [t0, t1, t2, t3, t4, t5, t6, t7, t8, t9] args.toList ds ps) :
    ∃ v0 v1 v2 v3 v4 v5 v6 v7 v8 v9 d0 d1 d2 d3 d4 d5 d6 d7 d8 d9 p0 p1 p2 p3 p4 p5 p6 p7 p8 p9, args = #[v0, v1, v2, v3, v4, v5, v6, v7, v8, v9] ∧ ds = [d0, d1, d2, d3, d4, d5, d6, d7, d8, d9] ∧ ps = p0 ++ (p1 ++ (p2 ++ (p3 ++ (p4 ++ (p5 ++ (p6 ++ (p7 ++ (p8 ++ (p9))))))))) ∧
      DataW.Trod enc P w base spare held t0 v0 d0 p0 ∧ DataW.Trod enc P w base spare held t1 v1 d1 p1 ∧ DataW.Trod enc P w base spare held t2 v2 d2 p2 ∧ DataW.Trod enc P w base spare held t3 v3 d3 p3 ∧ DataW.Trod enc P w base spare held t4 v4 d4 p4 ∧ DataW.Trod enc P w base spare held t5 v5 d5 p5 ∧ DataW.Trod enc P w base spare held t6 v6 d6 p6 ∧ DataW.Trod enc P w base spare held t7 v7 d7 p7 ∧ DataW.Trod enc P w base spare held t8 v8 d8 p8 ∧ DataW.Trod enc P w base spare held t9 v9 d9 p9 := by
  obtain ⟨v0, r0, d0, e0, p0, q0, h0, rfl, rfl, g0, hr0⟩ := trodAll_cons h
  obtain ⟨v1, r1, d1, e1, p1, q1, rfl, rfl, rfl, g1, hr1⟩ := trodAll_cons hr0
  obtain ⟨v2, r2, d2, e2, p2, q2, rfl, rfl, rfl, g2, hr2⟩ := trodAll_cons hr1
  obtain ⟨v3, r3, d3, e3, p3, q3, rfl, rfl, rfl, g3, hr3⟩ := trodAll_cons hr2
  obtain ⟨v4, r4, d4, e4, p4, q4, rfl, rfl, rfl, g4, hr4⟩ := trodAll_cons hr3
  obtain ⟨v5, r5, d5, e5, p5, q5, rfl, rfl, rfl, g5, hr5⟩ := trodAll_cons hr4
  obtain ⟨v6, r6, d6, e6, p6, q6, rfl, rfl, rfl, g6, hr6⟩ := trodAll_cons hr5
  obtain ⟨v7, r7, d7, e7, p7, q7, rfl, rfl, rfl, g7, hr7⟩ := trodAll_cons hr6
  obtain ⟨v8, r8, d8, e8, p8, q8, rfl, rfl, rfl, g8, hr8⟩ := trodAll_cons hr7
  obtain ⟨v9, r9, d9, e9, p9, q9, rfl, rfl, rfl, g9, hr9⟩ := trodAll_cons hr8
  obtain ⟨rfl, rfl, rfl⟩ := trodAll_nil hr9
  exact ⟨v0, v1, v2, v3, v4, v5, v6, v7, v8, v9, d0, d1, d2, d3, d4, d5, d6, d7, d8, d9, p0, p1, p2, p3, p4, p5, p6, p7, p8, p9, by cases args; simp_all, rfl, by simp, g0, g1, g2, g3, g4, g5, g6, g7, g8, g9⟩

set_option maxRecDepth 100000 in
theorem channelMore_lifted (K : KnownOk') (os : Os) (started : os.Started) (H : Type) (enc : TypeId × Value → H) :
    ReturnsInHanded {} Tryz.checked os 7 .any (fun w args => (Rows.channelMoreSpec.pre enc Tryz.prog Tryz.f7 Rows.channelMoreRow.domain false w args ∧ laidMetH Tryz.prog Rows.channelMoreRow.laid w) ∧ sizedMet enc Tryz.prog Tryz.f7 (OpenSpec.ofChange Rows.channelMoreSpec) false w args)
      (Rows.channelMoreSpec.post enc Tryz.prog Tryz.f7 false true false false) := by
  refine returnsInHanded_of_change_and (C := Tryz.checked) (X := fun w _ => laidMetH Tryz.prog Rows.channelMoreRow.laid w) (fun _ _ _ hh h => h.of_heap hh) kmore_own started (by kernel_rfl) Tryz.func7
    (ChangeSpec.witness_shaped (enc := enc) (C := Tryz.checked) (os := os) (X := fun w _ => laidMetH Tryz.prog Rows.channelMoreRow.laid w) false (World.laidAll Tryz.prog os Rows.channelMoreRow.laid) #[.agg #[.slice none 0 0, .slice none 0 0], .int .i64 0, .slice none 0 0, .int .i64 0, .int .i64 0, .int .i64 0, .int .i64 0, .agg #[.int .i64 0, .int .i64 0, .slice none 0 0, .slice none 0 0], .slice none 0 0, .agg #[.int .i64 0, .int .i64 0, .int .i64 0]] 8 (World.laidAll_os _ _ _)
      (World.shaped_of_ZipB (by kernel_rfl) (by kernel_rfl)) (by kernel_rfl) (by kernel_rfl) (by kernel_rfl)
      (by rw [MakeChecks.laidMetH_plain _ _ _ (by kernel_rfl)]; exact laidMet_laidAll _ (by kernel_rfl) (by kernel_rfl))) ?_
  intro W base args ds gs before hval0 hW _ _ hL _
  have hval : ∀ (j : Nat) t v, Tryz.f7.params[j]? = some t → args[j]? = some v → Value.okWide Tryz.prog W .any base t v := hval0
  have hW' := hW
  obtain ⟨p, q, hA0, hV, rfl, _, _⟩ := hW
  have hA : DataW.TrodAll enc Tryz.prog W 0 (fun _ => true) true Tryz.f7.params.toList args.toList ds p := hA0
  rw [Tryz.params7] at hA hval
  obtain ⟨v0, v1, v2, v3, v4, v5, v6, v7, v8, v9, d0, d1, d2, d3, d4, d5, d6, d7, d8, d9, p0, p1, p2, p3, p4, p5, p6, p7, p8, p9, rfl, rfl, rfl, h0, h1, h2, h3, h4, h5, h6, h7, h8, h9⟩ := kmore_args hA
  obtain ⟨rfl, rfl⟩ := trodVars_none hV
  obtain ⟨z1, rfl, rfl, rfl, wz1⟩ := open_int Tryz.underlying3 (hval 1 3 v1 rfl rfl) h1
  obtain ⟨z3, rfl, rfl, rfl, wz3⟩ := open_int Tryz.underlying3 (hval 3 3 v3 rfl rfl) h3
  obtain ⟨z4, rfl, rfl, rfl, wz4⟩ := open_int Tryz.underlying3 (hval 4 3 v4 rfl rfl) h4
  obtain ⟨z5, rfl, rfl, rfl, wz5⟩ := open_int Tryz.underlying3 (hval 5 3 v5 rfl rfl) h5
  obtain ⟨z6, rfl, rfl, rfl, wz6⟩ := open_int Tryz.underlying3 (hval 6 3 v6 rfl rfl) h6
  have hk0 := h0
  obtain ⟨u0, u1, y0, y1, nn, rfl, rfl, rfl, hy0, hy1⟩ := open_agg2 Tryz.underlying25 (by kernel_rfl) cells25 (hval 0 25 v0 rfl rfl) h0
  obtain ⟨sa, ls, cs, s, rfl, hls, HNS⟩ := num_open hy0
  obtain ⟨ta, lt, ct, t, rfl, hlt, HST⟩ := st_open hy1
  obtain ⟨a2, n2, c2, rfl⟩ := okWide_slice Tryz.underlying22 (hval 2 22 v2 rfl rfl)
  obtain ⟨fu2, hf2⟩ := id h2
  obtain ⟨sq2, lq2, cq2, g2, e2, hlq2, HS2⟩ := int_open (v := .slice a2 n2 c2) hf2
  cases e2
  obtain ⟨il, ih, pa, la, lp, cp, ll, cl, qq, l, rfl, hlp, hll, HH⟩ := sip_open rfl (hval 7 40 v7 rfl rfl) h7
  obtain ⟨a8, n8, c8, rfl⟩ := okWide_slice Tryz.underlying41 (hval 8 41 v8 rfl rfl)
  obtain ⟨fu8, hf8⟩ := id h8
  obtain ⟨ka8, lk8, ck8, cc8, e8, hlk8, HC8⟩ := cl_open (v := .slice a8 n8 c8) hf8
  cases e8
  obtain ⟨y9, ey9⟩ := cly_open rfl (hval 9 54 v9 rfl rfl) h9
  subst ey9
  clear hA0 hval0
  have hlt0 : ∀ x ∈ y0.2 ++ y1.2, x.block < W.heap.size := fun x hx => by
    have := hW'.lt x (by simp at hx ⊢; rcases hx with hx | hx <;> simp [hx])
    simpa using this
  have hlt2 : ∀ x ∈ p2, x.block < W.heap.size := fun x hx => by
    have := hW'.lt x (by simp [hx])
    simpa using this
  have hlt7 : ∀ x ∈ p7, x.block < W.heap.size := fun x hx => by
    have := hW'.lt x (by simp [hx])
    simpa using this
  have hlt8 : ∀ x ∈ p8, x.block < W.heap.size := fun x hx => by
    have := hW'.lt x (by simp [hx])
    simpa using this
  have hlt9 : ∀ x ∈ p9, x.block < W.heap.size := fun x hx => by
    have := hW'.lt x (by simp [hx])
    simpa using this
  refine (lawmo_w sa ta a2 pa la a8 ls cs lt ct n2 c2 lp cp ll cl n8 c8 s t g2 qq l cc8 y9 z1 z3 z4 z5 z6 il ih W hls hlt hlq2 hlp hll hlk8 HNS HST HS2 HH HC8 (Lib.hid K)).mono fun e W' ⟨he, hb⟩ => ?_
  subst he
  refine ⟨_, rfl, ?_⟩
  refine ⟨_, _, _, [], (y0.2 ++ y1.2) ++ ([] ++ (p2 ++ ([] ++ ([] ++ ([] ++ ([] ++ (p7 ++ (p8 ++ (p9))))))))), [], hW', ?_, ?_, rfl, hb.frame _, fun h => by cases h⟩
  · exact trodAll_mk1 (shut_bool Tryz.underlying4 _)
  · exact trodAll_cons_mk (Below.trod kmore_laidOut (by kernel_rfl) (of_decide_eq_true (by kernel_rfl)) hk0 hb hlt0) (trodAll_cons_mk (shut_int Tryz.underlying3 wz1) (trodAll_cons_mk (Below.trod kmore_laidOut (by kernel_rfl) (of_decide_eq_true (by kernel_rfl)) h2 hb hlt2) (trodAll_cons_mk (shut_int Tryz.underlying3 wz3) (trodAll_cons_mk (shut_int Tryz.underlying3 wz4) (trodAll_cons_mk (shut_int Tryz.underlying3 wz5) (trodAll_cons_mk (shut_int Tryz.underlying3 wz6) (trodAll_cons_mk (Below.trod kmore_laidOut (by kernel_rfl) (of_decide_eq_true (by kernel_rfl)) h7 hb hlt7) (trodAll_cons_mk (Below.trod kmore_laidOut (by kernel_rfl) (of_decide_eq_true (by kernel_rfl)) h8 hb hlt8) (trodAll_mk1 (Below.trod kmore_laidOut (by kernel_rfl) (of_decide_eq_true (by kernel_rfl)) h9 hb hlt9))))))))))

end Go.Proofs.YtfjfipijogjkbaaGreatDoor
