/- The law ChannelBursts returns true, without a panic, for every siphon, all classes and choices, at commit 31547c6. No condition beyond those of the given statement. -/
import Derived.Test.YtalnemafmklelaaGreatDoorBS
import Derived.Test.YtalnemafmklelaaGreatDoorTie
import Derived.Test.YtalnemafmklelaaGreatDoorCards
import Derived.ProofKit
import Derived.OpenShut
import Derived.LaidMore
import Derived.Lay
import Derived.SevenTiedAt
import Derived.Stop.Joined
import Derived.Test.YtalnemafmklelaaGreatDoorKB
set_option linter.unusedVariables false
set_option linter.unusedSimpArgs false
namespace Go.Kn
open Go Go.Proofs Go.RowKit Go.ChangeShapes Go.WideShapes Go.Deep
theorem cel91 : Tryz.prog.cellsOf 91 = 3 := by kernel_rfl
section
variable {H : Type} {enc : TypeId × Value → H} {w : World} {base : Nat} {spare : Nat → Bool} {held : Bool}
theorem cl_cells {n : Nat} {cs : List Value} {y : DataW H × List MemPlace} (h : DataW.trod enc Tryz.prog w base spare held n 91 cs = some y) :
    ∃ a b c : Int, cs = [.int .i64 a, .int .i64 b, .int .i64 c] := by
  obtain ⟨zs, n2, _, _, hlen2, hzl, hg⟩ := DataW.trod_struct Tryz.underlying91 h
  rw [cel91] at hlen2
  obtain ⟨c0, c1, c2, rfl⟩ := li3 hlen2
  obtain ⟨z0, z1, z2, rfl⟩ := li3 hzl
  have g0 : DataW.trod enc Tryz.prog w base spare held n2 3 ((([c0, c1, c2].drop 0)).take (Tryz.prog.cellsOf 3)) = some z0 := hg 0 _ rfl
  rw [cel3] at g0
  have g1 : DataW.trod enc Tryz.prog w base spare held n2 3 ((([c0, c1, c2].drop 1)).take (Tryz.prog.cellsOf 3)) = some z1 := hg 1 _ rfl
  rw [cel3] at g1
  have g2 : DataW.trod enc Tryz.prog w base spare held n2 3 ((([c0, c1, c2].drop 2)).take (Tryz.prog.cellsOf 3)) = some z2 := hg 2 _ rfl
  rw [cel3] at g2
  obtain ⟨k0, e0, _⟩ := DataW.trod_int Tryz.underlying3 g0
  obtain ⟨k1, e1, _⟩ := DataW.trod_int Tryz.underlying3 g1
  obtain ⟨k2, e2, _⟩ := DataW.trod_int Tryz.underlying3 g2
  simp at e0 e1 e2
  exact ⟨k0, k1, k2, by rw [e0, e1, e2]⟩

theorem cl_open {n : Nat} {v : Value} {y : DataW H × List MemPlace} (h : DataW.trod enc Tryz.prog w base spare held n 83 [v] = some y) :
    ∃ (ta : Option Addr) (lt ct : Nat) (t : Nat → Cl3), v = .slice ta lt ct ∧ lt ≤ maxLen ∧ ClSl w ta lt t := by
  rcases open_slice Tryz.underlying83 h with ⟨h1, _⟩ | ⟨a, len, cap, m, n', D, Pl, h1, _, hl, hm, hmm, _, hi⟩
  · exact ⟨none, 0, 0, fun _ => ⟨0, 0, 0⟩, by simpa using h1, by decide, .inl rfl⟩
  · have hml : len ≤ m := by rw [hmm]; split <;> omega
    have key : ∀ i, i < len → ∃ x : Cl3, ∀ j c, [x.be, x.pr, x.st][j]? = some c → w.cell? (a.add (i * 3 + j)) = some (.int .i64 c) := by
      intro i hil
      obtain ⟨cs', hc, ht⟩ := hi i (by omega)
      rw [cel91] at hc
      obtain ⟨_, hcl, hat⟩ := World.cells?_some hc
      obtain ⟨k0, k1, k2, rfl⟩ := cl_cells ht
      refine ⟨⟨k0, k1, k2⟩, fun j c hj => ?_⟩
      have hj5 : j < 3 := by
        have := (List.getElem?_eq_some_iff.1 hj).1
        simpa using this
      have h1 := hat j hj5
      rw [← Go.Deep.add_add] at *
      rw [h1]
      match j, hj5, hj with
      | 0, _, hj => simpa using hj
      | 1, _, hj => simpa using hj
      | 2, _, hj => simpa using hj
    by_cases h0 : len = 0
    · exact ⟨some a, len, cap, fun _ => ⟨0, 0, 0⟩, by simpa using h1, by omega, .inl h0⟩
    · obtain ⟨x0, hx0⟩ := key 0 (by omega)
      have hc0 := hx0 0 _ rfl
      have ea : a.add (0 * 3 + 0) = a := rfl
      rw [ea] at hc0
      have e := addr_mk' hc0
      refine ⟨some a, len, cap, fun i => if h : i < len then Classical.choose (key i h) else ⟨0, 0, 0⟩, by simpa using h1, by omega, .inr ⟨a.block, a.off, by rw [← e], World.block_lt_of_cell? w a hc0, fun i hil => ?_⟩⟩
      simp only [hil, dif_pos]
      have hk := Classical.choose_spec (key i hil)
      have q : ∀ j, a.add (i * 3 + j) = ⟨a.block, a.off + (i * 3 + j), none⟩ := fun j => (congrArg (fun x => Addr.add x (i * 3 + j)) e).trans (add_mk' _ _ _)
      have c0 := hk 0 _ rfl
      have c1 := hk 1 _ rfl
      have c2 := hk 2 _ rfl
      rw [q] at c0 c1 c2
      exact ⟨c0, c1, c2⟩
end
end Go.Kn
namespace Go.Proofs.YtalnemafmklelaaGreatDoor
open Go Go.Proofs Go.ChangeShapes Go.WideShapes Go.ChangeAt Go.RowKit Go.Kn Go.Joins

theorem kb_own : ownKnob Tryz.prog.godebug = none := by kernel_rfl
theorem kb_laidOut : laidOutB Tryz.prog = true := by kernel_rfl

set_option maxRecDepth 100000 in
theorem channelBursts_lifted (K : KnownOk') (os : Os) (started : os.Started) (H : Type) (enc : TypeId × Value → H) :
    ReturnsInHanded {} Tryz.checked os 13 .any (fun w args => (Rows.channelBurstsSpec.pre enc Tryz.prog Tryz.f13 Rows.channelBurstsRow.domain false w args ∧ laidMetH Tryz.prog Rows.channelBurstsRow.laid w) ∧ sizedMet enc Tryz.prog Tryz.f13 (OpenSpec.ofChange Rows.channelBurstsSpec) false w args)
      (Rows.channelBurstsSpec.post enc Tryz.prog Tryz.f13 false true false false) := by
  refine returnsInHanded_of_change_and (C := Tryz.checked) (X := fun w _ => laidMetH Tryz.prog Rows.channelBurstsRow.laid w) (fun _ _ _ hh h => h.of_heap hh) kb_own started (by kernel_rfl) Tryz.func13
    (ChangeSpec.witness_shaped (enc := enc) (C := Tryz.checked) (os := os) (X := fun w _ => laidMetH Tryz.prog Rows.channelBurstsRow.laid w) false (World.laidAll Tryz.prog os Rows.channelBurstsRow.laid) #[.agg #[.int .i64 0, .int .i64 0, .slice none 0 0, .slice none 0 0], .slice none 0 0, .slice none 0 0] 8 (World.laidAll_os _ _ _)
      (World.shaped_of_ZipB (by kernel_rfl) (by kernel_rfl)) (by kernel_rfl) (by kernel_rfl) (by kernel_rfl)
      (by rw [MakeChecks.laidMetH_plain _ _ _ (by kernel_rfl)]; exact laidMet_laidAll _ (by kernel_rfl) (by kernel_rfl))) ?_
  intro W base args ds gs before hval0 hW _ _ hL _
  have hval : ∀ (j : Nat) t v, Tryz.f13.params[j]? = some t → args[j]? = some v → Value.okWide Tryz.prog W .any base t v := hval0
  have hW' := hW
  obtain ⟨p, q, hA0, hV, rfl, _, _⟩ := hW
  have hA : DataW.TrodAll enc Tryz.prog W 0 (fun _ => true) true Tryz.f13.params.toList args.toList ds p := hA0
  rw [Tryz.params13] at hA hval
  obtain ⟨v0, v1, v2, d0, d1, d2, p0, p1, p2, rfl, rfl, rfl, h0, h1, h2⟩ := trodAll_three hA
  obtain ⟨rfl, rfl⟩ := trodVars_none hV
  obtain ⟨il, ih, pa, la, lp, cp, ll, cl, qq, l, rfl, hlp, hll, HH⟩ := sip_open rfl (hval 0 70 v0 rfl rfl) h0
  obtain ⟨a1, n1, c1, rfl⟩ := okWide_slice Tryz.underlying83 (hval 1 83 v1 rfl rfl)
  obtain ⟨fu1, hf1⟩ := id h1
  obtain ⟨ka, lk, ck, c, e1, hlk, HC⟩ := cl_open (v := .slice a1 n1 c1) hf1
  cases e1
  obtain ⟨a2, n2, c2, rfl⟩ := okWide_slice Tryz.underlying22 (hval 2 22 v2 rfl rfl)
  obtain ⟨fu, hf2⟩ := id h2
  obtain ⟨sq, lq, cq, s, e2, hlq, HS⟩ := int_open (v := .slice a2 n2 c2) hf2
  cases e2
  clear hA0 hval0
  have hlt0 : ∀ x ∈ p0, x.block < W.heap.size := fun x hx => by
    have := hW'.lt x (by simp [hx])
    simpa using this
  have hlt1 : ∀ x ∈ p1, x.block < W.heap.size := fun x hx => by
    have := hW'.lt x (by simp [hx])
    simpa using this
  have hlt2 : ∀ x ∈ p2, x.block < W.heap.size := fun x hx => by
    have := hW'.lt x (by simp [hx])
    simpa using this
  refine (lawb_w il ih pa la a1 a2 lp cp ll cl n1 c1 n2 c2 qq l c s W hlp hll hlk hlq HH HC HS (Lib.hid K)).mono fun e W' ⟨he, hb⟩ => ?_
  subst he
  refine ⟨_, rfl, ?_⟩
  refine ⟨_, _, _, [], p0 ++ (p1 ++ p2), [], hW', ?_, ?_, rfl, hb.frame _, fun h => by cases h⟩
  · exact trodAll_mk1 (shut_bool Tryz.underlying4 _)
  · exact trodAll_mk3 (Below.trod kb_laidOut (by kernel_rfl) (of_decide_eq_true (by kernel_rfl)) h0 hb hlt0) (Below.trod kb_laidOut (by kernel_rfl) (of_decide_eq_true (by kernel_rfl)) h1 hb hlt1)
      (Below.trod kb_laidOut (by kernel_rfl) (of_decide_eq_true (by kernel_rfl)) h2 hb hlt2)
end Go.Proofs.YtalnemafmklelaaGreatDoor
