/- Walks of the functions of layer 2 that ChannelHeights calls, and the law itself (a part of it). Conditions: as each theorem states them. -/
import Derived.Test.YtifdohhffmlbaaaGreatDoorN5
import Derived.Test.YtifdohhffmlbaaaGreatDoorWA
import Derived.OwnWalk
set_option linter.unusedVariables false
set_option linter.unusedSimpArgs false
namespace Go.Kn
open Go Go.Proofs Go.RowKit

/-- a siphon as it lies in memory, and as it should be -/
structure SipAt (w : World) (C P lp A O ll : Nat) (il ih : Int) (p : Nat → Sp2) (l : Nat → Int) : Prop where
  hC : C < w.heap.size
  hA : A < w.heap.size
  sp : SpAt w C P lp p
  ln : NumAt w A O ll l
  lp1 : 2 ≤ lp
  lp2 : lp ≤ 8
  lpe : lp = ll + 1
  iok : spanB 1000 il ih = true
  pok : SpOk lp p
  lok : ∀ k, k < ll → fromB 1 100 (l k) = true

theorem SipAt.below {w w1 : World} {C P lp A O ll : Nat} {il ih : Int} {p : Nat → Sp2} {l : Nat → Int} (h : SipAt w C P lp A O ll il ih p l) (hb : Below w.heap.size w w1) : SipAt w1 C P lp A O ll il ih p l :=
  ⟨Nat.lt_of_lt_of_le h.hC hb.size, Nat.lt_of_lt_of_le h.hA hb.size, h.sp.below h.hC hb, h.ln.below h.hA hb, h.lp1, h.lp2, h.lpe, h.iok, h.pok, h.lok⟩
theorem spanB_h {lo hi : Int} (h : spanB 1000 lo hi = true) : hOk lo ∧ hOk hi ∧ lo ≤ hi := by
  simp only [spanB, decide_eq_true_eq] at h
  exact ⟨⟨by omega, by omega⟩, ⟨by omega, by omega⟩, by omega⟩

/-- n spans' cells, which can be written -/
def RowAt (w : World) (G m : Nat) : Prop := G < w.heap.size ∧ ∀ j, j < m → (∃ v, w.cell? ⟨G, j, none⟩ = some v) ∧ w.frozen? ⟨G, j, none⟩ = false
theorem RowAt.below {w w1 : World} {B G m : Nat} (h : RowAt w G m) (hG : G < B) (hb : Below B w w1) : RowAt w1 G m :=
  ⟨Nat.lt_of_lt_of_le h.1 hb.size, fun j hj => by
    obtain ⟨⟨v, hv⟩, hf⟩ := h.2 j hj
    exact ⟨⟨v, (hb.cell (p := ⟨G, j, none⟩) hG).trans hv⟩, (hb.frozen (p := ⟨G, j, none⟩) hG).trans hf⟩⟩
theorem RowAt.set {w : World} {G m : Nat} (h : RowAt w G m) (j : Nat) (u : Value) : RowAt (w.setCell ⟨G, j, none⟩ u) G m := by
  refine ⟨by rw [World.size_setCell]; exact h.1, fun i hi => ?_⟩
  obtain ⟨⟨v, hv⟩, hf⟩ := h.2 i hi
  refine ⟨?_, by rw [World.frozen?_setCell]; exact hf⟩
  by_cases e : i = j
  · subst e; exact ⟨u, World.cell?_setCell_same' _ _ _ (by rw [hv]; rfl)⟩
  · exact ⟨v, (World.cell?_setCell_other _ _ _ _ (by intro he; cases he; exact e rfl)).trans hv⟩
theorem rowAt_of_owns {w : World} {base e size g n cap : Nat} {xs : List Value} (h : w.ownsRow base e size (.slice (some ⟨g, 0, none⟩) n cap) n xs) : RowAt w g (n * size) := by
  rcases h.2 with ⟨h1, _⟩ | ⟨g', cap', cur, h1, hb, hg, hn, hc, hs, hx⟩
  · cases h1
  · cases h1
    refine ⟨(Array.getElem?_eq_some_iff.1 hg).1, fun j hj => ?_⟩
    have hj' : j < cur.size := by rw [hs]; exact Nat.lt_of_lt_of_le hj (Nat.mul_le_mul_right _ hn)
    refine ⟨⟨cur[j], ?_⟩, ?_⟩
    · simp [World.cell?, hg, hj']
    · simp [World.frozen?, hg]

theorem SpAt.snoc {w : World} {G k m : Nat} {p : Nat → Sp2} (h : SpAt w G 0 k p) (hr : RowAt w G m) (hm : k * 2 + 1 < m) :
    SpAt ((w.setCell ⟨G, k * 2, none⟩ (.int .i64 (p k).lo)).setCell ⟨G, k * 2 + 1, none⟩ (.int .i64 (p k).hi)) G 0 (k + 1) p := by
  intro i hi
  have g0 := (hr.2 (k * 2) (by omega)).1
  have g1 := (hr.set (k * 2) (.int .i64 (p k).lo)).2 (k * 2 + 1) (by omega)
  have hne : ∀ a b c : Nat, a ≠ b → (⟨c, a, none⟩ : Addr) ≠ ⟨c, b, none⟩ := fun a b c h e => h (by cases e; rfl)
  by_cases e : i = k
  · subst e
    simp only [Nat.zero_add]
    obtain ⟨v0, hv0⟩ := g0
    obtain ⟨⟨v1, hv1⟩, _⟩ := g1
    exact ⟨(World.cell?_setCell_other _ _ _ _ (hne _ _ _ (by omega))).trans (World.cell?_setCell_same' _ _ _ (by rw [hv0]; rfl)), World.cell?_setCell_same' _ _ _ (by rw [hv1]; rfl)⟩
  · obtain ⟨h0, h1⟩ := h i (by omega)
    simp only [Nat.zero_add] at *
    exact ⟨(World.cell?_setCell_other _ _ _ _ (hne _ _ _ (by omega))).trans ((World.cell?_setCell_other _ _ _ _ (hne _ _ _ (by omega))).trans h0),
      (World.cell?_setCell_other _ _ _ _ (hne _ _ _ (by omega))).trans ((World.cell?_setCell_other _ _ _ _ (hne _ _ _ (by omega))).trans h1)⟩
theorem info31 : (Tryz.prog.info? 31).map (fun i => (i.zero, i.size, i.bytes)) = some (some (.agg #[.int .i64 0, .int .i64 0]), 2, 16) := by kernel_rfl
end Go.Kn
