/- Contracts of functions that the laws of this seat call, or the evaluator of closed calls and its runs. Conditions: as each theorem states them. -/
import Derived.Test.YtddlghdglknloaaGreatDoorO0
import Derived.Test.YtddlghdglknloaaGreatDoorP4L
import Derived.Test.YtddlghdglknloaaGreatDoorKN
import Derived.Shelf.RegionOpen
import Derived.Deep.AppendLies
set_option linter.unusedVariables false
set_option linter.unusedSimpArgs false
namespace Go.Kn
open Go Go.Proofs Go.RowKit

theorem cut_two {P : Program} {code : Code} {Q : Exit → Act → World → Prop} {a : Act} {w : World} (F : Nat → Nat → Nat → Nat → Nat → World → Prop) (act : Nat → Nat → Nat → Nat → Nat → Act) (hr : (∀ g1 c1 g2 c2 B W3, F g1 c1 g2 c2 B W3 → Q .normal (act g1 c1 g2 c2 B) W3) → code.wp P Q a w) (hc : ∀ g1 c1 g2 c2 B W3, F g1 c1 g2 c2 B W3 → Q .normal (act g1 c1 g2 c2 B) W3) : code.wp P Q a w := hr hc
/-- a network that is a copy, in memory of one's own -/
structure Cpy (n0 : Nat) (P : Nat → P8) (lp : Nat) (C : Nat → C8) (lc : Nat) (W : World) (g1 c1 g2 c2 B : Nat) : Prop where
  b0 : W.cell? ⟨B, 0, none⟩ = some (.slice (some ⟨g1, 0, none⟩) lp c1)
  b1 : W.cell? ⟨B, 1, none⟩ = some (.slice (some ⟨g2, 0, none⟩) lc c2)
  p : ∀ j, j < lp * 3 → W.cell? ⟨g1, j, none⟩ = some (ptCell P j)
  pf : ∀ j, j < lp * 3 → W.frozen? ⟨g1, j, none⟩ = false
  c : ∀ j, j < lc * 4 → W.cell? ⟨g2, j, none⟩ = some (chCell C j)
  cf : ∀ j, j < lc * 4 → W.frozen? ⟨g2, j, none⟩ = false
  l1 : n0 ≤ g1
  l2 : n0 ≤ g2
  lB : n0 ≤ B
  s1 : g1 < W.heap.size
  s2 : g2 < W.heap.size
  n12 : g1 ≠ g2
  n1B : g1 ≠ B
  n2B : g2 ≠ B

theorem set2_below {n0 B : Nat} {W0 W : World} (h : Below n0 W0 W) (hb : n0 ≤ B) (v1 v2 : Value) : Below n0 W0 ((W.setCell ⟨B, 0, none⟩ v1).setCell ⟨B, 1, none⟩ v2) := RowKit.Below.setCell (p := ⟨B, 1, none⟩) (RowKit.Below.setCell (p := ⟨B, 0, none⟩) h hb _) hb _
theorem set2_lt {B : Nat} {W : World} {v1 v2 : Value} (h : B < W.heap.size) : B < ((W.setCell ⟨B, 0, none⟩ v1).setCell ⟨B, 1, none⟩ v2).heap.size := by simpa using h

theorem grown_nil {W w6 : World} (h : W.grownBy w6 (none : Option Nat)) : Below W.heap.size W w6 := (Below.refl _ _).grown h (Nat.le_refl _) (fun r e => nomatch e)
theorem hatr {g n : Nat} (h : (none : Option Nat) = some g ∨ g = n) : g = n := h.resolve_left (fun e => nomatch e)
theorem alz (W : World) (o : Obj) : W.heap.size < (W.alloc o).heap.size := by simp
theorem below_alz (W : World) (o : Obj) : Below W.heap.size W (W.alloc o) := (Below.refl _ _).alloc (Nat.le_refl _) _
/-- a copied list of points in a world, and one of channels -/
def PIn (n0 : Nat) (P : Nat → P8) (lp : Nat) (W : World) (g : Nat) : Prop := n0 ≤ g ∧ g < W.heap.size ∧ (∀ j, j < lp * 3 → W.cell? ⟨g, j, none⟩ = some (ptCell P j)) ∧ ∀ j, j < lp * 3 → W.frozen? ⟨g, j, none⟩ = false
def CIn (n0 : Nat) (C : Nat → C8) (lc : Nat) (W : World) (g : Nat) : Prop := n0 ≤ g ∧ g < W.heap.size ∧ (∀ j, j < lc * 4 → W.cell? ⟨g, j, none⟩ = some (chCell C j)) ∧ ∀ j, j < lc * 4 → W.frozen? ⟨g, j, none⟩ = false
theorem PIn.below {n0 lp g : Nat} {P : Nat → P8} {W W' : World} (h : PIn n0 P lp W g) (hb : Below W.heap.size W W') : PIn n0 P lp W' g := ⟨h.1, Nat.lt_of_lt_of_le h.2.1 hb.size, fun j hj => ((bcell hb).1 _ _ h.2.1).trans (h.2.2.1 j hj), fun j hj => ((bcell hb).2 _ _ h.2.1).trans (h.2.2.2 j hj)⟩
theorem CIn.below {n0 lc g : Nat} {C : Nat → C8} {W W' : World} (h : CIn n0 C lc W g) (hb : Below W.heap.size W W') : CIn n0 C lc W' g := ⟨h.1, Nat.lt_of_lt_of_le h.2.1 hb.size, fun j hj => ((bcell hb).1 _ _ h.2.1).trans (h.2.2.1 j hj), fun j hj => ((bcell hb).2 _ _ h.2.1).trans (h.2.2.2 j hj)⟩
theorem pIn_of {n0 lp g c : Nat} {P : Nat → P8} {W : World} (h : W.ownsRow n0 37 3 (.slice (some ⟨g, 0, none⟩) (0 + lp) c) (0 + lp) ([] ++ ptCells P lp)) (h0 : 0 < lp) : PIn n0 P lp W g := by
  rw [Nat.zero_add, List.nil_append] at h
  obtain ⟨g', cap, e, a, b, d, f⟩ := pt_owned h h0
  cases e
  exact ⟨a, b, d, f⟩
theorem cIn_of {n0 lc g c : Nat} {C : Nat → C8} {W : World} (h : W.ownsRow n0 68 4 (.slice (some ⟨g, 0, none⟩) (0 + lc) c) (0 + lc) ([] ++ chCells C lc)) (h0 : 0 < lc) : CIn n0 C lc W g := by
  rw [Nat.zero_add, List.nil_append] at h
  obtain ⟨g', cap, e, a, b, d, f⟩ := ch_owned h h0
  cases e
  exact ⟨a, b, d, f⟩
/-- a box that is filled later -/
def ZIn (n0 : Nat) (W : World) (B : Nat) : Prop := n0 ≤ B ∧ B < W.heap.size ∧ (W.cell? ⟨B, 0, none⟩ = some (.slice none 0 0) ∧ W.cell? ⟨B, 1, none⟩ = some (.slice none 0 0)) ∧ (W.frozen? ⟨B, 0, none⟩ = false ∧ W.frozen? ⟨B, 1, none⟩ = false)
theorem ZIn.below {n0 B : Nat} {W W' : World} (h : ZIn n0 W B) (hb : Below W.heap.size W W') : ZIn n0 W' B := ⟨h.1, Nat.lt_of_lt_of_le h.2.1 hb.size, ⟨((bcell hb).1 _ _ h.2.1).trans h.2.2.1.1, ((bcell hb).1 _ _ h.2.1).trans h.2.2.1.2⟩, ⟨((bcell hb).2 _ _ h.2.1).trans h.2.2.2.1, ((bcell hb).2 _ _ h.2.1).trans h.2.2.2.2⟩⟩
theorem zIn_new {n0 : Nat} (W : World) (h : n0 ≤ W.heap.size) : ZIn n0 (W.alloc (.cells #[.slice none 0 0, .slice none 0 0] 25)) W.heap.size := ⟨h, alz _ _, ⟨al_get rfl rfl, al_get rfl rfl⟩, ⟨al_frz2 rfl, al_frz2 rfl⟩⟩
theorem cpy_last {n0 lp lc g1 c1 g2 c2 : Nat} {P : Nat → P8} {C : Nat → C8} {W : World} (hp : PIn n0 P lp W g1) (hc : CIn n0 C lc W g2) (hne : g1 ≠ g2) (hn : n0 ≤ W.heap.size) : Cpy n0 P lp C lc (W.alloc (.cells #[.slice (some ⟨g1, 0, none⟩) lp c1, .slice (some ⟨g2, 0, none⟩) lc c2] 25)) g1 c1 g2 c2 W.heap.size := by
  have p := hp.below (below_alz W (.cells #[.slice (some ⟨g1, 0, none⟩) lp c1, .slice (some ⟨g2, 0, none⟩) lc c2] 25))
  have c := hc.below (below_alz W (.cells #[.slice (some ⟨g1, 0, none⟩) lp c1, .slice (some ⟨g2, 0, none⟩) lc c2] 25))
  exact ⟨al_get rfl rfl, al_get rfl rfl, p.2.2.1, p.2.2.2, c.2.2.1, c.2.2.2, hp.1, hc.1, hn, p.2.1, c.2.1, hne, Nat.ne_of_lt hp.2.1, Nat.ne_of_lt hc.2.1⟩
theorem cpy_set {n0 lp lc g1 c1 g2 c2 B : Nat} {P : Nat → P8} {C : Nat → C8} {W : World} (hp : PIn n0 P lp W g1) (hc : CIn n0 C lc W g2) (hz : ZIn n0 W B) (hne : g1 ≠ g2) (h1 : g1 ≠ B) (h2 : g2 ≠ B) : Cpy n0 P lp C lc ((W.setCell ⟨B, 0, none⟩ (.slice (some ⟨g1, 0, none⟩) lp c1)).setCell ⟨B, 1, none⟩ (.slice (some ⟨g2, 0, none⟩) lc c2)) g1 c1 g2 c2 B := by
  have k : ∀ g o, g ≠ B → ((W.setCell ⟨B, 0, none⟩ (.slice (some ⟨g1, 0, none⟩) lp c1)).setCell ⟨B, 1, none⟩ (.slice (some ⟨g2, 0, none⟩) lc c2)).cell? ⟨g, o, none⟩ = W.cell? ⟨g, o, none⟩ := fun g o h => by
    rw [World.cell?_setCell_other _ _ _ _ (by intro e; cases e; exact h rfl), World.cell?_setCell_other _ _ _ _ (by intro e; cases e; exact h rfl)]
  refine ⟨?_, ?_, fun j hj => (k _ _ h1).trans (hp.2.2.1 j hj), fun j hj => by simpa using hp.2.2.2 j hj, fun j hj => (k _ _ h2).trans (hc.2.2.1 j hj), fun j hj => by simpa using hc.2.2.2 j hj, hp.1, hc.1, hz.1, by simpa using hp.2.1, by simpa using hc.2.1, hne, h1, h2⟩
  · rw [World.cell?_setCell_other _ _ _ _ (by simp)]
    exact World.cell?_setCell_same' _ _ _ (by rw [hz.2.2.1.1]; rfl)
  · exact World.cell?_setCell_same' _ _ _ (by rw [World.cell?_setCell_other _ _ _ _ (by simp), hz.2.2.1.2]; rfl)

theorem Cpy.below {n0 lp lc g1 c1 g2 c2 B : Nat} {P : Nat → P8} {C : Nat → C8} {W W' : World} (h : Cpy n0 P lp C lc W g1 c1 g2 c2 B) (hB : B < W.heap.size) (hb : Below W.heap.size W W') : Cpy n0 P lp C lc W' g1 c1 g2 c2 B :=
  ⟨((bcell hb).1 _ _ hB).trans h.b0, ((bcell hb).1 _ _ hB).trans h.b1, fun j hj => ((bcell hb).1 _ _ h.s1).trans (h.p j hj), fun j hj => ((bcell hb).2 _ _ h.s1).trans (h.pf j hj), fun j hj => ((bcell hb).1 _ _ h.s2).trans (h.c j hj), fun j hj => ((bcell hb).2 _ _ h.s2).trans (h.cf j hj), h.l1, h.l2, h.lB, Nat.lt_of_lt_of_le h.s1 hb.size, Nat.lt_of_lt_of_le h.s2 hb.size, h.n12, h.n1B, h.n2B⟩
theorem Cpy.cu {n0 lp lc g1 c1 g2 c2 B : Nat} {P : Nat → P8} {C : Nat → C8} {W : World} (h : Cpy n0 P lp C lc W g1 c1 g2 c2 B) {k : Nat} (hk : k < lc) : W.cell? ⟨g2, k * 4 + 2, none⟩ = some (.int .i64 (C k).cu) := by
  rw [h.c _ (by omega)]
  simp [chCell, show (k * 4 + 2) % 4 = 2 by omega, show (k * 4 + 2) / 4 = k by omega]
theorem Cpy.nd {n0 lp lc g1 c1 g2 c2 B : Nat} {P : Nat → P8} {C : Nat → C8} {W : World} (h : Cpy n0 P lp C lc W g1 c1 g2 c2 B) {k : Nat} (hk : k < lp) : W.cell? ⟨g1, k * 3 + 2, none⟩ = some (.int .i64 (P k).nd) := by
  rw [h.p _ (by omega)]
  simp [ptCell, show (k * 3 + 2) % 3 = 2 by omega, show (k * 3 + 2) / 3 = k by omega]
theorem Cpy.setC {n0 lp lc g1 c1 g2 c2 B : Nat} {P : Nat → P8} {C : Nat → C8} {W : World} (h : Cpy n0 P lp C lc W g1 c1 g2 c2 B) {k : Nat} (hk : k < lc) (v : Int) : Cpy n0 P lp (updC C k v) lc (W.setCell ⟨g2, k * 4 + 2, none⟩ (.int .i64 v)) g1 c1 g2 c2 B := by
  have o : ∀ g o, g ≠ g2 → (W.setCell ⟨g2, k * 4 + 2, none⟩ (.int .i64 v)).cell? ⟨g, o, none⟩ = W.cell? ⟨g, o, none⟩ := fun g o h => World.cell?_setCell_other _ _ _ _ (by intro e; cases e; exact h rfl)
  refine ⟨(o _ _ h.n2B.symm).trans h.b0, (o _ _ h.n2B.symm).trans h.b1, fun j hj => (o _ _ h.n12).trans (h.p j hj), fun j hj => by simpa using h.pf j hj, fun j hj => ?_, fun j hj => by simpa using h.cf j hj, h.l1, h.l2, h.lB, by simpa using h.s1, by simpa using h.s2, h.n12, h.n1B, h.n2B⟩
  by_cases e : j = k * 4 + 2
  · subst e
    have e1 : (k * 4 + 2) / 4 = k := by omega
    rw [World.cell?_setCell_same' _ _ _ (by rw [h.c _ hj]; rfl)]
    simp [chCell, show (k * 4 + 2) % 4 = 2 by omega, e1, updC_cu]
  · rw [World.cell?_setCell_other _ _ _ _ (by intro e'; cases e'; exact e rfl), h.c j hj]
    unfold chCell
    rw [updC_fr, updC_to, updC_cu, updC_ga]
    by_cases e2 : j / 4 = k
    · have : j % 4 ≠ 2 := fun e3 => e (by omega)
      simp [this]
    · simp [e2]
theorem Cpy.setP {n0 lp lc g1 c1 g2 c2 B : Nat} {P : Nat → P8} {C : Nat → C8} {W : World} (h : Cpy n0 P lp C lc W g1 c1 g2 c2 B) {k : Nat} (hk : k < lp) (v : Int) : Cpy n0 (updN P k v) lp C lc (W.setCell ⟨g1, k * 3 + 2, none⟩ (.int .i64 v)) g1 c1 g2 c2 B := by
  have o : ∀ g o, g ≠ g1 → (W.setCell ⟨g1, k * 3 + 2, none⟩ (.int .i64 v)).cell? ⟨g, o, none⟩ = W.cell? ⟨g, o, none⟩ := fun g o h => World.cell?_setCell_other _ _ _ _ (by intro e; cases e; exact h rfl)
  refine ⟨(o _ _ h.n1B.symm).trans h.b0, (o _ _ h.n1B.symm).trans h.b1, fun j hj => ?_, fun j hj => by simpa using h.pf j hj, fun j hj => (o _ _ h.n12.symm).trans (h.c j hj), fun j hj => by simpa using h.cf j hj, h.l1, h.l2, h.lB, by simpa using h.s1, by simpa using h.s2, h.n12, h.n1B, h.n2B⟩
  by_cases e : j = k * 3 + 2
  · subst e
    have e1 : (k * 3 + 2) / 3 = k := by omega
    rw [World.cell?_setCell_same' _ _ _ (by rw [h.p _ hj]; rfl)]
    simp [ptCell, show (k * 3 + 2) % 3 = 2 by omega, e1, updN_nd]
  · rw [World.cell?_setCell_other _ _ _ _ (by intro e'; cases e'; exact e rfl), h.p j hj]
    unfold ptCell
    rw [updN_lo, updN_hi, updN_nd]
    by_cases e2 : j / 3 = k
    · have h3 : j % 3 = 0 ∨ j % 3 = 1 := by omega
      rcases h3 with h3 | h3 <;> simp [h3]
    · simp [e2]

end Go.Kn
