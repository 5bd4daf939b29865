/- Contracts of functions that the laws of this seat call, or the evaluator of closed calls and its runs. Conditions: as each theorem states them. -/
import Derived.Test.YtamoigfafgfimaaGreatDoorHO
import Derived.Deep.RegionHeld3
import Derived.Laws.EntriesVeiled
set_option linter.unusedVariables false
set_option linter.unusedSimpArgs false
namespace Go.Kn
open Go Go.Proofs Go.RowKit

set_option maxRecDepth 100000 in
set_option maxHeartbeats 1000000 in
theorem wif_w (f g : Int) (na oa : Option Addr) (ln cn lo co : Nat) (w : World) :
    Calls Tryz.prog 83 #[.agg #[.int .i64 f, .slice na ln cn, .slice oa lo co], .int .i64 g] w fun e w' => e = .returned (.agg #[.int .i64 g, .slice na ln cn, .slice oa lo co]) ∧ Below w.heap.size w w' := by
  go_enter Tryz.func83, Tryz.ntmps83
  go_wp2
  refine bodyPost_ret (v := .agg #[.int .i64 g, .slice na ln cn, .slice oa lo co]) (by simp [results, Tryz.results83, go_sem]) rfl ⟨rfl, ((Below.refl _ _).alloc (Nat.le_refl _) _).alloc (by simp) _⟩

set_option maxRecDepth 100000 in
set_option maxHeartbeats 1000000 in
theorem with_w (f g : Int) (na oa : Option Addr) (ln cn lo co : Nat) (w : World) :
    Calls Tryz.prog 43 #[.agg #[.int .i64 f, .slice na ln cn, .slice oa lo co], .int .i64 g] w fun e w' => e = .returned (.agg #[.int .i64 g, .slice na ln cn, .slice oa lo co]) ∧ Below w.heap.size w w' := by
  go_enter Tryz.func43, Tryz.ntmps43
  go_wp2
  refine bodyPost_ret (v := .agg #[.int .i64 g, .slice na ln cn, .slice oa lo co]) (by simp [results, Tryz.results43, go_sem]) rfl ⟨rfl, (((Below.refl _ _).alloc (Nat.le_refl _) _).alloc (by simp) _).alloc (by simp; omega) _⟩

set_option maxRecDepth 100000 in
set_option maxHeartbeats 1000000 in
theorem share_w (sv SH i lo cs : Nat) (t : Nat → Int) (w : World) (hi : i < lo) (h3 : w.cell? ⟨sv, 3, none⟩ = some (.slice (some ⟨SH, 0, none⟩) lo cs)) (h2 : w.cell? ⟨SH, i, none⟩ = some (.int .i64 (t i))) :
    Calls Tryz.prog 80 #[.pointer (some ⟨sv, 0, none⟩), .int .i64 (i : Int)] w fun e w' => e = .returned (.int .i64 (t i)) ∧ w' = w := by
  have n1 : (0 : Int) ≤ (i : Int) := by omega
  have n2 : (i : Int) < (lo : Int) := by omega
  go_enter Tryz.func80, Tryz.ntmps80
  go_wp2
  go_ret
  exact ⟨rfl, rfl⟩
end Go.Kn

namespace Go.Kn
open Go Go.Proofs Go.RowKit

theorem below_go2 {A B C : World} (h : Below A.heap.size A B) (k : Below B.heap.size B C) : Below A.heap.size A C := h.trans (k.mono h.size)
theorem far2 {A : World} {B b o : Nat} {v0 v1 : Value} (h : b < B) : ((A.setCell ⟨B, 0, none⟩ v0).setCell ⟨B, 1, none⟩ v1).cell? ⟨b, o, none⟩ = A.cell? ⟨b, o, none⟩ :=
  (World.cell?_setCell_far _ _ _ _ (by show B ≠ b; omega)).trans (World.cell?_setCell_far _ _ _ _ (by show B ≠ b; omega))
theorem mf_run (fn : Fn) (first cap : Array Value) (w : World) : (Instr.makeFunc fn first cap).run Tryz.prog w = .ok (.func fn first cap) w := rfl
attribute [local go_sem] mf_run
structure AlAt (n0 : Nat) (A : World) (B : Nat) (a b : Value) : Prop where
  lo : n0 < B
  c0 : A.cell? ⟨B, 0, none⟩ = some a
  c1 : A.cell? ⟨B, 1, none⟩ = some b
  f0 : A.frozen? ⟨B, 0, none⟩ = false
  f1 : A.frozen? ⟨B, 1, none⟩ = false
  lt : B < A.heap.size
theorem AlAt.new {n0 : Nat} {A w' : World} {a b : Value} {T : TypeId} (h0 : n0 < A.heap.size) (h : Below (A.alloc (.cells #[a, b] T)).heap.size (A.alloc (.cells #[a, b] T)) w') : AlAt n0 w' A.heap.size a b := by
  obtain ⟨hc, hf⟩ := bcell h
  have hs := h.size
  simp at hs
  exact ⟨h0, (hc _ _ (by simp)).trans (by simp), (hc _ _ (by simp)).trans (by simp), (hf _ _ (by simp)).trans (by simp), (hf _ _ (by simp)).trans (by simp), by omega⟩
theorem AlAt.keep {n0 : Nat} {A w' : World} {B : Nat} {a b : Value} (z : AlAt n0 A B a b) (h : Below A.heap.size A w') : AlAt n0 w' B a b := by
  obtain ⟨hc, hf⟩ := bcell h
  have hs := h.size
  exact ⟨z.lo, (hc _ _ z.lt).trans z.c0, (hc _ _ z.lt).trans z.c1, (hf _ _ z.lt).trans z.f0, (hf _ _ z.lt).trans z.f1, Nat.lt_of_lt_of_le z.lt hs⟩

/-- where a served tree keeps its shares -/
structure ShAt (w : World) (sv SH lo cs : Nat) (x : Nat → Int) : Prop where
  c3 : w.cell? ⟨sv, 3, none⟩ = some (.slice (some ⟨SH, 0, none⟩) lo cs)
  sh : ∀ i, i < lo → w.cell? ⟨SH, i, none⟩ = some (.int .i64 (x i))
  bs : sv < w.heap.size
  bh : SH < w.heap.size
theorem ShAt.below {w w1 : World} {sv SH lo cs : Nat} {x : Nat → Int} (h : ShAt w sv SH lo cs x) (hb : Below w.heap.size w w1) : ShAt w1 sv SH lo cs x := by
  obtain ⟨c, _⟩ := bcell hb
  have hs := hb.size
  exact ⟨(c _ _ h.bs).trans h.c3, fun i hi => (c _ _ h.bh).trans (h.sh i hi), Nat.lt_of_lt_of_le h.bs hs, Nat.lt_of_lt_of_le h.bh hs⟩
theorem ShAt.set {w : World} {sv SH lo cs B o : Nat} {v : Value} {x : Nat → Int} (h : ShAt w sv SH lo cs x) (h1 : B ≠ sv) (h2 : B ≠ SH) : ShAt (w.setCell ⟨B, o, none⟩ v) sv SH lo cs x :=
  ⟨(World.cell?_setCell_far _ _ _ _ h1).trans h.c3, fun i hi => (World.cell?_setCell_far _ _ _ _ h2).trans (h.sh i hi), by simpa using h.bs, by simpa using h.bh⟩

structure Sp2 (WA : World) (lw hg : Int) (lo : Nat) (N : Nat → N2) (U : Nat → O3) (B s1 s2 : Nat) (W3 : World) : Prop where
  hb : Below WA.heap.size WA W3
  lt : B < W3.heap.size
  c0 : W3.cell? ⟨B, 0, none⟩ = some (.func (.func 80) #[.pointer (some ⟨s1, 0, none⟩)] #[])
  c1 : W3.cell? ⟨B, 1, none⟩ = some (.func (.func 80) #[.pointer (some ⟨s2, 0, none⟩)] #[])
  v1 : ∃ SH cs x, ShAt W3 s1 SH lo cs x ∧ Ord lw lo N U (fun _ => 0) [0, 1, 2, 3] x
  v2 : ∃ SH cs x, ShAt W3 s2 SH lo cs x ∧ Ord hg lo N U (fun _ => 0) [0, 1, 2, 3] x
theorem Sp2.below {WA : World} {lw hg : Int} {lo : Nat} {N : Nat → N2} {U : Nat → O3} {B s1 s2 : Nat} {W3 W4 : World} (h : Sp2 WA lw hg lo N U B s1 s2 W3) (hb : Below W3.heap.size W3 W4) : Sp2 WA lw hg lo N U B s1 s2 W4 := by
  obtain ⟨c, _⟩ := bcell hb
  obtain ⟨SH, cs, x, h1, h2⟩ := h.v1
  obtain ⟨SH', cs', x', h3, h4⟩ := h.v2
  exact ⟨h.hb.trans (hb.mono h.hb.size), Nat.lt_of_lt_of_le h.lt hb.size, (c _ _ h.lt).trans h.c0, (c _ _ h.lt).trans h.c1, ⟨SH, cs, x, h1.below hb, h2⟩, ⟨SH', cs', x', h3.below hb, h4⟩⟩
theorem sp_alloc {WA V : World} {lw hg : Int} {lo : Nat} {N : Nat → N2} {U : Nat → O3} {s1 s2 SH1 SH2 cs1 cs2 : Nat} {x y : Nat → Int} (hb : Below WA.heap.size WA V) (h1 : ShAt V s1 SH1 lo cs1 x) (o1 : Ord lw lo N U (fun _ => 0) [0, 1, 2, 3] x) (h2 : ShAt V s2 SH2 lo cs2 y) (o2 : Ord hg lo N U (fun _ => 0) [0, 1, 2, 3] y) :
    Sp2 WA lw hg lo N U V.heap.size s1 s2 (V.alloc (.cells #[.func (.func 80) #[.pointer (some ⟨s1, 0, none⟩)] #[], .func (.func 80) #[.pointer (some ⟨s2, 0, none⟩)] #[]] 96)) :=
  ⟨hb.alloc hb.size _, by simp, by simp, by simp, ⟨SH1, cs1, x, h1.below ((Below.refl _ _).alloc (Nat.le_refl _) _), o1⟩, ⟨SH2, cs2, y, h2.below ((Below.refl _ _).alloc (Nat.le_refl _) _), o2⟩⟩
theorem sp_set {WA V : World} {lw hg : Int} {lo : Nat} {N : Nat → N2} {U : Nat → O3} {E s1 s2 SH1 SH2 cs1 cs2 : Nat} {x y : Nat → Int} {a b : Value} (hb : Below WA.heap.size WA V) (hE : WA.heap.size ≤ E) (hl : E < V.heap.size) (c0 : V.cell? ⟨E, 0, none⟩ = some a) (c1 : V.cell? ⟨E, 1, none⟩ = some b) (h1 : ShAt V s1 SH1 lo cs1 x) (o1 : Ord lw lo N U (fun _ => 0) [0, 1, 2, 3] x) (h2 : ShAt V s2 SH2 lo cs2 y) (o2 : Ord hg lo N U (fun _ => 0) [0, 1, 2, 3] y)
    (n1 : E ≠ s1) (n2 : E ≠ SH1) (n3 : E ≠ s2) (n4 : E ≠ SH2) :
    Sp2 WA lw hg lo N U E s1 s2 ((V.setCell ⟨E, 0, none⟩ (.func (.func 80) #[.pointer (some ⟨s1, 0, none⟩)] #[])).setCell ⟨E, 1, none⟩ (.func (.func 80) #[.pointer (some ⟨s2, 0, none⟩)] #[])) := by
  have k0 : (V.setCell ⟨E, 0, none⟩ (.func (.func 80) #[.pointer (some ⟨s1, 0, none⟩)] #[])).cell? ⟨E, 1, none⟩ = some b := by
    rw [World.cell?_setCell_other _ _ _ _ (by simp)]; exact c1
  refine ⟨?_, by simpa using hl, ?_, ?_, ⟨SH1, cs1, x, (h1.set n1 n2).set n1 n2, o1⟩, ⟨SH2, cs2, y, (h2.set n3 n4).set n3 n4, o2⟩⟩
  · exact RowKit.Below.setCell (p := ⟨E, 1, none⟩) (RowKit.Below.setCell (p := ⟨E, 0, none⟩) hb hE _) hE _
  · rw [World.cell?_setCell_other _ _ _ _ (by simp)]; exact World.cell?_setCell_same _ _ _ c0
  · exact World.cell?_setCell_same _ _ _ k0
/-- the cells of the first n spans -/
def flat (x y : Nat → Int) : Nat → List Value
  | 0 => []
  | n + 1 => flat x y n ++ [.int .i64 (x n), .int .i64 (y n)]
theorem flat_len (x y : Nat → Int) (n : Nat) : (flat x y n).length = n * 2 := by
  induction n with
  | zero => rfl
  | succ n ih => simp [flat, ih]; omega
theorem flat_at (x y : Nat → Int) : ∀ (n i : Nat), i < n → (flat x y n)[i * 2]? = some (.int .i64 (x i)) ∧ (flat x y n)[i * 2 + 1]? = some (.int .i64 (y i)) := by
  intro n
  induction n with
  | zero => intro i h; omega
  | succ n ih =>
    intro i h
    have hl := flat_len x y n
    by_cases e : i = n
    · subst e
      simp only [flat]
      rw [List.getElem?_append_right (by omega), List.getElem?_append_right (by omega), hl]
      simp
    · obtain ⟨h1, h2⟩ := ih i (by omega)
      simp only [flat]
      rw [List.getElem?_append_left (by omega), List.getElem?_append_left (by omega)]
      exact ⟨h1, h2⟩
/-- a slice of spans -/
def SpSl (w : World) (v : Value) (n : Nat) (x y : Nat → Int) : Prop := ∃ a c, v = .slice a n c ∧ (n = 0 ∨ ∃ G O, a = some ⟨G, O, none⟩ ∧ G < w.heap.size ∧ ∀ i, i < n → w.cell? ⟨G, O + i * 2, none⟩ = some (.int .i64 (x i)) ∧ w.cell? ⟨G, O + i * 2 + 1, none⟩ = some (.int .i64 (y i)))
theorem SpSl.below {w w1 : World} {v : Value} {n : Nat} {x y : Nat → Int} (h : SpSl w v n x y) (hb : Below w.heap.size w w1) : SpSl w1 v n x y := by
  obtain ⟨a, c, rfl, h⟩ := h
  refine ⟨a, c, rfl, ?_⟩
  rcases h with h | ⟨G, O, h1, h2, h3⟩
  · exact .inl h
  · exact .inr ⟨G, O, h1, Nat.lt_of_lt_of_le h2 hb.size, fun i hi => ⟨(hb.cell (p := ⟨G, O + i * 2, none⟩) h2).trans (h3 i hi).1, (hb.cell (p := ⟨G, O + i * 2 + 1, none⟩) h2).trans (h3 i hi).2⟩⟩
theorem spSl_of_owns {w : World} {base n : Nat} {v : Value} {x y : Nat → Int} (h : w.ownsRow base 61 2 v n (flat x y n)) : SpSl w v n x y := by
  rcases h.2 with ⟨e, e2⟩ | ⟨g, cap, cur, e, hb, hg, hn, hc, hs, hx⟩
  · exact ⟨none, 0, by rw [e, e2], .inl e2⟩
  · refine ⟨_, cap, e, .inr ⟨g, 0, rfl, (Array.getElem?_eq_some_iff.1 hg).1, fun i hi => ?_⟩⟩
    have key : ∀ j u, (flat x y n)[j]? = some u → w.cell? ⟨g, j, none⟩ = some u := by
      intro j u hj
      rw [← hx] at hj
      rw [List.getElem?_take] at hj
      split at hj
      · simp only [Array.getElem?_toList] at hj
        simp [World.cell?, hg, hj]
      · cases hj
    obtain ⟨h1, h2⟩ := flat_at x y n i hi
    rw [Nat.zero_add]
    exact ⟨key _ _ h1, key _ _ h2⟩
/-- the spans that are returned -/
structure SpRes (w : World) (lw hg : Int) (lo : Nat) (N : Nat → N2) (U : Nat → O3) (v : Value) : Prop where
  ex : ∃ x y, SpSl w v lo x y ∧ Ord lw lo N U (fun _ => 0) [0, 1, 2, 3] x ∧ Ord hg lo N U (fun _ => 0) [0, 1, 2, 3] y
theorem SpRes.below {w w1 : World} {lw hg : Int} {lo : Nat} {N : Nat → N2} {U : Nat → O3} {v : Value} (h : SpRes w lw hg lo N U v) (hb : Below w.heap.size w w1) : SpRes w1 lw hg lo N U v := by
  obtain ⟨x, y, h1, h2, h3⟩ := h.ex
  exact ⟨x, y, h1.below hb, h2, h3⟩
theorem lies_two {W : World} {b : Nat} {x0 x1 : Value} (h : W.cell? ⟨b, 0, none⟩ = some x0 ∧ W.cell? ⟨b, 1, none⟩ = some x1) : ∀ (j : Nat) (u : Value), [x0, x1][j]? = some u → W.cell? ((⟨b, 0, none⟩ : Addr).add j) = some u := by
  intro j u hj
  match j, hj with
  | 0, hj => simp at hj; subst hj; exact h.1
  | 1, hj => simp at hj; subst hj; exact h.2
theorem info61 : (Tryz.prog.info? 61).map (fun i => (i.zero, i.size, i.bytes)) = some (some (.agg #[.int .i64 0, .int .i64 0]), 2, 16) := by kernel_rfl
theorem cut_sp {P : Program} {code : Code} {Q : Exit → Act → World → Prop} {a : Act} {w : World} (F : Nat → Nat → Nat → World → Prop) (act : Nat → Nat → Nat → Act) (hr : (∀ B s1 s2 W3, F B s1 s2 W3 → Q .normal (act B s1 s2) W3) → code.wp P Q a w) (hc : ∀ B s1 s2 W3, F B s1 s2 W3 → Q .normal (act B s1 s2) W3) : code.wp P Q a w := hr hc

set_option maxRecDepth 100000 in
set_option maxHeartbeats 6000000 in
theorem spans_w (f lw hg : Int) (na oa : Option Addr) (ln cn lo co : Nat) (N : Nat → N2) (U : Nat → O3) (w : World) (HR : Hid (TreeP f ln lo N U)) (H : Hid (Tr7 w na oa ln lo N U)) (hfl : fromB 0 200 lw = true) (hfh : fromB 0 200 hg = true) (hle : lw ≤ hg) :
    Calls Tryz.prog 42 #[.agg #[.int .i64 f, .slice na ln cn, .slice oa lo co], .int .i64 lw, .int .i64 hg] w fun e w' =>
      (∃ v, e = .returned (.tuple #[v, .int .i64 0]) ∧ SpRes w' lw hg lo N U v) ∧ Below w.heap.size w w' := by
  have q1 := HR.out.l6
  have q2 := HR.out.lo2
  have hd1 : ¬ hg < lw := by omega
  obtain ⟨WA, hWA⟩ : ∃ WA, WA = w.alloc (.cells #[.int .i64 f, .slice na ln cn, .slice oa lo co] 25) := ⟨_, rfl⟩
  have hA : Below w.heap.size w WA := by rw [hWA]; exact (Below.refl _ _).alloc (Nat.le_refl _) _
  have HX : Hid (∀ w2, Below WA.heap.size WA w2 → w2.cell? ⟨w.heap.size, 0, none⟩ = some (.int .i64 f) ∧ w2.cell? ⟨w.heap.size, 1, none⟩ = some (.slice na ln cn) ∧ w2.cell? ⟨w.heap.size, 2, none⟩ = some (.slice oa lo co)) := Lib.hid fun w2 h => by
    obtain ⟨c, _⟩ := bcell h
    have hz : WA.heap.size = w.heap.size + 1 := by rw [hWA]; simp
    exact ⟨(c _ _ (by omega)).trans (by rw [hWA]; simp), (c _ _ (by omega)).trans (by rw [hWA]; simp), (c _ _ (by omega)).trans (by rw [hWA]; simp)⟩
  have HX2 : Hid (∀ w2, Below WA.heap.size WA w2 → (∀ o, (w2.alloc o).cell? ⟨w.heap.size, 0, none⟩ = some (.int .i64 f)) ∧ (∀ o, (w2.alloc o).cell? ⟨w.heap.size, 1, none⟩ = some (.slice na ln cn)) ∧ ∀ o, (w2.alloc o).cell? ⟨w.heap.size, 2, none⟩ = some (.slice oa lo co)) := Lib.hid fun w2 h =>
    ⟨fun o => (HX.out _ (h.alloc h.size o)).1, fun o => (HX.out _ (h.alloc h.size o)).2.1, fun o => (HX.out _ (h.alloc h.size o)).2.2⟩
  have HIT : Hid (Calls Tryz.prog 61 #[.agg #[.int .i64 f, .slice na ln cn, .slice oa lo co]] WA fun e w' => e = .returned (.bool true) ∧ Below WA.heap.size WA w') := Lib.hid ((isTree_w f na oa ln cn lo co N U WA (by omega) (by omega) (Lib.hid (H.out.below hA))).mono fun e w' ⟨⟨rb, he, hrb⟩, hb⟩ => ⟨by rw [he, hrb.2 HR.out], hb⟩)
  have HLA : Hid (∀ g w2, fromB 0 200 g = true → Below WA.heap.size WA w2 → Calls Tryz.prog 68 #[.agg #[.int .i64 g, .slice na ln cn, .slice oa lo co]] w2 fun e w' =>
      (∃ sv SH cs t, e = .returned (.pointer (some ⟨sv, 0, none⟩)) ∧ ShAt w' sv SH lo cs t ∧ Ord g lo N U (fun _ => 0) [0, 1, 2, 3] t ∧ w2.heap.size ≤ sv ∧ w2.heap.size ≤ SH) ∧ Below w2.heap.size w2 w') := Lib.hid fun g w2 hg h => by
    refine (lawful_w g na oa ln cn lo co N U w2 (Lib.hid (tree_with HR.out (by simp [fromB] at hg; omega) (by simp [fromB] at hg; omega))) (Lib.hid (H.out.below (hA.trans (h.mono hA.size))))).mono ?_
    rintro e w' ⟨⟨sv, SH, FL, cs, cf, t, he, h1, h2, h3, h4, h5⟩, hb⟩
    exact ⟨⟨sv, SH, cs, t, he, ⟨h1.at_.c3, fun i hi => (h1.at_.sh i hi).1, h1.at_.bs, h1.at_.bh⟩, h2, h3, h4⟩, hb⟩
  have HA := Lib.hid hA
  have HZA : Hid (WA.heap.size = w.heap.size + 1) := Lib.hid (by rw [hWA]; simp)
  clear hA
  go_enter Tryz.func42, Tryz.ntmps42
  go_wp2_with (first
    | (go_at_call 61; rw [← hWA]; clear hWA; refine HIT.out.mono ?_; rintro e w1 ⟨rfl, hb1⟩)
    | (go_at_call 82; refine (areCups_w _ _).mono ?_; rintro e w' ⟨rfl, rfl⟩))
  have hb : Below WA.heap.size WA w1 := hb1
  obtain ⟨x1, x2, x3⟩ := HX.out _ hb
  have hzz0 := hb.size
  have hzA := HZA.out
  refine cut_sp (F := Sp2 WA lw hg lo N U) (act := fun B s1 s2 => ({ tmps := #[.agg #[.int .i64 f, .slice na ln cn, .slice oa lo co], .int .i64 lw, .int .i64 hg, .pointer (some ⟨w.heap.size, 0, none⟩), undef, undef, .slice none 0 0, .int .i64 0, .pointer (some ⟨B, 0, none⟩), undef, undef, .agg #[.int .i64 f, .slice na ln cn, .slice oa lo co], .bool true, .bool false, .bool false, .int .i64 lw, .bool true, .bool false, .bool false, .bool false, .int .i64 hg, .bool true, .bool false, .bool false, .bool false, .int .i64 hg, .int .i64 lw, .bool (decide (hg < lw)), .bool (decide (hg < lw)), .agg #[.int .i64 f, .slice na ln cn, .slice oa lo co], .int .i64 lw, .agg #[.int .i64 lw, .slice na ln cn, .slice oa lo co], .pointer (some ⟨s1, 0, none⟩), .func (.func 80) #[.pointer (some ⟨s1, 0, none⟩)] #[], .agg #[.int .i64 f, .slice na ln cn, .slice oa lo co], .int .i64 hg, .agg #[.int .i64 hg, .slice na ln cn, .slice oa lo co], .pointer (some ⟨s2, 0, none⟩), .func (.func 80) #[.pointer (some ⟨s2, 0, none⟩)] #[], .agg #[.func (.func 80) #[.pointer (some ⟨s1, 0, none⟩)] #[], .func (.func 80) #[.pointer (some ⟨s2, 0, none⟩)] #[]], undef, undef, undef, undef, undef, undef, undef, undef, undef, undef, undef, undef, undef, undef, undef, undef, undef, undef, undef, undef], defers := [] } : Act)) ?hr ?hc
  case hr =>
    intro CONT
    go_region_held3 (fun w' => w'.cell? ⟨w.heap.size, 0, none⟩ = some (.int .i64 f) ∧ w'.cell? ⟨w.heap.size, 1, none⟩ = some (.slice na ln cn) ∧ w'.cell? ⟨w.heap.size, 2, none⟩ = some (.slice oa lo co)) (first | exact ⟨x1, x2, x3⟩ | exact ⟨(far2 z0).trans x1, (far2 z0).trans x2, (far2 z0).trans x3⟩ | exact HX.out _ (by first | exact hb | exact below_drew hb | exact hb.alloc hb.size _ | exact (below_drew hb).alloc hb.size _) | go_keep) (first
      | (go_at_call 83; refine (wif_w f lw na oa ln cn lo co _).mono ?_; rintro e wv ⟨rfl, hv⟩; (try have hbs := below_go2 (by first | exact hbs | exact below_drew hbs | exact hbs.alloc hbs.size _ | exact (below_drew hbs).alloc hbs.size _ | exact below_drew (hbs.alloc hbs.size _)) hv); (try have hbt := below_go2 (by first | exact hbt | exact below_drew hbt | exact hbt.alloc hbt.size _ | exact (below_drew hbt).alloc hbt.size _ | exact below_drew (hbt.alloc hbt.size _)) hv); have hb := below_go2 (by first | exact hb | exact below_drew hb | exact hb.alloc hb.size _ | exact (below_drew hb).alloc hb.size _ | exact below_drew (hb.alloc hb.size _)) hv; obtain ⟨x1, x2, x3⟩ := HX.out _ hb; have hzz := hb.size; (try have hz1 := hbs.size); (try have hz2 := hbt.size); (try (have za := (by first | exact AlAt.keep (by assumption) hv | exact AlAt.new (by first | (show w.heap.size < w1.heap.size; omega) | ((try simp); omega)) hv | exact AlAt.new (A := w1) (by omega) ((below_drew (Below.refl _ _)).trans hv) : AlAt w.heap.size wv _ _ _); (try (simp only [show ∀ q : World, q.drew.heap.size = q.heap.size from fun _ => rfl] at za)); have z0 := za.lo; have z1 := za.c0; have z2 := za.c1; have z3 := za.f0; have z4 := za.f1; have z5 := za.lt)))
      | (go_at_call 83; refine (wif_w f hg na oa ln cn lo co _).mono ?_; rintro e wv ⟨rfl, hv⟩; (try have hbs := below_go2 (by first | exact hbs | exact below_drew hbs | exact hbs.alloc hbs.size _ | exact (below_drew hbs).alloc hbs.size _ | exact below_drew (hbs.alloc hbs.size _)) hv); (try have hbt := below_go2 (by first | exact hbt | exact below_drew hbt | exact hbt.alloc hbt.size _ | exact (below_drew hbt).alloc hbt.size _ | exact below_drew (hbt.alloc hbt.size _)) hv); have hb := below_go2 (by first | exact hb | exact below_drew hb | exact hb.alloc hb.size _ | exact (below_drew hb).alloc hb.size _ | exact below_drew (hb.alloc hb.size _)) hv; obtain ⟨x1, x2, x3⟩ := HX.out _ hb; have hzz := hb.size; (try have hz1 := hbs.size); (try have hz2 := hbt.size); (try (have za := (by first | exact AlAt.keep (by assumption) hv | exact AlAt.new (by first | (show w.heap.size < w1.heap.size; omega) | ((try simp); omega)) hv | exact AlAt.new (A := w1) (by omega) ((below_drew (Below.refl _ _)).trans hv) : AlAt w.heap.size wv _ _ _); (try (simp only [show ∀ q : World, q.drew.heap.size = q.heap.size from fun _ => rfl] at za)); have z0 := za.lo; have z1 := za.c0; have z2 := za.c1; have z3 := za.f0; have z4 := za.f1; have z5 := za.lt)))
      | (go_at_call 68; refine (HLA.out lw _ hfl (by first | exact hb | exact below_drew hb | exact hb.alloc hb.size _ | exact (below_drew hb).alloc hb.size _ | exact below_drew (hb.alloc hb.size _))).mono ?_; rintro e wv ⟨⟨s1, SH1, cs1, x, rfl, hs1, ho1, hn1, hn2⟩, hv⟩; (try have hbs := below_go2 (by first | exact hbs | exact below_drew hbs | exact hbs.alloc hbs.size _ | exact (below_drew hbs).alloc hbs.size _ | exact below_drew (hbs.alloc hbs.size _)) hv); (try have hbt := below_go2 (by first | exact hbt | exact below_drew hbt | exact hbt.alloc hbt.size _ | exact (below_drew hbt).alloc hbt.size _ | exact below_drew (hbt.alloc hbt.size _)) hv); have hb := below_go2 (by first | exact hb | exact below_drew hb | exact hb.alloc hb.size _ | exact (below_drew hb).alloc hb.size _ | exact below_drew (hb.alloc hb.size _)) hv; obtain ⟨x1, x2, x3⟩ := HX.out _ hb; have hzz := hb.size; (try have hz1 := hbs.size); (try have hz2 := hbt.size); (try (have za := (by first | exact AlAt.keep (by assumption) hv | exact AlAt.new (by first | (show w.heap.size < w1.heap.size; omega) | ((try simp); omega)) hv | exact AlAt.new (A := w1) (by omega) ((below_drew (Below.refl _ _)).trans hv) : AlAt w.heap.size wv _ _ _); (try (simp only [show ∀ q : World, q.drew.heap.size = q.heap.size from fun _ => rfl] at za)); have z0 := za.lo; have z1 := za.c0; have z2 := za.c1; have z3 := za.f0; have z4 := za.f1; have z5 := za.lt)); (try simp only [show ∀ q : World, q.drew.heap.size = q.heap.size from fun _ => rfl, World.size_alloc] at hn1 hn2); have g1 := hs1.bs; have g2 := hs1.bh; have HS1 := Lib.hid hs1; have HO1 := Lib.hid ho1; have hbs := Below.refl wv.heap.size wv; clear hs1 ho1)
      | (go_at_call 68; refine (HLA.out hg _ hfh (by first | exact hb | exact below_drew hb | exact hb.alloc hb.size _ | exact (below_drew hb).alloc hb.size _ | exact below_drew (hb.alloc hb.size _))).mono ?_; rintro e wv ⟨⟨s2, SH2, cs2, y, rfl, hs2, ho2, hn3, hn4⟩, hv⟩; (try have hbs := below_go2 (by first | exact hbs | exact below_drew hbs | exact hbs.alloc hbs.size _ | exact (below_drew hbs).alloc hbs.size _ | exact below_drew (hbs.alloc hbs.size _)) hv); (try have hbt := below_go2 (by first | exact hbt | exact below_drew hbt | exact hbt.alloc hbt.size _ | exact (below_drew hbt).alloc hbt.size _ | exact below_drew (hbt.alloc hbt.size _)) hv); have hb := below_go2 (by first | exact hb | exact below_drew hb | exact hb.alloc hb.size _ | exact (below_drew hb).alloc hb.size _ | exact below_drew (hb.alloc hb.size _)) hv; obtain ⟨x1, x2, x3⟩ := HX.out _ hb; have hzz := hb.size; (try have hz1 := hbs.size); (try have hz2 := hbt.size); (try (have za := (by first | exact AlAt.keep (by assumption) hv | exact AlAt.new (by first | (show w.heap.size < w1.heap.size; omega) | ((try simp); omega)) hv | exact AlAt.new (A := w1) (by omega) ((below_drew (Below.refl _ _)).trans hv) : AlAt w.heap.size wv _ _ _); (try (simp only [show ∀ q : World, q.drew.heap.size = q.heap.size from fun _ => rfl] at za)); have z0 := za.lo; have z1 := za.c0; have z2 := za.c1; have z3 := za.f0; have z4 := za.f1; have z5 := za.lt)); (try simp only [show ∀ q : World, q.drew.heap.size = q.heap.size from fun _ => rfl, World.size_alloc] at hn3 hn4); have g3 := hs2.bs; have g4 := hs2.bh; have HS2 := Lib.hid hs2; have HO2 := Lib.hid ho2; have hbt := Below.refl wv.heap.size wv; clear hs2 ho2))
    all_goals first
      | exact CONT _ s1 s2 _ (sp_alloc hb (HS1.out.below hbs) HO1.out (HS2.out.below hbt) HO2.out)
      | exact CONT _ s1 s2 _ (sp_set hb (by omega) z5 z1 z2 (HS1.out.below hbs) HO1.out (HS2.out.below hbt) HO2.out (by omega) (by omega) (by omega) (by omega))
  case hc =>
    intro B s1 s2 W3 hF
    have HF := Lib.hid hF
    have hsz3 := hF.hb.size
    clear hF
    obtain ⟨j0, hj, hj0, hj1, hj2⟩ := info_parts info61
    obtain ⟨n1', hn1'⟩ : ∃ nb, nb = W3.heap.size := ⟨_, rfl⟩
    obtain ⟨SH1, cs1, x, hs1, ho1⟩ := HF.out.v1
    obtain ⟨SH2, cs2, y, hs2, ho2⟩ := HF.out.v2
    have HS1 := Lib.hid hs1
    have HS2 := Lib.hid hs2
    have HO1 := Lib.hid ho1
    have HO2 := Lib.hid ho2
    have hb3 := HF.out.hb
    have HK : Hid (∀ w2, Below W3.heap.size W3 w2 → w2.cell? ⟨B, 0, none⟩ = some (.func (.func 80) #[.pointer (some ⟨s1, 0, none⟩)] #[]) ∧ w2.cell? ⟨B, 1, none⟩ = some (.func (.func 80) #[.pointer (some ⟨s2, 0, none⟩)] #[])) := Lib.hid fun w2 h => ⟨(HF.out.below h).c0, (HF.out.below h).c1⟩
    clear hs1 hs2 ho1 ho2 x1 x2 x3
    obtain ⟨x1, x2, x3⟩ := HX.out _ hb3
    dsimp only
    go_wp2
    go_loopw [9, 43] (fun v ii wr => ∃ k : Nat, k ≤ lo ∧ ii = .int .i64 (k : Int) ∧ wr.ownsRow W3.heap.size 61 2 v k (flat x y k) ∧ Below W3.heap.size W3 wr) (fun _ ii _ => lo - (Go.RowKit.intOf ii).toNat)
    case atStart => exact ⟨0, Nat.zero_le _, rfl, ⟨rfl, .inl ⟨rfl, rfl⟩⟩, Below.refl _ _⟩
    case round =>
      obtain ⟨k, hk, rfl, hown, hbw⟩ := hrel
      have HOW := Lib.hid hown
      have HBW := Lib.hid hbw
      obtain ⟨y1, y2⟩ := HK.out _ hbw
      have hsw := hbw.size
      clear hown hbw
      by_cases hlt : k < lo
      · have n1 : (k : Int) < (lo : Int) := by omega
        obtain ⟨q, hq⟩ : ∃ q, flat x y k = q := ⟨_, rfl⟩
        have HQ : Hid (flat x y (k + 1) = q ++ [.int .i64 (x k), .int .i64 (y k)]) := Lib.hid (by rw [← hq]; rfl)
        rw [hq] at HOW
        have A1 := Lib.hid (fun (w2 : World) (h : Below wr.heap.size wr w2) => share_w s1 SH1 k lo cs1 x w2 hlt (HS1.out.below (HBW.out.trans (h.mono hsw))).c3 ((HS1.out.below (HBW.out.trans (h.mono hsw))).sh k hlt))
        have A2 := Lib.hid (fun (w2 : World) (h : Below wr.heap.size wr w2) => share_w s2 SH2 k lo cs2 y w2 hlt (HS2.out.below (HBW.out.trans (h.mono hsw))).c3 ((HS2.out.below (HBW.out.trans (h.mono hsw))).sh k hlt))
        clear hq
        go_wp2
        go_region_law ((first
          | (go_simp; go_at_call_of 80 s1; refine (A1.out _ (by first | exact below_drew (Below.refl _ _))).mono ?_; rintro e w5 ⟨rfl, rfl⟩)
          | (go_simp; go_at_call_of 80 s2; refine (A2.out _ (by first | exact below_drew (Below.refl _ _))).mono ?_; rintro e w5 ⟨rfl, rfl⟩)
          | (refine step_append_lies _ rfl (.tmp 46) (.tmp 56) 56 rfl W3.heap.size 61 j0 _ 2 16 Tryz.underlying56 hj hj0 hj1 hj2 rfl (by decide) _ k _ rfl (by first | exact (HOW.out.drew.alloc _) | exact ((HOW.out.alloc _).alloc _).drew | exact ((HOW.out.alloc _).alloc _)) ⟨_, 0, none⟩ 1 1 [.int .i64 (x k), .int .i64 (y k)] rfl rfl (lies_two ⟨by simp, by simp⟩) (by intro u hu; simp at hu; rcases hu with rfl | rfl <;> rfl) (by decide) (by unfold maxLen; omega) (by omega) (by simp; omega) _ rfl ?_; intro g6 cap6 w6 hown6 hgrow6 hat6 hlt6; have hb6 : Below W3.heap.size W3 w6 := Below.grown (((below_drew HBW.out).alloc (by exact hsw) _)) hgrow6 (by simp; omega) (fun r e => own_ge HOW.out r e))))
        all_goals
          go_wp2
          go_roundw
          case rel => exact ⟨k + 1, by omega, by go_num, by rw [HQ.out]; exact hown6, hb6⟩
          case measure => simp [Go.RowKit.intOf]; omega
      · have n1 : ¬ (k : Int) < (lo : Int) := by omega
        have hkl : k = lo := by omega
        subst hkl
        go_wp2
        refine bodyPost_ret (v := .tuple #[u9, .int .i64 0]) (by simp [results, Tryz.results42, go_sem]) rfl ?_
        exact ⟨⟨_, rfl, ⟨x, y, spSl_of_owns HOW.out, HO1.out, HO2.out⟩⟩, HA.out.trans ((hb3.trans (HBW.out.mono hb3.size)).mono HA.out.size)⟩
end Go.Kn
