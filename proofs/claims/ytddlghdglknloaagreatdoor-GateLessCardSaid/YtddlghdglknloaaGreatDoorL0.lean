/- Contracts of functions that the laws of this seat call, or the evaluator of closed calls and its runs. Conditions: as each theorem states them. -/
import Derived.Test.YtddlghdglknloaaGreatDoorG3
set_option linter.unusedVariables false
set_option linter.unusedSimpArgs false
namespace Go.Kn
open Go Go.Proofs Go.RowKit

structure Dy where
  a : Option Addr
  n : Nat
  c : Nat
  s : Nat → Int
def Dy.v (d : Dy) : Value := .slice d.a d.n d.c
/-- a plan in memory -/
def PlAt (w : World) (A O lp : Nat) (D : Nat → Dy) : Prop := ∀ d, d < lp → w.cell? ⟨A, O + d, none⟩ = some (.slice (D d).a (D d).n (D d).c) ∧ IntSl w (D d).a (D d).n (D d).s
def PlSl (w : World) (pa : Option Addr) (lp : Nat) (D : Nat → Dy) : Prop := lp = 0 ∨ ∃ A O, pa = some ⟨A, O, none⟩ ∧ A < w.heap.size ∧ PlAt w A O lp D
theorem PlAt.below {w w1 : World} {A O lp : Nat} {D : Nat → Dy} (h : PlAt w A O lp D) (hA : A < w.heap.size) (hb : Below w.heap.size w w1) : PlAt w1 A O lp D := fun d hd => ⟨(hb.cell (p := ⟨A, O + d, none⟩) hA).trans (h d hd).1, (h d hd).2.below hb⟩
theorem PlSl.below {w w1 : World} {pa : Option Addr} {lp : Nat} {D : Nat → Dy} (h : PlSl w pa lp D) (hb : Below w.heap.size w w1) : PlSl w1 pa lp D := by
  rcases h with h | ⟨A, O, h1, h2, h3⟩
  · exact .inl h
  · exact .inr ⟨A, O, h1, Nat.lt_of_lt_of_le h2 hb.size, h3.below h2 hb⟩
theorem PlSl.day {w : World} {pa : Option Addr} {lp : Nat} {D : Nat → Dy} (h : PlSl w pa lp D) {d : Nat} (hd : d < lp) : IntSl w (D d).a (D d).n (D d).s := by
  rcases h with h | ⟨A, O, _, _, h3⟩
  · omega
  · exact (h3 d hd).2
/-- a list of days in a block of one's own, none of which lies there -/
structure OutSl (w : World) (base : Nat) (v : Value) (d : Nat) (E : Nat → Dy) : Prop where
  own : w.ownsRow base 26 1 v d (upto (fun x => Value.slice (E x).a (E x).n (E x).c) d)
  day : ∀ x, x < d → IntSl w (E x).a (E x).n (E x).s
  sep : ∀ x, x < d → (E x).n ≠ 0 → ∀ b o, (E x).a = some ⟨b, o, none⟩ → v.ownBlock ≠ some b
theorem OutSl.below {w w1 : World} {base d : Nat} {v : Value} {E : Nat → Dy} (h : OutSl w base v d E) (hb : Below w.heap.size w w1) : OutSl w1 base v d E :=
  ⟨owns_below h.own hb, fun x hx => (h.day x hx).below hb, h.sep⟩
/-- one day more -/
def cons1 (E : Nat → Dy) (d : Nat) (y : Dy) : Nat → Dy := fun x => if x = d then y else E x
theorem cons1_old {E : Nat → Dy} {d x : Nat} {y : Dy} (h : x < d) : cons1 E d y x = E x := by unfold cons1; rw [if_neg (by omega)]
theorem cons1_new {E : Nat → Dy} {d : Nat} {y : Dy} : cons1 E d y d = y := by unfold cons1; rw [if_pos rfl]
theorem OutSl.push {w w1 : World} {base d : Nat} {v v1 : Value} {E : Nat → Dy} {y : Dy} (h : OutSl w base v d E) (hg : w.grownBy w1 v.ownBlock) (ho : w1.ownsRow base 26 1 v1 (d + 1) (upto (fun x => Value.slice (E x).a (E x).n (E x).c) d ++ [.slice y.a y.n y.c]))
    (hat : v1.ownBlock = v.ownBlock ∨ v1.ownBlock = some w.heap.size) (hy : IntSl w y.a y.n y.s) (hsep : y.n ≠ 0 → ∀ b o, y.a = some ⟨b, o, none⟩ → v.ownBlock ≠ some b) : OutSl w1 base v1 (d + 1) (cons1 E d y) := by
  have hold : ∀ x, x < d → cons1 E d y x = E x := fun x hx => cons1_old hx
  refine ⟨?_, fun x hx => ?_, fun x hx => ?_⟩
  · have e : upto (fun x => Value.slice (cons1 E d y x).a (cons1 E d y x).n (cons1 E d y x).c) (d + 1) = upto (fun x => Value.slice (E x).a (E x).n (E x).c) d ++ [.slice y.a y.n y.c] := by
      rw [upto_succ, cons1_new]
      congr 1
      exact upto_congr fun i hi => by rw [hold i hi]
    rw [e]; exact ho
  · by_cases e : x = d
    · subst e; rw [cons1_new]; exact hy.grown hg hsep
    · rw [hold x (by omega)]; exact (h.day x (by omega)).grown hg (h.sep x (by omega))
  · have key : (cons1 E d y x).n ≠ 0 → ∀ b o, (cons1 E d y x).a = some ⟨b, o, none⟩ → v.ownBlock ≠ some b ∧ b < w.heap.size := by
      by_cases e : x = d
      · subst e; rw [cons1_new]
        intro h0 b o hb
        refine ⟨hsep h0 b o hb, ?_⟩
        obtain ⟨A, O, e2, hA, _⟩ := hy.resolve_left h0
        rw [hb] at e2; injection e2 with e2; injection e2 with e3; omega
      · rw [hold x (by omega)]
        intro h0 b o hb
        refine ⟨h.sep x (by omega) h0 b o hb, ?_⟩
        obtain ⟨A, O, e2, hA, _⟩ := (h.day x (by omega)).resolve_left h0
        rw [hb] at e2; injection e2 with e2; injection e2 with e3; omega
    intro h0 b o hb
    obtain ⟨k1, k2⟩ := key h0 b o hb
    rcases hat with h1 | h1
    · rw [h1]; exact k1
    · rw [h1]; intro e; injection e with e; omega
theorem OutSl.plan {w : World} {base d : Nat} {v : Value} {E : Nat → Dy} (h : OutSl w base v d E) : ∃ oo co, v = .slice oo d co ∧ PlSl w oo d E := by
  rcases h.own.2 with ⟨rfl, rfl⟩ | ⟨g, cap, cur, rfl, hb, hg, hn, hc, hs, hx⟩
  · exact ⟨none, 0, rfl, .inl rfl⟩
  · refine ⟨_, cap, rfl, ?_⟩
    by_cases h0 : d = 0
    · exact .inl h0
    refine .inr ⟨g, 0, rfl, (Array.getElem?_eq_some_iff.1 hg).1, fun x hxd => ⟨?_, h.day x hxd⟩⟩
    have hj : (upto (fun x => Value.slice (E x).a (E x).n (E x).c) d)[x]? = some (.slice (E x).a (E x).n (E x).c) := by simp [upto, hxd]
    rw [← hx, List.getElem?_take] at hj
    split at hj
    · simp only [Array.getElem?_toList] at hj
      rw [Nat.zero_add]
      simp [World.cell?, hg, hj]
    · cases hj

/-! all lists of some numbers with some length, as the specification makes them -/
def lsL : Nat → List Nat → List (List Nat)
  | 0, _ => [[]]
  | m + 1, l => (List.range (l.length - m)).flatMap fun i => (lsL m (l.drop (i + 1))).map (l.getD i 0 :: ·)
def lsF (m : Nat) (l : List Nat) (i : Nat) : List (List Nat) := (lsL m (l.drop (i + 1))).map (l.getD i 0 :: ·)
theorem lsL_succ (m : Nat) (l : List Nat) : lsL (m + 1) l = (List.range (l.length - m)).flatMap (lsF m l) := rfl
theorem lsL_iff : ∀ (m : Nat) (l L : List Nat), L ∈ lsL m l ↔ L.Sublist l ∧ L.length = m
  | 0, l, L => by
    simp only [lsL, List.mem_singleton]
    constructor
    · rintro rfl; exact ⟨List.nil_sublist _, rfl⟩
    · rintro ⟨_, h⟩; exact List.eq_nil_of_length_eq_zero h
  | m + 1, l, L => by
    rw [lsL_succ, List.mem_flatMap]
    constructor
    · rintro ⟨i, hi, hL⟩
      obtain ⟨K, hK, rfl⟩ := List.mem_map.1 hL
      obtain ⟨h1, h2⟩ := (lsL_iff m _ K).1 hK
      have hil : i < l.length := by have := List.mem_range.1 hi; omega
      refine ⟨?_, by simp [h2]⟩
      have e : l.getD i 0 = l[i] := by simp [hil]
      rw [e]
      have h3 : (l[i] :: K).Sublist (l.drop i) := by rw [List.drop_eq_getElem_cons hil]; exact h1.cons_cons _
      exact h3.trans (List.drop_sublist _ _)
    · rintro ⟨hs, hl⟩
      match L, hs, hl with
      | x :: K, hs, hl =>
        obtain ⟨r1, r2, rfl, hx, hK⟩ := List.cons_sublist_iff.1 hs
        obtain ⟨s, t, rfl⟩ := List.append_of_mem hx
        have hkl : K.length = m := by simpa using hl
        have hd : (s ++ x :: t ++ r2).drop (s.length + 1) = t ++ r2 := by simp
        have hK2 : K.Sublist (t ++ r2) := hK.trans (List.sublist_append_right _ _)
        have hle := hK2.length_le
        refine ⟨s.length, List.mem_range.2 (by simp at hle ⊢; omega), List.mem_map.2 ⟨K, (lsL_iff m _ K).2 ⟨by rw [hd]; exact hK2, hkl⟩, by simp⟩⟩
theorem lsL_len : ∀ (m : Nat) (l : List Nat), (lsL m l).length ≤ 2 ^ l.length
  | 0, l => Nat.one_le_two_pow
  | m + 1, l => by
    rw [lsL_succ]
    have key : ∀ k, k ≤ l.length → ((List.range k).flatMap (lsF m l)).length + 2 ^ (l.length - k) ≤ 2 ^ l.length := by
      intro k
      induction k with
      | zero => intro _; simp
      | succ k ih =>
        intro hk
        have h1 := ih (by omega)
        have h2 := lsL_len m (l.drop (k + 1))
        rw [List.length_drop] at h2
        have h3 : 2 ^ (l.length - k) = 2 ^ (l.length - (k + 1)) + 2 ^ (l.length - (k + 1)) := by
          have : l.length - k = (l.length - (k + 1)) + 1 := by omega
          rw [this, Nat.pow_succ]; omega
        rw [List.range_succ, List.flatMap_append, List.length_append]
        have h4 : ([k].flatMap (lsF m l)).length = (lsL m (l.drop (k + 1))).length := by simp [lsF]
        omega
    exact Nat.le_trans (Nat.le_add_right _ _) (key (l.length - m) (by omega))
def shL (l : List Nat) : List (List Nat) := (List.range (l.length + 1)).flatMap fun m => lsL m l
theorem shL_iff {l L : List Nat} : L ∈ shL l ↔ L.Sublist l := by
  unfold shL
  rw [List.mem_flatMap]
  constructor
  · rintro ⟨m, _, h⟩; exact ((lsL_iff m l L).1 h).1
  · intro h; exact ⟨L.length, List.mem_range.2 (by have := h.length_le; omega), (lsL_iff _ l L).2 ⟨h, rfl⟩⟩

/-- these slices hold these lists -/
def LsE (E : Nat → Dy) (Ls : List (List Nat)) : Prop := ∀ x, x < Ls.length → (E x).n = (Ls.getD x []).length ∧ (E x).s = lgI (Ls.getD x [])
/-- none of these slices lies in an old block -/
def FarE (E : Nat → Dy) (d B : Nat) : Prop := ∀ x, x < d → (E x).n ≠ 0 → ∀ b o, (E x).a = some ⟨b, o, none⟩ → B ≤ b
theorem LsE.push {E : Nat → Dy} {Ls : List (List Nat)} {L : List Nat} {a : Option Addr} {n c : Nat} (h : LsE E Ls) (hn : n = L.length) : LsE (cons1 E Ls.length ⟨a, n, c, lgI L⟩) (Ls ++ [L]) := by
  intro x hx
  rw [List.length_append] at hx
  by_cases e : x = Ls.length
  · subst e
    rw [cons1_new]
    simp [hn]
  · have hx2 : x < Ls.length := by simp at hx; omega
    rw [cons1_old hx2]
    have := h x hx2
    simp only [List.getD, List.getElem?_append_left hx2] at this ⊢
    exact this
theorem FarE.push {E : Nat → Dy} {d B : Nat} {y : Dy} (h : FarE E d B) (hy : y.n ≠ 0 → ∀ b o, y.a = some ⟨b, o, none⟩ → B ≤ b) : FarE (cons1 E d y) (d + 1) B := by
  intro x hx
  by_cases e : x = d
  · subst e; rw [cons1_new]; exact hy
  · rw [cons1_old (show x < d by omega)]; exact h x (by omega)
theorem info26 : (Tryz.prog.info? 26).map (fun i => (i.zero, i.size, i.bytes)) = some (some (.slice none 0 0), 1, 24) := by kernel_rfl
end Go.Kn

namespace Go.Kn
open Go Go.Proofs Go.RowKit

set_option maxRecDepth 100000 in
/-- a number before a list -/
theorem app_head {w2 : World} {base G q x : Nat} {sb : Option Addr} {sd : Nat} {K : List Nat} (hl : K.length = q) (hq : q ≤ 1000) (hb : base ≤ w2.heap.size) (ho : w2.ownsRow base 3 1 (.slice (some ⟨G, 0, none⟩) 1 1) 1 [.int .i64 (x : Int)]) (HS : IntSl w2 sb q (lgI K)) :
    ∃ v' w', (Builtin.append_ #[26, 26] 26 #[.slice (some ⟨G, 0, none⟩) 1 1, .slice sb q sd]).run Tryz.prog w2 = .ok v' w' ∧ ∃ s7 c7, v' = .slice s7 (1 + q) c7 ∧ IntSl w' s7 (1 + q) (lgI (x :: K)) ∧ (∀ b o, s7 = some ⟨b, o, none⟩ → base ≤ b) ∧ w2.grownBy w' (some G) := by
  obtain ⟨i0, hi0, hz0, hz1, hz2⟩ := info_parts info3'
  have key : ∀ (A2 : Addr), (∀ (j : Nat) (u : Value), (K.map iv1)[j]? = some u → w2.cell? (A2.add j) = some u) → ∃ v' w', (Builtin.append_ #[26, 26] 26 #[.slice (some ⟨G, 0, none⟩) 1 1, .slice (some A2) q sd]).run Tryz.prog w2 = .ok v' w' ∧ ∃ s7 c7, v' = .slice s7 (1 + q) c7 ∧ IntSl w' s7 (1 + q) (lgI (x :: K)) ∧ (∀ b o, s7 = some ⟨b, o, none⟩ → base ≤ b) ∧ w2.grownBy w' (some G) := by
    intro A2 hc
    obtain ⟨v', w', hr, h2, h3, _, h5⟩ := run_append_own_at (P := Tryz.prog) (w := w2) base 26 26 3 i0 (.int .i64 0) 1 8 Tryz.underlying26 hi0 hz0 hz1 hz2 rfl (by decide) (.slice (some ⟨G, 0, none⟩) 1 1) 1 [.int .i64 (x : Int)] ho A2 q sd (K.map iv1) (by simp [hl]) hc (fun u hu => by simp [iv1] at hu; obtain ⟨a, _, rfl⟩ := hu; rfl) (by unfold maxLen; omega) (by omega) hb
    have h6 : w'.ownsRow base 3 1 v' (1 + q) ((x :: K).map iv1) := by simpa [iv1] using h2
    obtain ⟨sa, sc, rfl, hsl, hge⟩ := dayNew h6
    exact ⟨_, w', hr, sa, sc, rfl, hsl, hge, h3⟩
  rcases HS with h0 | ⟨A2, O2, rfl, hA2, hN2⟩
  · subst h0
    have hl0 : K = [] := List.eq_nil_of_length_eq_zero hl
    subst hl0
    cases sb with
    | some A2 => exact key A2 (fun j u hu => by simp at hu)
    | none =>
      obtain ⟨sa, sc, e, hsl, hge⟩ := dayNew (L := [x]) (m := 1) (by simpa using ho)
      refine ⟨.slice (some ⟨G, 0, none⟩) 1 1, w2, ?_, some ⟨G, 0, none⟩, 1, rfl, ?_, ?_, World.grownBy.refl _ _⟩
      · simp [Builtin.append_, run_underlying Tryz.underlying26, sizeOf, typeInfo, hi0, Builtin.lenOf, Builtin.firstCells, loadCells, loadCellsFrom, storeCells]
      · cases e; exact hsl
      · cases e; exact hge
  · exact key ⟨A2, O2, none⟩ (fun j u hu => by
      have hj : j < K.length := by
        rcases Nat.lt_or_ge j K.length with h | h
        · exact h
        · rw [List.getElem?_eq_none (by simpa using h)] at hu; cases hu
      have hx := hN2 j (by rw [← hl]; exact hj)
      rw [List.getElem?_map, List.getElem?_eq_getElem hj] at hu
      injection hu with hu
      rw [← hu]
      rw [lgI_get hj] at hx
      by_cases hj0 : j = 0
      · subst hj0; simpa [Addr.add, iv1] using hx
      · simpa [Addr.add, iv1, hj0] using hx)
end Go.Kn

namespace Go.Kn
open Go Go.Proofs Go.RowKit

set_option maxRecDepth 100000 in
/-- a list more -/
theorem out_push {w2 : World} {base d G : Nat} {v : Value} {E : Nat → Dy} (y : Dy) (h : OutSl w2 base v d E) (hd : d ≤ 2000) (hb : base ≤ w2.heap.size) (hG : w2.cell? ⟨G, 0, none⟩ = some (.slice y.a y.n y.c)) (hy : IntSl w2 y.a y.n y.s) (hsep : y.n ≠ 0 → ∀ b o, y.a = some ⟨b, o, none⟩ → v.ownBlock ≠ some b) :
    ∃ v' w', (Builtin.append_ #[71, 71] 71 #[v, .slice (some ⟨G, 0, none⟩) 1 1]).run Tryz.prog w2 = .ok v' w' ∧ OutSl w' base v' (d + 1) (cons1 E d y) ∧ w2.grownBy w' v.ownBlock ∧ (v'.ownBlock = v.ownBlock ∨ v'.ownBlock = some w2.heap.size) := by
  obtain ⟨i0, hi0, hz0, hz1, hz2⟩ := info_parts info26
  obtain ⟨v', w', hr, h2, h3, _, h5⟩ := run_append_own_at (P := Tryz.prog) (w := w2) base 71 71 26 i0 (.slice none 0 0) 1 24 Tryz.underlying71 hi0 hz0 hz1 hz2 rfl (by decide) v d _ h.own ⟨G, 0, none⟩ 1 1 [.slice y.a y.n y.c] rfl (fun j u hu => by
    cases j with
    | zero => simp at hu; subst hu; simpa [Addr.add] using hG
    | succ j => simp at hu) (by intro u hu; simp at hu; subst hu; rfl) (by unfold maxLen; omega) (by omega) hb
  exact ⟨v', w', hr, h.push h3 h2 h5 hy hsep, h3, h5⟩

/-- lists that are read, none of which lies in the block that is written -/
structure RestOk (w : World) (v : Value) (oo : Option Addr) (R : Nat) (E : Nat → Dy) : Prop where
  pl : PlSl w oo R E
  s1 : R ≠ 0 → ∀ b o, oo = some ⟨b, o, none⟩ → v.ownBlock ≠ some b
  s2 : ∀ x, x < R → (E x).n ≠ 0 → ∀ b o, (E x).a = some ⟨b, o, none⟩ → v.ownBlock ≠ some b
theorem RestOk.below {w w1 : World} {v : Value} {oo : Option Addr} {R : Nat} {E : Nat → Dy} (h : RestOk w v oo R E) (hb : Below w.heap.size w w1) : RestOk w1 v oo R E := ⟨h.pl.below hb, h.s1, h.s2⟩
theorem RestOk.grown {w w1 : World} {v v1 : Value} {oo : Option Addr} {R : Nat} {E : Nat → Dy} (h : RestOk w v oo R E) (hg : w.grownBy w1 v.ownBlock) (hat : v1.ownBlock = v.ownBlock ∨ v1.ownBlock = some w.heap.size) : RestOk w1 v1 oo R E := by
  by_cases h0 : R = 0
  · exact ⟨.inl h0, fun h => absurd h0 h, fun x hx => by omega⟩
  · obtain ⟨A, O, rfl, hA, hp⟩ := h.pl.resolve_left h0
    have k1 := h.s1 h0 A O rfl
    refine ⟨.inr ⟨A, O, rfl, Nat.lt_of_lt_of_le hA hg.size, fun x hx => ⟨hg.cell (hp x hx).1 (fun e => k1 e.symm), (hp x hx).2.grown hg (h.s2 x hx)⟩⟩, fun _ b o e => ?_, fun x hx hn b o e => ?_⟩
    · cases e
      rcases hat with h1 | h1
      · rw [h1]; exact k1
      · rw [h1]; intro e2; injection e2 with e2; omega
    · have k2 := h.s2 x hx hn b o e
      obtain ⟨A2, O2, e2, hA2, _⟩ := (hp x hx).2.resolve_left hn
      rw [e] at e2; cases e2
      rcases hat with h1 | h1
      · rw [h1]; exact k2
      · rw [h1]; intro e2; injection e2 with e2; omega

/-- the lists of the first rounds -/
def lsP (m : Nat) (l : List Nat) (i : Nat) : List (List Nat) := (List.range i).flatMap (lsF m l)
theorem lsP_succ (m : Nat) (l : List Nat) (i : Nat) : lsP m l (i + 1) = lsP m l i ++ lsF m l i := by simp [lsP, List.range_succ, List.flatMap_append]
theorem lsF_len (m : Nat) (l : List Nat) (i : Nat) : (lsF m l i).length = (lsL m (l.drop (i + 1))).length := by simp [lsF]
theorem lsP_len {m : Nat} {l : List Nat} : ∀ {i k : Nat}, i ≤ k → (lsP m l i).length ≤ (lsP m l k).length := by
  intro i k h
  obtain ⟨d, rfl⟩ := Nat.le.dest h
  induction d with
  | zero => exact Nat.le_refl _
  | succ d ih => rw [Nat.add_succ, lsP_succ, List.length_append]; have := ih (by omega); omega
theorem lsF_next {m : Nat} {l : List Nat} {i k : Nat} (hk : k < (lsL m (l.drop (i + 1))).length) : (lsF m l i).take (k + 1) = (lsF m l i).take k ++ [l.getD i 0 :: (lsL m (l.drop (i + 1))).getD k []] := by
  have hk2 : k < (lsF m l i).length := by rw [lsF_len]; exact hk
  rw [List.take_add_one, List.getElem?_eq_getElem hk2]
  simp [lsF, hk]
end Go.Kn
