/- Walks of functions of layer 2 (contracts that the laws of this seat use). Conditions: as each theorem states them. -/
import Derived.Test.YtfjfipijogjkbaaGreatDoorEW
import Derived.Deep.QuietTactic
import Derived.Test.YtfjfipijogjkbaaGreatDoorEU
import Derived.Deep.RegionHeld3
import Derived.Shelf.RegionOpen
import Derived.Test.YtfjfipijogjkbaaGreatDoorES
import Derived.Deep.RegionLaw
set_option linter.unusedVariables false
set_option linter.unusedSimpArgs false
namespace Go.Kn
open Go Go.Proofs Go.RowKit

/-- The lexical walk, behind a door: so that nobody lays it open unasked. -/
structure Calm (P : Program) (ops : Array Oper) (C : World → Prop) (Q : Act → Prop) (l : List Oper) (a : Act) : Prop where
  out : wpQuiet P ops C Q l a

/-- One walk of the lexical order serves every order: the class of worlds in which nothing below a mark has changed. -/
theorem wp_region_calm {P : Program} {id : Nat} {Q : Exit → Act → World → Prop} {a : Act} {w W : World} {l : List Oper} (hm : P.follows .mixedOrders = true) (hB : Region.lexB .any l.toArray = true) (h0 : Below W.heap.size W w)
    (h : Calm P l.toArray (fun w' => Below W.heap.size W w') (fun a' => ∀ w', Below W.heap.size W w' → Q .normal a' w') l a) : (Code.region id l.toArray true).wp P Q a w :=
  wp_region_quiet (C := fun w' => Below W.heap.size W w') hm hB (below_drew h0) (by simpa using h.out)

theorem calm_nil {P : Program} {ops : Array Oper} {C : World → Prop} {Q : Act → Prop} {a : Act} (h : Q a) : Calm P ops C Q [] a := ⟨wpQuiet_nil h⟩

theorem calm_yes {P : Program} {ops : Array Oper} {C : World → Prop} {Q : Act → Prop} {a : Act} {o : Oper} {rest : List Oper} {v : Value} (hw : Region.wanted o (yielded ops a.tmps) = true)
    (h1 : ∀ w', C w' → o.quietAt P a C w' v) (h2 : Calm P ops C Q rest (a.put o.dst v)) : Calm P ops C Q (o :: rest) a := by
  refine ⟨?_⟩
  unfold wpQuiet
  rw [if_pos hw]
  exact ⟨v, h1, h2.out⟩

theorem calm_no {P : Program} {ops : Array Oper} {C : World → Prop} {Q : Act → Prop} {a : Act} {o : Oper} {rest : List Oper} (hw : Region.wanted o (yielded ops a.tmps) = false)
    (h2 : Calm P ops C Q rest (a.put o.dst undef)) : Calm P ops C Q (o :: rest) a := by
  refine ⟨?_⟩
  unfold wpQuiet
  rw [if_neg (by rw [hw]; decide)]
  exact h2.out
end Go.Kn

namespace Go.Kn
open Go Go.Proofs Go.RowKit Go.Shelf

/-- what the search for choices stands on: the world at its first call; its variables' blocks; the lists -/
structure GE where
  W0 : World
  m : Nat
  Bc : Nat
  Bs : Nat
  By : Nat
  Bk : Nat
  Bp : Nat
  Bu : Nat
  Bg : Nat
  A : Nat
  O : Nat
  ll : Nat
  cl : Nat
  C2 : Nat
  P2 : Nat
  kk : Nat
  ck : Nat
  G : Nat
  cg : Nat
  l : Nat
  len : Nat → Int
  c : Nat → Cl3
  sp : Nat → Sp2
  J : List Yd → World → Prop

/-- the blocks that nobody writes -/
def GE.keep (E : GE) (k : Nat) : Prop := k < E.W0.heap.size ∧ (k < E.m ∨ E.m + 5 ≤ k) ∧ k ≠ E.Bc ∧ k ≠ E.Bu
def GE.args (E : GE) (p : Int) : Array Value := #[.int .i64 p, .pointer (some ⟨E.Bc, 0, none⟩), .pointer (some ⟨E.Bs, 0, none⟩), .pointer (some ⟨E.By, 0, none⟩), .pointer (some ⟨E.Bk, 0, none⟩), .pointer (some ⟨E.Bp, 0, none⟩), .pointer (some ⟨E.Bu, 0, none⟩), .pointer (some ⟨E.Bg, 0, none⟩)]

structure GE.Ok (E : GE) : Prop where
  ks : E.keep E.Bs
  ky : E.keep E.By
  kk_ : E.keep E.Bk
  kp : E.keep E.Bp
  kg : E.keep E.Bg
  kA : E.keep E.A
  kC : E.keep E.C2
  kG : E.keep E.G
  cs : E.W0.cell? ⟨E.Bs, 3, none⟩ = some (.slice (some ⟨E.A, E.O, none⟩) E.ll E.cl)
  cy : E.W0.cell? ⟨E.By, 0, none⟩ = some (.func (.yield E.l) #[] #[])
  ck_ : E.W0.cell? ⟨E.Bk, 0, none⟩ = some (.slice (some ⟨E.C2, E.P2, none⟩) E.kk E.ck)
  cp : E.W0.cell? ⟨E.Bp, 0, none⟩ = some (.slice (some ⟨E.G, 0, none⟩) E.ll E.cg)
  cg_ : E.W0.cell? ⟨E.Bg, 0, none⟩ = some (.func (.func 96) #[] #[.pointer (some ⟨E.Bc, 0, none⟩), .pointer (some ⟨E.Bs, 0, none⟩), .pointer (some ⟨E.By, 0, none⟩), .pointer (some ⟨E.Bk, 0, none⟩), .pointer (some ⟨E.Bp, 0, none⟩), .pointer (some ⟨E.Bu, 0, none⟩), .pointer (some ⟨E.Bg, 0, none⟩)])
  num : NumAt E.W0 E.A E.O E.ll E.len
  cls : ClAt E.W0 E.C2 E.P2 E.kk E.c
  spn : SpAt E.W0 E.G 0 E.ll E.sp
  l1 : 1 ≤ E.ll
  l2 : E.ll ≤ 7
  k1 : 1 ≤ E.kk
  k2 : E.kk ≤ 4
  lok : ∀ i, i < E.ll → 1 ≤ E.len i ∧ E.len i ≤ 100
  cok : ClOk E.kk E.c
  bc1 : E.m + 5 ≤ E.Bc
  bc2 : E.Bc < E.W0.heap.size
  bu1 : E.m + 5 ≤ E.Bu
  bu2 : E.Bu < E.W0.heap.size
  bcu : E.Bc ≠ E.Bu
  hJ : ∀ s A B, E.J s A → Below (E.m + 5) A B → E.J s B
  hY : ∀ k pre x W1, E.J pre W1 → YieldAt Fence.wide k Tryz.prog E.l #[.agg #[x.v, .int .i64 x.q]] W1 fun e W' => e = .returned (.bool true) ∧ E.J (pre ++ [x]) W' ∧ KpM E.m W1 W'

/-- the search's state: what has been chosen and used, and what has been yielded -/
structure GE.St (E : GE) (W : World) (cs : List Nat) (U : Nat → Int) (ys : List Yd) : Prop where
  sz : E.W0.heap.size ≤ W.heap.size
  kp : ∀ k, E.keep k → W.heap[k]? = E.W0.heap[k]?
  ch : ∃ v, Boxed W E.Bc 22 v ∧ W.ownsRow E.W0.heap.size 3 1 v cs.length (cs.map fun j => .int .i64 (j : Nat)) ∧ ∀ y ∈ ys, v.ownBlock ≠ some y.g
  us : ∀ j, j < 4 → W.cell? ⟨E.Bu, j, none⟩ = some (.int .i64 (U j)) ∧ W.frozen? ⟨E.Bu, j, none⟩ = false
  yy : ∀ y ∈ ys, E.W0.heap.size ≤ y.g ∧ AtY W y
  J : E.J ys W

theorem GE.St.cell {E : GE} {W : World} {cs : List Nat} {U : Nat → Int} {ys : List Yd} (h : E.St W cs U ys) {b o : Nat} (hb : E.keep b) : W.cell? ⟨b, o, none⟩ = E.W0.cell? ⟨b, o, none⟩ := World.cell?_of_block (w := E.W0) (h.kp b hb)

/-- steps that write nothing that was there -/
theorem GE.St.below {E : GE} (ok : E.Ok) {W W' : World} {cs : List Nat} {U : Nat → Int} {ys : List Yd} (h : E.St W cs U ys) (hb : Below W.heap.size W W') : E.St W' cs U ys := by
  have hz := h.sz
  have z1 := ok.bc2
  have z2 := ok.bu2
  obtain ⟨v, h1, h2, h3⟩ := h.ch
  refine ⟨Nat.le_trans h.sz hb.size, fun k hk => (hb.block k (by have := hk.1; omega)).trans (h.kp k hk), ⟨v, boxed_below h1 hb h1.lt, owns_below h2 hb, h3⟩,
    fun j hj => ⟨(hb.cell (p := ⟨E.Bu, j, none⟩) (by simp only []; omega)).trans (h.us j hj).1, (hb.frozen (p := ⟨E.Bu, j, none⟩) (by simp only []; omega)).trans (h.us j hj).2⟩, fun y hy => ⟨(h.yy y hy).1, ?_⟩, ok.hJ _ _ _ h.J (hb.mono (by have := ok.bc1; omega))⟩
  have hy2 := (h.yy y hy).2
  exact ⟨Nat.lt_of_lt_of_le hy2.1 hb.size, fun i hi => (hb.cell (p := ⟨y.g, i, none⟩) hy2.1).trans (hy2.2 i hi)⟩

/-- a round of the caller's -/
theorem GE.St.round {E : GE} (ok : E.Ok) {W W' : World} {cs : List Nat} {U : Nat → Int} {ys : List Yd} {x : Yd} (h : E.St W cs U ys) (hk : KpM E.m W W') (hJ : E.J (ys ++ [x]) W') (hx1 : E.W0.heap.size ≤ x.g) (hx2 : AtY W x) (hx3 : ∀ v, Boxed W E.Bc 22 v → v.ownBlock ≠ some x.g) : E.St W' cs U (ys ++ [x]) := by
  have hz := h.sz
  have z0 := ok.bc1
  have z1 := ok.bc2
  have z2 := ok.bu2
  have z3 := ok.bu1
  obtain ⟨v, h1, h2, h3⟩ := h.ch
  have hbl : ∀ k, k < W.heap.size → (k < E.m ∨ E.m + 5 ≤ k) → W'.heap[k]? = W.heap[k]? := hk.2
  refine ⟨Nat.le_trans h.sz hk.1, fun k hk' => (hbl k (by have := hk'.1; omega) hk'.2.1).trans (h.kp k hk'), ⟨v, (hbl _ (by omega) (.inr z0)).trans h1, ?_, ?_⟩, fun j hj => ⟨(World.cell?_of_block (w := W) (hbl E.Bu (by omega) (.inr z3))).trans (h.us j hj).1, (World.frozen?_of_block (w := W) (hbl E.Bu (by omega) (.inr z3))).trans (h.us j hj).2⟩, ?_, hJ⟩
  · refine ⟨h2.1, ?_⟩
    rcases h2.2 with h4 | ⟨g, cap, cur, e1, e2, e3, e4⟩
    · exact .inl h4
    · exact .inr ⟨g, cap, cur, e1, e2, (hbl g (Array.getElem?_eq_some_iff.1 e3).1 (.inr (by omega))).trans e3, e4⟩
  · intro y hy
    rcases List.mem_append.1 hy with hy | hy
    · exact h3 y hy
    · simp at hy; subst hy; exact hx3 v h1
  · intro y hy
    rcases List.mem_append.1 hy with hy | hy
    · exact ⟨(h.yy y hy).1, (h.yy y hy).2.kp hk (by have := (h.yy y hy).1; omega)⟩
    · simp at hy; subst hy; exact ⟨hx1, hx2.kp hk (by omega)⟩

theorem cloneC2_w (B O cs : Nat) (c : List Nat) (n : Nat) (hcn : c.length = n) (hn1 : 1 ≤ c.length) (hn : c.length ≤ 1000000) (w : World) (hB : B < w.heap.size) (hc : ∀ j, j < c.length → w.cell? ⟨B, O + j, none⟩ = some (.int .i64 (c.getD j 0 : Nat))) :
    Calls Tryz.prog 97 #[.slice (some ⟨B, O, none⟩) n cs] w
      fun e w' => (∃ g cap, e = .returned (.slice (some ⟨g, 0, none⟩) n cap) ∧ w.heap.size ≤ g ∧ g < w'.heap.size ∧ ∀ j, j < c.length → w'.cell? ⟨g, j, none⟩ = some (.int .i64 (c.getD j 0 : Nat))) ∧ Below w.heap.size w w' := by
  subst hcn; exact cloneC_w B O cs c hn1 hn w hB hc

set_option maxRecDepth 100000 in
set_option maxHeartbeats 4000000 in
/-- where all is chosen: it is yielded -/
theorem goOn0_w (E : GE) (ok : Hid E.Ok) (cs : List Nat) (U : Nat → Int) (ys : List Yd) (p : Int) (W : World) (hl : cs.length = E.ll) (H : Hid (E.St W cs U ys)) :
    Calls Tryz.prog 96 (E.args p) W fun e W' => e = .returned (.bool true) ∧ ∃ zs, zs.map Yd.pr = [(cs, p)] ∧ E.St W' cs U (ys ++ zs) := by
  have q1 := (H.out.cell (o := 0) ok.out.ky).trans ok.out.cy
  have q2 := (H.out.cell (o := 3) ok.out.ks).trans ok.out.cs
  have l1 := ok.out.l1
  have l2 := ok.out.l2
  obtain ⟨v, h1, h2, h3⟩ := H.out.ch
  obtain ⟨sa, cap, rfl, hcl, hsl⟩ := intSl_of_owns (xs := cs.map fun j => ((j : Nat) : Int)) (by simpa [Function.comp_def] using h2)
  obtain ⟨D, F, rfl, hD, hn⟩ := hsl.resolve_left (by omega)
  have HN : Hid (∀ w', Below W.heap.size W w' → ∀ j, j < cs.length → w'.cell? ⟨D, F + j, none⟩ = some (.int .i64 (cs.getD j 0 : Nat))) := Lib.hid fun w' hb j hj => by
    rw [(hb.cell (p := ⟨D, F + j, none⟩) hD).trans (hn j hj)]
    simp [List.getD, hj]
  have q3 := h1.cell
  rw [hl] at q3
  have HL := Lib.hid hl
  have H1 := Lib.hid h1
  have l1' : 1 ≤ cs.length := by omega
  have l2' : cs.length ≤ 1000000 := by omega
  have hByw : E.By < W.heap.size := by have := ok.out.ky.1; have := H.out.sz; omega
  have hbd : Below W.heap.size W W.drew := (Below.refl _ _).drew
  have hDd : D < W.drew.heap.size := hD
  have hmB : E.m + 5 ≤ W.heap.size := by have := H.out.sz; have := ok.out.bc1; have := ok.out.bc2; omega
  clear hn hl h1 h2 h3 hcl
  refine (callsIn_wide (n := 6)).1 ?_
  refine callsIn_of_wp Tryz.func96 rfl trivial ?_ rfl
  simp only [GE.args, Tryz.ntmps96, List.size_toArray, List.length_cons, List.length_nil, Nat.reduceAdd, Nat.reduceSub, Array.replicate_succ, Array.replicate_zero, List.push_toArray, List.append_toArray, List.nil_append, List.cons_append]
  gi_wp2
  have hmx : Tryz.prog.follows .mixedOrders = true := by kernel_rfl
  gi_region_with_o (first
    | (refine ⟨trivial, ?_⟩; gi_at_call 97; refine (callsIn_wide.2 (cloneC2_w D F cap cs _ HL.out l1' l2' _ hDd (HN.out _ hbd))).mono ?_; rintro e w1 ⟨⟨g, cap2, rfl, hg1, hg2, hg3⟩, hb1⟩; have q1w := (hb1.cell (p := ⟨E.By, 0, none⟩) hByw).trans q1; have HB1 := Lib.hid hb1; have HG1 := Lib.hid hg1; have HG2 := Lib.hid hg2; have HG3 := Lib.hid hg3; clear hb1 hg1 hg2 hg3; obtain ⟨fn, tmps, assign, body, hy, hR⟩ := ok.out.hY 5 ys ⟨cs, p, g, cap2⟩ w1 (ok.out.hJ _ _ _ H.out.J ((hbd.trans (HB1.out.mono hbd.size)).mono hmB)); simp only [Yd.v, HL.out] at hy)
    | (refine hR.mono ?_; clear hR; rintro e W2 ⟨rfl, hJ2, hkp⟩))
  all_goals
    gi_wp2
    go_ret
    have hb2 := hbd.trans (HB1.out.mono hbd.size)
    have hs := (H.out.below ok.out hb2).round ok.out (x := ⟨cs, p, g, cap2⟩) hkp hJ2 (Nat.le_trans H.out.sz HG1.out) ⟨HG2.out, HG3.out⟩ (fun v hv => by
      have e := (boxed_below H1.out hb2 H1.out.lt).symm.trans hv
      simp only [Option.some.injEq, Obj.cells.injEq] at e
      have e2 : Value.slice (some ⟨D, F, none⟩) cs.length cap = v := by simpa using e
      subst e2
      simp only [Value.ownBlock, ne_eq, Option.some.injEq]
      have := HG1.out
      simp at this
      omega)
    exact ⟨rfl, [⟨cs, p, g, cap2⟩], rfl, hs⟩
end Go.Kn

namespace Go.Kn
open Go Go.Proofs Go.RowKit Go.Shelf

def GE.bu (E : GE) (j k : Nat) : Bool := decide ((E.c j).be < (E.sp k).hi)
def GE.stk (E : GE) (j : Nat) : Int := (E.c j).st
def GE.pri (E : GE) (j : Nat) : Int := (E.c j).pr

/-- the cells that a round reads -/
structure GE.Rd (E : GE) (w : World) (k m : Nat) : Prop where
  a : w.cell? ⟨E.Bp, 0, none⟩ = some (.slice (some ⟨E.G, 0, none⟩) E.ll E.cg)
  b : w.cell? ⟨E.G, k * 2, none⟩ = some (.int .i64 (E.sp k).lo)
  c : w.cell? ⟨E.G, k * 2 + 1, none⟩ = some (.int .i64 (E.sp k).hi)
  d : w.cell? ⟨E.C2, E.P2 + m * 3, none⟩ = some (.int .i64 (E.c m).be)
  e : w.cell? ⟨E.C2, E.P2 + m * 3 + 1, none⟩ = some (.int .i64 (E.c m).pr)
  f : w.cell? ⟨E.C2, E.P2 + m * 3 + 2, none⟩ = some (.int .i64 (E.c m).st)
  g : w.cell? ⟨E.Bg, 0, none⟩ = some (.func (.func 96) #[] #[.pointer (some ⟨E.Bc, 0, none⟩), .pointer (some ⟨E.Bs, 0, none⟩), .pointer (some ⟨E.By, 0, none⟩), .pointer (some ⟨E.Bk, 0, none⟩), .pointer (some ⟨E.Bp, 0, none⟩), .pointer (some ⟨E.Bu, 0, none⟩), .pointer (some ⟨E.Bg, 0, none⟩)])

theorem GE.St.rd {E : GE} (ok : E.Ok) {W : World} {cs : List Nat} {U : Nat → Int} {ys : List Yd} (h : E.St W cs U ys) {k m : Nat} (hk : k < E.ll) (hm : m < E.kk) : E.Rd W k m := by
  obtain ⟨s1, s2⟩ := ok.spn k hk
  simp only [Nat.zero_add] at s1 s2
  obtain ⟨c1, c2, c3⟩ := ok.cls m hm
  exact ⟨(h.cell ok.kp).trans ok.cp, (h.cell ok.kG).trans s1, (h.cell ok.kG).trans s2, (h.cell ok.kC).trans c1, (h.cell ok.kC).trans c2, (h.cell ok.kC).trans c3, (h.cell ok.kg).trans ok.cg_⟩

/-- a class more is chosen, and used -/
theorem GE.St.push {E : GE} (ok : E.Ok) {W w9 : World} {cs : List Nat} {U : Nat → Int} {ys : List Yd} (h : E.St W cs U ys) {v : Value} (h1 : Boxed W E.Bc 22 v) (h2 : W.ownsRow E.W0.heap.size 3 1 v cs.length (cs.map fun j => .int .i64 (j : Nat))) (h3 : ∀ y ∈ ys, v.ownBlock ≠ some y.g)
    {o : Obj} {g cap m : Nat} (hown : w9.ownsRow E.W0.heap.size 3 1 (.slice (some ⟨g, 0, none⟩) (cs.length + 1) cap) (cs.length + 1) ((cs.map fun j => .int .i64 (j : Nat)) ++ [.int .i64 (m : Nat)])) (hgrow : (W.drew.alloc o).grownBy w9 v.ownBlock) (hat : v.ownBlock = some g ∨ g = W.heap.size + 1) (hm : m < 4) (x : Int) :
    E.St ((w9.setCell ⟨E.Bc, 0, none⟩ (.slice (some ⟨g, 0, none⟩) (cs.length + 1) cap)).setCell ⟨E.Bu, m, none⟩ (.int .i64 x)) (cs ++ [m]) (updU U m x) ys := by
  have hz := h.sz
  have z0 := ok.bc1
  have z1 := ok.bc2
  have z2 := ok.bu2
  have z3 := ok.bu1
  have z4 := ok.bcu
  have hs9 : W.heap.size + 1 ≤ w9.heap.size := by have := hgrow.size; simpa using this
  have hB0 : ∀ k, k < W.heap.size → some k ≠ v.ownBlock → w9.heap[k]? = W.heap[k]? := fun k hk hne =>
    (hgrow.block k (by simp; omega) hne).trans (Below.heap_alloc _ _ _ hk)
  have hBo : ∀ k, k < E.W0.heap.size → some k ≠ v.ownBlock := fun k hk => own_ne h2 (.inl hk)
  have hB : ∀ k, k < W.heap.size → some k ≠ v.ownBlock → k ≠ E.Bc → k ≠ E.Bu → ((w9.setCell ⟨E.Bc, 0, none⟩ (.slice (some ⟨g, 0, none⟩) (cs.length + 1) cap)).setCell ⟨E.Bu, m, none⟩ (.int .i64 x)).heap[k]? = W.heap[k]? := fun k hk hne e1 e2 =>
    (Below.heap_setCell _ _ _ _ e2).trans ((Below.heap_setCell _ _ _ _ e1).trans (hB0 k hk hne))
  have hbx9 : Boxed w9 E.Bc 22 v := (hB0 _ (by omega) (hBo _ z1)).trans h1
  refine ⟨by simp [World.setCell]; omega, fun k hk => (hB k (by have := hk.1; omega) (hBo k hk.1) hk.2.2.1 hk.2.2.2).trans (h.kp k hk), ⟨_, (hbx9.set _).other1 (fun e => z4 e.symm) _, ?_, ?_⟩, fun j hj => ?_, fun y hy => ⟨(h.yy y hy).1, ?_⟩, ok.hJ _ _ _ h.J ?_⟩
  · have := ownsRow_setCell_below (a := ⟨E.Bu, m, none⟩) (ownsRow_setCell_below (a := ⟨E.Bc, 0, none⟩) hown z1 (.slice (some ⟨g, 0, none⟩) (cs.length + 1) cap)) z2 (.int .i64 x)
    simpa using this
  · intro y hy e
    simp only [Value.ownBlock, Option.some.injEq] at e
    rcases hat with h4 | h4
    · exact h3 y hy (by rw [h4, e])
    · have := (h.yy y hy).2.1; omega
  · have hc := h.us j hj
    have hb9 : w9.heap[E.Bu]? = W.heap[E.Bu]? := hB0 _ (by omega) (hBo _ z2)
    have c9 : (w9.setCell ⟨E.Bc, 0, none⟩ (.slice (some ⟨g, 0, none⟩) (cs.length + 1) cap)).cell? ⟨E.Bu, j, none⟩ = some (.int .i64 (U j)) := (World.cell?_setCell_other _ _ _ _ (by intro e; have := congrArg Addr.block e; simp only [] at this; omega)).trans ((World.cell?_of_block (w := W) hb9).trans hc.1)
    have f9 : w9.frozen? ⟨E.Bu, j, none⟩ = false := (World.frozen?_of_block (w := W) hb9).trans hc.2
    refine ⟨?_, by rw [World.frozen?_setCell, World.frozen?_setCell]; exact f9⟩
    by_cases e : j = m
    · subst e; rw [updU_self]; exact World.cell?_setCell_same' _ _ _ (by rw [c9]; rfl)
    · rw [updU_other e]; exact (World.cell?_setCell_other _ _ _ _ (fun h => by cases h; exact e rfl)).trans c9
  · have hy2 := (h.yy y hy).2
    have hy1 := (h.yy y hy).1
    have hb := hB y.g hy2.1 (fun e => h3 y hy e.symm) (by omega) (by omega)
    exact ⟨by simp [World.setCell]; have := hy2.1; omega, fun i hi => (World.cell?_of_block (w := W) hb).trans (hy2.2 i hi)⟩
  · exact ((((Below.refl _ _).drew.alloc (by show _ ≤ W.heap.size; omega) o).grown hgrow (by simp; omega) (fun r e => by have := own_ge h2 r e; omega)).setCell (p := ⟨E.Bc, 0, none⟩) z0 _).setCell (p := ⟨E.Bu, m, none⟩) z3 _

/-- and the last one is taken back -/
theorem GE.St.pop {E : GE} (ok : E.Ok) {W : World} {cs : List Nat} {U U' : Nat → Int} {ys : List Yd} {m : Nat} (h : E.St W (cs ++ [m]) U' ys) {g cap : Nat} (h1 : Boxed W E.Bc 22 (.slice (some ⟨g, 0, none⟩) (cs.length + 1) cap)) (hU : ∀ j, j < 4 → j ≠ m → U' j = U j) (hm : m < 4) :
    E.St ((W.setCell ⟨E.Bc, 0, none⟩ (.slice (some ⟨g, 0, none⟩) cs.length cap)).setCell ⟨E.Bu, m, none⟩ (.int .i64 (U m))) cs U ys := by
  have hz := h.sz
  have z0 := ok.bc1
  have z1 := ok.bc2
  have z2 := ok.bu2
  have z3 := ok.bu1
  have z4 := ok.bcu
  obtain ⟨v, g1, g2, g3⟩ := h.ch
  rw [show (cs ++ [m]).length = cs.length + 1 by simp] at g2
  obtain rfl : v = .slice (some ⟨g, 0, none⟩) (cs.length + 1) cap := by
    have := (show W.heap[E.Bc]? = _ from g1).symm.trans h1
    simpa using this
  have hB : ∀ k, k < W.heap.size → k ≠ E.Bc → k ≠ E.Bu → ((W.setCell ⟨E.Bc, 0, none⟩ (.slice (some ⟨g, 0, none⟩) cs.length cap)).setCell ⟨E.Bu, m, none⟩ (.int .i64 (U m))).heap[k]? = W.heap[k]? := fun k hk e1 e2 =>
    (Below.heap_setCell _ _ _ _ e2).trans (Below.heap_setCell _ _ _ _ e1)
  refine ⟨by simp [World.setCell]; omega, fun k hk => (hB k (by have := hk.1; omega) hk.2.2.1 hk.2.2.2).trans (h.kp k hk), ⟨_, (h1.set _).other1 (fun e => z4 e.symm) _, ?_, ?_⟩, fun j hj => ?_, fun y hy => ⟨(h.yy y hy).1, ?_⟩, ok.hJ _ _ _ h.J ?_⟩
  · refine ownsRow_setCell_below (a := ⟨E.Bu, m, none⟩) (ownsRow_setCell_below (a := ⟨E.Bc, 0, none⟩) ?_ z1 _) z2 _
    refine ⟨by simp, .inr ?_⟩
    rcases g2.2 with ⟨e, _⟩ | ⟨g', cap', cur, e, e1, e2, e3, e4, e5, e6⟩
    · cases e
    · cases e
      refine ⟨_, _, cur, rfl, e1, e2, by omega, e4, e5, ?_⟩
      have h7 := congrArg (List.take (cs.length * 1)) e6
      rw [List.take_take] at h7
      simp only [List.map_append, List.map_cons, List.map_nil, Nat.mul_one] at h7
      rw [Nat.min_eq_left (by omega), List.take_append_of_le_length (by simp)] at h7
      rw [Nat.mul_one, h7, List.take_of_length_le (by simp)]
  · intro y hy e
    exact g3 y hy (by simpa [Value.ownBlock] using e)
  · have hc := h.us j hj
    have c9 : (W.setCell ⟨E.Bc, 0, none⟩ (.slice (some ⟨g, 0, none⟩) cs.length cap)).cell? ⟨E.Bu, j, none⟩ = some (.int .i64 (U' j)) := (World.cell?_setCell_other _ _ _ _ (by intro e; have := congrArg Addr.block e; simp only [] at this; omega)).trans hc.1
    refine ⟨?_, by rw [World.frozen?_setCell, World.frozen?_setCell]; exact hc.2⟩
    by_cases e : j = m
    · subst e; exact World.cell?_setCell_same' _ _ _ (by rw [c9]; rfl)
    · rw [← hU j hj e]; exact (World.cell?_setCell_other _ _ _ _ (fun h => by cases h; exact e rfl)).trans c9
  · have hy2 := (h.yy y hy).2
    have hy1 := (h.yy y hy).1
    have hb := hB y.g hy2.1 (by omega) (by omega)
    exact ⟨by simp [World.setCell]; have := hy2.1; omega, fun i hi => (World.cell?_of_block (w := W) hb).trans (hy2.2 i hi)⟩
  · exact ((Below.refl _ _).setCell (p := ⟨E.Bc, 0, none⟩) z0 _).setCell (p := ⟨E.Bu, m, none⟩) z3 _

end Go.Kn

namespace Go.Kn
open Go Go.Proofs Go.RowKit Go.Shelf

set_option maxRecDepth 100000 in
set_option maxHeartbeats 4000000 in
theorem goOn_w (E : GE) (ok : Hid E.Ok) : ∀ (r : Nat) (cs : List Nat) (U : Nat → Int) (ys : List Yd) (p : Int) (W : World), cs.length + r = E.ll → Hid (∀ j, j < 4 → 0 ≤ U j ∧ U j ≤ 100 * cs.length) → 0 ≤ p → p ≤ 10000 * cs.length → Hid (E.St W cs U ys) →
    Calls Tryz.prog 96 (E.args p) W fun e W' => e = .returned (.bool true) ∧ ∃ zs, zs.map Yd.pr = ext E.kk E.bu E.len E.stk E.pri r cs U p ∧ E.St W' cs U (ys ++ zs) := by
  intro r
  induction r with
  | zero => intro cs U ys p W hl _ _ _ H; exact goOn0_w E ok cs U ys p W (by omega) H
  | succ r ih =>
    intro cs U ys p W hl hU hp1 hp2 H
    have IH := Lib.hid ih
    clear ih
    have l1 := ok.out.l1
    have l2 := ok.out.l2
    have k1 := ok.out.k1
    have k2 := ok.out.k2
    have q2 := (H.out.cell (o := 3) ok.out.ks).trans ok.out.cs
    have q4 := (H.out.cell (o := 0) ok.out.kk_).trans ok.out.ck_
    have hkl : cs.length < E.ll := by omega
    have q5 := (H.out.cell (o := E.O + cs.length) ok.out.kA).trans (ok.out.num cs.length hkl)
    obtain ⟨v, h1, h2, h3⟩ := H.out.ch
    obtain ⟨sa, cap, rfl, hcl, hsl⟩ := intSl_of_owns (xs := cs.map fun j => ((j : Nat) : Int)) (by simpa [Function.comp_def] using h2)
    have q3 := h1.cell
    obtain ⟨la, lb⟩ := ok.out.lok cs.length hkl
    have n1 : (0 : Int) ≤ (cs.length : Int) := by omega
    have n2 : (cs.length : Int) < (E.ll : Int) := by omega
    have n3 : ((cs.length : Int) == (E.ll : Int)) = false := by simp; omega
    clear hcl hsl h1 h2 h3
    obtain ⟨i0, hi, hz0', hz1, hz22⟩ := info_parts info3'
    simp only [GE.args]
    go_enter Tryz.func96, Tryz.ntmps96
    go_wp2
    go_loopw [34] (fun i wr => ∃ (m : Nat) (zs : List Yd), m ≤ E.kk ∧ i = .int .i64 m ∧ zs.map Yd.pr = extTo E.kk E.bu E.len E.stk E.pri r cs U p m ∧ E.St wr cs U (ys ++ zs)) (fun i _ => E.kk - (intOf i).toNat)
    case atStart => exact ⟨0, [], Nat.zero_le _, rfl, rfl, by simpa using H.out⟩
    case round =>
      obtain ⟨m, zs, hm, rfl, hzs, hst⟩ := hrel
      have HST := Lib.hid hst
      have HZS := Lib.hid hzs
      clear hst hzs
      by_cases hlt : m < E.kk
      case neg =>
        obtain rfl : m = E.kk := by omega
        go_wp2
        go_ret
        exact ⟨rfl, zs, by rw [ext_succ]; exact HZS.out, HST.out⟩
      have RD := HST.out.rd ok.out hkl hlt
      obtain ⟨r0, r1, r2, r3, r4, r5, r6⟩ := RD
      obtain ⟨u1, u2⟩ := HST.out.us m (by omega)
      have hz0 := HST.out.sz
      have hbu := ok.out.bu2
      obtain ⟨U1, U2⟩ := hU.out m (by omega)
      have hck := ok.out.cok m hlt
      simp only [clB, decide_eq_true_eq] at hck
      obtain ⟨g1, g2, g3, g4, g5, g6⟩ := hck
      have m1 : (0 : Int) ≤ (m : Int) := by omega
      have m2 : (m : Int) < (E.kk : Int) := by omega
      have m3 : (m : Int) < (4 : Int) := by omega
      have nw : IntKind.i64.wrap (U m + E.len cs.length) = U m + E.len cs.length := IntWalk.i64_in _ (by omega)
      obtain ⟨W1, hW1⟩ : ∃ W1, W1 = wr.alloc (.cells #[.int .i64 (E.c m).be, .int .i64 (E.c m).pr, .int .i64 (E.c m).st] 54) := ⟨_, rfl⟩
      have hB1 : Below wr.heap.size wr W1 := by rw [hW1]; exact (Below.refl _ _).alloc (Nat.le_refl _) _
      have HZ1 : Hid (W1.heap.size = wr.heap.size + 1) := Lib.hid (by rw [hW1]; simp)
      have FY : Hid (∀ w', Below W1.heap.size W1 w' → w'.cell? ⟨wr.heap.size, 0, none⟩ = some (.int .i64 (E.c m).be) ∧ w'.cell? ⟨wr.heap.size, 1, none⟩ = some (.int .i64 (E.c m).pr) ∧ w'.cell? ⟨wr.heap.size, 2, none⟩ = some (.int .i64 (E.c m).st) ∧ w'.cell? ⟨E.Bp, 0, none⟩ = some (.slice (some ⟨E.G, 0, none⟩) E.ll E.cg) ∧ w'.cell? ⟨E.G, cs.length * 2, none⟩ = some (.int .i64 (E.sp cs.length).lo) ∧ w'.cell? ⟨E.G, cs.length * 2 + 1, none⟩ = some (.int .i64 (E.sp cs.length).hi) ∧ w'.cell? ⟨E.Bu, m, none⟩ = some (.int .i64 (U m)) ∧ E.St w' cs U (ys ++ zs)) := Lib.hid fun w' h => by
        have hs := HST.out.below ok.out (hB1.trans (h.mono hB1.size))
        have rd := hs.rd ok.out hkl hlt
        have hz1 : wr.heap.size < W1.heap.size := by rw [hW1]; simp
        have q : ∀ b o, b < W1.heap.size → w'.cell? ⟨b, o, none⟩ = W1.cell? ⟨b, o, none⟩ := (bcell h).1
        exact ⟨(q _ _ hz1).trans (by rw [hW1]; simp), (q _ _ hz1).trans (by rw [hW1]; simp), (q _ _ hz1).trans (by rw [hW1]; simp), rd.a, rd.b, rd.c, (hs.us m (by omega)).1, hs⟩
      cases hbb : decide ((E.c m).be < (E.sp cs.length).hi)
      case «true» =>
        go_wp2
        rw [← hW1]
        clear hW1 r0 r1 r2 r3 r4 r5 r6 u1 u2
        refine wp_region_calm (W := W1) (by kernel_rfl) (by kernel_rfl) (Below.refl _ _) ?_
        repeat (first
          | (refine calm_no (by rfl) ?_
             (try simp only [Act.put, List.setIfInBounds_toArray, List.set_cons_zero, List.set_cons_succ]))
          | (apply calm_yes
             focus rfl
             focus
               intro w' hw'
               obtain ⟨t0, t1, t2, t3, t4, t5, t6, t7⟩ := FY.out w' hw'
               go_simp
               first
                 | done
                 | with_reducible rfl
                 | (go_at_call 58; refine (canBurst_w _ _ _ _ _ _).mono ?_; rw [hbb]; rintro e w8 ⟨rfl, hb8⟩; exact ⟨rfl, hw'.trans (hb8.mono hw'.size)⟩)
             (try simp only [Act.put, List.setIfInBounds_toArray, List.set_cons_zero, List.set_cons_succ])))
        refine calm_nil ?_
        intro w8 hb8r
        obtain ⟨t0, t1, t2, t3, t4, t5, t6, t7⟩ := FY.out _ hb8r
        have HS8 := Lib.hid t7
        clear t0 t1 t2 t3 t4 t5 t6 t7
        go_wp2
        go_roundw
        case rel => exact ⟨m + 1, zs, by omega, by go_num, by rw [extTo_skip (by simp only [GE.bu, hbb, Bool.true_or])]; exact HZS.out, HS8.out⟩
        case measure => simp [intOf]; omega
      case «false» =>
        by_cases h2 : (E.c m).st < U m + E.len cs.length
        · go_wp2
          rw [← hW1]
          clear hW1 r0 r1 r2 r3 r4 r5 r6 u1 u2
          refine wp_region_calm (W := W1) (by kernel_rfl) (by kernel_rfl) (Below.refl _ _) ?_
          repeat (first
            | (refine calm_no (by rfl) ?_
               (try simp only [Act.put, List.setIfInBounds_toArray, List.set_cons_zero, List.set_cons_succ]))
            | (apply calm_yes
               focus rfl
               focus
                 intro w' hw'
                 obtain ⟨t0, t1, t2, t3, t4, t5, t6, t7⟩ := FY.out w' hw'
                 go_simp
                 first
                   | done
                   | with_reducible rfl
                   | (go_at_call 58; refine (canBurst_w _ _ _ _ _ _).mono ?_; rw [hbb]; rintro e w8 ⟨rfl, hb8⟩; exact ⟨rfl, hw'.trans (hb8.mono hw'.size)⟩)
               (try simp only [Act.put, List.setIfInBounds_toArray, List.set_cons_zero, List.set_cons_succ])))
          refine calm_nil ?_
          intro w8 hb8r
          obtain ⟨t0, t1, t2, t3, t4, t5, t6, t7⟩ := FY.out _ hb8r
          have HS8 := Lib.hid t7
          clear t0 t1 t2 t3 t4 t5 t6 t7
          go_wp2
          go_roundw
          case rel => exact ⟨m + 1, zs, by omega, by go_num, by rw [extTo_skip (by simp only [GE.bu, GE.stk, hbb, Bool.false_or]; exact decide_eq_true h2)]; exact HZS.out, HS8.out⟩
          case measure => simp [intOf]; omega
        · have h2' : ¬ (E.c m).st < U m + E.len cs.length := h2
          go_wp2
          rw [← hW1]
          clear hW1 r0 r1 r2 r3 r4 r5 r6 u1 u2
          refine wp_region_calm (W := W1) (by kernel_rfl) (by kernel_rfl) (Below.refl _ _) ?_
          repeat (first
            | (refine calm_no (by rfl) ?_
               (try simp only [Act.put, List.setIfInBounds_toArray, List.set_cons_zero, List.set_cons_succ]))
            | (apply calm_yes
               focus rfl
               focus
                 intro w' hw'
                 obtain ⟨t0, t1, t2, t3, t4, t5, t6, t7⟩ := FY.out w' hw'
                 go_simp
                 first
                   | done
                   | with_reducible rfl
                   | (go_at_call 58; refine (canBurst_w _ _ _ _ _ _).mono ?_; rw [hbb]; rintro e w8 ⟨rfl, hb8⟩; exact ⟨rfl, hw'.trans (hb8.mono hw'.size)⟩)
               (try simp only [Act.put, List.setIfInBounds_toArray, List.set_cons_zero, List.set_cons_succ])))
          refine calm_nil ?_
          intro w8 hb8r
          obtain ⟨t0, t1, t2, t3, t4, t5, t6, t7⟩ := FY.out _ hb8r
          have HS8 := Lib.hid t7
          have hbr8 : Below wr.heap.size wr w8 := hB1.trans (hb8r.mono hB1.size)
          obtain ⟨v8, a1, a2, a3⟩ := HST.out.ch
          have b1 := boxed_below a1 hbr8 a1.lt
          have b2 := owns_below a2 hbr8
          have hne3 : some wr.heap.size ≠ v8.ownBlock := own_ne a2 (.inr (Nat.le_refl _))
          have hsz8 : wr.heap.size < w8.heap.size := by
            have h5 := hb8r.size
            have h6 : W1.heap.size = wr.heap.size + 1 := by have := HZ1.out; exact this
            omega
          obtain ⟨w1, w2⟩ := t7.us m (by omega)
          have c1 := b1.cell
          have c2 := b1.frozen
          have HB1 := Lib.hid b1
          have HB2 := Lib.hid b2
          have HB3 := Lib.hid a3
          clear a1 a2 a3
          clear t0 t2 t3 t4 t5 t6 t7 b1 b2
          go_wp2
          have hz8 : E.W0.heap.size ≤ w8.heap.size := HS8.out.sz
          have hbc2 := ok.out.bc2
          have hown8 : Hid (∀ o : Obj, (w8.drew.alloc o).ownsRow E.W0.heap.size 3 1 v8 cs.length (cs.map fun j => .int .i64 (j : Nat))) := Lib.hid fun o => owns_below HB2.out ((Below.refl _ _).drew.alloc (by simp) o)
          have HBA : Hid (∀ o : Obj, Below w8.heap.size w8 (w8.drew.alloc o)) := Lib.hid fun o => (Below.refl _ _).drew.alloc (by simp) o
          have hA1 : ∀ o : Obj, (w8.alloc o).cell? ⟨E.Bu, m, none⟩ = some (.int .i64 (U m)) := fun o => (World.cell?_alloc_lt _ _ ⟨E.Bu, m, none⟩ (by simp only []; omega)).trans w1
          have hA2 : ∀ o : Obj, (w8.alloc o).cell? ⟨E.Bc, 0, none⟩ = some v8 := fun o => (World.cell?_alloc_lt _ _ ⟨E.Bc, 0, none⟩ (by simp only []; omega)).trans c1
          have hne1 := own_ne HB2.out (.inl hbc2)
          have hne2 := own_ne HB2.out (.inl hbu)
          have hcu : E.Bc ≠ E.Bu := ok.out.bcu
          have hcu' : ¬ E.Bu = E.Bc := fun e => hcu e.symm
          have hb100 := mul_bd (a := E.len cs.length) (b := (E.c m).pr) (A := 100) (B := 100) (by omega) lb g3 g4
          have NX1 : Hid (-9223372036854775808 ≤ E.len cs.length * (E.c m).pr ∧ E.len cs.length * (E.c m).pr ≤ 9223372036854775807) := Lib.hid (by omega)
          have NX2 : Hid (-9223372036854775808 ≤ p + E.len cs.length * (E.c m).pr ∧ p + E.len cs.length * (E.c m).pr ≤ 9223372036854775807) := Lib.hid (by omega)
          have hl2 : (cs ++ [m]).length + r = E.ll := by simp; omega
          have hp3 : 0 ≤ p + E.len cs.length * (E.c m).pr := by omega
          have hp4 : p + E.len cs.length * (E.c m).pr ≤ 10000 * ((cs ++ [m]).length : Nat) := by simp; omega
          have HU2 : Hid (∀ j, j < 4 → 0 ≤ updU U m (U m + E.len cs.length) j ∧ updU U m (U m + E.len cs.length) j ≤ 100 * ((cs ++ [m]).length : Nat)) := Lib.hid fun j hj => by
            have hj2 := hU.out j hj
            simp only [List.length_append, List.length_singleton]
            by_cases e : j = m
            · subst e; rw [updU_self]; omega
            · rw [updU_other e]; omega
          clear hb100
          go_region_law ((refine step_append_lies _ (by rfl) (.tmp 56) (.tmp 58) 22 (by rfl) E.W0.heap.size 3 i0 _ 1 8 Tryz.underlying22 hi hz0' hz1 hz22 rfl (by decide) v8 cs.length _ (by rfl) (hown8.out _) ⟨_, 0, none⟩ 1 1 [.int .i64 (m : Int)] (by rfl) rfl (one_lies (W := w8.drew) _ _) (by intro u hu; simp at hu; subst hu; rfl) (by decide) (by unfold maxLen; omega) (by omega) (by simp; omega) (w8.heap.size + 1) (by simp) ?_; intro g cap w9 hown9 hgrow9 hat9 hlt9; have e1 := (hgrow9.cell_far ⟨E.Bc, 0, none⟩ (by simp; omega) hne1).trans ((World.cell?_alloc_lt _ _ ⟨E.Bc, 0, none⟩ (by simp; omega)).trans c1); have e2 := (hgrow9.frozen_far ⟨E.Bc, 0, none⟩ (by simp; omega) hne1).trans ((HBA.out _).frozen (p := ⟨E.Bc, 0, none⟩) (by simp only []; omega) |>.trans c2); have e3 := (hgrow9.cell_far ⟨E.Bu, m, none⟩ (by simp; omega) hne2).trans ((World.cell?_alloc_lt _ _ ⟨E.Bu, m, none⟩ (by simp; omega)).trans w1); have e4 := (hgrow9.frozen_far ⟨E.Bu, m, none⟩ (by simp; omega) hne2).trans ((HBA.out _).frozen (p := ⟨E.Bu, m, none⟩) (by simp only []; omega) |>.trans w2); have e5 := (fun u => (World.cell?_setCell_other w9 ⟨E.Bc, 0, none⟩ ⟨E.Bu, m, none⟩ u (by intro e; have := congrArg Addr.block e; simp only [] at this; omega)).trans e3); have e7 := (hgrow9.cell_far ⟨wr.heap.size, 1, none⟩ (by simp; omega) hne3).trans ((World.cell?_alloc_lt _ _ ⟨wr.heap.size, 1, none⟩ (by simp; omega)).trans t1)))
          all_goals
            have hp := HS8.out.push ok.out HB1.out HB2.out HB3.out hown9 hgrow9 hat9 (by omega) (U m + E.len cs.length)
            obtain ⟨W2, hW2⟩ : ∃ W2, W2 = ((w9.setCell ⟨E.Bc, 0, none⟩ (.slice (some ⟨g, 0, none⟩) (cs.length + 1) cap)).setCell ⟨E.Bu, m, none⟩ (.int .i64 (U m + E.len cs.length))) := ⟨_, rfl⟩
            have d1 : W2.cell? ⟨wr.heap.size, 1, none⟩ = some (.int .i64 (E.c m).pr) := by
              rw [hW2]
              refine (World.cell?_setCell_other _ _ _ _ (by intro e; have := congrArg Addr.block e; simp only [] at this; omega)).trans ((World.cell?_setCell_other _ _ _ _ (by intro e; have := congrArg Addr.block e; simp only [] at this; omega)).trans e7)
            rw [← hW2] at hp ⊢
            have HP := Lib.hid hp
            have d2 := (hp.cell (o := 0) ok.out.kg).trans ok.out.cg_
            clear hW2 hp e1 e2 e3 e4 e5 e7 c1 c2 w1 w2 hA1 hA2 hown9 hgrow9 hat9 hlt9
            have nx1 : IntKind.i64.wrap (E.len cs.length * (E.c m).pr) = E.len cs.length * (E.c m).pr := IntWalk.i64_in _ NX1.out
            have nx2 : IntKind.i64.wrap (p + E.len cs.length * (E.c m).pr) = p + E.len cs.length * (E.c m).pr := IntWalk.i64_in _ NX2.out
            go_wp2_with (go_at_call 96; refine (IH.out (cs ++ [m]) (updU U m (U m + E.len cs.length)) (ys ++ zs) (p + E.len cs.length * (E.c m).pr) _ hl2 HU2 hp3 hp4 HP).mono ?_; rintro e w10 ⟨rfl, zs2, hzs2, hst2⟩)
            obtain ⟨v10, f1, f2, f3⟩ := hst2.ch
            rw [show (cs ++ [m]).length = cs.length + 1 by simp] at f2
            obtain ⟨g10, cap10, rfl⟩ := ownsRow_succ f2
            have hcap : cs.length + 1 ≤ cap10 := by
              rcases f2.2 with ⟨e, _⟩ | ⟨_, _, _, e, _, _, h9, _⟩
              · cases e
              · cases e; exact h9
            have x1 := f1.cell
            have x2 := f1.frozen
            obtain ⟨x3, x4⟩ := hst2.us m (by omega)
            rw [updU_self] at x3
            have x5 := (fun u => (World.cell?_setCell_other w10 ⟨E.Bc, 0, none⟩ ⟨E.Bu, m, none⟩ u (by intro e; have := congrArg Addr.block e; simp only [] at this; omega)).trans x3)
            have hp9 := (hst2.pop ok.out f1 (U := U) (fun j hj e => updU_other e) (by omega)).below ok.out (Below.refl _ _).drew
            rw [List.append_assoc] at hp9
            have HP9 := Lib.hid hp9
            have HZ2 := Lib.hid hzs2
            have nx5 : IntKind.i64.wrap (U m) = U m := IntWalk.i64_in _ (by omega)
            have y1 : (0 : Int) ≤ (cs.length : Int) := by omega
            have y2 : (cs.length : Int) ≤ (cap10 : Int) := by omega
            clear hp9 hzs2 hst2 f1 f2 f3 d1 d2 nx1 nx2
            go_region_law (fail)
            all_goals
              go_wp2
              go_roundw
              case rel => exact ⟨m + 1, zs ++ zs2, by omega, by go_num, by rw [extTo_go (by simp only [GE.bu, GE.stk, hbb, Bool.false_or]; exact decide_eq_false (by omega)), List.map_append, HZS.out, HZ2.out]; rfl, HP9.out⟩
              case measure => simp [intOf]; omega
end Go.Kn
