/- Contracts of functions that the laws of this seat call, or the evaluator of closed calls and its runs. Conditions: as each theorem states them. -/
import Derived.Lib.Hide
import Derived.Test.YtddlghdglknloaaGreatDoorProg
import Derived.WalkKit
import Derived.WalkSpells
import Derived.WalkLawsBesides
import Derived.Deep.QuietTactic
import Derived.BigQuiet
import Derived.WalkSmall
import Derived.OwnWalk
import Derived.Deep.RegionWith
import Derived.Deep.RegionHeld3
import Derived.Deep.AppendLies
import Derived.Lib.AppendIntMem
import Derived.RangeFuncNested
import Derived.RangeFuncLeaves
import Derived.Deep.Quiet
import Derived.OrdersIn
import Derived.RangeFuncCalls
import Derived.RangeFuncBound
import Derived.Lib.SliceRun
import Derived.Laws.EntriesVeiled
import Derived.Deep.RegionLaw
set_option linter.unusedVariables false
set_option linter.unusedSimpArgs false
namespace Go.Kn

def fromB (a b c : Int) : Bool := decide (a ≤ c ∧ c ≤ b)
/-- a point: its spring's Low and High, its Need -/
structure P8 where
  lo : Int
  hi : Int
  nd : Int
/-- a channel: from, to, how much it carries, whether it has a gate -/
structure C8 where
  fr : Int
  to : Int
  cu : Int
  ga : Bool
def ptB (x : P8) : Bool := fromB 0 10000 x.lo && fromB x.lo 10000 x.hi && fromB 0 10000 x.nd
def chB (lp : Nat) (x : C8) : Bool := fromB 0 ((lp : Int) - 1) x.fr && fromB 0 ((lp : Int) - 1) x.to && decide (x.fr ≠ x.to) && fromB 0 10000 x.cu
/-- how many of the first are right -/
def cntN (p : Nat → Bool) : Nat → Nat
  | 0 => 0
  | k + 1 => cntN p k + (if p k then 1 else 0)
def allN (B : Nat → Bool) : Nat → Bool
  | 0 => true
  | k + 1 => allN B k && B k
theorem allN_iff {B : Nat → Bool} : ∀ k, allN B k = true ↔ ∀ i, i < k → B i = true
  | 0 => by simp [allN]
  | k + 1 => by
    simp only [allN, Bool.and_eq_true, allN_iff k]
    constructor
    · rintro ⟨h1, h2⟩ i hi
      by_cases e : i = k
      · subst e; exact h2
      · exact h1 i (by omega)
    · intro h
      exact ⟨fun i hi => h i (by omega), h k (by omega)⟩
theorem allN_no {B : Nat → Bool} {k m : Nat} (hk : k < m) (h : B k = false) : allN B m = false := by
  cases hb : allN B m with
  | false => rfl
  | true => rw [(allN_iff m).1 hb k hk] at h; cases h
theorem allN_next {B : Nat → Bool} {k : Nat} (h : allN B k = true) (hk : B k = true) : allN B (k + 1) = true := by simp [allN, h, hk]
/-- a network that is as defined -/
structure NetP (lp : Nat) (P : Nat → P8) (lc : Nat) (C : Nat → C8) : Prop where
  l1 : 1 ≤ lp
  l7 : lp ≤ 7
  c10 : lc ≤ 10
  pt : ∀ i, i < lp → ptB (P i) = true
  ch : ∀ k, k < lc → chB lp (C k) = true
  g7 : cntN (fun k => (C k).ga) lc ≤ 7
theorem NetP.p {lp : Nat} {P : Nat → P8} {lc : Nat} {C : Nat → C8} (h : NetP lp P lc C) {i : Nat} (hi : i < lp) : 0 ≤ (P i).lo ∧ (P i).lo ≤ (P i).hi ∧ (P i).hi ≤ 10000 ∧ 0 ≤ (P i).nd ∧ (P i).nd ≤ 10000 := by
  have := h.pt i hi
  simp only [ptB, fromB, Bool.and_eq_true, decide_eq_true_eq] at this
  omega
theorem NetP.c {lp : Nat} {P : Nat → P8} {lc : Nat} {C : Nat → C8} (h : NetP lp P lc C) {k : Nat} (hk : k < lc) : 0 ≤ (C k).fr ∧ (C k).fr < lp ∧ 0 ≤ (C k).to ∧ (C k).to < lp ∧ (C k).fr ≠ (C k).to ∧ 0 ≤ (C k).cu ∧ (C k).cu ≤ 10000 := by
  have := h.ch k hk
  simp only [chB, fromB, Bool.and_eq_true, decide_eq_true_eq] at this
  omega

/-! sums -/
def sumL (g : Nat → Int) : List Nat → Int
  | [] => 0
  | x :: l => g x + sumL g l
def sumN (g : Nat → Int) : Nat → Int
  | 0 => 0
  | k + 1 => sumN g k + g k
theorem sumL_app (g : Nat → Int) : ∀ (a b : List Nat), sumL g (a ++ b) = sumL g a + sumL g b
  | [], b => by simp [sumL]
  | x :: a, b => by simp only [List.cons_append, sumL, sumL_app g a b]; omega
theorem sumL_bd {g : Nat → Int} {m : Int} (hm : 0 ≤ m) : ∀ (l : List Nat), (∀ x ∈ l, -m ≤ g x ∧ g x ≤ m) → -(m * l.length) ≤ sumL g l ∧ sumL g l ≤ m * l.length
  | [], _ => by simp [sumL]
  | x :: l, h => by
    have h1 := h x List.mem_cons_self
    have h2 := sumL_bd hm l fun y hy => h y (List.mem_cons_of_mem _ hy)
    simp only [sumL, List.length_cons]
    push_cast
    rw [Int.mul_add]
    omega
theorem sumN_bd {g : Nat → Int} {m : Int} : ∀ (k : Nat), (∀ i, i < k → 0 ≤ g i ∧ g i ≤ m) → 0 ≤ sumN g k ∧ sumN g k ≤ m * k
  | 0, _ => by simp [sumN]
  | k + 1, h => by
    have h1 := h k (by omega)
    have h2 := sumN_bd k fun i hi => h i (by omega)
    simp only [sumN]
    push_cast
    rw [Int.mul_add]
    omega
/-- a list of ints, summed -/
def sumI : List Int → Int
  | [] => 0
  | x :: l => x + sumI l
theorem sumI_app : ∀ (a b : List Int), sumI (a ++ b) = sumI a + sumI b
  | [], b => by simp [sumI]
  | x :: a, b => by simp only [List.cons_append, sumI, sumI_app a b]; omega
theorem sumI_map (g : Nat → Int) : ∀ l : List Nat, sumI (l.map g) = sumL g l
  | [] => rfl
  | x :: l => by simp only [List.map_cons, sumI, sumL, sumI_map g l]

/-! what can come to some points -/
def leftV (P : Nat → P8) (h : Bool) (i : Nat) : Int := (if h then (P i).hi else (P i).lo) - (P i).nd
def carV (C : Nat → C8) (op : Nat → Bool) (k : Nat) : Int := if (C k).ga && !op k then 0 else (C k).cu
/-- whether a number is one of a list's -/
def memI (L : List Nat) (x : Int) : Bool := L.any fun i => decide ((i : Int) = x)
def inV (C : Nat → C8) (L : List Nat) (k : Nat) : Bool := memI L (C k).to && !memI L (C k).fr
def spareV (P : Nat → P8) (lc : Nat) (C : Nat → C8) (op : Nat → Bool) (h : Bool) (L : List Nat) : Int :=
  sumL (leftV P h) L + sumN (fun k => if inV C L k then carV C op k else 0) lc

/-! all lists of some numbers, as they are gone through -/
def forL : List Nat → List Nat → List (List Nat)
  | _, [] => []
  | pre, x :: t => (pre ++ [x]) :: (forL (pre ++ [x]) t ++ forL pre t)
def allLs (l : List Nat) : List (List Nat) := [] :: forL [] l
/-- whether a network is fed: no list is a cut -/
def fedV (lp : Nat) (P : Nat → P8) (lc : Nat) (C : Nat → C8) (op : Nat → Bool) (h : Bool) : Bool := (allLs (List.range lp)).all fun L => decide (0 ≤ spareV P lc C op h L)
theorem forL_sub : ∀ (t pre : List Nat) (L : List Nat), L ∈ forL pre t → ∃ r, L = pre ++ r ∧ r.Sublist t ∧ r ≠ []
  | [], _, _, h => by cases h
  | x :: t, pre, L, h => by
    rw [forL] at h
    rcases List.mem_cons.1 h with e | h
    · exact ⟨[x], e, List.Sublist.cons_cons x (List.nil_sublist t), by simp⟩
    · rcases List.mem_append.1 h with h | h
      · obtain ⟨r, e, hs, _⟩ := forL_sub t _ L h
        exact ⟨x :: r, by rw [e]; simp, List.Sublist.cons_cons x hs, by simp⟩
      · obtain ⟨r, e, hs, hn⟩ := forL_sub t _ L h
        exact ⟨r, e, List.Sublist.cons x hs, hn⟩
theorem allLs_sub {l L : List Nat} (h : L ∈ allLs l) : L.Sublist l := by
  rcases List.mem_cons.1 h with e | h
  · rw [e]; exact List.nil_sublist l
  · obtain ⟨r, e, hs, _⟩ := forL_sub _ _ _ h
    rw [e]; simpa using hs
theorem forL_of : ∀ (t pre r : List Nat), r.Sublist t → r ≠ [] → pre ++ r ∈ forL pre t
  | [], pre, r, h, hn => by cases h; exact (hn rfl).elim
  | x :: t, pre, r, h, hn => by
    rw [forL]
    cases h with
    | cons _ h => exact List.mem_cons_of_mem _ (List.mem_append_right _ (forL_of t pre r h hn))
    | cons_cons _ h =>
      rename_i r'
      by_cases e : r' = []
      · subst e; exact List.mem_cons_self
      · exact List.mem_cons_of_mem _ (List.mem_append_left _ (by have := forL_of t (pre ++ [x]) r' h e; simpa using this))
theorem allLs_of {l L : List Nat} (h : L.Sublist l) : L ∈ allLs l := by
  by_cases e : L = []
  · subst e; exact List.mem_cons_self
  · exact List.mem_cons_of_mem _ (by simpa using forL_of l [] L h e)
theorem allLs_iff {l L : List Nat} : L ∈ allLs l ↔ L.Sublist l := ⟨allLs_sub, allLs_of⟩
end Go.Kn

namespace Go.Kn
open Go Go.Proofs Go.RowKit

theorem bcell {W w1 : World} (hb : Below W.heap.size W w1) : (∀ b o, b < W.heap.size → w1.cell? ⟨b, o, none⟩ = W.cell? ⟨b, o, none⟩) ∧ (∀ b o, b < W.heap.size → w1.frozen? ⟨b, o, none⟩ = W.frozen? ⟨b, o, none⟩) :=
  ⟨fun b o h => hb.cell (p := ⟨b, o, none⟩) h, fun b o h => hb.frozen (p := ⟨b, o, none⟩) h⟩

theorem below_al {w w1 : World} {o : Obj} (h : Below (w.alloc o).heap.size (w.alloc o) w1) : Below w.heap.size w w1 :=
  ((Below.refl _ _).alloc (Nat.le_refl _) _).trans (h.mono (by simp))

def NumAt (w : World) (A O ls : Nat) (s : Nat → Int) : Prop := ∀ i, i < ls → w.cell? ⟨A, O + i, none⟩ = some (.int .i64 (s i))

theorem NumAt.below {w w1 : World} {A O ls : Nat} {s : Nat → Int} (h : NumAt w A O ls s) (hA : A < w.heap.size) (hb : Below w.heap.size w w1) : NumAt w1 A O ls s := fun i hi => (hb.cell (p := ⟨A, O + i, none⟩) hA).trans (h i hi)

/-- a boxed line, in any world that comes later -/
theorem box_cells {w w1 : World} {x y : Value} {T : TypeId} (hb : Below (w.alloc (.cells #[x, y] T)).heap.size (w.alloc (.cells #[x, y] T)) w1) :
    w1.cell? ⟨w.heap.size, 0, none⟩ = some x ∧ w1.cell? ⟨w.heap.size, 1, none⟩ = some y ∧ w.heap.size < w1.heap.size := by
  obtain ⟨hc, _⟩ := bcell hb
  refine ⟨(hc _ _ (by simp)).trans (by simp), (hc _ _ (by simp)).trans (by simp), ?_⟩
  have := hb.size
  simp at this; omega

/-- what has come when k rounds are over -/
def upto {α : Type} (f : Nat → α) (k : Nat) : List α := (List.range k).map f

theorem upto_succ {α : Type} (f : Nat → α) (k : Nat) : upto f (k + 1) = upto f k ++ [f k] := by simp [upto, List.range_succ]

theorem upto_length {α : Type} (f : Nat → α) (k : Nat) : (upto f k).length = k := by simp [upto]

def IntSl (w : World) (sa : Option Addr) (ls : Nat) (s : Nat → Int) : Prop := ls = 0 ∨ ∃ A O, sa = some ⟨A, O, none⟩ ∧ A < w.heap.size ∧ NumAt w A O ls s

theorem IntSl.below {w w1 : World} {sa : Option Addr} {ls : Nat} {s : Nat → Int} (h : IntSl w sa ls s) (hb : Below w.heap.size w w1) : IntSl w1 sa ls s := by
  rcases h with h | ⟨A, O, h1, h2, h3⟩
  · exact .inl h
  · exact .inr ⟨A, O, h1, Nat.lt_of_lt_of_le h2 hb.size, h3.below h2 hb⟩

theorem below_drewM {B : Nat} {a w : World} (h : Below B a w) (n : Nat) : Below B a (w.drewN n) := h.trans ⟨rfl, rfl, rfl, Nat.le_refl _, fun _ _ => rfl⟩

theorem own_ne {W : World} {n0 e size k B : Nat} {v : Value} {xs : List Value} (h : W.ownsRow n0 e size v k xs) (hB : B < n0 ∨ W.heap.size ≤ B) : some B ≠ v.ownBlock := by
  rcases h.2 with ⟨rfl, _⟩ | ⟨g, cap, cur, rfl, hb, hg, _⟩
  · simp [Value.ownBlock]
  · intro e'
    obtain rfl : B = g := by simpa [Value.ownBlock] using e'
    have := (Array.getElem?_eq_some_iff.1 hg).1
    omega

theorem own_ge {W : World} {n0 e size k : Nat} {v : Value} {xs : List Value} (h : W.ownsRow n0 e size v k xs) (r : Nat) (hr : v.ownBlock = some r) : n0 ≤ r := by
  rcases h.2 with ⟨rfl, _⟩ | ⟨g, cap, cur, rfl, hb, hg, _⟩
  · simp [Value.ownBlock] at hr
  · obtain rfl : g = r := by simpa [Value.ownBlock] using hr
    exact hb

theorem intSl_of_owns {w : World} {base n : Nat} {v : Value} {xs : List Int} (h : w.ownsRow base 3 1 v n (xs.map (Value.int .i64))) :
    ∃ sa cap, v = .slice sa n cap ∧ n = xs.length ∧ IntSl w sa n (fun i => xs.getD i 0) := by
  have hl : n = xs.length := by have := h.1; simp at this; omega
  rcases h.2 with ⟨rfl, rfl⟩ | ⟨g, cap, cur, rfl, hb, hg, hn, hc, hs, hx⟩
  · exact ⟨none, 0, rfl, hl, .inl rfl⟩
  · refine ⟨_, cap, rfl, hl, ?_⟩
    by_cases h0 : n = 0
    · exact .inl h0
    refine .inr ⟨g, 0, rfl, (Array.getElem?_eq_some_iff.1 hg).1, fun i hi => ?_⟩
    have hj : (xs.map (Value.int .i64))[i]? = some (.int .i64 (xs.getD i 0)) := by
      have hi' : i < xs.length := by omega
      simp [List.getD, hi']
    rw [← hx] at hj
    rw [List.getElem?_take] at hj
    split at hj
    · simp only [Array.getElem?_toList] at hj
      simp [World.cell?, hg, hj]
    · cases hj

theorem one_lies {W : World} (x : Value) (T : TypeId) : ∀ (j : Nat) (u : Value), [x][j]? = some u → (W.alloc (.cells #[x] T)).cell? ((⟨W.heap.size, 0, none⟩ : Addr).add j) = some u := by
  intro j u h
  match j, h with
  | 0, h => simp at h; subst h; simp [Addr.add]

theorem own_base {w : World} {b b' e size n : Nat} {v : Value} {xs : List Value} (h : w.ownsRow b e size v n xs) (hb : b' ≤ b) : w.ownsRow b' e size v n xs := by
  refine ⟨h.1, ?_⟩
  rcases h.2 with h2 | ⟨g, cap, cur, h1, h2, h3⟩
  · exact .inl h2
  · exact .inr ⟨g, cap, cur, h1, by omega, h3⟩

theorem owns_below {w w1 : World} {base e size n : Nat} {v : Value} {xs : List Value} (h : w.ownsRow base e size v n xs) (hb : Below w.heap.size w w1) : w1.ownsRow base e size v n xs := by
  refine ⟨h.1, ?_⟩
  rcases h.2 with h2 | ⟨g, cap, cur, h1, h2, h3, h4⟩
  · exact .inl h2
  · exact .inr ⟨g, cap, cur, h1, h2, (hb.block g (Array.getElem?_eq_some_iff.1 h3).1).trans h3, h4⟩

theorem lies_any {W : World} {b : Nat} {x : Value} (h : W.cell? ⟨b, 0, none⟩ = some x) : ∀ (j : Nat) (u : Value), [x][j]? = some u → W.cell? ((⟨b, 0, none⟩ : Addr).add j) = some u := by
  intro j u hj
  match j, hj with
  | 0, hj => simp at hj; subst hj; exact h

theorem al_top {W : World} {n : Nat} (hn : W.heap.size = n) (x : Value) (T : TypeId) : (W.alloc (.cells #[x] T)).cell? ⟨n, 0, none⟩ = some x := by subst hn; simp

structure Stop (p : Prop) : Prop where
  out : p

theorem stopAt {p : Prop} (h : Stop p) : p := h.out

theorem own_lit {w : World} {base : Nat} (hb : base ≤ w.heap.size) (x : Value) (T : TypeId) : (w.alloc (.cells #[x] T)).ownsRow base T 1 (.slice (some ⟨w.heap.size, 0, none⟩) 1 1) 1 [x] := by
  refine ⟨by simp, .inr ⟨w.heap.size, 1, #[x], rfl, hb, (by show (w.heap.push _)[w.heap.size]? = _; simp), by decide, by decide, by simp, by simp⟩⟩

theorem vals_of_owns {w : World} {base e n : Nat} {v : Value} {xs : List Value} (h : w.ownsRow base e 1 v n xs) (h0 : n ≠ 0) :
    ∃ G cap, v = .slice (some ⟨G, 0, none⟩) n cap ∧ n ≤ cap ∧ base ≤ G ∧ G < w.heap.size ∧ ∀ (j : Nat) (x : Value), xs[j]? = some x → w.cell? ⟨G, j, none⟩ = some x := by
  rcases h.2 with ⟨rfl, rfl⟩ | ⟨g, cap, cur, rfl, hb, hg, hn, hc, hs, hx⟩
  · exact (h0 rfl).elim
  · refine ⟨g, cap, rfl, by omega, hb, (Array.getElem?_eq_some_iff.1 hg).1, fun i x hj => ?_⟩
    rw [← hx, List.getElem?_take] at hj
    split at hj
    · simp only [Array.getElem?_toList] at hj
      simp [World.cell?, hg, hj]
    · cases hj

theorem below_drew {B : Nat} {a w : World} (h : Below B a w) : Below B a w.drew := h.trans ⟨rfl, rfl, rfl, Nat.le_refl _, fun _ _ => rfl⟩

/-- The lexical walk, behind a door: so that nobody lays it open unasked. -/
structure Calm (P : Program) (ops : Array Oper) (C : World → Prop) (Q : Act → Prop) (l : List Oper) (a : Act) : Prop where
  out : wpQuiet P ops C Q l a

/-- One walk of the lexical order serves every order: the class of worlds in which nothing below a mark has changed. -/
theorem wp_region_calm {P : Program} {id : Nat} {Q : Exit → Act → World → Prop} {a : Act} {w W : World} {l : List Oper} (hm : P.follows .mixedOrders = true) (hB : Region.lexB .any l.toArray = true) (h0 : Below W.heap.size W w)
    (h : Calm P l.toArray (fun w' => Below W.heap.size W w') (fun a' => ∀ w', Below W.heap.size W w' → Q .normal a' w') l a) : (Code.region id l.toArray true).wp P Q a w :=
  wp_region_quiet (C := fun w' => Below W.heap.size W w') hm hB (below_drew h0) (by simpa using h.out)

theorem calm_nil {P : Program} {ops : Array Oper} {C : World → Prop} {Q : Act → Prop} {a : Act} (h : Q a) : Calm P ops C Q [] a := ⟨wpQuiet_nil h⟩

theorem calm_yes {P : Program} {ops : Array Oper} {C : World → Prop} {Q : Act → Prop} {a : Act} {o : Oper} {rest : List Oper} {v : Value} (hw : Region.wanted o (yielded ops a.tmps) = true)
    (h1 : ∀ w', C w' → o.quietAt P a C w' v) (h2 : Calm P ops C Q rest (a.put o.dst v)) : Calm P ops C Q (o :: rest) a := by
  refine ⟨?_⟩
  unfold wpQuiet
  rw [if_pos hw]
  exact ⟨v, h1, h2.out⟩

theorem calm_no {P : Program} {ops : Array Oper} {C : World → Prop} {Q : Act → Prop} {a : Act} {o : Oper} {rest : List Oper} (hw : Region.wanted o (yielded ops a.tmps) = false)
    (h2 : Calm P ops C Q rest (a.put o.dst undef)) : Calm P ops C Q (o :: rest) a := by
  refine ⟨?_⟩
  unfold wpQuiet
  rw [if_neg (by rw [hw]; decide)]
  exact h2.out

/-- the cells of these blocks are as they were -/
def KpB (bs : List Nat) (A B : World) : Prop := ∀ b ∈ bs, ∀ o, B.cell? ⟨b, o, none⟩ = A.cell? ⟨b, o, none⟩ ∧ B.frozen? ⟨b, o, none⟩ = A.frozen? ⟨b, o, none⟩

theorem KpB.trans {bs : List Nat} {A B C : World} (h : KpB bs A B) (k : KpB bs B C) : KpB bs A C := fun b hb o => ⟨(k b hb o).1.trans (h b hb o).1, (k b hb o).2.trans (h b hb o).2⟩

/-- all blocks that were there are as they were, but for some -/
structure Frx (X : List Nat) (A B : World) : Prop where
  os : B.os = A.os
  tape : B.tape = A.tape
  output : B.output = A.output
  size : A.heap.size ≤ B.heap.size
  block : ∀ k, k < A.heap.size → k ∉ X → B.heap[k]? = A.heap[k]?

theorem Frx.refl (X : List Nat) (A : World) : Frx X A A := ⟨rfl, rfl, rfl, Nat.le_refl _, fun _ _ _ => rfl⟩

theorem Frx.trans {X : List Nat} {A B C : World} (h : Frx X A B) (k : Frx X B C) : Frx X A C :=
  ⟨k.os.trans h.os, k.tape.trans h.tape, k.output.trans h.output, Nat.le_trans h.size k.size, fun i hi hx => (k.block i (Nat.lt_of_lt_of_le hi h.size) hx).trans (h.block i hi hx)⟩

theorem Frx.of_below {X : List Nat} {A B : World} (h : Below A.heap.size A B) : Frx X A B := ⟨h.os, h.tape, h.output, h.size, fun k hk _ => h.block k hk⟩

theorem Frx.sub {X Y : List Nat} {A B : World} (h : Frx X A B) (hs : ∀ k ∈ X, k < A.heap.size → k ∈ Y) : Frx Y A B := ⟨h.os, h.tape, h.output, h.size, fun k hk hx => h.block k hk (fun e => hx (hs k e hk))⟩

theorem Frx.setCell (X : List Nat) (A : World) (b o : Nat) (v : Value) (hb : b ∈ X) : Frx X A (A.setCell ⟨b, o, none⟩ v) :=
  ⟨rfl, rfl, rfl, by simp [World.setCell], fun k _ hx => Below.heap_setCell _ _ _ _ (fun e => hx (e ▸ hb))⟩

theorem Frx.cell {X : List Nat} {A B : World} (h : Frx X A B) {b o : Nat} (hb : b < A.heap.size) (hx : b ∉ X) : B.cell? ⟨b, o, none⟩ = A.cell? ⟨b, o, none⟩ := World.cell?_of_block (w := A) (h.block b hb hx)

theorem Frx.froz {X : List Nat} {A B : World} (h : Frx X A B) {b o : Nat} (hb : b < A.heap.size) (hx : b ∉ X) : B.frozen? ⟨b, o, none⟩ = A.frozen? ⟨b, o, none⟩ := World.frozen?_of_block (w := A) (h.block b hb hx)

/-- what lies below all of them is as it was -/
theorem Frx.below {X : List Nat} {A B : World} (h : Frx X A B) {n : Nat} (hn : n ≤ A.heap.size) (hX : ∀ k ∈ X, n ≤ k) : Below n A B := ⟨h.os, h.tape, h.output, h.size, fun k hk => h.block k (Nat.lt_of_lt_of_le hk hn) (fun e => by have := hX k e; omega)⟩

theorem info3' : (Tryz.prog.info? 3).map (fun i => (i.zero, i.size, i.bytes)) = some (some (.int .i64 0), 1, 8) := by kernel_rfl

/-- n numbers, all 0 -/
def zc (n : Nat) : Array Value := madeCells #[.int .i64 0] (n * 1)

theorem zc_size (n : Nat) : (zc n).size = n := by simp [zc, size_madeCells]

theorem zc_get {n i : Nat} (h : i < n) : (zc n)[i]? = some (.int .i64 0) := by
  have e : (zc n).toList = List.replicate (n * 1) (.int .i64 0) := toList_madeCells_one _ _
  rw [← Array.getElem?_toList, e, List.getElem?_replicate, if_pos (by omega)]

theorem zc_cell (w : World) {n i : Nat} (h : i < n) : (w.alloc (.cells (zc n) 3)).cell? ⟨w.heap.size, i, none⟩ = some (.int .i64 0) ∧ (w.alloc (.cells (zc n) 3)).frozen? ⟨w.heap.size, i, none⟩ = false := by
  have hg : (w.alloc (.cells (zc n) 3)).heap[w.heap.size]? = some (.cells (zc n) 3) := by
    show (w.heap.push _)[w.heap.size]? = _
    simp
  have hz := zc_get h
  have hs := zc_size n
  constructor
  · unfold World.cell?; simp only []; rw [hg]; simpa using hz
  · unfold World.frozen?; simp only []; rw [hg]; simp

theorem mk_w (n : Nat) (hn : n ≤ 1000) (w : World) : (Instr.makeSlice 26 (.int .i64 (n : Int)) (.int .i64 (n : Int))).run Tryz.prog w = .ok (.slice (some ⟨w.heap.size, 0, none⟩) n n) (w.alloc (.cells (zc n) 3)) := by
  obtain ⟨i0, hi, hz, h1, h2⟩ := info_parts info3'
  have h := run_makeSlice (P := Tryz.prog) w 26 3 i0 (.int .i64 0) Tryz.underlying26 hi hz .i64 .i64 (n : Int) (n : Int) (by omega) (Int.le_refl _) (by rw [h1]; simp; omega) (by rw [h2]; omega) (by omega)
  have hc : (Value.int .i64 0).cells = #[.int .i64 0] := rfl
  rw [h1, hc] at h
  simpa [zc] using h

theorem iw (n : Nat) (h : n ≤ 1000) : IntKind.i64.wrap (1 + (n : Int)) = 1 + (n : Int) := by
  simp [IntKind.wrap, IntKind.signed, IntKind.bits]
  omega

theorem kpB_of_below {bs : List Nat} {W W' : World} (h : ∀ b ∈ bs, b < W.heap.size) (hb : Below W.heap.size W W') : KpB bs W W' := fun b hbb o => ⟨hb.cell (p := ⟨b, o, none⟩) (h b hbb), hb.frozen (p := ⟨b, o, none⟩) (h b hbb)⟩

theorem Frx.of_belowN {X : List Nat} {A B : World} {m : Nat} (hn : A.heap.size ≤ m) (h : Below m A B) : Frx X A B := ⟨h.os, h.tape, h.output, h.size, fun k hk _ => h.block k (by omega)⟩

theorem Frx.then_below {X : List Nat} {A B C : World} (h : Frx X A B) (k : Below A.heap.size B C) : Frx X A C := ⟨k.os.trans h.os, k.tape.trans h.tape, k.output.trans h.output, Nat.le_trans h.size k.size, fun i hi hx => (k.block i hi).trans (h.block i hi hx)⟩

theorem cutSl {w : World} {B m : Nat} {v : Value} {L : List Nat} (h : w.ownsRow B 3 1 v m (L.map (fun k => Value.int .i64 ((k : Nat) : Int)))) : ∃ sa cc, v = .slice sa m cc ∧ IntSl w sa m (fun i => ((L.getD i 0 : Nat) : Int)) := by
  have h' : w.ownsRow B 3 1 v m ((L.map (fun k => ((k : Nat) : Int))).map (Value.int .i64)) := by rw [List.map_map]; exact h
  obtain ⟨sa, cc, h1, h2, h3⟩ := intSl_of_owns h'
  refine ⟨sa, cc, h1, ?_⟩
  have : (fun i => (L.map (fun k => ((k : Nat) : Int))).getD i 0) = fun i => ((L.getD i 0 : Nat) : Int) := by
    funext i
    simp only [List.getD, List.getElem?_map]
    cases L[i]? <;> rfl
  rw [← this]
  exact h3

/-- ints in a block of one's own, that can be written -/
structure IntOwn (w : World) (base g n : Nat) (s : Nat → Int) : Prop where
  lo : base ≤ g
  lt : g < w.heap.size
  at_ : NumAt w g 0 n s
  fr : ∀ i, i < n → w.frozen? ⟨g, i, none⟩ = false

theorem IntOwn.of {w : World} {base n : Nat} {v : Value} {s : Nat → Int} (h : w.ownsRow base 3 1 v n ((upto s n).map (Value.int .i64))) (h0 : 0 < n) : ∃ g cap, v = .slice (some ⟨g, 0, none⟩) n cap ∧ IntOwn w base g n s := by
  rcases h.2 with ⟨h1, h2⟩ | ⟨g, cap, cur, h1, hb, hg, hn, hc, hs, hx⟩
  · omega
  · refine ⟨g, cap, h1, hb, (Array.getElem?_eq_some_iff.1 hg).1, fun i hi => ?_, fun i hi => by simp [World.frozen?, hg]⟩
    have e1 : ((upto s n).map (Value.int .i64))[i]? = some (.int .i64 (s i)) := by simp [upto, hi]
    rw [← hx, List.getElem?_take] at e1
    split at e1
    · simp only [Array.getElem?_toList] at e1
      rw [Nat.zero_add]
      simp [World.cell?, hg, e1]
    · cases e1

/-- a list in which one number is another one -/
def updI (s : Nat → Int) (i : Nat) (x : Int) : Nat → Int := fun j => if j = i then x else s j

theorem NumAt.upd {w : World} {g n i : Nat} {s : Nat → Int} (h : NumAt w g 0 n s) (hi : i < n) (x : Int) : NumAt (w.setCell ⟨g, i, none⟩ (.int .i64 x)) g 0 n (updI s i x) := by
  intro j hj
  have hc := h j hj
  rw [Nat.zero_add] at hc ⊢
  unfold updI
  by_cases e : j = i
  · subst e; rw [if_pos rfl]; exact World.cell?_setCell_same' _ _ _ (by rw [hc]; rfl)
  · rw [if_neg e]; exact (World.cell?_setCell_other _ _ _ _ (by intro e2; cases e2; exact e rfl)).trans hc

theorem IntOwn.set {w : World} {base g n i : Nat} {s : Nat → Int} (h : IntOwn w base g n s) (hi : i < n) (x : Int) : IntOwn (w.setCell ⟨g, i, none⟩ (.int .i64 x)) base g n (updI s i x) :=
  ⟨h.lo, by simp only [World.size_setCell]; exact h.lt, h.at_.upd hi x, fun j hj => by simpa using h.fr j hj⟩

theorem IntOwn.below {w w1 : World} {base g n : Nat} {s : Nat → Int} (h : IntOwn w base g n s) (hb : Below w.heap.size w w1) : IntOwn w1 base g n s :=
  ⟨h.lo, Nat.lt_of_lt_of_le h.lt hb.size, h.at_.below h.lt hb, fun j hj => ((bcell hb).2 _ _ h.lt).trans (h.fr j hj)⟩

theorem IntSl.grown {w w1 : World} {a : Option Addr} {n : Nat} {s : Nat → Int} {row : Option Nat} (h : IntSl w a n s) (hg : w.grownBy w1 row) (hs : n ≠ 0 → ∀ b o, a = some ⟨b, o, none⟩ → row ≠ some b) : IntSl w1 a n s := by
  rcases h with h | ⟨A, O, rfl, hA, hn⟩
  · exact .inl h
  · by_cases h0 : n = 0
    · exact .inl h0
    · exact .inr ⟨A, O, rfl, Nat.lt_of_lt_of_le hA hg.size, fun i hi => hg.cell (hn i hi) (fun e => hs h0 A O rfl e.symm)⟩

theorem upto_congr {α : Type} {f g : Nat → α} {k : Nat} (h : ∀ i, i < k → f i = g i) : upto f k = upto g k := by
  unfold upto
  exact List.map_congr_left fun i hi => h i (List.mem_range.1 hi)

/-- a list of outlets that was made: it lies in no older block -/
theorem dayNew {w : World} {B m : Nat} {v : Value} {L : List Nat} (h : w.ownsRow B 3 1 v m (L.map (fun k => Value.int .i64 ((k : Nat) : Int)))) : ∃ sa cc, v = .slice sa m cc ∧ IntSl w sa m (fun i => ((L.getD i 0 : Nat) : Int)) ∧ ∀ b o, sa = some ⟨b, o, none⟩ → B ≤ b := by
  obtain ⟨sa, cc, rfl, hs⟩ := cutSl h
  refine ⟨sa, cc, rfl, hs, fun b o e => ?_⟩
  subst e
  exact own_ge h b rfl

theorem own_lt {w : World} {B e size m : Nat} {v : Value} {xs : List Value} (h : w.ownsRow B e size v m xs) {b : Nat} (hb : w.heap.size ≤ b) : v.ownBlock ≠ some b := fun h2 => own_ne h (.inr hb) h2.symm

theorem below_go8 {A B C : World} (h : Below A.heap.size A B) (k : Below B.heap.size B C) : Below A.heap.size A C := h.trans (k.mono h.size)

/-- the numbers of a list -/
def lgI (l : List Nat) : Nat → Int := fun i => ((l.getD i 0 : Nat) : Int)

theorem lgI_app1 {l1 l2 : List Nat} {i : Nat} (h : i < l1.length) : lgI (l1 ++ l2) i = lgI l1 i := by
  simp [lgI, List.getElem?_append_left h]

theorem lgI_app2 {l1 l2 : List Nat} {i : Nat} (h : l1.length ≤ i) : lgI (l1 ++ l2) i = lgI l2 (i - l1.length) := by
  simp [lgI, List.getElem?_append_right h]

theorem lgI_cons0 {x : Nat} {l : List Nat} : lgI (x :: l) 0 = (x : Int) := by simp [lgI]

theorem lgI_consS {x : Nat} {l : List Nat} {i : Nat} : lgI (x :: l) (i + 1) = lgI l i := by simp [lgI]

theorem lgI_get {l : List Nat} {i : Nat} (h : i < l.length) : lgI l i = ((l[i] : Nat) : Int) := by simp [lgI, h]

theorem IntOwn.congr {w : World} {base g n : Nat} {s s' : Nat → Int} (h : IntOwn w base g n s) (he : ∀ i, i < n → s i = s' i) : IntOwn w base g n s' := ⟨h.lo, h.lt, fun i hi => by rw [← he i hi]; exact h.at_ i hi, h.fr⟩

theorem IntOwn.less {w : World} {base g n m : Nat} {s : Nat → Int} (h : IntOwn w base g n s) (hm : m ≤ n) : IntOwn w base g m s := ⟨h.lo, h.lt, fun i hi => h.at_ i (by omega), fun i hi => h.fr i (by omega)⟩

theorem IntOwn.frx {w w1 : World} {X : List Nat} {base g n : Nat} {s : Nat → Int} (h : IntOwn w base g n s) (hf : Frx X w w1) (hg : g ∉ X) : IntOwn w1 base g n s :=
  ⟨h.lo, Nat.lt_of_lt_of_le h.lt hf.size, fun i hi => (hf.cell h.lt hg).trans (h.at_ i hi), fun i hi => (hf.froz h.lt hg).trans (h.fr i hi)⟩

def iv1 : Nat → Value := fun k => .int .i64 ((k : Nat) : Int)

theorem ownOf {w : World} {base n : Nat} {v : Value} {l : List Nat} (h : w.ownsRow base 3 1 v n (l.map iv1)) (h0 : 0 < n) : ∃ g cap, v = .slice (some ⟨g, 0, none⟩) n cap ∧ n ≤ cap ∧ IntOwn w base g n (lgI l) := by
  rcases h.2 with ⟨h1, h2⟩ | ⟨g, cap, cur, h1, hb, hg, hn, hc, hs, hx⟩
  · omega
  · refine ⟨g, cap, h1, hn, hb, (Array.getElem?_eq_some_iff.1 hg).1, fun i hi => ?_, fun i hi => by simp [World.frozen?, hg]⟩
    have hl : i < l.length := by have := h.1; simp at this; omega
    have e1 : (l.map iv1)[i]? = some (.int .i64 (lgI l i)) := by rw [lgI_get hl]; simp [hl, iv1]
    rw [← hx, List.getElem?_take] at e1
    split at e1
    · simp only [Array.getElem?_toList] at e1
      rw [Nat.zero_add]
      simp [World.cell?, hg, e1]
    · cases e1

theorem grown_own {w w1 : World} {row : Option Nat} {base g n : Nat} {s : Nat → Int} (h : IntOwn w base g n s) (hg : w.grownBy w1 row) (hr : row ≠ some g) : IntOwn w1 base g n s :=
  ⟨h.lo, Nat.lt_of_lt_of_le h.lt hg.size, fun i hi => (hg.cell_far ⟨g, 0 + i, none⟩ h.lt (fun e => hr e.symm)).trans (h.at_ i hi), fun i hi => (hg.frozen_far ⟨g, i, none⟩ h.lt (fun e => hr e.symm)).trans (h.fr i hi)⟩

theorem owns_frx2 {X : List Nat} {A B : World} {base e size n : Nat} {v : Value} {xs : List Value} (h : A.ownsRow base e size v n xs) (hf : Frx X A B) (hx : ∀ x ∈ X, v.ownBlock ≠ some x) : B.ownsRow base e size v n xs := by
  refine ⟨h.1, h.2.imp id ?_⟩
  rintro ⟨g, cap, cur, h1, hb, hg, hn, hc, hs, hxx⟩
  refine ⟨g, cap, cur, h1, hb, ?_, hn, hc, hs, hxx⟩
  rw [hf.block g (Array.getElem?_eq_some_iff.1 hg).1 (fun hm => hx g hm (by rw [h1]; rfl))]
  exact hg

theorem owns_base {A : World} {base b2 e size n : Nat} {v : Value} {xs : List Value} (h : A.ownsRow base e size v n xs) (hb : b2 ≤ base) : A.ownsRow b2 e size v n xs := by
  refine ⟨h.1, h.2.imp id ?_⟩
  rintro ⟨g, cap, cur, h1, h2, h3⟩
  exact ⟨g, cap, cur, h1, Nat.le_trans hb h2, h3⟩

theorem split_nd {l : List Nat} {b : Nat} (hb : b ∈ l) (hn : l.Nodup) : ∃ l1 l2, l = l1 ++ b :: l2 ∧ b ∉ l1 ∧ b ∉ l2 ∧ l.erase b = l1 ++ l2 := by
  obtain ⟨l1, l2, rfl⟩ := List.append_of_mem hb
  have h1 : b ∉ l1 := fun h => by
    have := (List.nodup_append.1 hn).2.2 b h b List.mem_cons_self
    exact this rfl
  have h2 : b ∉ l2 := (List.nodup_cons.1 (List.nodup_append.1 hn).2.1).1
  exact ⟨l1, l2, rfl, h1, h2, by rw [List.erase_append_right _ h1, List.erase_cons_head]⟩

theorem IntSl.frx {w w1 : World} {X : List Nat} {a : Option Addr} {n : Nat} {s : Nat → Int} (h : IntSl w a n s) (hf : Frx X w w1) (hs : n ≠ 0 → ∀ b o, a = some ⟨b, o, none⟩ → b ∉ X) : IntSl w1 a n s := by
  by_cases h0 : n = 0
  · exact .inl h0
  · obtain ⟨A, O, rfl, hA, hn⟩ := h.resolve_left h0
    exact .inr ⟨A, O, rfl, Nat.lt_of_lt_of_le hA hf.size, fun i hi => (hf.cell hA (hs h0 A O rfl)).trans (hn i hi)⟩

theorem run_append_nilU {P : Program} {w : World} (t ty e : TypeId) (i : TypeInfo) (ht : P.underlying t = some (.slice e)) (hi : P.info? e = some i) (sq : Option Addr) (c : Nat) :
    (Builtin.append_ #[t, t] ty #[.slice none 0 0, .slice sq 0 c]).run P w = .ok (.slice none 0 0) w := by
  cases sq <;> simp [Builtin.append_, run_underlying ht, sizeOf, typeInfo, hi, Builtin.lenOf, Builtin.firstCells, loadCells, loadCellsFrom]

theorem step_app_run {P : Program} {w w2 : World} {ops : Array Oper} {o : Oper} {a : Act} {K : Act → World → Prop} {Q : Exit → Act → World → Prop} {E : Prop} (hgd : o.guard = none) (s x : Operand) (t : TypeId)
    (ho : o.op = .call { callee := .builtin .append, args := #[s, x], argTypes := #[t, t] }) {vs vx v : Value} (hs : a.eval s = vs) (hx : a.eval x = vx) (hr : (Builtin.append_ #[t, t] o.type #[vs, vx]).run P w = .ok v w2)
    (h : K (a.put o.dst v) w2) : if Region.wanted o (yielded ops a.tmps) = true then Oper.wp P o a w K Q else E := by
  have hw : Region.wanted o (yielded ops a.tmps) = true := by simp [Region.wanted, hgd]
  rw [if_pos hw]
  unfold Oper.wp
  simp [execOp, ho, resolve, invoke, builtin, hs, hx, hr, Result.andThen]
  exact h

theorem step_app_of {P : Program} {w : World} {ops : Array Oper} {o : Oper} {a : Act} {K : Act → World → Prop} {Q : Exit → Act → World → Prop} {E : Prop} (hgd : o.guard = none) (s x : Operand) (t : TypeId)
    (ho : o.op = .call { callee := .builtin .append, args := #[s, x], argTypes := #[t, t] }) {vs vx : Value} (hs : a.eval s = vs) (hx : a.eval x = vx) {R : Value → World → Prop} (hr : ∃ v w2, (Builtin.append_ #[t, t] o.type #[vs, vx]).run P w = .ok v w2 ∧ R v w2)
    (h : ∀ v w2, R v w2 → K (a.put o.dst v) w2) : if Region.wanted o (yielded ops a.tmps) = true then Oper.wp P o a w K Q else E := by
  obtain ⟨v, w2, h1, h2⟩ := hr
  exact step_app_run hgd s x t ho hs hx h1 (h v w2 h2)

set_option maxRecDepth 100000 in
theorem app_nil {wr w2 : World} {sa : Option Addr} {en ec : Nat} {l : List Nat} (hl : l.length = en) (he : en ≤ 1000) (HS : IntSl w2 sa en (lgI l)) (h : Below wr.heap.size wr w2) :
    ∃ v' w', (Builtin.append_ #[26, 26] 26 #[.slice none 0 0, .slice sa en ec]).run Tryz.prog w2 = .ok v' w' ∧ w'.ownsRow wr.heap.size 3 1 v' en (l.map iv1) ∧ Below wr.heap.size wr w' ∧ ∀ a v, w2.cell? a = some v → w'.cell? a = some v := by
  obtain ⟨i0, hi0, hz0, hz1, hz2⟩ := info_parts info3'
  rcases HS with h0 | ⟨A2, O2, rfl, hA2, hN2⟩
  · subst h0
    have hl0 : l = [] := List.eq_nil_of_length_eq_zero hl
    subst hl0
    exact ⟨_, _, run_append_nilU 26 26 3 i0 Tryz.underlying26 hi0 sa ec, ⟨rfl, .inl ⟨rfl, rfl⟩⟩, h, fun _ _ h => h⟩
  · obtain ⟨v', w', hr, h2, h3, _, h5⟩ := run_append_own_at (P := Tryz.prog) (w := w2) wr.heap.size 26 26 3 i0 (.int .i64 0) 1 8 Tryz.underlying26 hi0 hz0 hz1 hz2 rfl (by decide) (.slice none 0 0) 0 [] ⟨rfl, .inl ⟨rfl, rfl⟩⟩ ⟨A2, O2, none⟩ en ec (l.map iv1) (by simp [hl]) (fun j u hu => by
      have hj : j < l.length := by
        rcases Nat.lt_or_ge j l.length with h | h
        · exact h
        · rw [List.getElem?_eq_none (by simpa using h)] at hu; cases hu
      have hx := hN2 j (by rw [← hl]; exact hj)
      rw [List.getElem?_map, List.getElem?_eq_getElem hj] at hu
      injection hu with hu
      rw [← hu]
      rw [lgI_get hj] at hx
      by_cases hj0 : j = 0
      · subst hj0; simpa [Addr.add, iv1] using hx
      · simpa [Addr.add, iv1, hj0] using hx) (fun u hu => by simp [iv1] at hu; obtain ⟨a, _, rfl⟩ := hu; rfl) (by unfold maxLen; omega) (by omega) h.size
    exact ⟨v', w', hr, by simpa using h2, h.grown h3 (by have := h.size; omega) (fun r e => by cases e), fun a v hv => h3.cell hv (by intro e; cases e)⟩

set_option maxRecDepth 100000 in
theorem app_one {wr w2 : World} {v2 : Value} {en G o : Nat} {l : List Nat} (he : en ≤ 1000) (h1 : Below wr.heap.size wr w2) (hG : w2.cell? ⟨G, 0, none⟩ = some (.int .i64 (o : Int))) (ho2 : w2.ownsRow wr.heap.size 3 1 v2 en (l.map iv1)) :
    ∃ v' w', (Builtin.append_ #[26, 26] 26 #[v2, .slice (some ⟨G, 0, none⟩) 1 1]).run Tryz.prog w2 = .ok v' w' ∧ (∃ sa sc, v' = .slice sa (en + 1) sc ∧ IntSl w' sa (en + 1) (lgI (l ++ [o]))) ∧ Below wr.heap.size wr w' := by
  obtain ⟨i0, hi0, hz0, hz1, hz2⟩ := info_parts info3'
  obtain ⟨v', w', hr, h2, h3, _, h5⟩ := run_append_own_at (P := Tryz.prog) (w := w2) wr.heap.size 26 26 3 i0 (.int .i64 0) 1 8 Tryz.underlying26 hi0 hz0 hz1 hz2 rfl (by decide) v2 en (l.map iv1) ho2 ⟨G, 0, none⟩ 1 1 [.int .i64 (o : Int)] rfl (fun j u hu => by
    cases j with
    | zero => simp at hu; subst hu; simpa [Addr.add] using hG
    | succ j => simp at hu) (by intro u hu; simp at hu; subst hu; rfl) (by unfold maxLen; omega) (by omega) h1.size
  have h6 : w'.ownsRow wr.heap.size 3 1 v' (en + 1) ((l ++ [o]).map iv1) := by rw [List.map_append]; exact h2
  obtain ⟨sa, sc, rfl, hsl, _⟩ := dayNew h6
  exact ⟨_, w', hr, ⟨sa, sc, rfl, hsl⟩, h1.grown h3 (by have := h1.size; omega) (fun r e => own_ge ho2 r e)⟩

theorem ownRead {W : World} {base n : Nat} {v : Value} {xs : List Value} (h : W.ownsRow base 3 1 v (0 + n) ([] ++ xs)) (h0 : 0 < n) :
    ∃ g cap, v = .slice (some ⟨g, 0, none⟩) n cap ∧ base ≤ g ∧ g < W.heap.size ∧ (∀ (j : Nat) (x : Value), xs[j]? = some x → W.cell? ⟨g, j, none⟩ = some x) ∧ ∀ j : Nat, W.frozen? ⟨g, j, none⟩ = false := by
  rw [Nat.zero_add, List.nil_append] at h
  rcases h.2 with ⟨_, h2⟩ | ⟨g, cap, cur, h1, h2, h3, h4, h5, h6, h7⟩
  · omega
  · refine ⟨g, cap, h1, h2, (Array.getElem?_eq_some_iff.1 h3).1, fun j x hx => ?_, fun j => by simp [World.frozen?, h3]⟩
    rw [← h7, List.getElem?_take] at hx
    split at hx
    · simp only [Array.getElem?_toList] at hx
      simp [World.cell?, h3, hx]
    · cases hx

theorem oper_append {P : Program} {w w2 : World} {o : Oper} {a : Act} {K : Act → World → Prop} {R : Exit → Act → World → Prop} {s x : Operand} {t : TypeId} (ho : o.op = .call { callee := .builtin .append, args := #[s, x], argTypes := #[t, t] }) {vs vx v : Value} (hs : a.eval s = vs) (hx : a.eval x = vx) (hr : (Builtin.append_ #[t, t] o.type #[vs, vx]).run P w = .ok v w2) (hK : K (a.put o.dst v) w2) : o.wp P a w K R := by
  unfold Oper.wp
  simp [execOp, ho, resolve, invoke, builtin, hs, hx, hr, Result.andThen]
  exact hK
end Go.Kn
