/- Contracts of functions that the laws of this seat call, or the evaluator of closed calls and its runs. Conditions: as each theorem states them. -/
import Derived.Test.YtpbhpgebaopdoaaGreatDoorT6
import Derived.Test.YtpbhpgebaopdoaaGreatDoorT5
import Derived.Maps.AppendAt
import Derived.Deep.AppendLies
set_option linter.unusedVariables false
set_option linter.unusedSimpArgs false
namespace Go.Kn
open Go Go.Proofs Go.RowKit

theorem addr_add0 (b j : Nat) : (⟨b, 0, none⟩ : Addr).add j = ⟨b, j, none⟩ := by
  unfold Addr.add
  split
  · rename_i h; rw [h]
  · simp

theorem info71 : (Tryz.prog.info? 71).map (fun i => (i.zero, i.size, i.bytes)) = some (some (.agg #[.int .i64 0, .int .i64 0, .int .i64 0]), 3, 24) := by kernel_rfl
theorem info73 : (Tryz.prog.info? 73).map (fun i => (i.zero, i.size, i.bytes)) = some (some (.agg #[.int .i64 0, .int .i64 0, .int .i64 0, .bool false]), 4, 32) := by kernel_rfl
theorem ta_nn (v : Value) (w : World) : (Instr.typeAssert (Value.iface 142 v) 111 142 true).run Tryz.prog w = .ok (.tuple #[v, .bool true]) w := by kernel_rfl
theorem ta_on (v : Value) (w : World) : (Instr.typeAssert (Value.iface 143 v) 111 142 true).run Tryz.prog w = .ok (.tuple #[.agg #[.int .i64 0, .int .i64 0, .int .i64 0], .bool false]) w := by kernel_rfl
theorem ta_oo (v : Value) (w : World) : (Instr.typeAssert (Value.iface 143 v) 111 143 true).run Tryz.prog w = .ok (.tuple #[v, .bool true]) w := by kernel_rfl

/-- the cells of k points, of k channels -/
def ptCs (N : Nat → P8) : Nat → List Value
  | 0 => []
  | k + 1 => ptCs N k ++ [.int .i64 (N k).lo, .int .i64 (N k).hi, .int .i64 (N k).nd]
def chCs (U : Nat → C8) : Nat → List Value
  | 0 => []
  | k + 1 => chCs U k ++ [.int .i64 (U k).fr, .int .i64 (U k).to, .int .i64 (U k).cu, .bool (U k).ga]
theorem ptCs_len (N : Nat → P8) : ∀ k, (ptCs N k).length = k * 3
  | 0 => rfl
  | k + 1 => by rw [ptCs, List.length_append, ptCs_len N k]; simp; omega
theorem chCs_len (U : Nat → C8) : ∀ k, (chCs U k).length = k * 4
  | 0 => rfl
  | k + 1 => by rw [chCs, List.length_append, chCs_len U k]; simp; omega
theorem ptCs_get (N : Nat → P8) : ∀ k i, i < k → (ptCs N k)[i * 3]? = some (.int .i64 (N i).lo) ∧ (ptCs N k)[i * 3 + 1]? = some (.int .i64 (N i).hi) ∧ (ptCs N k)[i * 3 + 2]? = some (.int .i64 (N i).nd)
  | 0, i, h => by omega
  | k + 1, i, h => by
    have hl := ptCs_len N k
    rw [ptCs]
    by_cases h1 : i < k
    · rw [List.getElem?_append_left (by omega), List.getElem?_append_left (by omega), List.getElem?_append_left (by omega)]
      exact ptCs_get N k i h1
    · obtain rfl : i = k := by omega
      rw [List.getElem?_append_right (by omega), List.getElem?_append_right (by omega), List.getElem?_append_right (by omega), hl, show i * 3 - i * 3 = 0 by omega, show i * 3 + 1 - i * 3 = 1 by omega, show i * 3 + 2 - i * 3 = 2 by omega]
      exact ⟨rfl, rfl, rfl⟩
theorem chCs_get (U : Nat → C8) : ∀ k i, i < k → (chCs U k)[i * 4]? = some (.int .i64 (U i).fr) ∧ (chCs U k)[i * 4 + 1]? = some (.int .i64 (U i).to) ∧ (chCs U k)[i * 4 + 2]? = some (.int .i64 (U i).cu) ∧ (chCs U k)[i * 4 + 3]? = some (.bool (U i).ga)
  | 0, i, h => by omega
  | k + 1, i, h => by
    have hl := chCs_len U k
    rw [chCs]
    by_cases h1 : i < k
    · rw [List.getElem?_append_left (by omega), List.getElem?_append_left (by omega), List.getElem?_append_left (by omega), List.getElem?_append_left (by omega)]
      exact chCs_get U k i h1
    · obtain rfl : i = k := by omega
      rw [List.getElem?_append_right (by omega), List.getElem?_append_right (by omega), List.getElem?_append_right (by omega), List.getElem?_append_right (by omega), hl, show i * 4 - i * 4 = 0 by omega, show i * 4 + 1 - i * 4 = 1 by omega, show i * 4 + 2 - i * 4 = 2 by omega, show i * 4 + 3 - i * 4 = 3 by omega]
      exact ⟨rfl, rfl, rfl, rfl⟩

theorem PtAt.of_owns {w : World} {base g k cap : Nat} {N : Nat → P8} (h : w.ownsRow base 71 3 (.slice (some ⟨g, 0, none⟩) k cap) k (ptCs N k)) : PtAt w g 0 k N := fun i hi => by
  obtain ⟨a, b, c⟩ := ptCs_get N k i hi
  have h1 := h.cells (g := g) rfl _ _ a
  have h2 := h.cells (g := g) rfl _ _ b
  have h3 := h.cells (g := g) rfl _ _ c
  rw [addr_add0] at h1 h2 h3
  rw [Nat.zero_add]
  exact ⟨h1, h2, h3⟩
theorem ChAt.of_owns {w : World} {base g k cap : Nat} {U : Nat → C8} (h : w.ownsRow base 73 4 (.slice (some ⟨g, 0, none⟩) k cap) k (chCs U k)) : ChAt w g 0 k U := fun i hi => by
  obtain ⟨a, b, c, d⟩ := chCs_get U k i hi
  have h1 := h.cells (g := g) rfl _ _ a
  have h2 := h.cells (g := g) rfl _ _ b
  have h3 := h.cells (g := g) rfl _ _ c
  have h4 := h.cells (g := g) rfl _ _ d
  rw [addr_add0] at h1 h2 h3 h4
  rw [Nat.zero_add]
  exact ⟨h1, h2, h3, h4⟩

theorem lies3 {W : World} {b : Nat} {x0 x1 x2 : Value} (h : W.cell? ⟨b, 0, none⟩ = some x0 ∧ W.cell? ⟨b, 1, none⟩ = some x1 ∧ W.cell? ⟨b, 2, none⟩ = some x2) : ∀ (j : Nat) (u : Value), [x0, x1, x2][j]? = some u → W.cell? ((⟨b, 0, none⟩ : Addr).add j) = some u := by
  intro j u hj
  rw [addr_add0]
  match j, hj with
  | 0, hj => simp at hj; subst hj; exact h.1
  | 1, hj => simp at hj; subst hj; exact h.2.1
  | 2, hj => simp at hj; subst hj; exact h.2.2
theorem lies4 {W : World} {b : Nat} {x0 x1 x2 x3 : Value} (h : W.cell? ⟨b, 0, none⟩ = some x0 ∧ W.cell? ⟨b, 1, none⟩ = some x1 ∧ W.cell? ⟨b, 2, none⟩ = some x2 ∧ W.cell? ⟨b, 3, none⟩ = some x3) : ∀ (j : Nat) (u : Value), [x0, x1, x2, x3][j]? = some u → W.cell? ((⟨b, 0, none⟩ : Addr).add j) = some u := by
  intro j u hj
  rw [addr_add0]
  match j, hj with
  | 0, hj => simp at hj; subst hj; exact h.1
  | 1, hj => simp at hj; subst hj; exact h.2.1
  | 2, hj => simp at hj; subst hj; exact h.2.2.1
  | 3, hj => simp at hj; subst hj; exact h.2.2.2

/-- the tree that is read, behind the first k lines of its nodes -/
structure L1 (w : World) (T G : Nat) (xs : List (List UInt8)) (N : Nat → P8) (k base cn : Nat) (bn : Option Addr) (wr : World) : Prop where
  x1 : wr.cell? ⟨T, 0, none⟩ = some (.slice bn k cn)
  x2 : wr.cell? ⟨T, 1, none⟩ = some (.slice none 0 0)
  f1 : wr.frozen? ⟨T, 0, none⟩ = false
  f2 : wr.frozen? ⟨T, 1, none⟩ = false
  own : wr.ownsRow base 71 3 (.slice bn k cn) k (ptCs N k)
  hT : T < base
  hG : G < base
  hGT : G ≠ T
  str : StrAt wr G 0 xs
  hb : base ≤ wr.heap.size
  bel : Below w.heap.size w wr

theorem L1.below {w : World} {T G : Nat} {xs : List (List UInt8)} {N : Nat → P8} {k base cn : Nat} {bn : Option Addr} {wr w' : World} (h : L1 w T G xs N k base cn bn wr) (hb : Below wr.heap.size wr w') : L1 w T G xs N k base cn bn w' := by
  have hT := Nat.lt_of_lt_of_le h.hT h.hb
  have hG := Nat.lt_of_lt_of_le h.hG h.hb
  obtain ⟨z1, z2⟩ := bcell hb
  exact ⟨(z1 _ _ hT).trans h.x1, (z1 _ _ hT).trans h.x2, (z2 _ _ hT).trans h.f1, (z2 _ _ hT).trans h.f2, owns_below h.own hb, h.hT, h.hG, h.hGT, h.str.below hG hb, Nat.le_trans h.hb hb.size, h.bel.trans (hb.mono h.bel.size)⟩

theorem nbb {b b' o o' : Nat} (h : b ≠ b') : (⟨b, o, none⟩ : Addr) ≠ ⟨b', o', none⟩ := fun e => h (congrArg Addr.block e)
theorem noo {b o o' : Nat} (h : o ≠ o') : (⟨b, o, none⟩ : Addr) ≠ ⟨b, o', none⟩ := fun e => h (congrArg Addr.off e)

theorem L1.next {w : World} {T G : Nat} {xs : List (List UInt8)} {N : Nat → P8} {k base cn : Nat} {bn : Option Addr} {wr w1 : World} {g c : Nat} (h : L1 w T G xs N k base cn bn wr) (hw : w.heap.size ≤ T) (hb : Below base wr w1) (ho : w1.ownsRow base 71 3 (.slice (some ⟨g, 0, none⟩) (k + 1) c) (k + 1) (ptCs N (k + 1))) :
    L1 w T G xs N (k + 1) base c (some ⟨g, 0, none⟩) (w1.setCell ⟨T, 0, none⟩ (.slice (some ⟨g, 0, none⟩) (k + 1) c)) := by
  have hBB := h.hT
  have q : ∀ b o, b < base → w1.cell? ⟨b, o, none⟩ = wr.cell? ⟨b, o, none⟩ := fun b o hlt => hb.cell (p := ⟨b, o, none⟩) hlt
  have qf : ∀ b o, b < base → w1.frozen? ⟨b, o, none⟩ = wr.frozen? ⟨b, o, none⟩ := fun b o hlt => hb.frozen (p := ⟨b, o, none⟩) hlt
  refine ⟨?_, ?_, ?_, ?_, ?_, h.hT, h.hG, h.hGT, ?_, ?_, ?_⟩
  · exact World.cell?_setCell_same' _ _ _ (by rw [q _ _ hBB, h.x1]; rfl)
  · rw [World.cell?_setCell_other _ _ _ _ (noo (by decide)), q _ _ hBB]; exact h.x2
  · rw [World.frozen?_setCell, qf _ _ hBB]; exact h.f1
  · rw [World.frozen?_setCell, qf _ _ hBB]; exact h.f2
  · exact ownsRow_setCell_below ho hBB _
  · intro j hj; rw [World.cell?_setCell_other _ _ _ _ (nbb (Ne.symm h.hGT)), q _ _ h.hG]; exact h.str j hj
  · have := hb.size; have := h.hb; simp; omega
  · exact (h.bel.trans (hb.mono (Nat.le_trans hw (Nat.le_of_lt hBB)))).setCell hw _

/-- .. and behind all its nodes and the first j lines of its outlets -/
structure L2 (w : World) (T G : Nat) (xs : List (List UInt8)) (ln : Nat) (N : Nat → P8) (U : Nat → C8) (cn : Nat) (na : Option Addr) (k base co : Nat) (bo : Option Addr) (wr : World) : Prop where
  x1 : wr.cell? ⟨T, 0, none⟩ = some (.slice na ln cn)
  x2 : wr.cell? ⟨T, 1, none⟩ = some (.slice bo k co)
  f1 : wr.frozen? ⟨T, 0, none⟩ = false
  f2 : wr.frozen? ⟨T, 1, none⟩ = false
  nd : ln = 0 ∨ ∃ A, na = some ⟨A, 0, none⟩ ∧ T < A ∧ A < base ∧ PtAt wr A 0 ln N
  own : wr.ownsRow base 73 4 (.slice bo k co) k (chCs U k)
  hT : T < base
  hG : G < base
  hGT : G ≠ T
  str : StrAt wr G 0 xs
  hb : base ≤ wr.heap.size
  bel : Below w.heap.size w wr

theorem L2.below {w : World} {T G : Nat} {xs : List (List UInt8)} {ln : Nat} {N : Nat → P8} {U : Nat → C8} {cn : Nat} {na : Option Addr} {k base co : Nat} {bo : Option Addr} {wr w' : World} (h : L2 w T G xs ln N U cn na k base co bo wr) (hb : Below wr.heap.size wr w') : L2 w T G xs ln N U cn na k base co bo w' := by
  have hT := Nat.lt_of_lt_of_le h.hT h.hb
  have hG := Nat.lt_of_lt_of_le h.hG h.hb
  obtain ⟨z1, z2⟩ := bcell hb
  refine ⟨(z1 _ _ hT).trans h.x1, (z1 _ _ hT).trans h.x2, (z2 _ _ hT).trans h.f1, (z2 _ _ hT).trans h.f2, ?_, owns_below h.own hb, h.hT, h.hG, h.hGT, h.str.below hG hb, Nat.le_trans h.hb hb.size, h.bel.trans (hb.mono h.bel.size)⟩
  rcases h.nd with e | ⟨A, e1, e2, e3, e4⟩
  · exact .inl e
  · exact .inr ⟨A, e1, e2, e3, e4.below (Nat.lt_of_lt_of_le e3 h.hb) hb⟩

theorem L2.next {w : World} {T G : Nat} {xs : List (List UInt8)} {ln : Nat} {N : Nat → P8} {U : Nat → C8} {cn : Nat} {na : Option Addr} {k base co : Nat} {bo : Option Addr} {wr w1 : World} {g c : Nat} (h : L2 w T G xs ln N U cn na k base co bo wr) (hw : w.heap.size ≤ T) (hb : Below base wr w1) (ho : w1.ownsRow base 73 4 (.slice (some ⟨g, 0, none⟩) (k + 1) c) (k + 1) (chCs U (k + 1))) :
    L2 w T G xs ln N U cn na (k + 1) base c (some ⟨g, 0, none⟩) (w1.setCell ⟨T, 1, none⟩ (.slice (some ⟨g, 0, none⟩) (k + 1) c)) := by
  have hBB := h.hT
  have q : ∀ b o, b < base → w1.cell? ⟨b, o, none⟩ = wr.cell? ⟨b, o, none⟩ := fun b o hlt => hb.cell (p := ⟨b, o, none⟩) hlt
  have qf : ∀ b o, b < base → w1.frozen? ⟨b, o, none⟩ = wr.frozen? ⟨b, o, none⟩ := fun b o hlt => hb.frozen (p := ⟨b, o, none⟩) hlt
  refine ⟨?_, ?_, ?_, ?_, ?_, ?_, h.hT, h.hG, h.hGT, ?_, ?_, ?_⟩
  · rw [World.cell?_setCell_other _ _ _ _ (noo (by decide)), q _ _ hBB]; exact h.x1
  · exact World.cell?_setCell_same' _ _ _ (by rw [q _ _ hBB, h.x2]; rfl)
  · rw [World.frozen?_setCell, qf _ _ hBB]; exact h.f1
  · rw [World.frozen?_setCell, qf _ _ hBB]; exact h.f2
  · rcases h.nd with e | ⟨A, e1, e2, e3, e4⟩
    · exact .inl e
    · refine .inr ⟨A, e1, e2, e3, fun i hi => ?_⟩
      rw [World.cell?_setCell_other _ _ _ _ (nbb (Nat.ne_of_lt e2)), World.cell?_setCell_other _ _ _ _ (nbb (Nat.ne_of_lt e2)), World.cell?_setCell_other _ _ _ _ (nbb (Nat.ne_of_lt e2)), q _ _ e3, q _ _ e3, q _ _ e3]
      exact e4 i hi
  · exact ownsRow_setCell_below ho hBB _
  · intro j hj; rw [World.cell?_setCell_other _ _ _ _ (nbb (Ne.symm h.hGT)), q _ _ h.hG]; exact h.str j hj
  · have := hb.size; have := h.hb; simp; omega
  · exact (h.bel.trans (hb.mono (Nat.le_trans hw (Nat.le_of_lt hBB)))).setCell hw _

/-- all nodes are read: the outlets begin -/
theorem L1.turn {w : World} {T G : Nat} {xs : List (List UInt8)} {N : Nat → P8} {ln base cn : Nat} {bn : Option Addr} {wr : World} (U : Nat → C8) (h : L1 w T G xs N ln base cn bn wr) : L2 w T G xs ln N U cn bn 0 wr.heap.size 0 none wr := by
  refine ⟨h.x1, h.x2, h.f1, h.f2, ?_, World.ownsRow_nil _ _ _ _, Nat.lt_of_lt_of_le h.hT h.hb, Nat.lt_of_lt_of_le h.hG h.hb, h.hGT, h.str, Nat.le_refl _, h.bel⟩
  rcases h.own.2 with ⟨_, e⟩ | ⟨g, cap, cur, e, hbg, hg, _⟩
  · exact .inl e
  · have e' := e
    cases e'
    exact .inr ⟨g, rfl, Nat.lt_of_lt_of_le h.hT hbg, (Array.getElem?_eq_some_iff.1 hg).1, PtAt.of_owns h.own⟩
end Go.Kn

namespace Go.Kn
open Go Go.Proofs Go.RowKit

/-- a network in memory behind a mark -/
structure Rd (m : Nat) (na bo : Option Addr) (ln lo : Nat) (N : Nat → P8) (U : Nat → C8) (w : World) : Prop where
  nd : ln = 0 ∨ ∃ A, na = some ⟨A, 0, none⟩ ∧ m < A ∧ A < w.heap.size ∧ PtAt w A 0 ln N
  ch : lo = 0 ∨ ∃ C, bo = some ⟨C, 0, none⟩ ∧ m < C ∧ C < w.heap.size ∧ ChAt w C 0 lo U
theorem Rd.below {m : Nat} {na bo : Option Addr} {ln lo : Nat} {N : Nat → P8} {U : Nat → C8} {w w' : World} (h : Rd m na bo ln lo N U w) (hb : Below w.heap.size w w') : Rd m na bo ln lo N U w' := by
  refine ⟨?_, ?_⟩
  · rcases h.nd with e | ⟨A, e1, e2, e3, e4⟩
    · exact .inl e
    · exact .inr ⟨A, e1, e2, Nat.lt_of_lt_of_le e3 hb.size, e4.below e3 hb⟩
  · rcases h.ch with e | ⟨A, e1, e2, e3, e4⟩
    · exact .inl e
    · exact .inr ⟨A, e1, e2, Nat.lt_of_lt_of_le e3 hb.size, e4.below e3 hb⟩
theorem Rd.mono {m m' : Nat} {na bo : Option Addr} {ln lo : Nat} {N : Nat → P8} {U : Nat → C8} {w : World} (h : Rd m na bo ln lo N U w) (hm : m' ≤ m) : Rd m' na bo ln lo N U w := by
  refine ⟨?_, ?_⟩
  · rcases h.nd with e | ⟨A, e1, e2, e3, e4⟩
    · exact .inl e
    · exact .inr ⟨A, e1, Nat.lt_of_le_of_lt hm e2, e3, e4⟩
  · rcases h.ch with e | ⟨A, e1, e2, e3, e4⟩
    · exact .inl e
    · exact .inr ⟨A, e1, Nat.lt_of_le_of_lt hm e2, e3, e4⟩
theorem Rd.set {m : Nat} {na bo : Option Addr} {ln lo : Nat} {N : Nat → P8} {U : Nat → C8} {w : World} {b o : Nat} (h : Rd m na bo ln lo N U w) (hb : b ≤ m) (v : Value) : Rd m na bo ln lo N U (w.setCell ⟨b, o, none⟩ v) := by
  have ne : ∀ b' o', m < b' → (w.setCell ⟨b, o, none⟩ v).cell? ⟨b', o', none⟩ = w.cell? ⟨b', o', none⟩ := fun b' o' h' => World.cell?_setCell_other _ _ _ _ (nbb (by omega))
  refine ⟨?_, ?_⟩
  · rcases h.nd with e | ⟨A, e1, e2, e3, e4⟩
    · exact .inl e
    · refine .inr ⟨A, e1, e2, by simpa using e3, fun i hi => ?_⟩
      rw [ne _ _ e2, ne _ _ e2, ne _ _ e2]; exact e4 i hi
  · rcases h.ch with e | ⟨A, e1, e2, e3, e4⟩
    · exact .inl e
    · refine .inr ⟨A, e1, e2, by simpa using e3, fun i hi => ?_⟩
      rw [ne _ _ e2, ne _ _ e2, ne _ _ e2, ne _ _ e2]; exact e4 i hi
theorem Rd.ne {m : Nat} {na bo : Option Addr} {ln lo : Nat} {N : Nat → P8} {U : Nat → C8} {w : World} (h : Rd m na bo ln lo N U w) : Ne8 w na bo ln lo N U := by
  refine ⟨?_, ?_⟩
  · rcases h.nd with e | ⟨A, e1, e2, e3, e4⟩
    · exact .inl e
    · exact .inr ⟨A, 0, e1, e3, e4⟩
  · rcases h.ch with e | ⟨A, e1, e2, e3, e4⟩
    · exact .inl e
    · exact .inr ⟨A, 0, e1, e3, e4⟩
theorem L2.rd {w : World} {T G : Nat} {xs : List (List UInt8)} {ln lo : Nat} {N : Nat → P8} {U : Nat → C8} {cn : Nat} {na : Option Addr} {base co : Nat} {bo : Option Addr} {wr : World} (h : L2 w T G xs ln N U cn na lo base co bo wr) : Rd T na bo ln lo N U wr := by
  refine ⟨?_, ?_⟩
  · rcases h.nd with e | ⟨A, e1, e2, e3, e4⟩
    · exact .inl e
    · exact .inr ⟨A, e1, e2, Nat.lt_of_lt_of_le e3 h.hb, e4⟩
  · rcases h.own.2 with ⟨_, e⟩ | ⟨g, cap, cur, e, hbg, hg, _⟩
    · exact .inl e
    · have e' := e
      cases e'
      exact .inr ⟨g, rfl, Nat.lt_of_lt_of_le h.hT hbg, (Array.getElem?_eq_some_iff.1 hg).1, ChAt.of_owns h.own⟩

theorem line_p {ln lo : Nat} {N : Nat → P8} {U : Nat → C8} (H : NetP ln N lo U) {k : Nat} (hk : k < ln) (w : World) (hm : ML w) :
    Calls Tryz.prog 128 #[.string (bs (ptR (N k)))] w fun e w' => e = .returned (.iface 142 (.agg #[.int .i64 (N k).lo, .int .i64 (N k).hi, .int .i64 (N k).nd])) ∧ Below w.heap.size w w' := by
  have hb := H.p hk
  have h := lineOf_w 0 (N k).lo.toNat (N k).hi.toNat (N k).nd.toNat (by omega) (by omega) (by omega) (by omega) w (Lib.hid hm)
  rw [Int.toNat_of_nonneg (by omega), Int.toNat_of_nonneg (by omega), Int.toNat_of_nonneg (by omega)] at h
  exact h
theorem line_c {ln lo : Nat} {N : Nat → P8} {U : Nat → C8} (H : NetP ln N lo U) {k : Nat} (hk : k < lo) (w : World) (hm : ML w) :
    Calls Tryz.prog 128 #[.string (bs (chR (U k)))] w fun e w' => e = .returned (.iface 143 (.agg #[.int .i64 (U k).fr, .int .i64 (U k).to, .int .i64 (U k).cu, .bool (U k).ga])) ∧ Below w.heap.size w w' := by
  have hb := H.c hk
  have hl := H.l7
  have h := lineOf_w (if (U k).ga then 2 else 1) (U k).fr.toNat (U k).to.toNat (U k).cu.toNat (by split <;> decide) (by omega) (by omega) (by omega) w (Lib.hid hm)
  rw [Int.toNat_of_nonneg (by omega), Int.toNat_of_nonneg (by omega), Int.toNat_of_nonneg (by omega)] at h
  unfold chR chLn chWd
  cases hg : (U k).ga <;> rw [hg] at h <;> exact h

theorem wrapk (k b : Nat) (h : k ≤ b) (hb : b ≤ 1000000) : wrap64 ((k : Int) + 1) = (k : Int) + 1 := by
  unfold wrap64
  omega
theorem wrapk' (k b : Nat) (h : k ≤ b) (hb : b ≤ 1000000) : Value.int .i64 (wrap64 ((k : Int) + 1)) = Value.int .i64 ((k + 1 : Nat) : Int) := by
  rw [wrapk k b h hb]; rfl

theorem meas_k (n k : Nat) (h : k + 1 ≤ n) (hn : n ≤ 100) : n - (intOf (.int .i64 (wrap64 ((k : Int) + 1)))).toNat < n - (intOf (.int .i64 (k : Int))).toNat := by
  rw [wrapk k 100 (by omega) (by decide)]
  show n - ((k : Int) + 1).toNat < n - (k : Int).toNat
  omega

set_option maxRecDepth 100000 in
set_option maxHeartbeats 8000000 in
theorem netOf_t (ln lo : Nat) (N : Nat → P8) (U : Nat → C8) (w : World) (H : Hid (NetP ln N lo U)) (hp : Hid (Pow w)) (hm : Hid (ML w)) :
    Calls Tryz.prog 77 #[.string (bs (textL (rowsG ln lo N U)))] w fun e w' =>
      (∃ na cn bo co, e = .returned (.agg #[.slice na ln cn, .slice bo lo co]) ∧ Rd w.heap.size na bo ln lo N U w') ∧ Below w.heap.size w w' := by
  have hok := rows_okG H.out
  have hTL := text_lenG H.out
  have hrl := rowsG_len ln lo N U
  have q1 := H.out.l7
  have q2 := H.out.c10
  have q3 := H.out.l1
  obtain ⟨W0, hW0⟩ : ∃ W0, W0 = w.alloc (.cells #[.slice none 0 0, .slice none 0 0] 25) := ⟨_, rfl⟩
  have hb0 : Below w.heap.size w W0 := by rw [hW0]; exact (Below.refl _ _).alloc (Nat.le_refl _) _
  have hz0 : W0.heap.size = w.heap.size + 1 := by rw [hW0]; simp
  have HC0 : Hid (∀ w1, Below W0.heap.size W0 w1 → w1.cell? ⟨w.heap.size, 0, none⟩ = some (.slice none 0 0) ∧ w1.cell? ⟨w.heap.size, 1, none⟩ = some (.slice none 0 0) ∧ w1.frozen? ⟨w.heap.size, 0, none⟩ = false ∧ w1.frozen? ⟨w.heap.size, 1, none⟩ = false) := Lib.hid fun w1 h => by
    obtain ⟨c, d⟩ := bcell h
    exact ⟨(c _ _ (by omega)).trans (by rw [hW0]; simp), (c _ _ (by omega)).trans (by rw [hW0]; simp), (d _ _ (by omega)).trans (by rw [hW0]; simp), (d _ _ (by omega)).trans (by rw [hW0]; simp)⟩
  have GL : Hid (∀ w', Below w.heap.size w w' → Hid (Pow w') ∧ ML w') := Lib.hid fun w' h => ⟨Lib.hid (hp.out.on h), hm.out.on h⟩
  have hx1 : ∀ k, k < ln → (rowsG ln lo N U).getD k [] = ptR (N k) := fun k hk => by
    rw [List.getD_eq_getElem?_getD, rowsG_n hk]; rfl
  have hx2 : ∀ k, k < lo → (rowsG ln lo N U).getD (ln + k) [] = chR (U k) := fun k hk => by
    rw [List.getD_eq_getElem?_getD, rowsG_o hk]; rfl
  obtain ⟨xs, hxs⟩ : ∃ xs, rowsG ln lo N U = xs := ⟨_, rfl⟩
  rw [hxs] at hok hTL hrl hx1 hx2 ⊢
  obtain ⟨n, hn⟩ : ∃ n, n = ln + lo := ⟨_, rfl⟩
  rw [← hn] at hrl
  have HLN : Hid (Calls Tryz.prog 126 #[.string (bs (textL xs)), .int .i64 149] W0 fun e w' => (∃ G, e = .returned (.tuple #[.slice (some ⟨G, 0, none⟩) n (n + 1), .bool true]) ∧ G < w'.heap.size ∧ StrAt w' G 0 xs ∧ W0.heap.size ≤ G) ∧ Below W0.heap.size W0 w') := Lib.hid (by
    have h := linesN_ok xs W0 (by omega) (by omega) (Lib.hid fun x hx => by have := (hok x hx).1; omega) (Lib.hid fun y hy => by
      rw [List.mem_append, List.mem_singleton] at hy
      rcases hy with hy | rfl
      · exact (hok y hy).2
      · exact endL_no10 _) (by
      have := hTL
      unfold textL at this
      simp at this
      omega) (GL.out _ hb0).1 (Lib.hid (GL.out _ hb0).2)
    rw [hrl] at h
    exact h)
  have HX1 := Lib.hid hx1
  have HX2 := Lib.hid hx2
  have HRL := Lib.hid hrl
  have HB0 := Lib.hid hb0
  have HZ0 := Lib.hid hz0
  have HNN := Lib.hid hn
  obtain ⟨T, hT⟩ : ∃ T, bs (textL xs) = T := ⟨_, rfl⟩
  rw [hT] at HLN ⊢
  obtain ⟨i0, hi, h0, h1, h2⟩ := info_parts info71
  obtain ⟨j0, hj, k0, k1, k2⟩ := info_parts info73
  clear hT hx1 hx2 hok hTL hrl hxs hb0 hz0 hn
  go_enter Tryz.func77, Tryz.ntmps77
  go_wp2_with (first
    | (go_at_call 126; rw [← hW0]; refine HLN.out.mono ?_; rintro e w1 ⟨⟨G, rfl, g1, g2, g3⟩, hb1⟩; have HB1 := Lib.hid hb1; have HG1 := Lib.hid g1; have HG2 := Lib.hid g2; have HG3 := Lib.hid g3; clear hb1 g1 g2 g3)
    | (go_at_call 127; refine (must_t _ _).mono ?_; rintro e w2 ⟨rfl, hw2⟩; obtain rfl := hw2.symm))
  have hl1 : L1 w w.heap.size G xs N 0 w1.heap.size 0 none w1 := by
    have hz0 := HZ0.out
    have hz1 := HB1.out.size
    have hg1 := HG1.out
    have hg3 := HG3.out
    have hgT : G ≠ w.heap.size := by omega
    obtain ⟨t1, t2, u1, u2⟩ := HC0.out _ HB1.out
    exact ⟨t1, t2, u1, u2, World.ownsRow_nil _ _ _ _, by omega, by omega, hgT, HG2.out, Nat.le_refl _, HB0.out.trans (HB1.out.mono (by omega))⟩
  have HL1 := Lib.hid hl1
  clear hl1
  go_loopw [20] (fun ii wr => ∃ k : Nat, k ≤ n ∧ ii = .int .i64 (k : Int) ∧ ((k < ln ∧ ∃ base cn bn, L1 w w.heap.size G xs N k base cn bn wr) ∨ (∃ j na cn base co bo, k = ln + j ∧ L2 w w.heap.size G xs ln N U cn na j base co bo wr))) (fun ii _ => n - (intOf ii).toNat)
  case atStart => exact ⟨0, Nat.zero_le _, rfl, .inl ⟨by omega, _, _, _, HL1.out⟩⟩
  case round =>
    obtain ⟨k, hk, rfl, hst⟩ := hrel
    have hnn := HNN.out
    have hrl := HRL.out
    rcases hst with ⟨hlt, base, cn, bn, hL⟩ | ⟨j, na, cn, base, co, bo, rfl, hL⟩
    · have y0 : wr.cell? ⟨G, k, none⟩ = some (.string (bs (ptR (N k)))) := by
        have h := hL.str k (by omega)
        rw [HX1.out k hlt, Nat.zero_add] at h; exact h
      have HPT := Lib.hid (line_p H.out hlt wr (GL.out _ hL.bel).2)
      obtain ⟨L, hLL⟩ : ∃ L, bs (ptR (N k)) = L := ⟨_, rfl⟩
      rw [hLL] at y0 HPT
      have n1 : (0 : Int) ≤ (k : Int) := by omega
      have n2 : (k : Int) < (n : Int) := by omega
      have HL := Lib.hid hL
      have hmm1 := ta_nn
      have hTb := hL.hT
      have hbz := hL.hb
      have hTw : w.heap.size < wr.heap.size := by omega
      clear hL hLL hnn hrl
      go_wp2_with (first
        | (go_at_call 128; refine HPT.out.mono ?_; rintro e w5 ⟨rfl, hb5⟩; have HL5 := Lib.hid (HL.out.below hb5); have hz5 := hb5.size; have x1 := HL5.out.x1; have x2 := HL5.out.x2; have hT5 : w.heap.size < w5.heap.size := (by omega); have hT5n : w5.heap.size ≠ w.heap.size := (by omega); have hT5m : w.heap.size ≠ w5.heap.size := (by omega); clear hb5)
        | (go_at_call 127; refine (must_t _ _).mono ?_; rintro e w6 ⟨rfl, hw6⟩; obtain rfl := hw6.symm)
        | (at_builtin; refine wpList_append_lies _ rfl (.tmp 37) (.tmp 39) 22 rfl base 71 i0 _ 3 24 Tryz.underlying22 hi h0 h1 h2 rfl (by decide) _ k _ rfl (owns_below HL5.out.own (by repeat (first | exact Below.refl _ _ | refine Below.alloc ?_ (by first | omega | (simp; done) | (simp; omega)) _ | refine Below.setCell ?_ (by first | omega | (simp; done) | (simp; omega)) _ | refine Below.drew ?_))) ⟨_, 0, none⟩ 1 1 [.int .i64 (N k).lo, .int .i64 (N k).hi, .int .i64 (N k).nd] rfl rfl (lies3 ⟨by simp, by simp, by simp⟩) (by intro u hu; simp at hu; rcases hu with rfl | rfl | rfl <;> rfl) (by decide) (by unfold maxLen; omega) (by omega) (by first | omega | (simp; done) | (simp; omega)) _ rfl ?_; intro g6 cap6 w6 hown6 hgrow6 hat6 hlt6; have hb6 : Below base w5 w6 := Below.grown (by repeat (first | exact Below.refl _ _ | refine Below.alloc ?_ (by first | omega | (simp; done) | (simp; omega)) _ | refine Below.setCell ?_ (by first | omega | (simp; done) | (simp; omega)) _ | refine Below.drew ?_)) hgrow6 (by first | omega | (simp; done) | (simp; omega)) (fun r e => own_ge HL5.out.own r e); have v1 := (hb6.cell (p := ⟨w.heap.size, 0, none⟩) hTb).trans HL5.out.x1; have v2 := (hb6.frozen (p := ⟨w.heap.size, 0, none⟩) hTb).trans HL5.out.f1; have HO6 := Lib.hid hown6; have HB6 := Lib.hid hb6; clear hown6 hgrow6 hat6 hlt6 hb6))
      have HLN2 := Lib.hid (HL5.out.next (Nat.le_refl _) HB6.out HO6.out)
      go_roundw
      case rel =>
        refine ⟨k + 1, by omega, by go_num, ?_⟩
        by_cases hlt2 : k + 1 < ln
        · exact .inl ⟨hlt2, _, _, _, HLN2.out⟩
        · obtain rfl : ln = k + 1 := by omega
          exact .inr ⟨0, _, _, _, _, _, rfl, HLN2.out.turn U⟩
      case measure => simp [intOf]; omega
    · by_cases hlt : j < lo
      · have y0 : wr.cell? ⟨G, ln + j, none⟩ = some (.string (bs (chR (U j)))) := by
          have h := hL.str (ln + j) (by omega)
          rw [HX2.out j hlt, Nat.zero_add] at h; exact h
        have HPT := Lib.hid (line_c H.out hlt wr (GL.out _ hL.bel).2)
        obtain ⟨L, hLL⟩ : ∃ L, bs (chR (U j)) = L := ⟨_, rfl⟩
        rw [hLL] at y0 HPT
        obtain ⟨k, hkk⟩ : ∃ k, k = ln + j := ⟨_, rfl⟩
        rw [← hkk] at y0 hk ⊢
        have n1 : (0 : Int) ≤ (k : Int) := by omega
        have n2 : (k : Int) < (n : Int) := by omega
        have HL := Lib.hid hL
        have hmm1 := ta_on
        have hmm2 := ta_oo
        have hTb := hL.hT
        have hbz := hL.hb
        have hTw : w.heap.size < wr.heap.size := by omega
        have HKK := Lib.hid (show k = ln + j ∧ k + 1 ≤ n ∧ n ≤ 100 from ⟨hkk, by omega, by omega⟩)
        clear hL hLL hnn hrl hkk
        go_wp2_with (first
          | (go_at_call 128; refine HPT.out.mono ?_; rintro e w5 ⟨rfl, hb5⟩; have HL5 := Lib.hid (HL.out.below hb5); have hz5 := hb5.size; have x1 := HL5.out.x1; have x2 := HL5.out.x2; have hT5 : w.heap.size < w5.heap.size := (by omega); have hT5n : w5.heap.size ≠ w.heap.size := (by omega); have hT5m : w.heap.size ≠ w5.heap.size := (by omega); clear hb5)
          | (at_builtin; refine wpList_append_lies _ rfl (.tmp 46) (.tmp 48) 23 rfl base 73 j0 _ 4 32 Tryz.underlying23 hj k0 k1 k2 rfl (by decide) _ j _ rfl (owns_below HL5.out.own (by repeat (first | exact Below.refl _ _ | refine Below.alloc ?_ (by first | omega | (simp; done) | (simp; omega)) _ | refine Below.setCell ?_ (by first | omega | (simp; done) | (simp; omega)) _ | refine Below.drew ?_))) ⟨_, 0, none⟩ 1 1 [.int .i64 (U j).fr, .int .i64 (U j).to, .int .i64 (U j).cu, .bool (U j).ga] rfl rfl (lies4 ⟨by simp, by simp, by simp, by simp⟩) (by intro u hu; simp at hu; rcases hu with rfl | rfl | rfl | rfl <;> rfl) (by decide) (by unfold maxLen; omega) (by omega) (by first | omega | (simp; done) | (simp; omega)) _ rfl ?_; intro g6 cap6 w6 hown6 hgrow6 hat6 hlt6; have hb6 : Below base w5 w6 := Below.grown (by repeat (first | exact Below.refl _ _ | refine Below.alloc ?_ (by first | omega | (simp; done) | (simp; omega)) _ | refine Below.setCell ?_ (by first | omega | (simp; done) | (simp; omega)) _ | refine Below.drew ?_)) hgrow6 (by first | omega | (simp; done) | (simp; omega)) (fun r e => own_ge HL5.out.own r e); have v1 := (hb6.cell (p := ⟨w.heap.size, 1, none⟩) hTb).trans HL5.out.x2; have v2 := (hb6.frozen (p := ⟨w.heap.size, 1, none⟩) hTb).trans HL5.out.f2; have HO6 := Lib.hid hown6; have HB6 := Lib.hid hb6; clear hown6 hgrow6 hat6 hlt6 hb6))
        have HLN2 := Lib.hid (HL5.out.next (Nat.le_refl _) HB6.out HO6.out)
        go_roundw
        case rel =>
          obtain ⟨hkk, hkn, hk100⟩ := HKK.out
          exact ⟨k + 1, hkn, wrapk' k 100 (by omega) (by decide), .inr ⟨j + 1, _, _, _, _, _, by omega, HLN2.out⟩⟩
        case measure =>
          obtain ⟨hkk, hkn, hk100⟩ := HKK.out
          exact meas_k n k hkn hk100
      · obtain rfl : n = ln + j := by omega
        obtain rfl : j = lo := by omega
        have hrd := hL.rd
        have x1 := hL.x1
        have x2 := hL.x2
        have f1 := hL.f1
        have f2 := hL.f2
        have HBL := Lib.hid hL.bel
        have HRD := Lib.hid hrd
        clear hL hrd hnn hrl
        go_wp2
        have e1 : ((wr.setCell ⟨w.heap.size, 0, none⟩ (.slice na ln cn)).setCell ⟨w.heap.size, 1, none⟩ (.slice bo j co)).cell? ⟨w.heap.size, 0, none⟩ = some (.slice na ln cn) := by
          rw [World.cell?_setCell_other _ _ _ _ (noo (by decide))]; exact World.cell?_setCell_same' _ _ _ (by rw [x1]; rfl)
        have e2 : ((wr.setCell ⟨w.heap.size, 0, none⟩ (.slice na ln cn)).setCell ⟨w.heap.size, 1, none⟩ (.slice bo j co)).cell? ⟨w.heap.size, 1, none⟩ = some (.slice bo j co) :=
          World.cell?_setCell_same' _ _ _ (by rw [World.cell?_setCell_other _ _ _ _ (noo (by decide)), x2]; rfl)
        refine bodyPost_ret (v := .agg #[.slice na ln cn, .slice bo j co]) (by simp [results, Tryz.results77, go_sem, e1, e2]) rfl ⟨⟨na, cn, bo, ⟨co, rfl⟩, ?_⟩, ?_⟩
        · exact (HRD.out.set (Nat.le_refl _) _).set (Nat.le_refl _) _
        · exact (HBL.out.setCell (Nat.le_refl _) _).setCell (Nat.le_refl _) _
end Go.Kn

namespace Go.Kn
open Go Go.Proofs Go.RowKit

def txG (ln lo : Nat) (N : Nat → P8) (U : Nat → C8) : ByteArray := bs (textL (rowsG ln lo N U))

/-- a box that holds a network -/
structure BoxT (w : World) (b : Nat) (na bo : Option Addr) (ln cn lo co : Nat) : Prop where
  c0 : w.cell? ⟨b, 0, none⟩ = some (.slice na ln cn)
  c1 : w.cell? ⟨b, 1, none⟩ = some (.slice bo lo co)
  f0 : w.frozen? ⟨b, 0, none⟩ = false
  f1 : w.frozen? ⟨b, 1, none⟩ = false
theorem BoxT.below {w w1 : World} {b : Nat} {na bo : Option Addr} {ln cn lo co : Nat} (h : BoxT w b na bo ln cn lo co) (hb : b < w.heap.size) (hB : Below w.heap.size w w1) : BoxT w1 b na bo ln cn lo co := by
  obtain ⟨c, d⟩ := bcell hB
  exact ⟨(c _ _ hb).trans h.c0, (c _ _ hb).trans h.c1, (d _ _ hb).trans h.f0, (d _ _ hb).trans h.f1⟩
def putT (w : World) (b : Nat) (na bo : Option Addr) (ln cn lo co : Nat) : World := (w.setCell ⟨b, 0, none⟩ (.slice na ln cn)).setCell ⟨b, 1, none⟩ (.slice bo lo co)
theorem BoxT.put {w : World} {b : Nat} {na bo : Option Addr} {ln cn lo co : Nat} {na' bo' : Option Addr} {ln' cn' lo' co' : Nat} (h : BoxT w b na' bo' ln' cn' lo' co') : BoxT (putT w b na bo ln cn lo co) b na bo ln cn lo co := by
  unfold putT
  refine ⟨?_, ?_, ?_, ?_⟩
  · rw [World.cell?_setCell_other _ _ _ _ (noo (by decide))]; exact World.cell?_setCell_same' _ _ _ (by rw [h.c0]; rfl)
  · exact World.cell?_setCell_same' _ _ _ (by rw [World.cell?_setCell_other _ _ _ _ (noo (by decide)), h.c1]; rfl)
  · rw [World.frozen?_setCell, World.frozen?_setCell]; exact h.f0
  · rw [World.frozen?_setCell, World.frozen?_setCell]; exact h.f1
theorem BoxT.other {w : World} {b b' o : Nat} {v : Value} {na bo : Option Addr} {ln cn lo co : Nat} (h : BoxT w b na bo ln cn lo co) (hne : b' ≠ b) : BoxT (w.setCell ⟨b', o, none⟩ v) b na bo ln cn lo co := by
  refine ⟨?_, ?_, ?_, ?_⟩
  · rw [World.cell?_setCell_other _ _ _ _ (nbb hne)]; exact h.c0
  · rw [World.cell?_setCell_other _ _ _ _ (nbb hne)]; exact h.c1
  · rw [World.frozen?_setCell]; exact h.f0
  · rw [World.frozen?_setCell]; exact h.f1
theorem Rd.put {m : Nat} {na bo : Option Addr} {ln lo : Nat} {N : Nat → P8} {U : Nat → C8} {w : World} {b : Nat} {na' bo' : Option Addr} {ln' cn' lo' co' : Nat} (h : Rd m na bo ln lo N U w) (hb : b ≤ m) : Rd m na bo ln lo N U (putT w b na' bo' ln' cn' lo' co') :=
  (h.set hb _).set hb _

set_option maxRecDepth 100000 in
set_option maxHeartbeats 1000000 in
theorem read1_t (a b : Nat) (ln lo : Nat) (N : Nat → P8) (U : Nat → C8) (w : World) (H : Hid (NetP ln N lo U)) (hp : Hid (Pow w)) (hm : Hid (ML w)) (hb : b < w.heap.size) (hc : w.cell? ⟨a, 0, none⟩ = some (.string (txG ln lo N U))) (h0 : BoxT w b none none 0 0 0 0) :
    Calls Tryz.prog 76 #[.pointer (some ⟨a, 0, none⟩), .pointer (some ⟨b, 0, none⟩)] w fun e w' => e = .returned (.tuple #[]) ∧
      ∃ na cn bo co w1, w' = putT w1 b na bo ln cn lo co ∧ Below w.heap.size w w1 ∧ Rd w.heap.size na bo ln lo N U w1 := by
  have HL := Lib.hid (netOf_t ln lo N U w H hp hm)
  rw [show bs (textL (rowsG ln lo N U)) = txG ln lo N U from rfl] at HL
  obtain ⟨T, hT⟩ : ∃ T, txG ln lo N U = T := ⟨_, rfl⟩
  rw [hT] at HL hc
  clear hT
  go_enter Tryz.func76, Tryz.ntmps76
  go_wp2_with (go_at_call 77; refine HL.out.mono ?_; rintro e w1 ⟨⟨na, cn, bo, co, rfl, hl⟩, hb1⟩; have hB := h0.below hb hb1; have z1 := hB.c0; have z2 := hB.c1; have z4 := hB.f0; have z5 := hB.f1; have HLL := Lib.hid hl; clear hl hB)
  go_end0
  exact ⟨rfl, na, cn, bo, co, w1, rfl, hb1, HLL.out⟩

set_option maxRecDepth 100000 in
set_option maxHeartbeats 1000000 in
theorem attempt_tt (a b : Nat) (ln lo : Nat) (N : Nat → P8) (U : Nat → C8) (w : World) (H : Hid (NetP ln N lo U)) (hp : Hid (Pow w)) (hm : Hid (ML w)) (hb : b < w.heap.size) (hc : w.cell? ⟨a, 0, none⟩ = some (.string (txG ln lo N U))) (h0 : BoxT w b none none 0 0 0 0) :
    Calls Tryz.prog 75 #[.func (.func 76) #[] #[.pointer (some ⟨a, 0, none⟩), .pointer (some ⟨b, 0, none⟩)]] w fun e w' => e = .returned (.int .i64 0) ∧
      ∃ na cn bo co w1, w' = (putT w1 b na bo ln cn lo co).setCell ⟨w.heap.size, 0, none⟩ (.int .i64 0) ∧ Below w.heap.size w w1 ∧ Rd w.heap.size na bo ln lo N U w1 := by
  have hmf : ∀ (fn : Fn) (first cap : Array Value) (w : World), (Instr.makeFunc fn first cap).run Tryz.prog w = .ok (.func fn first cap) w := fun _ _ _ _ => rfl
  have hA : Below w.heap.size w (w.alloc (.cells #[.int .i64 0] 32)) := (Below.refl _ _).alloc (Nat.le_refl _) _
  have ha : a < w.heap.size := World.block_lt_of_cell? _ _ hc
  obtain ⟨q, qf⟩ := bcell hA
  have hz1 : (w.alloc (.cells #[.int .i64 0] 32)).heap.size = w.heap.size + 1 := by simp
  have HR := Lib.hid (read1_t a b ln lo N U (w.alloc (.cells #[.int .i64 0] 32)) H (Lib.hid (hp.out.on hA)) (Lib.hid (hm.out.on hA)) (by rw [hz1]; omega) ((q _ _ ha).trans hc) (h0.below hb hA))
  have c0 : (w.alloc (.cells #[.int .i64 0] 32)).cell? ⟨w.heap.size, 0, none⟩ = some (.int .i64 0) := by simp
  have f0 : (w.alloc (.cells #[.int .i64 0] 32)).frozen? ⟨w.heap.size, 0, none⟩ = false := by simp
  have l0 : w.heap.size < (w.alloc (.cells #[.int .i64 0] 32)).heap.size := by simp
  have hdiff : b ≠ w.heap.size := by omega
  have HC : Hid (∀ w1 na cn bo co, Below (w.alloc (.cells #[.int .i64 0] 32)).heap.size (w.alloc (.cells #[.int .i64 0] 32)) w1 → (putT w1 b na bo ln cn lo co).cell? ⟨w.heap.size, 0, none⟩ = some (.int .i64 0) ∧ (putT w1 b na bo ln cn lo co).frozen? ⟨w.heap.size, 0, none⟩ = false) := Lib.hid fun w1 na cn bo co hb' => by
    obtain ⟨c, d⟩ := bcell hb'
    unfold putT
    rw [World.cell?_setCell_other _ _ _ _ (nbb hdiff), World.cell?_setCell_other _ _ _ _ (nbb hdiff), World.frozen?_setCell, World.frozen?_setCell]
    exact ⟨(c _ _ l0).trans c0, (d _ _ l0).trans f0⟩
  have HA := Lib.hid hA
  have HZ := Lib.hid hz1
  clear hc hA c0 f0 l0 h0 q qf hz1
  go_enter_defers Tryz.func75, Tryz.ntmps75
  go_wp2_with (go_at_call 76; refine HR.out.mono ?_; rintro e w2 ⟨rfl, na, cn, bo, co, w1, hw2, hb1, hl⟩; obtain ⟨y1, y2⟩ := HC.out w1 na cn bo co hb1; rw [← hw2] at y1 y2; have HW2 := Lib.hid hw2; have HLL := Lib.hid hl; clear hw2 hl)
  refine leaves_cons (f := 125) (args := #[.pointer (some ⟨w.heap.size, 0, none⟩)]) (by simp) (by simp [go_sem]) ?_
  refine (catch_none ⟨w.heap.size, 0, none⟩ _).mono ?_
  rintro e u' w'' ⟨rfl, rfl, rfl⟩
  simp [Leaves, settle, results, Tryz.results75, go_sem, y1]
  have hz := HZ.out
  exact ⟨na, cn, bo, co, w1, by rw [HW2.out], HA.out.trans (hb1.mono HA.out.size), HLL.out.mono (by omega)⟩

theorem attempt_t2 (a b : Nat) (ln lo : Nat) (N : Nat → P8) (U : Nat → C8) (w : World) (H : Hid (NetP ln N lo U)) (hp : Hid (Pow w)) (hm : Hid (ML w)) (hb : b < w.heap.size) (hc : w.cell? ⟨a, 0, none⟩ = some (.string (txG ln lo N U))) (h0 : BoxT w b none none 0 0 0 0) :
    Calls Tryz.prog 75 #[.func (.func 76) #[] #[.pointer (some ⟨a, 0, none⟩), .pointer (some ⟨b, 0, none⟩)]] w fun e w' => e = .returned (.int .i64 0) ∧
      ∃ na cn bo co, BoxT w' b na bo ln cn lo co ∧ Rd b na bo ln lo N U w' ∧ Below b w w' :=
  (attempt_tt a b ln lo N U w H hp hm hb hc h0).mono (by
    rintro e w2 ⟨rfl, na, cn, bo, co, w1, rfl, hb1, hl⟩
    have hB := h0.below hb hb1
    refine ⟨rfl, na, cn, bo, co, (hB.put).other (by omega), ((hl.put (Nat.le_of_lt hb)).set (Nat.le_refl _) _).mono (Nat.le_of_lt hb), ?_⟩
    unfold putT
    exact (((hb1.mono (Nat.le_of_lt hb)).setCell (Nat.le_refl _) _).setCell (Nat.le_refl _) _).setCell (Nat.le_of_lt hb) _)

set_option maxRecDepth 100000 in
set_option maxHeartbeats 2000000 in
theorem read_t (ln lo : Nat) (N : Nat → P8) (U : Nat → C8) (w : World) (H : Hid (NetP ln N lo U)) (hp : Hid (Pow w)) (hm : Hid (ML w)) :
    Calls Tryz.prog 33 #[.string (txG ln lo N U)] w fun e w' => (∃ na cn bo co, e = .returned (.tuple #[.agg #[.slice na ln cn, .slice bo lo co], .int .i64 0]) ∧ Hid (Ne8 w' na bo ln lo N U)) ∧ Below w.heap.size w w' := by
  have hsz : (txG ln lo N U).size ≤ 400 := by
    have := text_lenG H.out
    unfold txG
    rw [bs_size]; exact this
  have q1 := H.out.l7
  have q2 := H.out.c10
  have hnv : netV ln N lo U = true := netV_iff.2 H.out
  obtain ⟨W, hW⟩ : ∃ W, W = (w.alloc (.cells #[.string (txG ln lo N U)] 9)).alloc (.cells #[.slice none 0 0, .slice none 0 0] 25) := ⟨_, rfl⟩
  have hbW : Below w.heap.size w W := by rw [hW]; exact ((Below.refl _ _).alloc (Nat.le_refl _) _).alloc (by simp) _
  have hzW : W.heap.size = w.heap.size + 1 + 1 := by rw [hW]; simp
  have c0 : W.cell? ⟨w.heap.size, 0, none⟩ = some (.string (txG ln lo N U)) := by rw [hW]; simp
  have b0 : BoxT W (w.heap.size + 1) none none 0 0 0 0 := by rw [hW]; exact ⟨by simp, by simp, by simp, by simp⟩
  have HAT := Lib.hid (attempt_t2 w.heap.size (w.heap.size + 1) ln lo N U W H (Lib.hid (hp.out.on hbW)) (Lib.hid (hm.out.on hbW)) (by omega) c0 b0)
  have HBW := Lib.hid hbW
  have HZW := Lib.hid hzW
  have hmf : ∀ (fn : Fn) (first cap : Array Value) (w : World), (Instr.makeFunc fn first cap).run Tryz.prog w = .ok (.func fn first cap) w := fun _ _ _ _ => rfl
  have hs3 : ¬ ((400 : Int) < ((txG ln lo N U).size : Int)) := by omega
  obtain ⟨T, hT⟩ : ∃ T, txG ln lo N U = T := ⟨_, rfl⟩
  rw [hT] at hW hs3 ⊢
  clear hT c0 b0 hbW hzW hsz
  go_enter Tryz.func33, Tryz.ntmps33
  go_wp2_with (first
    | (go_at_call 75; rw [← hW]; refine HAT.out.mono ?_; rintro e w2 ⟨rfl, na, cn, bo, co, hbt, hrd, hb2⟩; have hz2 : w.heap.size + 1 < w2.heap.size := (by have := hb2.size; have := HZW.out; omega); have x0 := hbt.c0; have x1 := hbt.c1; have HBT := Lib.hid hbt; have HRD := Lib.hid hrd; have HB2 := Lib.hid (HBW.out.trans (hb2.mono (Nat.le_succ _))); clear hbt hrd hb2)
    | (go_at_call 49; refine (isNet_w na bo ln cn lo co N U _ (by omega) (by omega) (Lib.hid HRD.out.ne)).mono ?_; rw [hnv]; rintro e w3 ⟨rfl, hb3⟩; clear x0 x1; have hbt3 := HBT.out.below hz2 hb3; have x0 := hbt3.c0; have x1 := hbt3.c1; have x3 := hbt3.f0; have x4 := hbt3.f1; have HBT3 := Lib.hid hbt3; clear hbt3))
  have hq : BoxT (putT w3 (w.heap.size + 1) na bo ln cn lo co) (w.heap.size + 1) na bo ln cn lo co := HBT3.out.put
  unfold putT at hq
  have e1 := hq.c0
  have e2 := hq.c1
  refine bodyPost_ret (v := .tuple #[.agg #[.slice na ln cn, .slice bo lo co], .int .i64 0]) (by simp [results, Tryz.results33, go_sem, e1, e2]) rfl ⟨⟨na, cn, bo, co, rfl, ?_⟩, ?_⟩
  · exact Lib.hid ((HRD.out.below hb3).put (Nat.le_refl _)).ne
  · exact ((HB2.out.trans (hb3.mono HB2.out.size)).setCell (by simp) _).setCell (by simp) _
end Go.Kn
