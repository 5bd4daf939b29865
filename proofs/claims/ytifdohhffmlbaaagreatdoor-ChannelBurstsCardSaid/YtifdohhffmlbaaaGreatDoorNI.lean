/- Walks of the functions of layer 2 that ChannelHeights calls, and the law itself (a part of it). Conditions: as each theorem states them. -/
import Derived.Test.YtifdohhffmlbaaaGreatDoorN8
import Derived.Deep.Slices
import Derived.Deep.Fields
import Derived.ChangeSame
import Derived.Lib.SmallJoins
set_option linter.unusedVariables false
set_option linter.unusedSimpArgs false
namespace Go.Kn
open Go Go.Proofs Go.RowKit Go.ChangeShapes Go.WideShapes Go.Deep

def numOf' : Value → Int
  | .int _ k => k
  | _ => 0

theorem cel3 : Tryz.prog.cellsOf 3 = 1 := by kernel_rfl
theorem cel22 : Tryz.prog.cellsOf 22 = 1 := by kernel_rfl
theorem cel31 : Tryz.prog.cellsOf 31 = 2 := by kernel_rfl
theorem cel68 : Tryz.prog.cellsOf 68 = 1 := by kernel_rfl
theorem cel70 : Tryz.prog.cellsOf 70 = 4 := by kernel_rfl

section
variable {H : Type} {enc : TypeId × Value → H} {w : World} {base : Nat} {spare : Nat → Bool} {held : Bool}

theorem addr_mk' {a : Addr} {v : Value} (h : w.cell? a = some v) : a = ⟨a.block, a.off, none⟩ := by
  have := World.cell?_spot h
  obtain ⟨b, o, s⟩ := a
  simp at this
  subst this; rfl

theorem add_mk' (b o i : Nat) : (⟨b, o, none⟩ : Addr).add i = ⟨b, o + i, none⟩ := by
  unfold Addr.add
  split
  · rename_i h; subst h; rfl
  · rfl

theorem int_open {n : Nat} {v : Value} {y : DataW H × List MemPlace} (h : DataW.trod enc Tryz.prog w base spare held n 22 [v] = some y) :
    ∃ (sa : Option Addr) (ls cs : Nat) (s : Nat → Int), v = .slice sa ls cs ∧ ls ≤ maxLen ∧ IntSl w sa ls s := by
  rcases open_slice1 Tryz.underlying22 cel3 h with ⟨h1, _⟩ | ⟨a, len, cap, m, n', V, D, Pl, h1, _, hl, hm, hmm, _, hi⟩
  · exact ⟨none, 0, 0, fun _ => 0, by simpa using h1, by decide, .inl rfl⟩
  · refine ⟨some a, len, cap, fun i => numOf' (V i), by simpa using h1, by omega, ?_⟩
    by_cases h0 : len = 0
    · exact .inl h0
    · have hml : len ≤ m := by rw [hmm]; split <;> omega
      have hc0 := (hi 0 (by omega)).1
      have ea : a.add 0 = a := rfl
      rw [ea] at hc0
      have e := addr_mk' hc0
      refine .inr ⟨a.block, a.off, by rw [← e], World.block_lt_of_cell? w a hc0, fun i hil => ?_⟩
      obtain ⟨hc, ht⟩ := hi i (by omega)
      obtain ⟨k, hk, _⟩ := DataW.trod_int Tryz.underlying3 ht
      have hv : V i = .int .i64 k := by simpa using hk
      have q : a.add i = ⟨a.block, a.off + i, none⟩ := (congrArg (fun x => Addr.add x i) e).trans (add_mk' _ _ _)
      rw [q] at hc
      show w.cell? _ = some (.int .i64 (numOf' (V i)))
      rw [hc, hv]; rfl

theorem li2 {α : Type} {l : List α} (h : l.length = 2) : ∃ a b, l = [a, b] := by
  match l, h with
  | [a, b], _ => exact ⟨a, b, rfl⟩
theorem li3 {α : Type} {l : List α} (h : l.length = 3) : ∃ a b c, l = [a, b, c] := by
  match l, h with
  | [a, b, c], _ => exact ⟨a, b, c, rfl⟩
theorem li4 {α : Type} {l : List α} (h : l.length = 4) : ∃ a b c d, l = [a, b, c, d] := by
  match l, h with
  | [a, b, c, d], _ => exact ⟨a, b, c, d, rfl⟩

theorem sp_cells {n : Nat} {cs : List Value} {y : DataW H × List MemPlace} (h : DataW.trod enc Tryz.prog w base spare held n 31 cs = some y) :
    ∃ a b : Int, cs = [.int .i64 a, .int .i64 b] := by
  obtain ⟨zs, n2, _, _, hlen2, hzl, hg⟩ := DataW.trod_struct Tryz.underlying31 h
  rw [cel31] at hlen2
  obtain ⟨c0, c1, rfl⟩ := li2 hlen2
  obtain ⟨z0, z1, rfl⟩ := li2 hzl
  have g0 : DataW.trod enc Tryz.prog w base spare held n2 3 ((([c0, c1].drop 0)).take (Tryz.prog.cellsOf 3)) = some z0 := hg 0 _ rfl
  rw [cel3] at g0
  have g1 : DataW.trod enc Tryz.prog w base spare held n2 3 ((([c0, c1].drop 1)).take (Tryz.prog.cellsOf 3)) = some z1 := hg 1 _ rfl
  rw [cel3] at g1
  obtain ⟨k3, e3, _⟩ := DataW.trod_int Tryz.underlying3 g0
  obtain ⟨k4, e4, _⟩ := DataW.trod_int Tryz.underlying3 g1
  simp at e3 e4
  exact ⟨k3, k4, by rw [e3, e4]⟩

theorem sp_open {n : Nat} {v : Value} {y : DataW H × List MemPlace} (h : DataW.trod enc Tryz.prog w base spare held n 68 [v] = some y) :
    ∃ (ta : Option Addr) (lt ct : Nat) (t : Nat → Sp2), v = .slice ta lt ct ∧ lt ≤ maxLen ∧ SpSl w ta lt t := by
  rcases open_slice Tryz.underlying68 h with ⟨h1, _⟩ | ⟨a, len, cap, m, n', D, Pl, h1, _, hl, hm, hmm, _, hi⟩
  · exact ⟨none, 0, 0, fun _ => ⟨0, 0⟩, by simpa using h1, by decide, .inl rfl⟩
  · have hml : len ≤ m := by rw [hmm]; split <;> omega
    have key : ∀ i, i < len → ∃ x : Sp2, ∀ j c, [x.lo, x.hi][j]? = some c → w.cell? (a.add (i * 2 + j)) = some (.int .i64 c) := by
      intro i hil
      obtain ⟨cs', hc, ht⟩ := hi i (by omega)
      rw [cel31] at hc
      obtain ⟨_, hcl, hat⟩ := World.cells?_some hc
      obtain ⟨k0, k1, rfl⟩ := sp_cells ht
      refine ⟨⟨k0, k1⟩, fun j c hj => ?_⟩
      have hj5 : j < 2 := by
        have := (List.getElem?_eq_some_iff.1 hj).1
        simpa using this
      have h1 := hat j hj5
      rw [← Go.Deep.add_add] at *
      rw [h1]
      match j, hj5, hj with
      | 0, _, hj => simpa using hj
      | 1, _, hj => simpa using hj
    by_cases h0 : len = 0
    · exact ⟨some a, len, cap, fun _ => ⟨0, 0⟩, by simpa using h1, by omega, .inl h0⟩
    · obtain ⟨x0, hx0⟩ := key 0 (by omega)
      have hc0 := hx0 0 _ rfl
      have ea : a.add (0 * 2 + 0) = a := rfl
      rw [ea] at hc0
      have e := addr_mk' hc0
      refine ⟨some a, len, cap, fun i => if h : i < len then Classical.choose (key i h) else ⟨0, 0⟩, by simpa using h1, by omega, .inr ⟨a.block, a.off, by rw [← e], World.block_lt_of_cell? w a hc0, fun i hil => ?_⟩⟩
      simp only [hil, dif_pos]
      have hk := Classical.choose_spec (key i hil)
      have q : ∀ j, a.add (i * 2 + j) = ⟨a.block, a.off + (i * 2 + j), none⟩ := fun j => (congrArg (fun x => Addr.add x (i * 2 + j)) e).trans (add_mk' _ _ _)
      have c0 := hk 0 _ rfl
      have c1 := hk 1 _ rfl
      rw [q] at c0 c1
      exact ⟨c0, c1⟩

set_option maxRecDepth 100000 in
theorem sip_open {r : Reach} {b0 : Nat} {v : Value} {d : DataW H} {p : List MemPlace} {t : TypeId} (ht : t = 70) (hv : Value.okWide Tryz.prog w r b0 t v) (h : DataW.Trod enc Tryz.prog w base spare held t v d p) :
    ∃ (il ih : Int) (pa la : Option Addr) (lp cp ll cl : Nat) (q : Nat → Sp2) (l : Nat → Int), v = .agg #[.int .i64 il, .int .i64 ih, .slice pa lp cp, .slice la ll cl] ∧ lp ≤ maxLen ∧ ll ≤ maxLen ∧ AnySip w pa la lp ll q l := by
  obtain ⟨cs, rfl, hsz⟩ := okWide_struct (by rw [ht]; exact Tryz.underlying70) hv
  subst ht
  obtain ⟨l⟩ := cs
  obtain ⟨fuel, hf⟩ := h
  obtain ⟨xs, n, _, _, hlen, hxl, hg⟩ := DataW.trod_struct Tryz.underlying70 hf
  have hl4 : l.length = 4 := by
    exact hsz.trans cel70
  obtain ⟨c0, c1, c2, c3, rfl⟩ := li4 hl4
  obtain ⟨x0, x1, x2, rfl⟩ := li3 hxl
  have f0 : DataW.trod enc Tryz.prog w base spare held n 31 (([c0, c1, c2, c3].drop 0).take (Tryz.prog.cellsOf 31)) = some x0 := hg 0 _ rfl
  rw [cel31] at f0
  have f1 : DataW.trod enc Tryz.prog w base spare held n 68 (([c0, c1, c2, c3].drop 2).take (Tryz.prog.cellsOf 68)) = some x1 := hg 1 _ rfl
  rw [cel68] at f1
  have f2 : DataW.trod enc Tryz.prog w base spare held n 22 (([c0, c1, c2, c3].drop 3).take (Tryz.prog.cellsOf 22)) = some x2 := hg 2 _ rfl
  rw [cel22] at f2
  obtain ⟨il, ih, e0⟩ := sp_cells f0
  have e1 : c0 = .int .i64 il := (List.cons.inj e0).1
  have e2 : c1 = .int .i64 ih := (List.cons.inj (List.cons.inj e0).2).1
  subst e1
  subst e2
  clear e0
  obtain ⟨pa, lp, cp, q, rfl, hlp, HP⟩ := sp_open f1
  obtain ⟨la, ll, cl, l, rfl, hll, HL⟩ := int_open f2
  exact ⟨il, ih, pa, la, lp, cp, ll, cl, q, l, rfl, hlp, hll, HP, HL⟩
end
end Go.Kn
