/- Contracts of functions that the laws of this seat call, or the evaluator of closed calls and its runs. Conditions: as each theorem states them. -/
import Derived.Test.YtddlghdglknloaaGreatDoorM6
set_option linter.unusedVariables false
set_option linter.unusedSimpArgs false
namespace Go.Kn
open Go Go.Proofs Go.RowKit

/-- points whose springs give just so much -/
def sprP (P : Nat → P8) (u : Nat → Int) : Nat → P8 := fun i => ⟨u i, u i, (P i).nd⟩
theorem NetP.spr {lp : Nat} {P : Nat → P8} {lc : Nat} {C : Nat → C8} (h : NetP lp P lc C) {u : Nat → Int} (hu : ∀ i, i < lp → (P i).lo ≤ u i ∧ u i ≤ (P i).hi) : NetP lp (sprP P u) lc C := by
  refine ⟨h.l1, h.l7, h.c10, fun i hi => ?_, h.ch, h.g7⟩
  have h1 := h.p hi
  have h2 := hu i hi
  have e1 : (sprP P u i).lo = u i := rfl
  have e2 : (sprP P u i).hi = u i := rfl
  have e3 : (sprP P u i).nd = (P i).nd := rfl
  unfold ptB fromB
  rw [e1, e2, e3]
  simp only [Bool.and_eq_true, decide_eq_true_eq]
  omega
theorem sumL_le {g h : Nat → Int} : ∀ {L : List Nat}, (∀ x ∈ L, g x ≤ h x) → sumL g L ≤ sumL h L
  | [], _ => by simp [sumL]
  | x :: L, hh => by
    have h1 := hh x List.mem_cons_self
    have h2 := sumL_le fun y hy => hh y (List.mem_cons_of_mem _ hy)
    simp only [sumL]; omega
theorem fed_mono {lp : Nat} {P Q : Nat → P8} {lc : Nat} {C : Nat → C8} {op : Nat → Bool} {b c : Bool} (h : ∀ i, i < lp → leftV P b i ≤ leftV Q c i) (hf : fedV lp P lc C op b = true) : fedV lp Q lc C op c = true := by
  rw [fed_iff] at hf ⊢
  intro L hL
  have h1 := hf L hL
  have h2 : sumL (leftV P b) L ≤ sumL (leftV Q c) L := sumL_le fun x hx => h x (List.mem_range.1 ((allLs_iff.1 hL).subset hx))
  unfold spareV at h1 ⊢
  omega
/-- what is so of a network holds whatever its springs give -/
theorem spr_word {lp : Nat} {P : Nat → P8} {lc : Nat} {C : Nat → C8} {op : Nat → Bool} {u : Nat → Int} (hu : ∀ i, i < lp → (P i).lo ≤ u i ∧ u i ≤ (P i).hi) :
    (wordV lp (sprP P u) lc C op = 3 ∨ wordV lp (sprP P u) lc C op = 1) ∧ (wordV lp P lc C op = 3 → wordV lp (sprP P u) lc C op = 3) ∧ (wordV lp P lc C op = 1 → wordV lp (sprP P u) lc C op = 1) := by
  have e : fedV lp (sprP P u) lc C op true = fedV lp (sprP P u) lc C op false := by
    rw [Bool.eq_iff_iff]
    exact ⟨fed_mono fun i hi => by simp [leftV, sprP], fed_mono fun i hi => by simp [leftV, sprP]⟩
  have m1 : fedV lp P lc C op false = true → fedV lp (sprP P u) lc C op false = true := fed_mono fun i hi => by have := hu i hi; simp only [leftV, sprP, Bool.false_eq_true, if_false]; omega
  have m2 : fedV lp (sprP P u) lc C op true = true → fedV lp P lc C op true = true := fed_mono fun i hi => by have := hu i hi; simp only [leftV, sprP, if_true]; omega
  unfold wordV
  rw [e] at *
  cases h1 : fedV lp P lc C op false <;> cases h2 : fedV lp P lc C op true <;> cases h3 : fedV lp (sprP P u) lc C op false <;> simp_all
theorem ptCells_snoc (P : Nat → P8) (k : Nat) : ptCells P (k + 1) = ptCells P k ++ [.int .i64 (P k).lo, .int .i64 (P k).hi, .int .i64 (P k).nd] := by
  unfold ptCells
  rw [show (k + 1) * 3 = k * 3 + 1 + 1 + 1 by omega, List.range_succ, List.range_succ, List.range_succ]
  simp only [List.map_append, List.map_cons, List.map_nil, List.append_assoc, List.cons_append, List.nil_append]
  congr 1
  simp only [ptCell]
  rw [if_pos (show k * 3 % 3 = 0 by omega), if_neg (show ¬ (k * 3 + 1) % 3 = 0 by omega), if_pos (show (k * 3 + 1) % 3 = 1 by omega), if_neg (show ¬ (k * 3 + 1 + 1) % 3 = 0 by omega), if_neg (show ¬ (k * 3 + 1 + 1) % 3 = 1 by omega),
    show k * 3 / 3 = k by omega, show (k * 3 + 1) / 3 = k by omega, show (k * 3 + 1 + 1) / 3 = k by omega]
theorem own_form {w : World} {base k : Nat} {v : Value} {P : Nat → P8} (h : w.ownsRow base 37 3 v k (ptCells P k)) : ∃ a c, v = .slice a k c := by
  rcases h.2 with ⟨h1, h2⟩ | ⟨g, cap, cur, h1, _⟩
  · subst h2
    exact ⟨none, 0, h1⟩
  · exact ⟨_, _, h1⟩
theorem lies3 {W : World} {b : Nat} {x0 x1 x2 : Value} (h : W.cell? ⟨b, 0, none⟩ = some x0 ∧ W.cell? ⟨b, 1, none⟩ = some x1 ∧ W.cell? ⟨b, 2, none⟩ = some x2) : ∀ (j : Nat) (u : Value), [x0, x1, x2][j]? = some u → W.cell? ((⟨b, 0, none⟩ : Addr).add j) = some u := by
  intro j u hj
  have e : (⟨b, 0, none⟩ : Addr).add j = ⟨b, j, none⟩ := by
    by_cases h0 : j = 0
    · subst h0; simp [Addr.add]
    · simp [Addr.add, h0]
  rw [e]
  match j, hj with
  | 0, hj => simp at hj; subst hj; exact h.1
  | 1, hj => simp at hj; subst hj; exact h.2.1
  | 2, hj => simp at hj; subst hj; exact h.2.2
end Go.Kn
