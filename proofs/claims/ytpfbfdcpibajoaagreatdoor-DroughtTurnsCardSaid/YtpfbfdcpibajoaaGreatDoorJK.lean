/- Contracts of functions that the laws of this seat call, or the evaluator of closed calls and its runs. Conditions: as each theorem states them. -/
import Derived.Test.YtpfbfdcpibajoaaGreatDoorJQ
import Derived.Test.YtpfbfdcpibajoaaGreatDoorIW
set_option linter.unusedVariables false
set_option linter.unusedSimpArgs false
namespace Go.Kn
open Go Go.Proofs Go.RowKit
theorem addr_add (B O j : Nat) : (⟨B, O, none⟩ : Addr).add j = ⟨B, O + j, none⟩ := by
  unfold Addr.add
  split
  · rename_i h; subst h; rfl
  · rfl

/-- whether a number is among the first of a list -/
def hasB (s : Nat → Int) (n : Int) : Nat → Bool
  | 0 => false
  | k + 1 => hasB s n k || decide (s k = n)
theorem hasB_iff {s : Nat → Int} {n : Int} : ∀ k, hasB s n k = true ↔ ∃ i, i < k ∧ s i = n
  | 0 => by simp [hasB]
  | k + 1 => by
    simp only [hasB, Bool.or_eq_true, decide_eq_true_eq, hasB_iff k]
    constructor
    · rintro (⟨i, h1, h2⟩ | h)
      · exact ⟨i, by omega, h2⟩
      · exact ⟨k, by omega, h⟩
    · rintro ⟨i, h1, h2⟩
      by_cases e : i = k
      · subst e; exact .inr h2
      · exact .inl ⟨i, by omega, h2⟩
theorem hasB_no {s : Nat → Int} {n : Int} {k : Nat} (h : hasB s n k = false) (hs : s k ≠ n) : hasB s n (k + 1) = false := by simp [hasB, h, hs]
theorem hasB_yes {s : Nat → Int} {n : Int} {m k : Nat} (hk : k < m) (hs : s k = n) : hasB s n m = true := (hasB_iff m).2 ⟨k, hk, hs⟩

set_option maxRecDepth 100000 in
set_option maxHeartbeats 2000000 in
theorem has_w (pa : Option Addr) (m c : Nat) (s : Nat → Int) (n : Int) (w : World) (hm : m ≤ 1000000) (HS : Hid (IntSl w pa m s)) :
    Calls Tryz.prog 36 #[.slice pa m c, .int .i64 n] w fun e w' => e = .returned (.bool (hasB s n m)) ∧ Below w.heap.size w w' := by
  go_enter Tryz.func36, Tryz.ntmps36
  go_wp2
  go_loopw [5] (fun ii wr => ∃ k : Nat, k ≤ m ∧ ii = .int .i64 (k : Int) ∧ hasB s n k = false ∧ Below w.heap.size w wr) (fun ii _ => m - (Go.RowKit.intOf ii).toNat)
  case atStart => exact ⟨0, Nat.zero_le _, rfl, rfl, Below.refl _ _⟩
  case round =>
    obtain ⟨k, hk, rfl, hno, hbr⟩ := hrel
    have HNO := Lib.hid hno
    have HBR := Lib.hid hbr
    clear hno hbr
    by_cases hlt : k < m
    · obtain ⟨A, O, rfl, hA, hN⟩ := HS.out.resolve_left (by omega)
      have y1 := (hN.below hA HBR.out) k hlt
      have n1 : (0 : Int) ≤ (k : Int) := by omega
      have n2 : (k : Int) < (m : Int) := by omega
      clear hN
      by_cases he : s k = n
      · have HE := Lib.hid (hasB_yes hlt he)
        go_wp2
        go_ret
        exact ⟨by rw [HE.out]; rfl, HBR.out⟩
      · have HE := Lib.hid (hasB_no HNO.out he)
        go_wp2
        go_roundw
        case rel => exact ⟨k + 1, by omega, by go_num, HE.out, HBR.out⟩
        case measure => simp [Go.RowKit.intOf]; omega
    · obtain rfl : k = m := by omega
      go_wp2
      go_ret
      exact ⟨by rw [HNO.out]; rfl, HBR.out⟩

end Go.Kn
