/- Walks of the functions of layer 2 that ChannelTrue calls, and the law itself (a part of it). Conditions: as each theorem states them. -/
import Derived.Test.YtifdohhffmlbaaaGreatDoorW2
import Derived.Lib.Hide
set_option linter.unusedVariables false
set_option linter.unusedSimpArgs false
namespace Go.Kn
open Go Go.Proofs Go.RowKit

set_option maxHeartbeats 400000 in
theorem notSpeed_w (B : Nat) (x : Int) (w : World) (hB : w.cell? ⟨B, 0, none⟩ = some (.func (.func 93) #[] #[])) :
    Calls Tryz.prog 125 #[.int .i64 x, .pointer (some ⟨B, 0, none⟩)] w fun e w' => e = .returned (.bool (!fromB 1 1000 x)) ∧ w = w' := by
  go_enter Tryz.func125, Tryz.ntmps125
  go_wp2_with (go_at_call 93; refine (isSpeed_w _ _).mono ?_; rintro e w1 ⟨rfl, rfl⟩)
  go_ret
  exact ⟨rfl, rfl⟩

/-- the first number of a list that is not from 1 to 1000 -/
def firstBad (s : Nat → Int) : Nat → Nat → Int
  | _, 0 => -1
  | i, n + 1 => if fromB 1 1000 (s i) then firstBad s (i + 1) n else i

set_option maxRecDepth 100000 in
set_option maxHeartbeats 1000000 in
theorem idxSpeed_w (A O ls cs B : Nat) (s : Nat → Int) (w : World) (hls : ls ≤ maxLen) (hB : w.cell? ⟨B, 0, none⟩ = some (.func (.func 93) #[] #[]))
    (hA : ∀ i, i < ls → w.cell? ⟨A, O + i, none⟩ = some (.int .i64 (s i))) :
    Calls Tryz.prog 144 #[.slice (some ⟨A, O, none⟩) ls cs, .func (.func 125) #[] #[.pointer (some ⟨B, 0, none⟩)]] w
      fun e w' => (∃ i : Int, e = .returned (.int .i64 i) ∧ ((i < 0 ∧ ∀ k, k < ls → fromB 1 1000 (s k) = true) ∨ (0 ≤ i ∧ ∃ k, k < ls ∧ fromB 1 1000 (s k) = false))) ∧ w = w' := by
  unfold maxLen at hls
  go_enter Tryz.func144, Tryz.ntmps144
  go_wp2
  go_loop [8] (fun i => ∃ k : Nat, k ≤ ls ∧ i = .int .i64 k ∧ ∀ j, j < k → fromB 1 1000 (s j) = true) (fun i => ls - (intOf i).toNat)
  case atStart => exact ⟨0, Nat.zero_le _, rfl, fun j hj => absurd hj (by omega)⟩
  case round =>
    obtain ⟨k, hk, rfl, hall⟩ := hrel
    have HA := Lib.hid hall
    clear hall
    by_cases hlt : k < ls
    · have hcell := hA k hlt
      clear hA
      cases hv : fromB 1 1000 (s k)
      · go_wp2_with (go_at_call 125; refine (notSpeed_w _ _ _ hB).mono ?_; rintro e w1 ⟨rfl, rfl⟩)
        go_ret
        exact ⟨⟨_, rfl, .inr ⟨by omega, k, hlt, hv⟩⟩, rfl⟩
      · go_wp2_with (go_at_call 125; refine (notSpeed_w _ _ _ hB).mono ?_; rintro e w1 ⟨rfl, rfl⟩)
        go_round
        case rel => exact ⟨k + 1, by omega, by go_num, fun j hj => by
          rcases Nat.lt_succ_iff_lt_or_eq.1 hj with h | h
          · exact HA.out j h
          · rw [h]; exact hv⟩
        case measure => simp [intOf]; omega
    · clear hA
      go_wp2
      go_ret
      exact ⟨⟨_, rfl, .inl ⟨by omega, fun j hj => HA.out j (by omega)⟩⟩, rfl⟩
end Go.Kn
