/- Walks of the functions of layer 2 that ChannelBursts calls, and the law itself (a part of it). Conditions: as each theorem states them. -/
import Derived.Test.YtifdohhffmlbaaaGreatDoorNL
set_option linter.unusedVariables false
set_option linter.unusedSimpArgs false
namespace Go.Kn
open Go Go.Proofs Go.RowKit

set_option maxHeartbeats 400000 in
theorem isCh_w (n : Int) (X lk ck : Nat) (ka : Option Addr) (hlk : lk ≤ 1000000) (w : World) (hX : w.cell? ⟨X, 0, none⟩ = some (.slice ka lk ck)) :
    Calls Tryz.prog 114 #[.int .i64 n, .pointer (some ⟨X, 0, none⟩)] w fun e w' => e = .returned (.bool (fromB 0 ((lk : Int) - 1) n)) ∧ w = w' := by
  go_enter Tryz.func114, Tryz.ntmps114
  go_wp2_with (go_at_call 88; refine (isFrom_w _ _ _ _).mono ?_; rintro e w' ⟨rfl, rfl⟩)
  go_ret
  exact ⟨rfl, rfl⟩

set_option maxHeartbeats 400000 in
theorem notCh_w (B : Nat) (x : Int) (X lk ck : Nat) (ka : Option Addr) (hlk : lk ≤ 1000000) (w : World) (hX : w.cell? ⟨X, 0, none⟩ = some (.slice ka lk ck)) (hB : w.cell? ⟨B, 0, none⟩ = some (.func (.func 114) #[] #[.pointer (some ⟨X, 0, none⟩)])) :
    Calls Tryz.prog 125 #[.int .i64 x, .pointer (some ⟨B, 0, none⟩)] w fun e w' => e = .returned (.bool (!fromB 0 ((lk : Int) - 1) x)) ∧ w = w' := by
  go_enter Tryz.func125, Tryz.ntmps125
  go_wp2_with (go_at_call 114; refine (isCh_w _ _ _ _ _ hlk _ hX).mono ?_; rintro e w1 ⟨rfl, rfl⟩)
  go_ret
  exact ⟨rfl, rfl⟩

set_option maxRecDepth 100000 in
set_option maxHeartbeats 1000000 in
theorem idxCh_w (A O ls cs B : Nat) (s : Nat → Int) (X lk ck : Nat) (ka : Option Addr) (hlk : lk ≤ 1000000) (w : World) (hX : w.cell? ⟨X, 0, none⟩ = some (.slice ka lk ck)) (hls : ls ≤ maxLen) (hB : w.cell? ⟨B, 0, none⟩ = some (.func (.func 114) #[] #[.pointer (some ⟨X, 0, none⟩)]))
    (hA : ∀ i, i < ls → w.cell? ⟨A, O + i, none⟩ = some (.int .i64 (s i))) :
    Calls Tryz.prog 144 #[.slice (some ⟨A, O, none⟩) ls cs, .func (.func 125) #[] #[.pointer (some ⟨B, 0, none⟩)]] w
      fun e w' => (∃ i : Int, e = .returned (.int .i64 i) ∧ ((i < 0 ∧ ∀ k, k < ls → fromB 0 ((lk : Int) - 1) (s k) = true) ∨ (0 ≤ i ∧ ∃ k, k < ls ∧ fromB 0 ((lk : Int) - 1) (s k) = false))) ∧ w = w' := by
  unfold maxLen at hls
  go_enter Tryz.func144, Tryz.ntmps144
  go_wp2
  go_loop [8] (fun i => ∃ k : Nat, k ≤ ls ∧ i = .int .i64 k ∧ ∀ j, j < k → fromB 0 ((lk : Int) - 1) (s j) = true) (fun i => ls - (intOf i).toNat)
  case atStart => exact ⟨0, Nat.zero_le _, rfl, fun j hj => absurd hj (by omega)⟩
  case round =>
    obtain ⟨k, hk, rfl, hall⟩ := hrel
    have HA := Lib.hid hall
    clear hall
    by_cases hlt : k < ls
    · have hcell := hA k hlt
      clear hA
      cases hv : fromB 0 ((lk : Int) - 1) (s k)
      · go_wp2_with (go_at_call 125; refine (notCh_w _ _ _ _ _ _ hlk _ hX hB).mono ?_; rintro e w1 ⟨rfl, rfl⟩)
        go_ret
        exact ⟨⟨_, rfl, .inr ⟨by omega, k, hlt, hv⟩⟩, rfl⟩
      · go_wp2_with (go_at_call 125; refine (notCh_w _ _ _ _ _ _ hlk _ hX hB).mono ?_; rintro e w1 ⟨rfl, rfl⟩)
        go_round
        case rel => exact ⟨k + 1, by omega, by go_num, fun j hj => by
          rcases Nat.lt_succ_iff_lt_or_eq.1 hj with h | h
          · exact HA.out j h
          · rw [h]; exact hv⟩
        case measure => simp [intOf]; omega
    · clear hA
      go_wp2
      go_ret
      exact ⟨⟨_, rfl, .inl ⟨by omega, fun j hj => HA.out j (by omega)⟩⟩, rfl⟩

set_option maxRecDepth 100000 in
set_option maxHeartbeats 1000000 in
theorem contCh_w (A O ls cs B : Nat) (s : Nat → Int) (X lk ck : Nat) (ka : Option Addr) (hlk : lk ≤ 1000000) (w : World) (hX : w.cell? ⟨X, 0, none⟩ = some (.slice ka lk ck)) (hls : ls ≤ maxLen) (hB : w.cell? ⟨B, 0, none⟩ = some (.func (.func 114) #[] #[.pointer (some ⟨X, 0, none⟩)]))
    (hA : ∀ i, i < ls → w.cell? ⟨A, O + i, none⟩ = some (.int .i64 (s i))) :
    Calls Tryz.prog 124 #[.slice (some ⟨A, O, none⟩) ls cs, .func (.func 125) #[] #[.pointer (some ⟨B, 0, none⟩)]] w
      fun e w' => (∃ cb : Bool, e = .returned (.bool cb) ∧ (cb = false ↔ ∀ k, k < ls → fromB 0 ((lk : Int) - 1) (s k) = true)) ∧ w = w' := by
  have HA := Lib.hid hA
  clear hA
  go_enter Tryz.func124, Tryz.ntmps124
  go_wp2_with (go_at_call 144; refine (idxCh_w _ _ _ _ _ s _ _ _ _ hlk _ hX hls hB HA.out).mono ?_; rintro e w1 ⟨⟨i, rfl, hi⟩, rfl⟩; have HI := Lib.hid hi; clear hi)
  go_ret
  refine ⟨⟨decide (0 ≤ i), rfl, ?_⟩, rfl⟩
  rcases HI.out with ⟨h1, h2⟩ | ⟨h1, k, h2, h3⟩
  · exact ⟨fun _ => h2, fun _ => decide_eq_false (by omega)⟩
  · exact ⟨fun h => by have := of_decide_eq_false h; omega, fun h => by rw [h k h2] at h3; cases h3⟩

set_option maxRecDepth 100000 in
set_option maxHeartbeats 1000000 in
theorem allCh_w (A O ls cs : Nat) (s : Nat → Int) (X lk ck : Nat) (ka : Option Addr) (hlk : lk ≤ 1000000) (w : World) (hXw : X < w.heap.size) (hX : w.cell? ⟨X, 0, none⟩ = some (.slice ka lk ck)) (hls : ls ≤ maxLen) (hAw : A < w.heap.size)
    (hA : ∀ i, i < ls → w.cell? ⟨A, O + i, none⟩ = some (.int .i64 (s i))) :
    Calls Tryz.prog 92 #[.slice (some ⟨A, O, none⟩) ls cs, .func (.func 114) #[] #[.pointer (some ⟨X, 0, none⟩)]] w
      fun e w' => (∃ rb : Bool, e = .returned (.bool rb) ∧ (rb = true ↔ ∀ k, k < ls → fromB 0 ((lk : Int) - 1) (s k) = true)) ∧ Below w.heap.size w w' := by
  have HA : Hid (∀ (o : Obj) (i : Nat), i < ls → (w.alloc o).cell? ⟨A, O + i, none⟩ = some (.int .i64 (s i))) := Lib.hid (fun o i hi => (World.cell?_alloc_lt w o _ hAw).trans (hA i hi))
  have hXA : ∀ o : Obj, (w.alloc o).cell? ⟨X, 0, none⟩ = some (.slice ka lk ck) := fun o => (World.cell?_alloc_lt w o _ hXw).trans hX
  clear hA
  go_enter Tryz.func92, Tryz.ntmps92
  go_wp2_with (go_at_call 124; refine (contCh_w _ _ _ _ _ s _ _ _ _ hlk _ (hXA _) hls (cell_newL _ _ _) (HA.out _)).mono ?_; rintro e w1 ⟨⟨cb, rfl, hcb⟩, rfl⟩; have HC := Lib.hid hcb; clear hcb)
  go_ret
  refine ⟨⟨!cb, rfl, ?_⟩, (Below.refl _ _).alloc (Nat.le_refl _) _⟩
  rw [← HC.out]; cases cb <;> simp
end Go.Kn
