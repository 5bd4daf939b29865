/- Walks of functions of layer 2 (contracts that the laws of this seat use). Conditions: as each theorem states them. -/
import Derived.Test.YtgjgcgonibldmaaGreatDoorFQ
import Derived.Test.YtgjgcgonibldmaaGreatDoorFP
import Derived.Test.YtgjgcgonibldmaaGreatDoorFC
set_option linter.unusedVariables false
set_option linter.unusedSimpArgs false
namespace Go.Kn
open Go Go.Proofs Go.RowKit

theorem late_is {s : Nat → Int} {x : St5} {nd y a : Int} {b : Bool} (h : LateIs s x nd y) (hG : Great s x nd a b) : y = cond b a (-1) := by
  rcases h with ⟨h0, h⟩ | ⟨rfl, h⟩
  · obtain ⟨rfl, rfl⟩ := great_same hG h; rfl
  · obtain ⟨_, rfl⟩ := great_same hG h; rfl

theorem rLate_is {A O C P ls lt : Nat} (cs ct : Nat) {n : Nat} {s : Nat → Int} {t : Nat → St5} {nd a : Int} {b : Bool} {w : World} (H : Hid (LineAt w A O C P ls lt s t)) (hn : n < lt) (hG : Great s (t n) nd a b) :
    Calls Tryz.prog 51 #[.agg #[.slice (some ⟨A, O, none⟩) ls cs, .slice (some ⟨C, P, none⟩) lt ct], .int .i64 (n : Int), .int .i64 nd] w
      fun e w' => e = .returned (.int .i64 (cond b a (-1))) ∧ Below w.heap.size w w' :=
  (refLatest_w A O C P ls cs lt ct n s t nd w H hn).mono (by
    rintro e w' ⟨⟨y, rfl, h2⟩, hb⟩
    rw [late_is h2 hG]
    exact ⟨rfl, hb⟩)

/-- the last year of a stretch, as the specification has it -/
def laR (y g un : Int) : Int := if y = 200 ∨ un ≤ y - g then 1000 else y - g

set_option maxRecDepth 100000 in
set_option maxHeartbeats 1000000 in
theorem last_w {A O C P ls lt : Nat} (cs ct : Nat) {n : Nat} {s : Nat → Int} {t : Nat → St5} {nd a ag un : Int} {b : Bool} {w : World} (H : Hid (LineAt w A O C P ls lt s t)) (hn : n < lt) (hG : Hid (Great s (t n) nd a b)) (hag : 0 ≤ ag ∧ ag ≤ 200) (hun : 0 ≤ un ∧ un ≤ 40) :
    Calls Tryz.prog 52 #[.agg #[.slice (some ⟨A, O, none⟩) ls cs, .slice (some ⟨C, P, none⟩) lt ct], .int .i64 (n : Int), .int .i64 ag, .int .i64 nd, .int .i64 un] w
      fun e w' => e = .returned (.int .i64 (laR (cond b a (-1)) ag un)) ∧ Below w.heap.size w w' := by
  have HL : Hid (∀ w1, Below (w.alloc (.cells #[.slice (some ⟨A, O, none⟩) ls cs, .slice (some ⟨C, P, none⟩) lt ct] 25)).heap.size (w.alloc (.cells #[.slice (some ⟨A, O, none⟩) ls cs, .slice (some ⟨C, P, none⟩) lt ct] 25)) w1 → LineAt w1 A O C P ls lt s t) := Lib.hid fun w1 h => H.out.below (below_al h)
  have hy : -1 ≤ cond b a (-1) ∧ cond b a (-1) ≤ 200 := by
    rcases hG.out with ⟨rfl, h0, h1, _⟩ | ⟨rfl, _⟩
    · simp only [cond_true]; omega
    · simp only [cond_false]; omega
  have HC : Hid (∀ w1, Below (w.alloc (.cells #[.slice (some ⟨A, O, none⟩) ls cs, .slice (some ⟨C, P, none⟩) lt ct] 25)).heap.size (w.alloc (.cells #[.slice (some ⟨A, O, none⟩) ls cs, .slice (some ⟨C, P, none⟩) lt ct] 25)) w1 → Calls Tryz.prog 51 #[.agg #[.slice (some ⟨A, O, none⟩) ls cs, .slice (some ⟨C, P, none⟩) lt ct], .int .i64 (n : Int), .int .i64 nd] w1 fun e w' => e = .returned (.int .i64 (cond b a (-1))) ∧ Below w1.heap.size w1 w') := Lib.hid fun w1 h => rLate_is cs ct (Lib.hid (HL.out _ h)) hn hG.out
  obtain ⟨y, hyy⟩ : ∃ y, y = cond b a (-1) := ⟨_, rfl⟩
  rw [← hyy] at hy HC ⊢
  clear hyy
  by_cases h1 : y = 200
  · have he : laR y ag un = 1000 := by unfold laR; rw [if_pos (.inl h1)]
    rw [he]
    subst h1
    go_enter Tryz.func52, Tryz.ntmps52
    go_wp2_with (go_at_call 51; refine (HC.out _ (Below.refl _ _)).mono ?_; rintro e w1 ⟨rfl, hb1⟩)
    refine bodyPost_ret (v := .int .i64 1000) (by simp [results, Tryz.results52, go_sem]) rfl ?_
    exact ⟨rfl, below_al hb1⟩
  · have hbq : (y == (200 : Int)) = false := by simp [h1]
    by_cases h2 : un ≤ y - ag
    · have he : laR y ag un = 1000 := by unfold laR; rw [if_pos (.inr h2)]
      rw [he]
      have hd2 : decide (un ≤ y - ag) = true := decide_eq_true h2
      have hd3 : (un ≤ y - ag) = True := eq_true h2
      go_enter Tryz.func52, Tryz.ntmps52
      go_wp2_with (go_at_call 51; refine (HC.out _ (Below.refl _ _)).mono ?_; rintro e w1 ⟨rfl, hb1⟩)
      refine bodyPost_ret (v := .int .i64 1000) (by simp [results, Tryz.results52, go_sem]) rfl ?_
      exact ⟨rfl, below_al hb1⟩
    · have he : laR y ag un = y - ag := by unfold laR; rw [if_neg (fun h => h.elim h1 h2)]
      rw [he]
      go_enter Tryz.func52, Tryz.ntmps52
      go_wp2_with (go_at_call 51; refine (HC.out _ (Below.refl _ _)).mono ?_; rintro e w1 ⟨rfl, hb1⟩)
      refine bodyPost_ret (v := .int .i64 (y - ag)) (by simp [results, Tryz.results52, go_sem]) rfl ?_
      exact ⟨rfl, below_al hb1⟩

theorem laR_t {aN g : Nat → Int} {un : Int} {i : Nat} (h1 : aN i ≤ 200) (hd : duF aN g un i = true) : laR (aN i) (g i) un = laF aN g i := by
  unfold duF at hd
  rw [decide_eq_true_eq] at hd
  unfold laR laF
  rw [if_neg (by omega)]
theorem laR_f {aN g : Nat → Int} {un : Int} {i : Nat} (h1 : aN i ≤ 200) (hd : duF aN g un i = false) : laR (aN i) (g i) un = 1000 := by
  unfold duF at hd
  rw [decide_eq_false_iff_not] at hd
  unfold laR
  rw [if_pos (by omega)]
theorem laF_lt {aN g : Nat → Int} {un : Int} {i : Nat} (hd : duF aN g un i = true) : laF aN g i < un := by
  unfold duF at hd
  rw [decide_eq_true_eq] at hd
  unfold laF
  omega

end Go.Kn

namespace Go.Kn
open Go Go.Proofs Go.RowKit
theorem slice_run (A O n c l : Nat) (hl : l ≤ n) (hn : n ≤ c) : ∃ O', (O' = O + l ∨ n ≤ l) ∧ ∀ w : World, (Instr.slice 22 (.slice (some ⟨A, O, none⟩) n c) (some (.int .i64 (l : Int))) none none).run Tryz.prog w = .ok (.slice (some ⟨A, O', none⟩) (n - l) (c - l)) w := by
  have hs : ∀ w : World, (sizeOf 3).run Tryz.prog w = .ok 1 w := fun w => by kernel_rfl
  by_cases h : c = l
  · refine ⟨O, .inr (by omega), fun w => ?_⟩
    have h1 : (0 : Int) ≤ (l : Int) ∧ (l : Int) ≤ (n : Int) := ⟨by omega, by omega⟩
    simp [Instr.slice, run_underlying Tryz.underlying22, Instr.sliceBounds, Instr.sliceBound, asIntOf, hs, h1, h, Result.andThen]
    rw [if_pos hl]
    simp
  · refine ⟨O + l, .inl rfl, fun w => ?_⟩
    have h1 : (0 : Int) ≤ (l : Int) ∧ (l : Int) ≤ (n : Int) := ⟨by omega, by omega⟩
    simp [Instr.slice, run_underlying Tryz.underlying22, Instr.sliceBounds, Instr.sliceBound, asIntOf, hs, h1, h, Result.andThen]
    rw [if_pos hl]
    simp [h, addr_add]
end Go.Kn
