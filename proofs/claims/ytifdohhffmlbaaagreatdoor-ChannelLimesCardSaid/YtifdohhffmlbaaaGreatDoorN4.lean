/- Walks of the functions of layer 2 that ChannelHeights calls, and the law itself (a part of it). Conditions: as each theorem states them. -/
import Derived.Test.YtifdohhffmlbaaaGreatDoorN3
set_option linter.unusedVariables false
set_option linter.unusedSimpArgs false
namespace Go.Kn
open Go Go.Proofs Go.RowKit

structure Sp2 where
  lo : Int
  hi : Int

/-- spans in memory -/
def SpAt (w : World) (C P lp : Nat) (p : Nat → Sp2) : Prop := ∀ i, i < lp → w.cell? ⟨C, P + i * 2, none⟩ = some (.int .i64 (p i).lo) ∧ w.cell? ⟨C, P + i * 2 + 1, none⟩ = some (.int .i64 (p i).hi)

theorem SpAt.below {w w1 : World} {C P lp : Nat} {p : Nat → Sp2} (h : SpAt w C P lp p) (hC : C < w.heap.size) (hb : Below w.heap.size w w1) : SpAt w1 C P lp p := by
  intro i hi
  obtain ⟨h0, h1⟩ := h i hi
  have e : ∀ o, w1.cell? ⟨C, o, none⟩ = w.cell? ⟨C, o, none⟩ := fun o => hb.cell (p := ⟨C, o, none⟩) hC
  exact ⟨(e _).trans h0, (e _).trans h1⟩

def SpOk (lp : Nat) (p : Nat → Sp2) : Prop := ∀ i, i < lp → spanB 1000 (p i).lo (p i).hi = true

set_option maxHeartbeats 400000 in
theorem isHeight_w (lo hi : Int) (w : World) :
    Calls Tryz.prog 107 #[.agg #[.int .i64 lo, .int .i64 hi]] w fun e w' => e = .returned (.bool (spanB 1000 lo hi)) ∧ Below w.heap.size w w' := by
  go_enter Tryz.func107, Tryz.ntmps107
  go_wp2_with (go_at_call 104; refine (isSpan_w _ _ _ _).mono ?_; rintro e w' ⟨rfl, hb⟩)
  go_ret
  exact ⟨rfl, below_al hb⟩

set_option maxHeartbeats 1000000 in
theorem notHeight_w (B : Nat) (lo hi : Int) (w : World) (hBw : B < w.heap.size) (hB : w.cell? ⟨B, 0, none⟩ = some (.func (.func 107) #[] #[])) :
    Calls Tryz.prog 135 #[.agg #[.int .i64 lo, .int .i64 hi], .pointer (some ⟨B, 0, none⟩)] w fun e w' => e = .returned (.bool (!spanB 1000 lo hi)) ∧ Below w.heap.size w w' := by
  have hal2 : ∀ (o : Obj) (k : Nat), (w.alloc o).cell? ⟨B, k, none⟩ = w.cell? ⟨B, k, none⟩ := fun o k => World.cell?_alloc_lt w o _ hBw
  go_enter Tryz.func135, Tryz.ntmps135
  go_wp2_with (go_at_call 107; refine (isHeight_w _ _ _).mono ?_; rintro e w' ⟨rfl, hbl⟩)
  go_ret
  exact ⟨rfl, below_al hbl⟩

set_option maxRecDepth 100000 in
set_option maxHeartbeats 2000000 in
theorem idxHeight_w (C P lt ct B : Nat) (p : Nat → Sp2) (w : World) (hlt : lt ≤ 1000000) (hC : C < w.heap.size) (hBw : B < w.heap.size) (hB : w.cell? ⟨B, 0, none⟩ = some (.func (.func 107) #[] #[])) (ht : SpAt w C P lt p) :
    Calls Tryz.prog 148 #[.slice (some ⟨C, P, none⟩) lt ct, .func (.func 135) #[] #[.pointer (some ⟨B, 0, none⟩)]] w
      fun e w' => (∃ i : Int, e = .returned (.int .i64 i) ∧ ((i < 0 ∧ SpOk lt p) ∨ (0 ≤ i ∧ ¬ SpOk lt p))) ∧ Below w.heap.size w w' := by
  have HT := Lib.hid ht
  clear ht
  go_enter Tryz.func148, Tryz.ntmps148
  go_wp2
  go_loopw [8] (fun i wr => ∃ k : Nat, k ≤ lt ∧ i = .int .i64 k ∧ Below w.heap.size w wr ∧ (∀ j, j < k → spanB 1000 (p j).lo (p j).hi = true)) (fun i _ => lt - (intOf i).toNat)
  case atStart => exact ⟨0, Nat.zero_le _, rfl, Below.refl _ _, fun j hj => absurd hj (by omega)⟩
  case round =>
    obtain ⟨k, hk, rfl, hbw, hall⟩ := hrel
    have HALL := Lib.hid hall
    clear hall
    by_cases hlt' : k < lt
    · obtain ⟨c0, c1⟩ := HT.out.below hC hbw k hlt'
      have mB : wr.cell? ⟨B, 0, none⟩ = some (.func (.func 107) #[] #[]) := (hbw.cell (p := ⟨B, 0, none⟩) hBw).trans hB
      have hz : w.heap.size ≤ wr.heap.size := hbw.size
      cases hv : spanB 1000 (p k).lo (p k).hi
      · go_wp2_with (go_at_call 135; refine (notHeight_w _ _ _ _ (by omega) mB).mono ?_; rintro e w1 ⟨rfl, hb1⟩)
        go_ret
        exact ⟨⟨_, rfl, .inr ⟨by omega, fun h => by have h2 := h k hlt'; rw [hv] at h2; cases h2⟩⟩, hbw.trans (hb1.mono hz)⟩
      · go_wp2_with (go_at_call 135; refine (notHeight_w _ _ _ _ (by omega) mB).mono ?_; rintro e w1 ⟨rfl, hb1⟩)
        go_roundw
        case rel => exact ⟨k + 1, by omega, by go_num, hbw.trans (hb1.mono hz), fun j hj => by
          rcases Nat.lt_succ_iff_lt_or_eq.1 hj with h | h
          · exact HALL.out j h
          · rw [h]; exact hv⟩
        case measure => simp [intOf]; omega
    · go_wp2
      go_ret
      exact ⟨⟨_, rfl, .inl ⟨by omega, fun j hj => HALL.out j (by omega)⟩⟩, hbw⟩

set_option maxRecDepth 100000 in
set_option maxHeartbeats 2000000 in
theorem contHeight_w (C P lt ct B : Nat) (p : Nat → Sp2) (w : World) (hlt : lt ≤ 1000000) (hC : C < w.heap.size) (hBw : B < w.heap.size) (hB : w.cell? ⟨B, 0, none⟩ = some (.func (.func 107) #[] #[])) (ht : SpAt w C P lt p) :
    Calls Tryz.prog 134 #[.slice (some ⟨C, P, none⟩) lt ct, .func (.func 135) #[] #[.pointer (some ⟨B, 0, none⟩)]] w
      fun e w' => (∃ cb : Bool, e = .returned (.bool cb) ∧ (cb = false ↔ SpOk lt p)) ∧ Below w.heap.size w w' := by
  have HT := Lib.hid ht
  clear ht
  go_enter Tryz.func134, Tryz.ntmps134
  go_wp2_with (go_at_call 148; refine (idxHeight_w _ _ _ _ _ p _ hlt hC hBw hB HT.out).mono ?_; rintro e w1 ⟨⟨i, rfl, hi⟩, hb1⟩; have HI := Lib.hid hi; clear hi)
  go_ret
  refine ⟨⟨decide (0 ≤ i), rfl, ?_⟩, hb1⟩
  rcases HI.out with ⟨h1, h2⟩ | ⟨h1, h2⟩
  · exact ⟨fun _ => h2, fun _ => decide_eq_false (by omega)⟩
  · exact ⟨fun h => by have := of_decide_eq_false h; omega, fun h => (h2 h).elim⟩

set_option maxRecDepth 100000 in
set_option maxHeartbeats 2000000 in
theorem allHeight_w (C P lt ct : Nat) (p : Nat → Sp2) (w : World) (hlt : lt ≤ 1000000) (hC : C < w.heap.size) (ht : SpAt w C P lt p) :
    Calls Tryz.prog 108 #[.slice (some ⟨C, P, none⟩) lt ct, .func (.func 107) #[] #[]] w
      fun e w' => (∃ rb : Bool, e = .returned (.bool rb) ∧ (rb = true ↔ SpOk lt p)) ∧ Below w.heap.size w w' := by
  have HT : Hid (∀ o : Obj, SpAt (w.alloc o) C P lt p) := Lib.hid fun o => ht.below hC ((Below.refl _ _).alloc (Nat.le_refl _) _)
  clear ht
  go_enter Tryz.func108, Tryz.ntmps108
  go_wp2_with (go_at_call 134; refine (contHeight_w _ _ _ _ _ p _ hlt (by simp; omega) (by simp) (cell_newL _ _ _) (HT.out _)).mono ?_; rintro e w1 ⟨⟨cb, rfl, hcb⟩, hb1⟩; have HC := Lib.hid hcb; clear hcb)
  go_ret
  refine ⟨⟨!cb, rfl, ?_⟩, below_al hb1⟩
  rw [← HC.out]; cases cb <;> simp
end Go.Kn
