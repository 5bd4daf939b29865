/- Walks of the functions of layer 2 that ChannelCarries calls, and the law itself (a part of it). Conditions: as each theorem states them. -/
import Derived.Test.YtifdohhffmlbaaaGreatDoorWH
set_option linter.unusedVariables false
set_option linter.unusedSimpArgs false
namespace Go.Kn
open Go Go.Proofs Go.RowKit

set_option maxRecDepth 100000 in
set_option maxHeartbeats 1000000 in
theorem contSpeed2_w (A O ls cs B : Nat) (s : Nat → Int) (w : World) (hls : ls ≤ maxLen) (hB : w.cell? ⟨B, 0, none⟩ = some (.func (.func 93) #[] #[]))
    (hA : ∀ i, i < ls → w.cell? ⟨A, O + i, none⟩ = some (.int .i64 (s i))) :
    Calls Tryz.prog 124 #[.slice (some ⟨A, O, none⟩) ls cs, .func (.func 125) #[] #[.pointer (some ⟨B, 0, none⟩)]] w
      fun e w' => (∃ cb : Bool, e = .returned (.bool cb) ∧ (cb = false ↔ ∀ k, k < ls → fromB 1 1000 (s k) = true)) ∧ w = w' := by
  have HA := Lib.hid hA
  clear hA
  go_enter Tryz.func124, Tryz.ntmps124
  go_wp2_with (go_at_call 144; refine (idxSpeed_w _ _ _ _ _ s _ hls hB HA.out).mono ?_; rintro e w1 ⟨⟨i, rfl, hi⟩, rfl⟩; have HI := Lib.hid hi; clear hi)
  go_ret
  refine ⟨⟨decide (0 ≤ i), rfl, ?_⟩, rfl⟩
  rcases HI.out with ⟨h1, h2⟩ | ⟨h1, k, h2, h3⟩
  · exact ⟨fun _ => h2, fun _ => decide_eq_false (by omega)⟩
  · exact ⟨fun h => by have := of_decide_eq_false h; omega, fun h => by rw [h k h2] at h3; cases h3⟩

set_option maxRecDepth 100000 in
set_option maxHeartbeats 1000000 in
theorem allSpeed2_w (A O ls cs : Nat) (s : Nat → Int) (w : World) (hls : ls ≤ maxLen) (hAw : A < w.heap.size)
    (hA : ∀ i, i < ls → w.cell? ⟨A, O + i, none⟩ = some (.int .i64 (s i))) :
    Calls Tryz.prog 92 #[.slice (some ⟨A, O, none⟩) ls cs, .func (.func 93) #[] #[]] w
      fun e w' => (∃ rb : Bool, e = .returned (.bool rb) ∧ (rb = true ↔ ∀ k, k < ls → fromB 1 1000 (s k) = true)) ∧ Below w.heap.size w w' := by
  have HA : Hid (∀ (o : Obj) (i : Nat), i < ls → (w.alloc o).cell? ⟨A, O + i, none⟩ = some (.int .i64 (s i))) := Lib.hid (fun o i hi => (World.cell?_alloc_lt w o _ hAw).trans (hA i hi))
  clear hA
  go_enter Tryz.func92, Tryz.ntmps92
  go_wp2_with (go_at_call 124; refine (contSpeed2_w _ _ _ _ _ s _ hls (cell_new _ _ _) (HA.out _)).mono ?_; rintro e w1 ⟨⟨cb, rfl, hcb⟩, rfl⟩; have HC := Lib.hid hcb; clear hcb)
  go_ret
  refine ⟨⟨!cb, rfl, ?_⟩, (Below.refl _ _).alloc (Nat.le_refl _) _⟩
  rw [← HC.out]; cases cb <;> simp

set_option maxHeartbeats 1000000 in
theorem isBuilt2_w (sa : Option Addr) (ls cs : Nat) (y : Value) (b d f lo hi : Int) (w : World) (hls : ls ≤ 1000000) :
    Calls Tryz.prog 96 #[.agg #[.slice sa ls cs, y], .agg #[.int .i64 b, .int .i64 d, .int .i64 f, .int .i64 lo, .int .i64 hi]] w fun e w' => e = .returned (.bool (stB b d f lo hi ls)) ∧ Below w.heap.size w w' := by
  cases h1 : fromB 1 100 b
  case false =>
    go_enter Tryz.func96, Tryz.ntmps96
    go_wp2_with (first | (go_at_call 88; refine (isFrom_w _ _ _ _).mono ?_; rintro e w' ⟨rfl, rfl⟩) | (go_at_call 104; refine (isSpan_w _ _ _ _).mono ?_; rintro e w' ⟨rfl, hbl⟩))
    go_ret
    refine ⟨?_, ((Below.refl _ _).alloc (Nat.le_refl _) _).alloc (by simp) _⟩
    have := fromB_f h1
    rw [show stB b d f lo hi ls = false from by simp only [stB, decide_eq_false_iff_not]; omega]; rfl
  cases h2 : fromB 1 100 d
  case false =>
    go_enter Tryz.func96, Tryz.ntmps96
    go_wp2_with (first | (go_at_call 88; refine (isFrom_w _ _ _ _).mono ?_; rintro e w' ⟨rfl, rfl⟩) | (go_at_call 104; refine (isSpan_w _ _ _ _).mono ?_; rintro e w' ⟨rfl, hbl⟩))
    go_ret
    refine ⟨?_, ((Below.refl _ _).alloc (Nat.le_refl _) _).alloc (by simp) _⟩
    have := fromB_f h2
    rw [show stB b d f lo hi ls = false from by simp only [stB, decide_eq_false_iff_not]; omega]; rfl
  cases h3 : fromB 0 ((ls : Int) - 1) f
  case false =>
    go_enter Tryz.func96, Tryz.ntmps96
    go_wp2_with (first | (go_at_call 88; refine (isFrom_w _ _ _ _).mono ?_; rintro e w' ⟨rfl, rfl⟩) | (go_at_call 104; refine (isSpan_w _ _ _ _).mono ?_; rintro e w' ⟨rfl, hbl⟩))
    go_ret
    refine ⟨?_, ((Below.refl _ _).alloc (Nat.le_refl _) _).alloc (by simp) _⟩
    have := fromB_f h3
    rw [show stB b d f lo hi ls = false from by simp only [stB, decide_eq_false_iff_not]; omega]; rfl
  go_enter Tryz.func96, Tryz.ntmps96
  go_wp2_with (first | (go_at_call 88; refine (isFrom_w _ _ _ _).mono ?_; rintro e w' ⟨rfl, rfl⟩) | (go_at_call 104; refine (isSpan_w _ _ _ _).mono ?_; rintro e w' ⟨rfl, hbl⟩))
  go_ret
  refine ⟨?_, (((Below.refl _ _).alloc (Nat.le_refl _) _).alloc (by simp) _).trans (hbl.mono (by simp; omega))⟩
  have e1 := fromB_tt h1
  have e2 := fromB_tt h2
  have e3 := fromB_tt h3
  have : spanB 100 lo hi = stB b d f lo hi ls := by simp only [spanB, stB]; rw [decide_eq_decide]; omega
  rw [← this]; rfl

set_option maxHeartbeats 1000000 in
theorem line12_w (L : Nat) (sa : Option Addr) (ls cs : Nat) (y : Value) (b d f lo hi : Int) (w : World) (hls : ls ≤ 1000000) (hL : L < w.heap.size)
    (l0 : w.cell? ⟨L, 0, none⟩ = some (.slice sa ls cs)) (l1 : w.cell? ⟨L, 1, none⟩ = some y) :
    Calls Tryz.prog 95 #[.agg #[.int .i64 b, .int .i64 d, .int .i64 f, .int .i64 lo, .int .i64 hi], .pointer (some ⟨L, 0, none⟩)] w fun e w' => e = .returned (.bool (stB b d f lo hi ls)) ∧ Below w.heap.size w w' := by
  have hal : ∀ (o : Obj) (k : Nat), (w.alloc o).cell? ⟨L, k, none⟩ = w.cell? ⟨L, k, none⟩ := fun o k => World.cell?_alloc_lt w o _ hL
  go_enter Tryz.func95, Tryz.ntmps95
  go_wp2_with (go_at_call 96; refine (isBuilt2_w _ _ _ _ _ _ _ _ _ _ hls).mono ?_; rintro e w' ⟨rfl, hbl⟩)
  go_ret
  exact ⟨rfl, below_al hbl⟩

set_option maxHeartbeats 1000000 in
theorem notLine2_w (B L : Nat) (sa : Option Addr) (ls cs : Nat) (y : Value) (b d f lo hi : Int) (w : World) (hls : ls ≤ 1000000) (hL : L < w.heap.size) (hBw : B < w.heap.size)
    (l0 : w.cell? ⟨L, 0, none⟩ = some (.slice sa ls cs)) (l1 : w.cell? ⟨L, 1, none⟩ = some y) (hB : w.cell? ⟨B, 0, none⟩ = some (.func (.func 95) #[] #[.pointer (some ⟨L, 0, none⟩)])) :
    Calls Tryz.prog 127 #[.agg #[.int .i64 b, .int .i64 d, .int .i64 f, .int .i64 lo, .int .i64 hi], .pointer (some ⟨B, 0, none⟩)] w fun e w' => e = .returned (.bool (!stB b d f lo hi ls)) ∧ Below w.heap.size w w' := by
  have hal : ∀ (o : Obj) (k : Nat), (w.alloc o).cell? ⟨L, k, none⟩ = w.cell? ⟨L, k, none⟩ := fun o k => World.cell?_alloc_lt w o _ hL
  have hal2 : ∀ (o : Obj) (k : Nat), (w.alloc o).cell? ⟨B, k, none⟩ = w.cell? ⟨B, k, none⟩ := fun o k => World.cell?_alloc_lt w o _ hBw
  go_enter Tryz.func127, Tryz.ntmps127
  go_wp2_with (go_at_call 95; refine (line12_w _ _ _ _ _ _ _ _ _ _ _ hls (by simp; omega) ((hal _ _).trans l0) ((hal _ _).trans l1)).mono ?_; rintro e w' ⟨rfl, hbl⟩)
  go_ret
  exact ⟨rfl, below_al hbl⟩

set_option maxRecDepth 100000 in
set_option maxHeartbeats 2000000 in
theorem idxSt2_w (C P lt ct B L ls cs : Nat) (sa : Option Addr) (y : Value) (t : Nat → St5) (w : World) (hlt : lt ≤ 1000000) (hls : ls ≤ 1000000) (hC : C < w.heap.size) (hBw : B < w.heap.size) (hL : L < w.heap.size)
    (l0 : w.cell? ⟨L, 0, none⟩ = some (.slice sa ls cs)) (l1 : w.cell? ⟨L, 1, none⟩ = some y) (hB : w.cell? ⟨B, 0, none⟩ = some (.func (.func 95) #[] #[.pointer (some ⟨L, 0, none⟩)]))
    (ht : StAt w C P lt t) :
    Calls Tryz.prog 145 #[.slice (some ⟨C, P, none⟩) lt ct, .func (.func 127) #[] #[.pointer (some ⟨B, 0, none⟩)]] w
      fun e w' => (∃ i : Int, e = .returned (.int .i64 i) ∧ ((i < 0 ∧ StOk ls lt t) ∨ (0 ≤ i ∧ ¬ StOk ls lt t))) ∧ Below w.heap.size w w' := by
  have HT := Lib.hid ht
  clear ht
  go_enter Tryz.func145, Tryz.ntmps145
  go_wp2
  go_loopw [8] (fun i wr => ∃ k : Nat, k ≤ lt ∧ i = .int .i64 k ∧ Below w.heap.size w wr ∧ (∀ j, j < k → stB (t j).b (t j).d (t j).f (t j).lo (t j).hi ls = true)) (fun i _ => lt - (intOf i).toNat)
  case atStart => exact ⟨0, Nat.zero_le _, rfl, Below.refl _ _, fun j hj => absurd hj (by omega)⟩
  case round =>
    obtain ⟨k, hk, rfl, hbw, hall⟩ := hrel
    have HALL := Lib.hid hall
    clear hall
    by_cases hlt' : k < lt
    · obtain ⟨c0, c1, c2, c3, c4⟩ := HT.out.below hC hbw k hlt'
      have m0 : wr.cell? ⟨L, 0, none⟩ = some (.slice sa ls cs) := (hbw.cell (p := ⟨L, 0, none⟩) hL).trans l0
      have m1 : wr.cell? ⟨L, 1, none⟩ = some y := (hbw.cell (p := ⟨L, 1, none⟩) hL).trans l1
      have mB : wr.cell? ⟨B, 0, none⟩ = some (.func (.func 95) #[] #[.pointer (some ⟨L, 0, none⟩)]) := (hbw.cell (p := ⟨B, 0, none⟩) hBw).trans hB
      have hz : w.heap.size ≤ wr.heap.size := hbw.size
      cases hv : stB (t k).b (t k).d (t k).f (t k).lo (t k).hi ls
      · go_wp2_with (go_at_call 127; refine (notLine2_w _ _ _ _ _ _ _ _ _ _ _ _ hls (by omega) (by omega) m0 m1 mB).mono ?_; rintro e w1 ⟨rfl, hb1⟩)
        go_ret
        exact ⟨⟨_, rfl, .inr ⟨by omega, fun h => by have h2 := h k hlt'; rw [hv] at h2; cases h2⟩⟩, hbw.trans (hb1.mono hz)⟩
      · go_wp2_with (go_at_call 127; refine (notLine2_w _ _ _ _ _ _ _ _ _ _ _ _ hls (by omega) (by omega) m0 m1 mB).mono ?_; rintro e w1 ⟨rfl, hb1⟩)
        go_roundw
        case rel => exact ⟨k + 1, by omega, by go_num, hbw.trans (hb1.mono hz), fun j hj => by
          rcases Nat.lt_succ_iff_lt_or_eq.1 hj with h | h
          · exact HALL.out j h
          · rw [h]; exact hv⟩
        case measure => simp [intOf]; omega
    · go_wp2
      go_ret
      exact ⟨⟨_, rfl, .inl ⟨by omega, fun j hj => HALL.out j (by omega)⟩⟩, hbw⟩
end Go.Kn
