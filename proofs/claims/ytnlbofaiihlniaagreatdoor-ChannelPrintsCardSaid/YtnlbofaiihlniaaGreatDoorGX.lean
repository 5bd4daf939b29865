/- Walks of functions of layer 2 (contracts that the laws of this seat use). Conditions: as each theorem states them. -/
import Derived.Test.YtnlbofaiihlniaaGreatDoorGW
set_option linter.unusedVariables false
set_option linter.unusedSimpArgs false
namespace Go.Kn
open Go Go.Proofs Go.RowKit

set_option maxRecDepth 100000 in
set_option maxHeartbeats 1000000 in
theorem contSpeed2_w (A O ls cs B : Nat) (s : Nat → Int) (w : World) (hls : ls ≤ maxLen) (hB : w.cell? ⟨B, 0, none⟩ = some (.func (.func 68) #[] #[]))
    (hA : ∀ i, i < ls → w.cell? ⟨A, O + i, none⟩ = some (.int .i64 (s i))) :
    Calls Tryz.prog 101 #[.slice (some ⟨A, O, none⟩) ls cs, .func (.func 102) #[] #[.pointer (some ⟨B, 0, none⟩)]] w
      fun e w' => (∃ cb : Bool, e = .returned (.bool cb) ∧ (cb = false ↔ ∀ k, k < ls → fromB 1 1000 (s k) = true)) ∧ w = w' := by
  have HA := Lib.hid hA
  clear hA
  go_enter Tryz.func101, Tryz.ntmps101
  go_wp2_with (go_at_call 123; refine (idxSpeed_w _ _ _ _ _ s _ hls hB HA.out).mono ?_; rintro e w1 ⟨⟨i, rfl, hi⟩, rfl⟩; have HI := Lib.hid hi; clear hi)
  go_ret
  refine ⟨⟨decide (0 ≤ i), rfl, ?_⟩, rfl⟩
  rcases HI.out with ⟨h1, h2⟩ | ⟨h1, k, h2, h3⟩
  · exact ⟨fun _ => h2, fun _ => decide_eq_false (by omega)⟩
  · exact ⟨fun h => by have := of_decide_eq_false h; omega, fun h => by rw [h k h2] at h3; cases h3⟩

set_option maxRecDepth 100000 in
set_option maxHeartbeats 1000000 in
theorem allSpeed2_w (A O ls cs : Nat) (s : Nat → Int) (w : World) (hls : ls ≤ maxLen) (hAw : A < w.heap.size)
    (hA : ∀ i, i < ls → w.cell? ⟨A, O + i, none⟩ = some (.int .i64 (s i))) :
    Calls Tryz.prog 67 #[.slice (some ⟨A, O, none⟩) ls cs, .func (.func 68) #[] #[]] w
      fun e w' => (∃ rb : Bool, e = .returned (.bool rb) ∧ (rb = true ↔ ∀ k, k < ls → fromB 1 1000 (s k) = true)) ∧ Below w.heap.size w w' := by
  have HA : Hid (∀ (o : Obj) (i : Nat), i < ls → (w.alloc o).cell? ⟨A, O + i, none⟩ = some (.int .i64 (s i))) := Lib.hid (fun o i hi => (World.cell?_alloc_lt w o _ hAw).trans (hA i hi))
  clear hA
  go_enter Tryz.func67, Tryz.ntmps67
  go_wp2_with (go_at_call 101; refine (contSpeed2_w _ _ _ _ _ s _ hls (cell_new _ _ _) (HA.out _)).mono ?_; rintro e w1 ⟨⟨cb, rfl, hcb⟩, rfl⟩; have HC := Lib.hid hcb; clear hcb)
  go_ret
  refine ⟨⟨!cb, rfl, ?_⟩, (Below.refl _ _).alloc (Nat.le_refl _) _⟩
  rw [← HC.out]; cases cb <;> simp

set_option maxHeartbeats 1000000 in
theorem isBuilt2_w (sa : Option Addr) (ls cs : Nat) (y : Value) (b d f lo hi : Int) (w : World) (hls : ls ≤ 1000000) :
    Calls Tryz.prog 71 #[.agg #[.slice sa ls cs, y], .agg #[.int .i64 b, .int .i64 d, .int .i64 f, .int .i64 lo, .int .i64 hi]] w fun e w' => e = .returned (.bool (stB b d f lo hi ls)) ∧ Below w.heap.size w w' := by
  cases h1 : fromB 1 100 b
  case false =>
    go_enter Tryz.func71, Tryz.ntmps71
    go_wp2_with (first | (go_at_call 54; refine (isFrom_w _ _ _ _).mono ?_; rintro e w' ⟨rfl, rfl⟩) | (go_at_call 88; refine (isSpan_w _ _ _ _).mono ?_; rintro e w' ⟨rfl, hbl⟩))
    go_ret
    refine ⟨?_, ((Below.refl _ _).alloc (Nat.le_refl _) _).alloc (by simp) _⟩
    have := fromB_f h1
    rw [show stB b d f lo hi ls = false from by simp only [stB, decide_eq_false_iff_not]; omega]; rfl
  cases h2 : fromB 1 100 d
  case false =>
    go_enter Tryz.func71, Tryz.ntmps71
    go_wp2_with (first | (go_at_call 54; refine (isFrom_w _ _ _ _).mono ?_; rintro e w' ⟨rfl, rfl⟩) | (go_at_call 88; refine (isSpan_w _ _ _ _).mono ?_; rintro e w' ⟨rfl, hbl⟩))
    go_ret
    refine ⟨?_, ((Below.refl _ _).alloc (Nat.le_refl _) _).alloc (by simp) _⟩
    have := fromB_f h2
    rw [show stB b d f lo hi ls = false from by simp only [stB, decide_eq_false_iff_not]; omega]; rfl
  cases h3 : fromB 0 ((ls : Int) - 1) f
  case false =>
    go_enter Tryz.func71, Tryz.ntmps71
    go_wp2_with (first | (go_at_call 54; refine (isFrom_w _ _ _ _).mono ?_; rintro e w' ⟨rfl, rfl⟩) | (go_at_call 88; refine (isSpan_w _ _ _ _).mono ?_; rintro e w' ⟨rfl, hbl⟩))
    go_ret
    refine ⟨?_, ((Below.refl _ _).alloc (Nat.le_refl _) _).alloc (by simp) _⟩
    have := fromB_f h3
    rw [show stB b d f lo hi ls = false from by simp only [stB, decide_eq_false_iff_not]; omega]; rfl
  go_enter Tryz.func71, Tryz.ntmps71
  go_wp2_with (first | (go_at_call 54; refine (isFrom_w _ _ _ _).mono ?_; rintro e w' ⟨rfl, rfl⟩) | (go_at_call 88; refine (isSpan_w _ _ _ _).mono ?_; rintro e w' ⟨rfl, hbl⟩))
  go_ret
  refine ⟨?_, (((Below.refl _ _).alloc (Nat.le_refl _) _).alloc (by simp) _).trans (hbl.mono (by simp; omega))⟩
  have e1 := fromB_tt h1
  have e2 := fromB_tt h2
  have e3 := fromB_tt h3
  have : spanB 100 lo hi = stB b d f lo hi ls := by simp only [spanB, stB]; rw [decide_eq_decide]; omega
  rw [← this]; rfl

set_option maxHeartbeats 1000000 in
theorem line12_w (L : Nat) (sa : Option Addr) (ls cs : Nat) (y : Value) (b d f lo hi : Int) (w : World) (hls : ls ≤ 1000000) (hL : L < w.heap.size)
    (l0 : w.cell? ⟨L, 0, none⟩ = some (.slice sa ls cs)) (l1 : w.cell? ⟨L, 1, none⟩ = some y) :
    Calls Tryz.prog 70 #[.agg #[.int .i64 b, .int .i64 d, .int .i64 f, .int .i64 lo, .int .i64 hi], .pointer (some ⟨L, 0, none⟩)] w fun e w' => e = .returned (.bool (stB b d f lo hi ls)) ∧ Below w.heap.size w w' := by
  have hal : ∀ (o : Obj) (k : Nat), (w.alloc o).cell? ⟨L, k, none⟩ = w.cell? ⟨L, k, none⟩ := fun o k => World.cell?_alloc_lt w o _ hL
  go_enter Tryz.func70, Tryz.ntmps70
  go_wp2_with (go_at_call 71; refine (isBuilt2_w _ _ _ _ _ _ _ _ _ _ hls).mono ?_; rintro e w' ⟨rfl, hbl⟩)
  go_ret
  exact ⟨rfl, below_al hbl⟩

set_option maxHeartbeats 1000000 in
theorem notLine2_w (B L : Nat) (sa : Option Addr) (ls cs : Nat) (y : Value) (b d f lo hi : Int) (w : World) (hls : ls ≤ 1000000) (hL : L < w.heap.size) (hBw : B < w.heap.size)
    (l0 : w.cell? ⟨L, 0, none⟩ = some (.slice sa ls cs)) (l1 : w.cell? ⟨L, 1, none⟩ = some y) (hB : w.cell? ⟨B, 0, none⟩ = some (.func (.func 70) #[] #[.pointer (some ⟨L, 0, none⟩)])) :
    Calls Tryz.prog 104 #[.agg #[.int .i64 b, .int .i64 d, .int .i64 f, .int .i64 lo, .int .i64 hi], .pointer (some ⟨B, 0, none⟩)] w fun e w' => e = .returned (.bool (!stB b d f lo hi ls)) ∧ Below w.heap.size w w' := by
  have hal : ∀ (o : Obj) (k : Nat), (w.alloc o).cell? ⟨L, k, none⟩ = w.cell? ⟨L, k, none⟩ := fun o k => World.cell?_alloc_lt w o _ hL
  have hal2 : ∀ (o : Obj) (k : Nat), (w.alloc o).cell? ⟨B, k, none⟩ = w.cell? ⟨B, k, none⟩ := fun o k => World.cell?_alloc_lt w o _ hBw
  go_enter Tryz.func104, Tryz.ntmps104
  go_wp2_with (go_at_call 70; refine (line12_w _ _ _ _ _ _ _ _ _ _ _ hls (by simp; omega) ((hal _ _).trans l0) ((hal _ _).trans l1)).mono ?_; rintro e w' ⟨rfl, hbl⟩)
  go_ret
  exact ⟨rfl, below_al hbl⟩

set_option maxRecDepth 100000 in
set_option maxHeartbeats 2000000 in
theorem idxSt2_w (C P lt ct B L ls cs : Nat) (sa : Option Addr) (y : Value) (t : Nat → St5) (w : World) (hlt : lt ≤ 1000000) (hls : ls ≤ 1000000) (hC : C < w.heap.size) (hBw : B < w.heap.size) (hL : L < w.heap.size)
    (l0 : w.cell? ⟨L, 0, none⟩ = some (.slice sa ls cs)) (l1 : w.cell? ⟨L, 1, none⟩ = some y) (hB : w.cell? ⟨B, 0, none⟩ = some (.func (.func 70) #[] #[.pointer (some ⟨L, 0, none⟩)]))
    (ht : StAt w C P lt t) :
    Calls Tryz.prog 124 #[.slice (some ⟨C, P, none⟩) lt ct, .func (.func 104) #[] #[.pointer (some ⟨B, 0, none⟩)]] w
      fun e w' => (∃ i : Int, e = .returned (.int .i64 i) ∧ ((i < 0 ∧ StOk ls lt t) ∨ (0 ≤ i ∧ ¬ StOk ls lt t))) ∧ Below w.heap.size w w' := by
  have HT := Lib.hid ht
  clear ht
  go_enter Tryz.func124, Tryz.ntmps124
  go_wp2
  go_loopw [8] (fun i wr => ∃ k : Nat, k ≤ lt ∧ i = .int .i64 k ∧ Below w.heap.size w wr ∧ (∀ j, j < k → stB (t j).b (t j).d (t j).f (t j).lo (t j).hi ls = true)) (fun i _ => lt - (intOf i).toNat)
  case atStart => exact ⟨0, Nat.zero_le _, rfl, Below.refl _ _, fun j hj => absurd hj (by omega)⟩
  case round =>
    obtain ⟨k, hk, rfl, hbw, hall⟩ := hrel
    have HALL := Lib.hid hall
    clear hall
    by_cases hlt' : k < lt
    · obtain ⟨c0, c1, c2, c3, c4⟩ := HT.out.below hC hbw k hlt'
      have m0 : wr.cell? ⟨L, 0, none⟩ = some (.slice sa ls cs) := (hbw.cell (p := ⟨L, 0, none⟩) hL).trans l0
      have m1 : wr.cell? ⟨L, 1, none⟩ = some y := (hbw.cell (p := ⟨L, 1, none⟩) hL).trans l1
      have mB : wr.cell? ⟨B, 0, none⟩ = some (.func (.func 70) #[] #[.pointer (some ⟨L, 0, none⟩)]) := (hbw.cell (p := ⟨B, 0, none⟩) hBw).trans hB
      have hz : w.heap.size ≤ wr.heap.size := hbw.size
      cases hv : stB (t k).b (t k).d (t k).f (t k).lo (t k).hi ls
      · go_wp2_with (go_at_call 104; refine (notLine2_w _ _ _ _ _ _ _ _ _ _ _ _ hls (by omega) (by omega) m0 m1 mB).mono ?_; rintro e w1 ⟨rfl, hb1⟩)
        go_ret
        exact ⟨⟨_, rfl, .inr ⟨by omega, fun h => by have h2 := h k hlt'; rw [hv] at h2; cases h2⟩⟩, hbw.trans (hb1.mono hz)⟩
      · go_wp2_with (go_at_call 104; refine (notLine2_w _ _ _ _ _ _ _ _ _ _ _ _ hls (by omega) (by omega) m0 m1 mB).mono ?_; rintro e w1 ⟨rfl, hb1⟩)
        go_roundw
        case rel => exact ⟨k + 1, by omega, by go_num, hbw.trans (hb1.mono hz), fun j hj => by
          rcases Nat.lt_succ_iff_lt_or_eq.1 hj with h | h
          · exact HALL.out j h
          · rw [h]; exact hv⟩
        case measure => simp [intOf]; omega
    · go_wp2
      go_ret
      exact ⟨⟨_, rfl, .inl ⟨by omega, fun j hj => HALL.out j (by omega)⟩⟩, hbw⟩
end Go.Kn

namespace Go.Kn
open Go Go.Proofs Go.RowKit

set_option maxRecDepth 100000 in
set_option maxHeartbeats 2000000 in
theorem contSt2_w (C P lt ct B L ls cs : Nat) (sa : Option Addr) (y : Value) (t : Nat → St5) (w : World) (hlt : lt ≤ 1000000) (hls : ls ≤ 1000000) (hC : C < w.heap.size) (hBw : B < w.heap.size) (hL : L < w.heap.size)
    (l0 : w.cell? ⟨L, 0, none⟩ = some (.slice sa ls cs)) (l1 : w.cell? ⟨L, 1, none⟩ = some y) (hB : w.cell? ⟨B, 0, none⟩ = some (.func (.func 70) #[] #[.pointer (some ⟨L, 0, none⟩)]))
    (ht : StAt w C P lt t) :
    Calls Tryz.prog 103 #[.slice (some ⟨C, P, none⟩) lt ct, .func (.func 104) #[] #[.pointer (some ⟨B, 0, none⟩)]] w
      fun e w' => (∃ cb : Bool, e = .returned (.bool cb) ∧ (cb = false ↔ StOk ls lt t)) ∧ Below w.heap.size w w' := by
  have HT := Lib.hid ht
  clear ht
  go_enter Tryz.func103, Tryz.ntmps103
  go_wp2_with (go_at_call 124; refine (idxSt2_w _ _ _ _ _ _ _ _ _ _ t _ hlt hls hC hBw hL l0 l1 hB HT.out).mono ?_; rintro e w1 ⟨⟨i, rfl, hi⟩, hb1⟩; have HI := Lib.hid hi; clear hi)
  go_ret
  refine ⟨⟨decide (0 ≤ i), rfl, ?_⟩, hb1⟩
  rcases HI.out with ⟨h1, h2⟩ | ⟨h1, h2⟩
  · exact ⟨fun _ => h2, fun _ => decide_eq_false (by omega)⟩
  · exact ⟨fun h => by have := of_decide_eq_false h; omega, fun h => (h2 h).elim⟩

set_option maxRecDepth 100000 in
set_option maxHeartbeats 2000000 in
theorem allSt2_w (C P lt ct L ls cs : Nat) (sa : Option Addr) (y : Value) (t : Nat → St5) (w : World) (hlt : lt ≤ 1000000) (hls : ls ≤ 1000000) (hC : C < w.heap.size) (hL : L < w.heap.size)
    (l0 : w.cell? ⟨L, 0, none⟩ = some (.slice sa ls cs)) (l1 : w.cell? ⟨L, 1, none⟩ = some y) (ht : StAt w C P lt t) :
    Calls Tryz.prog 69 #[.slice (some ⟨C, P, none⟩) lt ct, .func (.func 70) #[] #[.pointer (some ⟨L, 0, none⟩)]] w
      fun e w' => (∃ rb : Bool, e = .returned (.bool rb) ∧ (rb = true ↔ StOk ls lt t)) ∧ Below w.heap.size w w' := by
  have HT : Hid (∀ o : Obj, StAt (w.alloc o) C P lt t) := Lib.hid fun o => ht.below hC ((Below.refl _ _).alloc (Nat.le_refl _) _)
  have H0 : Hid (∀ o : Obj, (w.alloc o).cell? ⟨L, 0, none⟩ = some (.slice sa ls cs)) := Lib.hid fun o => (World.cell?_alloc_lt w o _ hL).trans l0
  have H1 : Hid (∀ o : Obj, (w.alloc o).cell? ⟨L, 1, none⟩ = some y) := Lib.hid fun o => (World.cell?_alloc_lt w o _ hL).trans l1
  clear ht l0 l1
  go_enter Tryz.func69, Tryz.ntmps69
  go_wp2_with (go_at_call 103; refine (contSt2_w _ _ _ _ _ _ _ _ _ _ t _ hlt hls (by simp; omega) (by simp) (by simp; omega) (H0.out _) (H1.out _) (cell_new _ _ _) (HT.out _)).mono ?_; rintro e w1 ⟨⟨cb, rfl, hcb⟩, hb1⟩; have HC := Lib.hid hcb; clear hcb)
  go_ret
  refine ⟨⟨!cb, rfl, ?_⟩, below_al hb1⟩
  rw [← HC.out]; cases cb <;> simp

/-- any line -/
structure AnyLine (w : World) (sa ta : Option Addr) (ls lt : Nat) (s : Nat → Int) (t : Nat → St5) : Prop where
  hs : NumSl w sa ls s
  ht : StSl w ta lt t

theorem AnyLine.below {w w1 : World} {sa ta : Option Addr} {ls lt : Nat} {s : Nat → Int} {t : Nat → St5} (h : AnyLine w sa ta ls lt s t) (hb : Below w.heap.size w w1) : AnyLine w1 sa ta ls lt s t :=
  ⟨h.hs.below hb, h.ht.below hb⟩

set_option maxRecDepth 100000 in
set_option maxHeartbeats 4000000 in
theorem isLine2_w (sa ta : Option Addr) (ls cs lt ct : Nat) (s : Nat → Int) (t : Nat → St5) (w : World) (hls : ls ≤ 1000000) (hlt : lt ≤ 1000000) (H : Hid (AnyLine w sa ta ls lt s t)) :
    Calls Tryz.prog 33 #[.agg #[.slice sa ls cs, .slice ta lt ct]] w
      fun e w' => (∃ rb : Bool, e = .returned (.bool rb) ∧ (rb = true ↔ RightP ls lt s t)) ∧ Below w.heap.size w w' := by
  cases f1 : fromB 1 10 (ls : Int)
  · go_enter Tryz.func33, Tryz.ntmps33
    go_wp2_with (go_at_call 54; refine (isFrom_w _ _ _ _).mono ?_; rintro e w' ⟨rfl, rfl⟩)
    go_ret
    exact ⟨⟨false, rfl, no_iff (fun h => by have := h.ls1; have := h.ls2; simp only [fromB, decide_eq_false_iff_not] at f1; omega)⟩, (Below.refl _ _).alloc (Nat.le_refl _) _⟩
  have g1 : 1 ≤ ls ∧ ls ≤ 10 := by simp only [fromB, decide_eq_true_eq] at f1; omega
  obtain ⟨A, O, rfl, hA, hsp⟩ := H.out.hs.resolve_left (by omega)
  have HSP := Lib.hid hsp
  clear hsp
  by_cases hs : ∀ k, k < ls → fromB 1 1000 (s k) = true
  case neg =>
    have HS := Lib.hid hs
    clear hs
    go_enter Tryz.func33, Tryz.ntmps33
    go_wp2_with (first
      | (go_at_call 54; refine (isFrom_w _ _ _ _).mono ?_; rintro e w' ⟨rfl, rfl⟩)
      | (go_at_call 67; refine (allSpeed2_w _ _ _ _ s _ (by unfold maxLen; omega) (lt_alloc _ hA) (HSP.out.below hA ((Below.refl _ _).alloc (Nat.le_refl _) _))).mono ?_; rintro e w1 ⟨⟨rb, rfl, hrb⟩, hb1⟩; obtain rfl : rb = false := (by cases rb <;> first | rfl | exact (HS.out (hrb.1 rfl)).elim); clear hrb))
    go_ret
    exact ⟨⟨false, rfl, no_iff (fun h => HS.out h.sok)⟩, below_al hb1⟩
  have HS := Lib.hid hs
  clear hs
  have m0 : ∀ w1 : World, (∀ b o, b < (w.alloc (.cells #[.slice (some ⟨A, O, none⟩) ls cs, .slice ta lt ct] 25)).heap.size → w1.cell? ⟨b, o, none⟩ = (w.alloc (.cells #[.slice (some ⟨A, O, none⟩) ls cs, .slice ta lt ct] 25)).cell? ⟨b, o, none⟩) →
      w1.cell? ⟨w.heap.size, 0, none⟩ = some (.slice (some ⟨A, O, none⟩) ls cs) := fun w1 h => (h _ _ (by simp)).trans (by simp)
  have m1 : ∀ w1 : World, (∀ b o, b < (w.alloc (.cells #[.slice (some ⟨A, O, none⟩) ls cs, .slice ta lt ct] 25)).heap.size → w1.cell? ⟨b, o, none⟩ = (w.alloc (.cells #[.slice (some ⟨A, O, none⟩) ls cs, .slice ta lt ct] 25)).cell? ⟨b, o, none⟩) →
      w1.cell? ⟨w.heap.size, 1, none⟩ = some (.slice ta lt ct) := fun w1 h => (h _ _ (by simp)).trans (by simp)
  have M0 := Lib.hid m0
  have M1 := Lib.hid m1
  clear m0 m1
  cases f2 : fromB 1 8 (lt : Int)
  · go_enter Tryz.func33, Tryz.ntmps33
    go_wp2_with (first
      | (go_at_call 54; refine (isFrom_w _ _ _ _).mono ?_; rintro e w' ⟨rfl, rfl⟩)
      | (go_at_call 67; refine (allSpeed_w _ _ _ _ s _ (by unfold maxLen; omega) (lt_alloc _ hA) (HSP.out.below hA ((Below.refl _ _).alloc (Nat.le_refl _) _)) HS.out).mono ?_; rintro e w1 ⟨rfl, hb1⟩; obtain ⟨hc1, hf1⟩ := bcell hb1; have k0 := M0.out _ hc1; have k1 := M1.out _ hc1; clear hc1 hf1))
    go_ret
    exact ⟨⟨false, rfl, no_iff (fun h => by have := h.lt1; have := h.lt2; simp only [fromB, decide_eq_false_iff_not] at f2; omega)⟩, below_al hb1⟩
  have g2 : 1 ≤ lt ∧ lt ≤ 8 := by simp only [fromB, decide_eq_true_eq] at f2; omega
  obtain ⟨C, P, rfl, hC, hst⟩ := H.out.ht.resolve_left (by omega)
  have HST := Lib.hid hst
  clear hst
  go_enter Tryz.func33, Tryz.ntmps33
  go_wp2_with (first
    | (go_at_call 54; refine (isFrom_w _ _ _ _).mono ?_; rintro e w' ⟨rfl, rfl⟩)
    | (go_at_call 67; refine (allSpeed_w _ _ _ _ s _ (by unfold maxLen; omega) (lt_alloc _ hA) (HSP.out.below hA ((Below.refl _ _).alloc (Nat.le_refl _) _)) HS.out).mono ?_; rintro e w1 ⟨rfl, hb1⟩; obtain ⟨hc1, hf1⟩ := bcell hb1; have hz1 : w.heap.size < w1.heap.size := by (have := hb1.size; simp at this; omega))
    | (go_at_call 69; refine (allSt2_w _ _ _ _ _ _ _ _ _ t _ (by omega) (by omega) (by omega) (by omega) (M0.out _ hc1) (M1.out _ hc1) (HST.out.below hC (below_al hb1))).mono ?_; rintro e w2 ⟨⟨rb, rfl, hrb⟩, hb2⟩; have HR := Lib.hid hrb; clear hrb))
  go_ret
  exact ⟨⟨rb, rfl, HR.out.trans ⟨fun h => ⟨g1.1, g1.2, g2.1, g2.2, HS.out, h⟩, fun h => h.tok⟩⟩, (below_al hb1).trans (hb2.mono (by omega))⟩

/-- the errors' number: 0 for a right line, 2 for another one -/
def errOf (b : Bool) : Int := cond b 0 2

set_option maxHeartbeats 2000000 in
theorem check_w (sa ta : Option Addr) (ls cs lt ct : Nat) (s : Nat → Int) (t : Nat → St5) (w : World) (hls : ls ≤ 1000000) (hlt : lt ≤ 1000000) (H : Hid (AnyLine w sa ta ls lt s t)) :
    Calls Tryz.prog 8 #[.agg #[.slice sa ls cs, .slice ta lt ct]] w
      fun e w' => (∃ rb : Bool, e = .returned (.int .i64 (errOf rb)) ∧ (rb = true ↔ RightP ls lt s t)) ∧ Below w.heap.size w w' := by
  have Hal : Hid (∀ o : Obj, AnyLine (w.alloc o) sa ta ls lt s t) := Lib.hid fun o => H.out.below ((Below.refl _ _).alloc (Nat.le_refl _) _)
  by_cases hR : RightP ls lt s t
  all_goals
    have HR := Lib.hid hR
    clear hR
    go_enter Tryz.func8, Tryz.ntmps8
    go_wp2_with (go_at_call 33; refine (isLine2_w _ _ _ _ _ _ s t _ hls hlt (Lib.hid (Hal.out _))).mono ?_; rintro e w1 ⟨⟨rb, rfl, hrb⟩, hb1⟩; obtain rfl : rb = _ := (by first | exact hrb.2 HR.out | exact (by cases rb <;> first | rfl | exact (HR.out (hrb.1 rfl)).elim : rb = false)); clear hrb)
    go_ret
    first
      | exact ⟨⟨true, rfl, fun _ => HR.out, fun _ => rfl⟩, below_al hb1⟩
      | exact ⟨⟨false, rfl, no_iff HR.out⟩, below_al hb1⟩
end Go.Kn

namespace Go.Kn
open Go Go.Proofs Go.RowKit

set_option maxRecDepth 100000 in
set_option maxHeartbeats 4000000 in
theorem pcarries_a (sa ta : Option Addr) (ls cs lt ct : Nat) (s : Nat → Int) (t : Nat → St5) (st ag : Int) (w : World) (hls : ls ≤ 1000000) (hlt : lt ≤ 1000000) (H : Hid (AnyLine w sa ta ls lt s t))
    (hR : ¬ RightP ls lt s t) :
    Calls Tryz.prog 9 #[.agg #[.slice sa ls cs, .slice ta lt ct], .int .i64 st, .int .i64 ag] w
      fun e w' => e = .returned (.tuple #[.agg #[.int .i64 0, .int .i64 0], .int .i64 2]) ∧ Below w.heap.size w w' := by
  have Hal : Hid (∀ o o' : Obj, AnyLine ((w.alloc o).alloc o') sa ta ls lt s t) := Lib.hid fun o o' => H.out.below (((Below.refl _ _).alloc (Nat.le_refl _) _).alloc (by simp) _)
  have m0 : ∀ w1 : World, Below (((w.alloc (.cells #[.slice sa ls cs, .slice ta lt ct] 25)).alloc (.cells #[.int .i64 0, .int .i64 0] 31))).heap.size ((w.alloc (.cells #[.slice sa ls cs, .slice ta lt ct] 25)).alloc (.cells #[.int .i64 0, .int .i64 0] 31)) w1 →
      w1.cell? ⟨w.heap.size, 0, none⟩ = some (.slice sa ls cs) ∧ w1.cell? ⟨w.heap.size, 1, none⟩ = some (.slice ta lt ct) ∧ w1.cell? ⟨w.heap.size + 1, 0, none⟩ = some (.int .i64 0) ∧ w1.cell? ⟨w.heap.size + 1, 1, none⟩ = some (.int .i64 0) ∧
      w1.frozen? ⟨w.heap.size + 1, 0, none⟩ = false ∧ w1.frozen? ⟨w.heap.size + 1, 1, none⟩ = false ∧ w.heap.size + 1 < w1.heap.size := by
    intro w1 hb
    obtain ⟨hc, hf⟩ := bcell hb
    refine ⟨(hc _ _ (by first | (simp; done) | (simp; omega))).trans (by simp), (hc _ _ (by first | (simp; done) | (simp; omega))).trans (by simp), (hc _ _ (by first | (simp; done) | (simp; omega))).trans (by simp), (hc _ _ (by first | (simp; done) | (simp; omega))).trans (by simp), (hf _ _ (by first | (simp; done) | (simp; omega))).trans (by simp), (hf _ _ (by first | (simp; done) | (simp; omega))).trans (by simp), ?_⟩
    have := hb.size
    simp at this; omega
  have M0 := Lib.hid m0
  clear m0
  have HR := Lib.hid hR
  clear hR
  go_enter Tryz.func9, Tryz.ntmps9
  go_wp2_with (first
    | (go_at_call 33; refine (isLine2_w _ _ _ _ _ _ s t _ hls hlt (Lib.hid (Hal.out _ _))).mono ?_; rintro e w1 ⟨⟨rb, rfl, hrb⟩, hb1⟩; obtain rfl : rb = false := (by cases rb <;> first | rfl | exact (HR.out (hrb.1 rfl)).elim); clear hrb; obtain ⟨x1, x2, x3, x4, x5, x6, x7⟩ := M0.out _ hb1))
  refine bodyPost_ret (v := .tuple #[.agg #[.int .i64 0, .int .i64 0], .int .i64 2]) (by simp [results, Tryz.results9, go_sem, x3, x4]) rfl ⟨rfl, ?_⟩
  exact (((((Below.refl _ _).alloc (Nat.le_refl _) _).alloc (by simp) _).trans (hb1.mono (by simp; omega))).setCell (by simp) _).setCell (by simp) _

set_option maxRecDepth 100000 in
set_option maxHeartbeats 4000000 in
theorem pcarries_b (sa ta : Option Addr) (ls cs lt ct : Nat) (s : Nat → Int) (t : Nat → St5) (st ag : Int) (w : World) (hls : ls ≤ 1000000) (hlt : lt ≤ 1000000) (H : Hid (AnyLine w sa ta ls lt s t))
    (hR : RightP ls lt s t) (f1 : fromB 0 ((lt : Int) - 1) st = false) :
    Calls Tryz.prog 9 #[.agg #[.slice sa ls cs, .slice ta lt ct], .int .i64 st, .int .i64 ag] w
      fun e w' => e = .returned (.tuple #[.agg #[.int .i64 0, .int .i64 0], .int .i64 2]) ∧ Below w.heap.size w w' := by
  have Hal : Hid (∀ o o' : Obj, AnyLine ((w.alloc o).alloc o') sa ta ls lt s t) := Lib.hid fun o o' => H.out.below (((Below.refl _ _).alloc (Nat.le_refl _) _).alloc (by simp) _)
  have m0 : ∀ w1 : World, Below (((w.alloc (.cells #[.slice sa ls cs, .slice ta lt ct] 25)).alloc (.cells #[.int .i64 0, .int .i64 0] 31))).heap.size ((w.alloc (.cells #[.slice sa ls cs, .slice ta lt ct] 25)).alloc (.cells #[.int .i64 0, .int .i64 0] 31)) w1 →
      w1.cell? ⟨w.heap.size, 0, none⟩ = some (.slice sa ls cs) ∧ w1.cell? ⟨w.heap.size, 1, none⟩ = some (.slice ta lt ct) ∧ w1.cell? ⟨w.heap.size + 1, 0, none⟩ = some (.int .i64 0) ∧ w1.cell? ⟨w.heap.size + 1, 1, none⟩ = some (.int .i64 0) ∧
      w1.frozen? ⟨w.heap.size + 1, 0, none⟩ = false ∧ w1.frozen? ⟨w.heap.size + 1, 1, none⟩ = false ∧ w.heap.size + 1 < w1.heap.size := by
    intro w1 hb
    obtain ⟨hc, hf⟩ := bcell hb
    refine ⟨(hc _ _ (by first | (simp; done) | (simp; omega))).trans (by simp), (hc _ _ (by first | (simp; done) | (simp; omega))).trans (by simp), (hc _ _ (by first | (simp; done) | (simp; omega))).trans (by simp), (hc _ _ (by first | (simp; done) | (simp; omega))).trans (by simp), (hf _ _ (by first | (simp; done) | (simp; omega))).trans (by simp), (hf _ _ (by first | (simp; done) | (simp; omega))).trans (by simp), ?_⟩
    have := hb.size
    simp at this; omega
  have M0 := Lib.hid m0
  clear m0
  have HR := Lib.hid hR
  clear hR
  go_enter Tryz.func9, Tryz.ntmps9
  go_wp2_with (first
    | (go_at_call 33; refine (isLine2_w _ _ _ _ _ _ s t _ hls hlt (Lib.hid (Hal.out _ _))).mono ?_; rintro e w1 ⟨⟨rb, rfl, hrb⟩, hb1⟩; obtain rfl : rb = true := hrb.2 HR.out; clear hrb; obtain ⟨x1, x2, x3, x4, x5, x6, x7⟩ := M0.out _ hb1)
    | (go_at_call 34; refine (isStretch_w _ _ _ _ _ _ (by unfold maxLen; omega)).mono ?_; rintro e w2 ⟨rfl, hb2⟩; have hb12 := hb1.trans (hb2.mono hb1.size); clear x1 x2 x3 x4 x5 x6 x7; obtain ⟨x1, x2, x3, x4, x5, x6, x7⟩ := M0.out _ hb12))
  refine bodyPost_ret (v := .tuple #[.agg #[.int .i64 0, .int .i64 0], .int .i64 2]) (by simp [results, Tryz.results9, go_sem, x3, x4]) rfl ⟨rfl, ?_⟩
  exact (((((Below.refl _ _).alloc (Nat.le_refl _) _).alloc (by simp) _).trans (hb12.mono (by simp; omega))).setCell (by simp) _).setCell (by simp) _

set_option maxRecDepth 100000 in
set_option maxHeartbeats 4000000 in
theorem pcarries_c (sa ta : Option Addr) (ls cs lt ct : Nat) (s : Nat → Int) (t : Nat → St5) (st ag : Int) (w : World) (hls : ls ≤ 1000000) (hlt : lt ≤ 1000000) (H : Hid (AnyLine w sa ta ls lt s t))
    (hR : RightP ls lt s t) (f1 : fromB 0 ((lt : Int) - 1) st = true) (f2 : fromB 0 200 ag = false) :
    Calls Tryz.prog 9 #[.agg #[.slice sa ls cs, .slice ta lt ct], .int .i64 st, .int .i64 ag] w
      fun e w' => e = .returned (.tuple #[.agg #[.int .i64 0, .int .i64 0], .int .i64 2]) ∧ Below w.heap.size w w' := by
  have Hal : Hid (∀ o o' : Obj, AnyLine ((w.alloc o).alloc o') sa ta ls lt s t) := Lib.hid fun o o' => H.out.below (((Below.refl _ _).alloc (Nat.le_refl _) _).alloc (by simp) _)
  have m0 : ∀ w1 : World, Below (((w.alloc (.cells #[.slice sa ls cs, .slice ta lt ct] 25)).alloc (.cells #[.int .i64 0, .int .i64 0] 31))).heap.size ((w.alloc (.cells #[.slice sa ls cs, .slice ta lt ct] 25)).alloc (.cells #[.int .i64 0, .int .i64 0] 31)) w1 →
      w1.cell? ⟨w.heap.size, 0, none⟩ = some (.slice sa ls cs) ∧ w1.cell? ⟨w.heap.size, 1, none⟩ = some (.slice ta lt ct) ∧ w1.cell? ⟨w.heap.size + 1, 0, none⟩ = some (.int .i64 0) ∧ w1.cell? ⟨w.heap.size + 1, 1, none⟩ = some (.int .i64 0) ∧
      w1.frozen? ⟨w.heap.size + 1, 0, none⟩ = false ∧ w1.frozen? ⟨w.heap.size + 1, 1, none⟩ = false ∧ w.heap.size + 1 < w1.heap.size := by
    intro w1 hb
    obtain ⟨hc, hf⟩ := bcell hb
    refine ⟨(hc _ _ (by first | (simp; done) | (simp; omega))).trans (by simp), (hc _ _ (by first | (simp; done) | (simp; omega))).trans (by simp), (hc _ _ (by first | (simp; done) | (simp; omega))).trans (by simp), (hc _ _ (by first | (simp; done) | (simp; omega))).trans (by simp), (hf _ _ (by first | (simp; done) | (simp; omega))).trans (by simp), (hf _ _ (by first | (simp; done) | (simp; omega))).trans (by simp), ?_⟩
    have := hb.size
    simp at this; omega
  have M0 := Lib.hid m0
  clear m0
  have HR := Lib.hid hR
  clear hR
  go_enter Tryz.func9, Tryz.ntmps9
  go_wp2_with (first
    | (go_at_call 33; refine (isLine2_w _ _ _ _ _ _ s t _ hls hlt (Lib.hid (Hal.out _ _))).mono ?_; rintro e w1 ⟨⟨rb, rfl, hrb⟩, hb1⟩; obtain rfl : rb = true := hrb.2 HR.out; clear hrb; obtain ⟨x1, x2, x3, x4, x5, x6, x7⟩ := M0.out _ hb1)
    | (go_at_call 34; refine (isStretch_w _ _ _ _ _ _ (by unfold maxLen; omega)).mono ?_; rintro e w2 ⟨rfl, hb2⟩; have hb12 := hb1.trans (hb2.mono hb1.size); clear x1 x2 x3 x4 x5 x6 x7; obtain ⟨x1, x2, x3, x4, x5, x6, x7⟩ := M0.out _ hb12)
    | (go_at_call 35; refine (isAge_w _ _).mono ?_; rintro e w' ⟨rfl, rfl⟩))
  refine bodyPost_ret (v := .tuple #[.agg #[.int .i64 0, .int .i64 0], .int .i64 2]) (by simp [results, Tryz.results9, go_sem, x3, x4]) rfl ⟨rfl, ?_⟩
  exact (((((Below.refl _ _).alloc (Nat.le_refl _) _).alloc (by simp) _).trans (hb12.mono (by simp; omega))).setCell (by simp) _).setCell (by simp) _
end Go.Kn

namespace Go.Kn
open Go Go.Proofs Go.RowKit

/-- the least and the greatest of what k rates, from the least on, carry -/
def lowV (s : Nat → Int) (x : St5) (ag : Int) : Nat → Int
  | 0 => 10000001
  | k + 1 => cupsL s x ag (x.lo + k)
def highV (s : Nat → Int) (x : St5) (ag : Int) : Nat → Int
  | 0 => -1
  | _ + 1 => cupsL s x ag x.lo

theorem cupsL_bd {s : Nat → Int} {x : St5} {ag r : Int} (hs : 0 ≤ s x.f.toNat ∧ s x.f.toNat ≤ 1000) (hb : 0 ≤ x.b ∧ x.b ≤ 100) (hd : 0 ≤ x.d ∧ x.d ≤ 100) (hr : 0 ≤ r) (ha : 0 ≤ ag) : 0 ≤ cupsL s x ag r ∧ cupsL s x ag r ≤ 10000000 := by
  unfold cupsL cupsV
  have h0 : 0 ≤ r * ag / 100 := Int.ediv_nonneg (Int.mul_nonneg hr ha) (by decide)
  have a := mul_bd (a := max 0 (x.b - 2 * (r * ag / 100))) (b := max 0 (x.d - r * ag / 100)) (A := 100) (B := 100) (by omega) (by omega) (by omega) (by omega)
  have b := mul_bd a.1 a.2 hs.1 hs.2
  exact ⟨b.1, Int.le_trans b.2 (by decide)⟩

theorem box_froz {w w1 : World} {x y : Value} {T : TypeId} (hb : Below (w.alloc (.cells #[x, y] T)).heap.size (w.alloc (.cells #[x, y] T)) w1) :
    w1.frozen? ⟨w.heap.size, 0, none⟩ = false ∧ w1.frozen? ⟨w.heap.size, 1, none⟩ = false := by
  obtain ⟨_, hf⟩ := bcell hb
  exact ⟨(hf _ _ (by simp)).trans (by simp), (hf _ _ (by simp)).trans (by simp)⟩

theorem al3 (w : World) (x y X Y U V : Value) (T T1 T2 : TypeId) : let w3 := ((w.alloc (.cells #[x, y] T)).alloc (.cells #[X, Y] T1)).alloc (.cells #[U, V] T2)
    Below w.heap.size w w3 ∧ w3.cell? ⟨w.heap.size, 0, none⟩ = some x ∧ w3.cell? ⟨w.heap.size, 1, none⟩ = some y ∧ w3.cell? ⟨w.heap.size + 1, 0, none⟩ = some X ∧ w3.cell? ⟨w.heap.size + 1, 1, none⟩ = some Y ∧
      w3.frozen? ⟨w.heap.size + 1, 0, none⟩ = false ∧ w3.frozen? ⟨w.heap.size + 1, 1, none⟩ = false ∧ w3.cell? ⟨w.heap.size + 1 + 1, 0, none⟩ = some U ∧ w3.cell? ⟨w.heap.size + 1 + 1, 1, none⟩ = some V ∧
      w3.frozen? ⟨w.heap.size + 1 + 1, 0, none⟩ = false ∧ w3.frozen? ⟨w.heap.size + 1 + 1, 1, none⟩ = false ∧ w.heap.size + 1 + 1 < w3.heap.size := by
  intro w3
  have e1 : Below (w.alloc (.cells #[x, y] T)).heap.size (w.alloc (.cells #[x, y] T)) w3 := ((Below.refl _ _).alloc (Nat.le_refl _) _).alloc (by simp) _
  have e2 : Below ((w.alloc (.cells #[x, y] T)).alloc (.cells #[X, Y] T1)).heap.size ((w.alloc (.cells #[x, y] T)).alloc (.cells #[X, Y] T1)) w3 := (Below.refl _ _).alloc (Nat.le_refl _) _
  have e3 : Below w3.heap.size w3 w3 := Below.refl _ _
  obtain ⟨x1, x2, _⟩ := box_cells e1
  obtain ⟨r1, r2, _⟩ := box_cells e2
  obtain ⟨r3, r4⟩ := box_froz e2
  obtain ⟨o1, o2, o5⟩ := box_cells e3
  obtain ⟨o3, o4⟩ := box_froz e3
  simp only [World.size_alloc] at r1 r2 r3 r4 o1 o2 o3 o4 o5
  exact ⟨below_al e1, x1, x2, r1, r2, r3, r4, o1, o2, o3, o4, o5⟩

set_option maxRecDepth 100000 in
set_option maxHeartbeats 4000000 in
theorem refCarries_w (A O C P ls cs lt ct n : Nat) (s : Nat → Int) (t : Nat → St5) (ag : Int) (w : World) (H : Hid (LineAt w A O C P ls lt s t)) (hn : n < lt) (ha : 0 ≤ ag ∧ ag ≤ 200) :
    Calls Tryz.prog 13 #[.agg #[.slice (some ⟨A, O, none⟩) ls cs, .slice (some ⟨C, P, none⟩) lt ct], .int .i64 (n : Int), .int .i64 ag] w
      fun e w' => e = .returned (.agg #[.int .i64 (cupsL s (t n) ag (t n).hi), .int .i64 (cupsL s (t n) ag (t n).lo)]) ∧ Below w.heap.size w w' := by
  obtain ⟨b1, b2, b3, b4, b5⟩ := H.out.bds hn
  have q0 := H.out.ls2
  have q1 := H.out.lt2
  have hCw := H.out.hC
  have hsp : 0 ≤ s (t n).f.toNat ∧ s (t n).f.toNat ≤ 1000 := ⟨by omega, by omega⟩
  obtain ⟨d, hd⟩ : ∃ d : Nat, (t n).hi = (t n).lo + d := ⟨((t n).hi - (t n).lo).toNat, by omega⟩
  have CL : Hid (∀ w1, Below w.heap.size w w1 → LineAt w1 A O C P ls lt s t) := Lib.hid fun w1 h => H.out.below h
  obtain ⟨_, _, _, c3, _⟩ := (((H.out.alloc (.cells #[.slice (some ⟨A, O, none⟩) ls cs, .slice (some ⟨C, P, none⟩) lt ct] 25)).alloc (.cells #[.int .i64 0, .int .i64 0] 31)).alloc (.cells #[.int .i64 10000001, .int .i64 (-1)] 31)).st n hn
  go_enter Tryz.func13, Tryz.ntmps13
  go_wp2
  go_loopw [8] (fun i wr => ∃ k : Nat, k ≤ d + 1 ∧ i = .int .i64 ((t n).lo + k) ∧ Below w.heap.size w wr ∧ wr.cell? ⟨w.heap.size, 0, none⟩ = some (.slice (some ⟨A, O, none⟩) ls cs) ∧ wr.cell? ⟨w.heap.size, 1, none⟩ = some (.slice (some ⟨C, P, none⟩) lt ct) ∧
      wr.cell? ⟨w.heap.size + 1, 0, none⟩ = some (.int .i64 0) ∧ wr.cell? ⟨w.heap.size + 1, 1, none⟩ = some (.int .i64 0) ∧ wr.frozen? ⟨w.heap.size + 1, 0, none⟩ = false ∧ wr.frozen? ⟨w.heap.size + 1, 1, none⟩ = false ∧
      wr.cell? ⟨w.heap.size + 1 + 1, 0, none⟩ = some (.int .i64 (lowV s (t n) ag k)) ∧ wr.cell? ⟨w.heap.size + 1 + 1, 1, none⟩ = some (.int .i64 (highV s (t n) ag k)) ∧ wr.frozen? ⟨w.heap.size + 1 + 1, 0, none⟩ = false ∧ wr.frozen? ⟨w.heap.size + 1 + 1, 1, none⟩ = false ∧ w.heap.size + 1 + 1 < wr.heap.size)
    (fun i _ => ((t n).hi + 1 - intOf i).toNat)
  case atStart =>
    exact ⟨0, by omega, by go_num, al3 w _ _ _ _ _ _ _ _ _⟩
  case round =>
    obtain ⟨k, hk, rfl, hbw, x1, x2, r1, r2, r3, r4, o1, o2, o3, o4, hz⟩ := hrel
    have HBW := Lib.hid hbw
    obtain ⟨_, _, _, c3, c4⟩ := ((CL.out _ hbw).st n hn)
    clear c3 hbw
    by_cases hle : (t n).lo + (k : Int) ≤ (t n).hi
    · have hX := cupsL_bd (s := s) (x := t n) (ag := ag) (r := (t n).lo + k) hsp ⟨by omega, b1.2⟩ ⟨by omega, b2.2⟩ (by omega) ha.1
      have hL : cupsL s (t n) ag ((t n).lo + k) ≤ lowV s (t n) ag k := by
        cases k with
        | zero => simp only [lowV]; omega
        | succ k' => exact cupsL_mono hsp.1 (by omega) (by omega) ha.1 (Int.le_refl _)
      have hH : (k = 0 ∧ highV s (t n) ag k = -1) ∨ (highV s (t n) ag k = highV s (t n) ag (k + 1) ∧ cupsL s (t n) ag ((t n).lo + k) ≤ highV s (t n) ag k) := by
        cases k with
        | zero => exact .inl ⟨rfl, rfl⟩
        | succ k' => exact .inr ⟨rfl, cupsL_mono hsp.1 (by omega) (by omega) ha.1 (Int.le_refl _)⟩
      have hH1 : highV s (t n) ag (k + 1) = cupsL s (t n) ag (t n).lo := rfl
      have hL1 : lowV s (t n) ag (k + 1) = cupsL s (t n) ag ((t n).lo + k) := rfl
      go_wp2_with (go_at_call 40; refine (rcups_l (CL.out _ HBW.out) hn _ _ ag _ ha ⟨by omega, by omega⟩).mono ?_; rintro e w1 ⟨rfl, hb1⟩; obtain ⟨hc1, hf1⟩ := bcell hb1; have y1 := (hc1 _ _ hz).trans o1; have y2 := (hc1 _ _ hz).trans o2; have y3 := (hf1 _ _ hz).trans o3; have y4 := (hf1 _ _ hz).trans o4; have HC1 := Lib.hid hc1; have HF1 := Lib.hid hf1; clear hc1 hf1)
      have mn : (if cupsL s (t n) ag ((t n).lo + k) < lowV s (t n) ag k then cupsL s (t n) ag ((t n).lo + k) else lowV s (t n) ag k) = lowV s (t n) ag (k + 1) := by
        rw [hL1]; split <;> omega
      have mx : (if highV s (t n) ag k < cupsL s (t n) ag ((t n).lo + k) then cupsL s (t n) ag ((t n).lo + k) else highV s (t n) ag k) = highV s (t n) ag (k + 1) := by
        rcases hH with ⟨rfl, h⟩ | ⟨h1, h2⟩
        · rw [h, if_pos (by omega), hH1]; simp
        · rw [if_neg (by omega), h1]
      rw [mn, mx]
      have z1 : w.heap.size < w1.heap.size := by have := hb1.size; omega
      have B1 : Below w.heap.size w w1 := HBW.out.trans (hb1.mono HBW.out.size)
      go_roundw
      case rel =>
        refine ⟨k + 1, by omega, by go_num, (B1.setCell (by simp; omega) _).setCell (by simp; omega) _, ?_, ?_, ?_, ?_, ?_, ?_, ?_, ?_, ?_, ?_, ?_⟩
        · rw [World.cell?_setCell_far _ _ _ _ (by simp; try omega), World.cell?_setCell_far _ _ _ _ (by simp; try omega)]; exact (HC1.out _ _ (by omega)).trans x1
        · rw [World.cell?_setCell_far _ _ _ _ (by simp; try omega), World.cell?_setCell_far _ _ _ _ (by simp; try omega)]; exact (HC1.out _ _ (by omega)).trans x2
        · rw [World.cell?_setCell_far _ _ _ _ (by simp; try omega), World.cell?_setCell_far _ _ _ _ (by simp; try omega)]; exact (HC1.out _ _ (by omega)).trans r1
        · rw [World.cell?_setCell_far _ _ _ _ (by simp; try omega), World.cell?_setCell_far _ _ _ _ (by simp; try omega)]; exact (HC1.out _ _ (by omega)).trans r2
        · rw [World.frozen?_setCell, World.frozen?_setCell]; exact (HF1.out _ _ (by omega)).trans r3
        · rw [World.frozen?_setCell, World.frozen?_setCell]; exact (HF1.out _ _ (by omega)).trans r4
        · exact (World.cell?_setCell_other _ _ _ _ (by simp)).trans (World.cell?_setCell_same _ _ _ y1)
        · exact World.cell?_setCell_same _ _ _ ((World.cell?_setCell_other _ _ _ _ (by simp)).trans y2)
        · rw [World.frozen?_setCell, World.frozen?_setCell]; exact y3
        · rw [World.frozen?_setCell, World.frozen?_setCell]; exact y4
        · have := hb1.size
          rw [World.size_setCell, World.size_setCell]; omega
      case measure => simp [intOf]; omega
    · have ek : k = d + 1 := by omega
      subst ek
      go_wp2
      have e1 : lowV s (t n) ag (d + 1) = cupsL s (t n) ag (t n).hi := by rw [hd]; rfl
      have e2 : highV s (t n) ag (d + 1) = cupsL s (t n) ag (t n).lo := rfl
      refine bodyPost_ret (v := .agg #[.int .i64 (cupsL s (t n) ag (t n).hi), .int .i64 (cupsL s (t n) ag (t n).lo)]) ?_ rfl ⟨by rw [hd], ?_⟩
      · rw [← e1, ← e2]
        simp [results, Tryz.results13, go_sem, r1, r2]
      · exact (HBW.out.setCell (by simp) _).setCell (by simp) _
end Go.Kn
