/- Walks of the functions of layer 2 that ChannelBursts calls, and the law itself (a part of it). Conditions: as each theorem states them. -/
import Derived.Test.YtifdohhffmlbaaaGreatDoorNA
set_option linter.unusedVariables false
set_option linter.unusedSimpArgs false
namespace Go.Kn
open Go Go.Proofs Go.RowKit

structure Cl3 where
  be : Int
  pr : Int
  st : Int
def ClAt (w : World) (C P n : Nat) (c : Nat → Cl3) : Prop := ∀ i, i < n → w.cell? ⟨C, P + i * 3, none⟩ = some (.int .i64 (c i).be) ∧ w.cell? ⟨C, P + i * 3 + 1, none⟩ = some (.int .i64 (c i).pr) ∧ w.cell? ⟨C, P + i * 3 + 2, none⟩ = some (.int .i64 (c i).st)
theorem ClAt.below {w w1 : World} {C P n : Nat} {c : Nat → Cl3} (h : ClAt w C P n c) (hC : C < w.heap.size) (hb : Below w.heap.size w w1) : ClAt w1 C P n c := by
  intro i hi
  obtain ⟨h0, h1, h2⟩ := h i hi
  have e : ∀ o, w1.cell? ⟨C, o, none⟩ = w.cell? ⟨C, o, none⟩ := fun o => hb.cell (p := ⟨C, o, none⟩) hC
  exact ⟨(e _).trans h0, (e _).trans h1, (e _).trans h2⟩
def ClSl (w : World) (ka : Option Addr) (n : Nat) (c : Nat → Cl3) : Prop := n = 0 ∨ ∃ C P, ka = some ⟨C, P, none⟩ ∧ C < w.heap.size ∧ ClAt w C P n c
theorem ClSl.below {w w1 : World} {ta : Option Addr} {lt : Nat} {t : Nat → Cl3} (h : ClSl w ta lt t) (hb : Below w.heap.size w w1) : ClSl w1 ta lt t := by
  rcases h with h | ⟨A, O, h1, h2, h3⟩
  · exact .inl h
  · exact .inr ⟨A, O, h1, Nat.lt_of_lt_of_le h2 hb.size, h3.below h2 hb⟩
def clB (x : Cl3) : Bool := decide (1 ≤ x.be ∧ x.be ≤ 1000 ∧ 0 ≤ x.pr ∧ x.pr ≤ 100 ∧ 0 ≤ x.st ∧ x.st ≤ 1000)
def ClOk (n : Nat) (c : Nat → Cl3) : Prop := ∀ i, i < n → clB (c i) = true
structure ClsP (n : Nat) (c : Nat → Cl3) : Prop where
  n1 : 1 ≤ n
  n2 : n ≤ 4
  ok : ClOk n c

set_option maxHeartbeats 1000000 in
theorem isCl_w (be pr st : Int) (w : World) :
    Calls Tryz.prog 113 #[.agg #[.int .i64 be, .int .i64 pr, .int .i64 st]] w fun e w' => e = .returned (.bool (clB ⟨be, pr, st⟩)) ∧ Below w.heap.size w w' := by
  cases h1 : fromB 1 1000 be
  case false =>
    go_enter Tryz.func113, Tryz.ntmps113
    go_wp2_with (go_at_call 88; refine (isFrom_w _ _ _ _).mono ?_; rintro e w' ⟨rfl, rfl⟩)
    go_ret
    refine ⟨?_, (Below.refl _ _).alloc (Nat.le_refl _) _⟩
    have := fromB_f h1
    rw [show clB ⟨be, pr, st⟩ = false from by simp only [clB, decide_eq_false_iff_not]; omega]; rfl
  cases h2 : fromB 0 100 pr
  case false =>
    go_enter Tryz.func113, Tryz.ntmps113
    go_wp2_with (go_at_call 88; refine (isFrom_w _ _ _ _).mono ?_; rintro e w' ⟨rfl, rfl⟩)
    go_ret
    refine ⟨?_, (Below.refl _ _).alloc (Nat.le_refl _) _⟩
    have := fromB_f h2
    rw [show clB ⟨be, pr, st⟩ = false from by simp only [clB, decide_eq_false_iff_not]; omega]; rfl
  go_enter Tryz.func113, Tryz.ntmps113
  go_wp2_with (go_at_call 88; refine (isFrom_w _ _ _ _).mono ?_; rintro e w' ⟨rfl, rfl⟩)
  go_ret
  refine ⟨?_, (Below.refl _ _).alloc (Nat.le_refl _) _⟩
  have e1 := fromB_tt h1
  have e2 := fromB_tt h2
  have : fromB 0 1000 st = clB ⟨be, pr, st⟩ := by simp only [fromB, clB]; rw [decide_eq_decide]; omega
  rw [← this]; rfl
set_option maxHeartbeats 1000000 in
theorem notCl_w (B : Nat) (be pr st : Int) (w : World) (hBw : B < w.heap.size) (hB : w.cell? ⟨B, 0, none⟩ = some (.func (.func 113) #[] #[])) :
    Calls Tryz.prog 137 #[.agg #[.int .i64 be, .int .i64 pr, .int .i64 st], .pointer (some ⟨B, 0, none⟩)] w fun e w' => e = .returned (.bool (!clB ⟨be, pr, st⟩)) ∧ Below w.heap.size w w' := by
  have hal2 : ∀ (o : Obj) (k : Nat), (w.alloc o).cell? ⟨B, k, none⟩ = w.cell? ⟨B, k, none⟩ := fun o k => World.cell?_alloc_lt w o _ hBw
  go_enter Tryz.func137, Tryz.ntmps137
  go_wp2_with (go_at_call 113; refine (isCl_w _ _ _ _).mono ?_; rintro e w' ⟨rfl, hbl⟩)
  go_ret
  exact ⟨rfl, below_al hbl⟩

set_option maxRecDepth 100000 in
set_option maxHeartbeats 2000000 in
theorem idxCl_w (C P lt ct B : Nat) (p : Nat → Cl3) (w : World) (hlt : lt ≤ 1000000) (hC : C < w.heap.size) (hBw : B < w.heap.size) (hB : w.cell? ⟨B, 0, none⟩ = some (.func (.func 113) #[] #[])) (ht : ClAt w C P lt p) :
    Calls Tryz.prog 149 #[.slice (some ⟨C, P, none⟩) lt ct, .func (.func 137) #[] #[.pointer (some ⟨B, 0, none⟩)]] w
      fun e w' => (∃ i : Int, e = .returned (.int .i64 i) ∧ ((i < 0 ∧ ClOk lt p) ∨ (0 ≤ i ∧ ¬ ClOk lt p))) ∧ Below w.heap.size w w' := by
  have HT := Lib.hid ht
  clear ht
  go_enter Tryz.func149, Tryz.ntmps149
  go_wp2
  go_loopw [8] (fun i wr => ∃ k : Nat, k ≤ lt ∧ i = .int .i64 k ∧ Below w.heap.size w wr ∧ (∀ j, j < k → clB (p j) = true)) (fun i _ => lt - (intOf i).toNat)
  case atStart => exact ⟨0, Nat.zero_le _, rfl, Below.refl _ _, fun j hj => absurd hj (by omega)⟩
  case round =>
    obtain ⟨k, hk, rfl, hbw, hall⟩ := hrel
    have HALL := Lib.hid hall
    clear hall
    by_cases hlt' : k < lt
    · obtain ⟨c0, c1, c2⟩ := HT.out.below hC hbw k hlt'
      have mB : wr.cell? ⟨B, 0, none⟩ = some (.func (.func 113) #[] #[]) := (hbw.cell (p := ⟨B, 0, none⟩) hBw).trans hB
      have hz : w.heap.size ≤ wr.heap.size := hbw.size
      cases hv : clB (p k)
      · go_wp2_with (go_at_call 137; refine (notCl_w _ _ _ _ _ (by omega) mB).mono ?_; rintro e w1 ⟨rfl, hb1⟩)
        go_ret
        exact ⟨⟨_, rfl, .inr ⟨by omega, fun h => by have h2 := h k hlt'; rw [hv] at h2; cases h2⟩⟩, hbw.trans (hb1.mono hz)⟩
      · go_wp2_with (go_at_call 137; refine (notCl_w _ _ _ _ _ (by omega) mB).mono ?_; rintro e w1 ⟨rfl, hb1⟩)
        go_roundw
        case rel => exact ⟨k + 1, by omega, by go_num, hbw.trans (hb1.mono hz), fun j hj => by
          rcases Nat.lt_succ_iff_lt_or_eq.1 hj with h | h
          · exact HALL.out j h
          · rw [h]; exact hv⟩
        case measure => simp [intOf]; omega
    · go_wp2
      go_ret
      exact ⟨⟨_, rfl, .inl ⟨by omega, fun j hj => HALL.out j (by omega)⟩⟩, hbw⟩

set_option maxRecDepth 100000 in
set_option maxHeartbeats 2000000 in
theorem contCl_w (C P lt ct B : Nat) (p : Nat → Cl3) (w : World) (hlt : lt ≤ 1000000) (hC : C < w.heap.size) (hBw : B < w.heap.size) (hB : w.cell? ⟨B, 0, none⟩ = some (.func (.func 113) #[] #[])) (ht : ClAt w C P lt p) :
    Calls Tryz.prog 136 #[.slice (some ⟨C, P, none⟩) lt ct, .func (.func 137) #[] #[.pointer (some ⟨B, 0, none⟩)]] w
      fun e w' => (∃ cb : Bool, e = .returned (.bool cb) ∧ (cb = false ↔ ClOk lt p)) ∧ Below w.heap.size w w' := by
  have HT := Lib.hid ht
  clear ht
  go_enter Tryz.func136, Tryz.ntmps136
  go_wp2_with (go_at_call 149; refine (idxCl_w _ _ _ _ _ p _ hlt hC hBw hB HT.out).mono ?_; rintro e w1 ⟨⟨i, rfl, hi⟩, hb1⟩; have HI := Lib.hid hi; clear hi)
  go_ret
  refine ⟨⟨decide (0 ≤ i), rfl, ?_⟩, hb1⟩
  rcases HI.out with ⟨h1, h2⟩ | ⟨h1, h2⟩
  · exact ⟨fun _ => h2, fun _ => decide_eq_false (by omega)⟩
  · exact ⟨fun h => by have := of_decide_eq_false h; omega, fun h => (h2 h).elim⟩

set_option maxRecDepth 100000 in
set_option maxHeartbeats 2000000 in
theorem allCl_w (C P lt ct : Nat) (p : Nat → Cl3) (w : World) (hlt : lt ≤ 1000000) (hC : C < w.heap.size) (ht : ClAt w C P lt p) :
    Calls Tryz.prog 112 #[.slice (some ⟨C, P, none⟩) lt ct, .func (.func 113) #[] #[]] w
      fun e w' => (∃ rb : Bool, e = .returned (.bool rb) ∧ (rb = true ↔ ClOk lt p)) ∧ Below w.heap.size w w' := by
  have HT : Hid (∀ o : Obj, ClAt (w.alloc o) C P lt p) := Lib.hid fun o => ht.below hC ((Below.refl _ _).alloc (Nat.le_refl _) _)
  clear ht
  go_enter Tryz.func112, Tryz.ntmps112
  go_wp2_with (go_at_call 136; refine (contCl_w _ _ _ _ _ p _ hlt (by simp; omega) (by simp) (cell_newL _ _ _) (HT.out _)).mono ?_; rintro e w1 ⟨⟨cb, rfl, hcb⟩, hb1⟩; have HC := Lib.hid hcb; clear hcb)
  go_ret
  refine ⟨⟨!cb, rfl, ?_⟩, below_al hb1⟩
  rw [← HC.out]; cases cb <;> simp

set_option maxRecDepth 100000 in
set_option maxHeartbeats 2000000 in
theorem areCl_w (ka : Option Addr) (lk ck : Nat) (c : Nat → Cl3) (w : World) (hlk : lk ≤ 1000000) (H : Hid (ClSl w ka lk c)) :
    Calls Tryz.prog 82 #[.slice ka lk ck] w fun e w' => (∃ rb : Bool, e = .returned (.bool rb) ∧ (rb = true ↔ ClsP lk c)) ∧ Below w.heap.size w w' := by
  cases f2 : fromB 1 4 (lk : Int)
  case false =>
    go_enter Tryz.func82, Tryz.ntmps82
    go_wp2_with (go_at_call 88; refine (isFrom_w _ _ _ _).mono ?_; rw [f2]; rintro e w' ⟨rfl, rfl⟩)
    go_ret
    exact ⟨⟨false, rfl, no_iff' (fun h => by have := h.n1; have := h.n2; simp only [fromB, decide_eq_false_iff_not] at f2; omega)⟩, Below.refl _ _⟩
  have g2 : 1 ≤ lk ∧ lk ≤ 4 := by simp only [fromB, decide_eq_true_eq] at f2; omega
  obtain ⟨C, P, rfl, hC, hc⟩ := H.out.resolve_left (by omega)
  have HC := Lib.hid hc
  clear hc
  go_enter Tryz.func82, Tryz.ntmps82
  go_wp2_with (first
    | (go_at_call 88; refine (isFrom_w _ _ _ _).mono ?_; rw [f2]; rintro e w' ⟨rfl, rfl⟩)
    | (go_at_call 112; refine (allCl_w _ _ _ _ c _ hlk hC HC.out).mono ?_; rintro e w1 ⟨⟨rb, rfl, hrb⟩, hb1⟩; have HR := Lib.hid hrb; clear hrb))
  go_ret
  exact ⟨⟨rb, rfl, HR.out.trans ⟨fun h => ⟨g2.1, g2.2, h⟩, fun h => h.ok⟩⟩, hb1⟩

set_option maxRecDepth 100000 in
set_option maxHeartbeats 4000000 in
theorem rcls_w (ka : Option Addr) (lk ck : Nat) (c : Nat → Cl3) (w : World) (hlk : lk ≤ 1000000) (H : Hid (ClSl w ka lk c)) :
    Calls Tryz.prog 50 #[.slice ka lk ck] w fun e w' => (∃ rb : Bool, e = .returned (.bool rb) ∧ (rb = true ↔ ClsP lk c)) ∧ w = w' := by
  go_enter Tryz.func50, Tryz.ntmps50
  go_wp2
  go_loop [3] (fun i => ∃ k : Nat, k ≤ lk ∧ i = .int .i64 k ∧ ∀ j, j < k → clB (c j) = true) (fun i => lk - (intOf i).toNat)
  case atStart => exact ⟨0, Nat.zero_le _, rfl, fun j hj => absurd hj (by omega)⟩
  case round =>
    obtain ⟨k, hk, rfl, hall⟩ := hrel
    have HALL := Lib.hid hall
    clear hall
    by_cases hlt : k < lk
    · obtain ⟨C, P, rfl, hC, hc⟩ := H.out.resolve_left (by omega)
      obtain ⟨y0, y1, y2⟩ := hc k hlt
      clear hc
      cases g1 : fromB 1 1000 (c k).be
      · go_wp2_with (go_at_call 65; refine (in_w _ _ _ _).mono ?_; rintro e w1 ⟨rfl, rfl⟩)
        go_ret
        exact ⟨⟨false, rfl, no_iff' (fun h => by have h1 := h.ok k hlt; have := fromB_f g1; simp only [clB, decide_eq_true_eq] at h1; omega)⟩, rfl⟩
      cases g2 : fromB 0 100 (c k).pr
      · go_wp2_with (go_at_call 65; refine (in_w _ _ _ _).mono ?_; rintro e w1 ⟨rfl, rfl⟩)
        go_ret
        exact ⟨⟨false, rfl, no_iff' (fun h => by have h1 := h.ok k hlt; have := fromB_f g2; simp only [clB, decide_eq_true_eq] at h1; omega)⟩, rfl⟩
      cases g3 : fromB 0 1000 (c k).st
      · go_wp2_with (go_at_call 65; refine (in_w _ _ _ _).mono ?_; rintro e w1 ⟨rfl, rfl⟩)
        go_ret
        exact ⟨⟨false, rfl, no_iff' (fun h => by have h1 := h.ok k hlt; have := fromB_f g3; simp only [clB, decide_eq_true_eq] at h1; omega)⟩, rfl⟩
      · go_wp2_with (go_at_call 65; refine (in_w _ _ _ _).mono ?_; rintro e w1 ⟨rfl, rfl⟩)
        go_round
        case rel => exact ⟨k + 1, by omega, by go_num, fun j hj => by
          rcases Nat.lt_succ_iff_lt_or_eq.1 hj with h | h
          · exact HALL.out j h
          · rw [h]; have a := fromB_tt g1; have b := fromB_tt g2; have d := fromB_tt g3; simp only [clB, decide_eq_true_eq]; omega⟩
        case measure => simp [intOf]; omega
    · have HOK : Hid (ClOk lk c) := Lib.hid fun j hj => HALL.out j (by omega)
      go_wp2_with (go_at_call 65; refine (in_w _ _ _ _).mono ?_; rintro e w1 ⟨rfl, rfl⟩)
      go_ret
      refine ⟨⟨fromB 1 4 (lk : Int), rfl, ?_⟩, rfl⟩
      simp only [fromB, decide_eq_true_eq]
      exact ⟨fun h => ⟨by omega, by omega, HOK.out⟩, fun h => by have := h.n1; have := h.n2; omega⟩
end Go.Kn
