/- Contracts of functions that the laws of this seat call, or the evaluator of closed calls and its runs. Conditions: as each theorem states them. -/
import Derived.Test.YtpfbfdcpibajoaaGreatDoorHV
set_option linter.unusedVariables false
set_option linter.unusedSimpArgs false
/- Contracts of functions that the laws of this seat call, or the evaluator of closed calls and its runs. Conditions: as each theorem states them. -/
set_option linter.unusedVariables false
set_option linter.unusedSimpArgs false
namespace Go.Kn
open Go Go.Proofs Go.RowKit

theorem no_iff {p : Prop} (h : p → False) : (false = true ↔ p) := ⟨fun e => Bool.noConfusion e, fun x => (h x).elim⟩

set_option maxHeartbeats 400000 in
theorem in_w (a b c : Int) (w : World) :
    Calls Tryz.prog 68 #[.int .i64 c, .int .i64 a, .int .i64 b] w fun e w' => e = .returned (.bool (fromB a b c)) ∧ w = w' := by
  by_cases h1 : a ≤ c <;> by_cases h2 : c ≤ b
  all_goals
    go_enter Tryz.func68, Tryz.ntmps68
    go_wp2
    go_ret
    exact ⟨by simp [fromB, h1, h2], rfl⟩

theorem areCups_w (c : Int) (w : World) : Calls Tryz.prog 104 #[.int .i64 c] w fun e w' => e = .returned (.bool (fromB 0 200 c)) ∧ w = w' := by
  go_enter Tryz.func104, Tryz.ntmps104
  go_wp2_with (go_at_call 91; refine (isFrom_w _ _ _ _).mono ?_; rintro e w' ⟨rfl, rfl⟩)
  go_ret
  exact ⟨rfl, rfl⟩

theorem isClass_w (c : Int) (w : World) : Calls Tryz.prog 108 #[.int .i64 c] w fun e w' => e = .returned (.bool (fromB 0 3 c)) ∧ w = w' := by
  go_enter Tryz.func108, Tryz.ntmps108
  go_wp2_with (go_at_call 91; refine (isFrom_w _ _ _ _).mono ?_; rintro e w' ⟨rfl, rfl⟩)
  go_ret
  exact ⟨rfl, rfl⟩

theorem cups_w (c : Int) (w : World) : Calls Tryz.prog 69 #[.int .i64 c] w fun e w' => e = .returned (.bool (fromB 0 200 c)) ∧ w = w' := by
  go_enter Tryz.func69, Tryz.ntmps69
  go_wp2_with (go_at_call 68; refine (in_w _ _ _ _).mono ?_; rintro e w' ⟨rfl, rfl⟩)
  go_ret
  exact ⟨rfl, rfl⟩

theorem class_w (c : Int) (w : World) : Calls Tryz.prog 70 #[.int .i64 c] w fun e w' => e = .returned (.bool (fromB 0 3 c)) ∧ w = w' := by
  go_enter Tryz.func70, Tryz.ntmps70
  go_wp2_with (go_at_call 68; refine (in_w _ _ _ _).mono ?_; rintro e w' ⟨rfl, rfl⟩)
  go_ret
  exact ⟨rfl, rfl⟩

/-- a tree as an argument -/
def tree (f : Int) (na : Option Addr) (ln cn : Nat) (oa : Option Addr) (lo co : Nat) : Value := .agg #[.int .i64 f, .slice na ln cn, .slice oa lo co]

theorem node_w (f n : Int) (na oa : Option Addr) (ln cn lo co : Nat) (w : World) : Calls Tryz.prog 27 #[.agg #[.int .i64 f, .slice na ln cn, .slice oa lo co], .int .i64 n] w
    fun e w' => e = .returned (.bool (fromB 0 ln n)) ∧ Below w.heap.size w w' := by
  go_enter Tryz.func27, Tryz.ntmps27
  go_wp2_with (go_at_call 68; refine (in_w _ _ _ _).mono ?_; rintro e w' ⟨rfl, rfl⟩)
  go_ret
  exact ⟨rfl, (Below.refl _ _).alloc (Nat.le_refl _) _⟩

theorem isNode_w (f n : Int) (na oa : Option Addr) (ln cn lo co : Nat) (w : World) : Calls Tryz.prog 102 #[.agg #[.int .i64 f, .slice na ln cn, .slice oa lo co], .int .i64 n] w
    fun e w' => e = .returned (.bool (fromB 0 ln n)) ∧ Below w.heap.size w w' := by
  go_enter Tryz.func102, Tryz.ntmps102
  go_wp2_with (go_at_call 91; refine (isFrom_w _ _ _ _).mono ?_; rintro e w' ⟨rfl, rfl⟩)
  go_ret
  exact ⟨rfl, (Below.refl _ _).alloc (Nat.le_refl _) _⟩

theorem short_w (f : Int) (na oa : Option Addr) (ln cn lo co : Nat) (w : World) (h1 : ln ≤ maxLen) (h2 : lo ≤ maxLen) : Calls Tryz.prog 13 #[.agg #[.int .i64 f, .slice na ln cn, .slice oa lo co]] w
    fun e w' => e = .returned (.bool (decide (ln ≤ 8 ∧ lo ≤ 10))) ∧ Below w.heap.size w w' := by
  unfold maxLen at h1 h2
  by_cases q1 : ln ≤ 8 <;> by_cases q2 : lo ≤ 10
  all_goals
    have p1 : ¬ (8 < (ln : Int)) ∨ (8 < (ln : Int)) := by omega
    go_enter Tryz.func13, Tryz.ntmps13
    go_wp2
    go_ret
    refine ⟨?_, (Below.refl _ _).alloc (Nat.le_refl _) _⟩
    simp [q1, q2]
    try omega




def NdAt (w : World) (A O ln : Nat) (N : Nat → N2) : Prop := ∀ i, i < ln → w.cell? ⟨A, O + i * 2, none⟩ = some (.int .i64 (N i).p) ∧ w.cell? ⟨A, O + i * 2 + 1, none⟩ = some (.int .i64 (N i).c)
def OuAt (w : World) (C P lo : Nat) (U : Nat → O3) : Prop := ∀ i, i < lo → w.cell? ⟨C, P + i * 3, none⟩ = some (.int .i64 (U i).n) ∧ w.cell? ⟨C, P + i * 3 + 1, none⟩ = some (.int .i64 (U i).c) ∧ w.cell? ⟨C, P + i * 3 + 2, none⟩ = some (.int .i64 (U i).k)

theorem NdAt.below {w w1 : World} {A O ln : Nat} {N : Nat → N2} (h : NdAt w A O ln N) (hA : A < w.heap.size) (hb : Below w.heap.size w w1) : NdAt w1 A O ln N := fun i hi => by
  rw [(bcell hb).1 _ _ hA, (bcell hb).1 _ _ hA]; exact h i hi
theorem OuAt.below {w w1 : World} {C P lo : Nat} {U : Nat → O3} (h : OuAt w C P lo U) (hC : C < w.heap.size) (hb : Below w.heap.size w w1) : OuAt w1 C P lo U := fun i hi => by
  rw [(bcell hb).1 _ _ hC, (bcell hb).1 _ _ hC, (bcell hb).1 _ _ hC]; exact h i hi

def NdSl (w : World) (na : Option Addr) (ln : Nat) (N : Nat → N2) : Prop := ln = 0 ∨ ∃ A O, na = some ⟨A, O, none⟩ ∧ A < w.heap.size ∧ NdAt w A O ln N
def OuSl (w : World) (oa : Option Addr) (lo : Nat) (U : Nat → O3) : Prop := lo = 0 ∨ ∃ C P, oa = some ⟨C, P, none⟩ ∧ C < w.heap.size ∧ OuAt w C P lo U

theorem NdSl.below {w w1 : World} {na : Option Addr} {ln : Nat} {N : Nat → N2} (h : NdSl w na ln N) (hb : Below w.heap.size w w1) : NdSl w1 na ln N := by
  rcases h with h | ⟨A, O, h1, h2, h3⟩
  · exact .inl h
  · exact .inr ⟨A, O, h1, Nat.lt_of_lt_of_le h2 hb.size, h3.below h2 hb⟩
theorem OuSl.below {w w1 : World} {oa : Option Addr} {lo : Nat} {U : Nat → O3} (h : OuSl w oa lo U) (hb : Below w.heap.size w w1) : OuSl w1 oa lo U := by
  rcases h with h | ⟨A, O, h1, h2, h3⟩
  · exact .inl h
  · exact .inr ⟨A, O, h1, Nat.lt_of_lt_of_le h2 hb.size, h3.below h2 hb⟩

/-- a tree in memory -/
structure Tr7 (w : World) (na oa : Option Addr) (ln lo : Nat) (N : Nat → N2) (U : Nat → O3) : Prop where
  hn : NdSl w na ln N
  ho : OuSl w oa lo U
theorem Tr7.below {w w1 : World} {na oa : Option Addr} {ln lo : Nat} {N : Nat → N2} {U : Nat → O3} (h : Tr7 w na oa ln lo N U) (hb : Below w.heap.size w w1) : Tr7 w1 na oa ln lo N U := ⟨h.hn.below hb, h.ho.below hb⟩






set_option maxRecDepth 100000 in
set_option maxHeartbeats 4000000 in
theorem tree_w (f : Int) (na oa : Option Addr) (ln cn lo co : Nat) (N : Nat → N2) (U : Nat → O3) (w : World) (hln : ln ≤ 1000000) (hlo : lo ≤ 1000000) (H : Hid (Tr7 w na oa ln lo N U)) :
    Calls Tryz.prog 17 #[.agg #[.int .i64 f, .slice na ln cn, .slice oa lo co]] w
      fun e w' => (∃ rb : Bool, e = .returned (.bool rb) ∧ (rb = true ↔ TreeS f ln lo N U)) ∧ Below w.heap.size w w' := by
  have HN := Lib.hid H.out.hn
  have HO := Lib.hid H.out.ho
  go_enter Tryz.func17, Tryz.ntmps17
  go_wp2
  go_loop [3] (fun i => ∃ k : Nat, k ≤ ln ∧ i = .int .i64 k ∧ ∀ j, j < k → nodeB j (N j) = true) (fun i => ln - (intOf i).toNat)
  case atStart => exact ⟨0, Nat.zero_le _, rfl, fun j hj => absurd hj (by omega)⟩
  case round =>
    obtain ⟨k, hk, rfl, hall⟩ := hrel
    have HALL := Lib.hid hall
    clear hall
    by_cases hlt1 : k < ln
    · obtain ⟨A, O, rfl, hA, hcells⟩ := HN.out.resolve_left (by omega)
      have hcell : (w.alloc (.cells #[.int .i64 f, .slice (some ⟨A, O, none⟩) ln cn, .slice oa lo co] 25)).cell? ⟨A, O + k * 2, none⟩ = some (.int .i64 (N k).p) := (World.cell?_alloc_lt w _ _ hA).trans (hcells k hlt1).1
      have hcell2 : (w.alloc (.cells #[.int .i64 f, .slice (some ⟨A, O, none⟩) ln cn, .slice oa lo co] 25)).cell? ⟨A, O + k * 2 + 1, none⟩ = some (.int .i64 (N k).c) := (World.cell?_alloc_lt w _ _ hA).trans (hcells k hlt1).2
      clear hcells
      cases hv : fromB 0 k (N k).p
      · go_wp2_with (first | (go_at_call 68; refine (in_w _ _ _ _).mono ?_; rintro e w1 ⟨rfl, rfl⟩) | (go_at_call 69; refine (cups_w _ _).mono ?_; rintro e w1 ⟨rfl, rfl⟩))
        go_ret
        exact ⟨⟨false, rfl, no_iff (fun h => by have := h.nk k hlt1; simp [nodeB, hv] at this)⟩, (Below.refl _ _).alloc (Nat.le_refl _) _⟩
      · cases hv2 : fromB 0 200 (N k).c
        · go_wp2_with (first | (go_at_call 68; refine (in_w _ _ _ _).mono ?_; rintro e w1 ⟨rfl, rfl⟩) | (go_at_call 69; refine (cups_w _ _).mono ?_; rintro e w1 ⟨rfl, rfl⟩))
          go_ret
          exact ⟨⟨false, rfl, no_iff (fun h => by have := h.nk k hlt1; simp [nodeB, hv2] at this)⟩, (Below.refl _ _).alloc (Nat.le_refl _) _⟩
        · go_wp2_with (first | (go_at_call 68; refine (in_w _ _ _ _).mono ?_; rintro e w1 ⟨rfl, rfl⟩) | (go_at_call 69; refine (cups_w _ _).mono ?_; rintro e w1 ⟨rfl, rfl⟩))
          go_round
          case rel => exact ⟨k + 1, by omega, by go_num, fun j hj => by
            rcases Nat.lt_succ_iff_lt_or_eq.1 hj with h | h
            · exact HALL.out j h
            · rw [h]; simp [nodeB, hv, hv2]⟩
          case measure => simp [intOf]; omega
    · have HSP : Hid (∀ k, k < ln → nodeB k (N k) = true) := Lib.hid fun j hj => HALL.out j (by omega)
      clear HALL
      go_wp2
      go_loopw [4] (fun i wr => ∃ k : Nat, k ≤ lo ∧ i = .int .i64 k ∧ Below (w.heap.size + 1) (w.alloc (.cells #[.int .i64 f, .slice na ln cn, .slice oa lo co] 25)) wr ∧ (∀ j, j < k → outB ln (U j) = true)) (fun i _ => lo - (intOf i).toNat)
      case atStart => exact ⟨0, Nat.zero_le _, rfl, Below.refl _ _, fun j hj => absurd hj (by omega)⟩
      case round =>
        obtain ⟨j, hj, rfl, hbw, hall⟩ := hrel
        have HALL2 := Lib.hid hall
        clear hall
        have x0 : wr.cell? ⟨w.heap.size, 0, none⟩ = some (.int .i64 f) := (hbw.cell (p := ⟨w.heap.size, 0, none⟩) (by simp)).trans (by simp)
        have x1 : wr.cell? ⟨w.heap.size, 1, none⟩ = some (.slice na ln cn) := (hbw.cell (p := ⟨w.heap.size, 1, none⟩) (by simp)).trans (by simp)
        have x2 : wr.cell? ⟨w.heap.size, 2, none⟩ = some (.slice oa lo co) := (hbw.cell (p := ⟨w.heap.size, 2, none⟩) (by simp)).trans (by simp)
        have hz : w.heap.size + 1 ≤ wr.heap.size := by have := hbw.size; simp at this; omega
        have HBW := Lib.hid hbw
        by_cases hlt2 : j < lo
        · obtain ⟨C, P, rfl, hC, hcells⟩ := HO.out.resolve_left (by omega)
          obtain ⟨c0, c1, c2⟩ := hcells.below hC (((Below.refl _ _).alloc (Nat.le_refl _) _).trans (hbw.mono (by simp))) j hlt2
          have n1 : (0 : Int) ≤ (j : Int) := by omega
          have n2 : (j : Int) < (lo : Int) := by omega
          have a0 : ∀ o, (wr.alloc o).cell? ⟨w.heap.size, 0, none⟩ = some (.int .i64 f) := fun o => (World.cell?_alloc_lt _ _ _ (by show w.heap.size < _; omega)).trans x0
          have a1 : ∀ o, (wr.alloc o).cell? ⟨w.heap.size, 1, none⟩ = some (.slice na ln cn) := fun o => (World.cell?_alloc_lt _ _ _ (by show w.heap.size < _; omega)).trans x1
          have a2 : ∀ o, (wr.alloc o).cell? ⟨w.heap.size, 2, none⟩ = some (.slice (some ⟨C, P, none⟩) lo co) := fun o => (World.cell?_alloc_lt _ _ _ (by show w.heap.size < _; omega)).trans x2
          clear hcells hbw
          cases hb : outB ln (U j)
          · cases hv : fromB 0 ln (U j).n <;> cases hv2 : fromB 1 200 (U j).c <;> cases hv3 : fromB 0 3 (U j).k
            case true.true.true => simp [outB, hv, hv2, hv3] at hb
            all_goals
              go_wp2_with (first
                | (go_at_call 27; refine (node_w _ _ _ _ _ _ _ _ _).mono ?_; rintro e w1 ⟨rfl, hb1⟩; have hz1 := hb1.size; simp at hz1; have y1 : w1.cell? ⟨wr.heap.size, 1, none⟩ = some (.int .i64 (U j).c) := ((bcell hb1).1 _ _ (by simp)).trans (by simp); have y2 : w1.cell? ⟨wr.heap.size, 2, none⟩ = some (.int .i64 (U j).k) := ((bcell hb1).1 _ _ (by simp)).trans (by simp))
                | (go_at_call 68; refine (in_w _ _ _ _).mono ?_; rintro e w2 ⟨rfl, rfl⟩)
                | (go_at_call 70; refine (class_w _ _).mono ?_; rintro e w3 ⟨rfl, rfl⟩))
              go_ret
              exact ⟨⟨false, rfl, no_iff (fun h => by have := h.ok j hlt2; rw [hb] at this; cases this)⟩, ((Below.refl _ _).alloc (Nat.le_refl _) _).trans (((HBW.out.alloc hz _).trans (hb1.mono (by simp; omega))).mono (Nat.le_succ _))⟩
          · have hbb := hb
            simp only [outB, Bool.and_eq_true] at hbb
            obtain ⟨⟨hv, hv2⟩, hv3⟩ := hbb
            go_wp2_with (first
                | (go_at_call 27; refine (node_w _ _ _ _ _ _ _ _ _).mono ?_; rintro e w1 ⟨rfl, hb1⟩; have hz1 := hb1.size; simp at hz1; have y1 : w1.cell? ⟨wr.heap.size, 1, none⟩ = some (.int .i64 (U j).c) := ((bcell hb1).1 _ _ (by simp)).trans (by simp); have y2 : w1.cell? ⟨wr.heap.size, 2, none⟩ = some (.int .i64 (U j).k) := ((bcell hb1).1 _ _ (by simp)).trans (by simp))
                | (go_at_call 68; refine (in_w _ _ _ _).mono ?_; rintro e w2 ⟨rfl, rfl⟩)
                | (go_at_call 70; refine (class_w _ _).mono ?_; rintro e w3 ⟨rfl, rfl⟩))
            go_roundw
            case rel => exact ⟨j + 1, by omega, by go_num, (HBW.out.alloc hz _).trans (hb1.mono (by simp; omega)), fun i hi => by
              rcases Nat.lt_succ_iff_lt_or_eq.1 hi with h | h
              · exact HALL2.out i h
              · rw [h]; exact hb⟩
            case measure => simp [intOf]; omega
        · have HTOK : Hid (∀ i, i < lo → outB ln (U i) = true) := Lib.hid fun i hi => HALL2.out i (by omega)
          clear HALL2
          have fin : Below w.heap.size w wr := ((Below.refl _ _).alloc (Nat.le_refl _) _).trans (hbw.mono (Nat.le_succ _))
          have hjl : j = lo := by omega
          clear hbw
          cases hv : fromB 0 200 f
          · go_wp2_with (first | (go_at_call 68; refine (in_w _ _ _ _).mono ?_; rintro e w1 ⟨rfl, rfl⟩) | (go_at_call 69; refine (cups_w _ _).mono ?_; rintro e w1 ⟨rfl, rfl⟩))
            go_ret
            exact ⟨⟨false, rfl, no_iff (fun h => by have := h.ff; rw [hv] at this; cases this)⟩, fin⟩
          · by_cases hl6 : ln ≤ 6
            · cases hv2 : fromB 1 8 (lo : Int)
              all_goals
                go_wp2_with (first | (go_at_call 68; refine (in_w _ _ _ _).mono ?_; rintro e w1 ⟨rfl, rfl⟩) | (go_at_call 69; refine (cups_w _ _).mono ?_; rintro e w1 ⟨rfl, rfl⟩))
                go_ret
              · exact ⟨⟨false, rfl, no_iff (fun h => by have := h.lo1; have := h.lo2; simp only [fromB, decide_eq_false_iff_not] at hv2; omega)⟩, fin⟩
              · simp only [fromB, decide_eq_true_eq] at hv2
                exact ⟨⟨true, rfl, ⟨fun _ => ⟨hv, hl6, by omega, by omega, HSP.out, HTOK.out⟩, fun _ => rfl⟩⟩, fin⟩
            · go_wp2_with (first | (go_at_call 68; refine (in_w _ _ _ _).mono ?_; rintro e w1 ⟨rfl, rfl⟩) | (go_at_call 69; refine (cups_w _ _).mono ?_; rintro e w1 ⟨rfl, rfl⟩))
              go_ret
              exact ⟨.inl ⟨rfl, fun h => hl6 h.l6⟩, fin⟩
end Go.Kn
