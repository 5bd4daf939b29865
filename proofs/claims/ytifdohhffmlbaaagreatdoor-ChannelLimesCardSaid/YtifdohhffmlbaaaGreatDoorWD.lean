/- Walks of the functions of layer 2 that ChannelTrue calls, and the law itself (a part of it). Conditions: as each theorem states them. -/
import Derived.Test.YtifdohhffmlbaaaGreatDoorWC
import Derived.Deep.RegionWith
set_option linter.unusedVariables false
set_option linter.unusedSimpArgs false
namespace Go.Kn
open Go Go.Proofs Go.RowKit

/-- a slice of numbers, nil, empty or not -/
def NumSl (w : World) (sa : Option Addr) (ls : Nat) (s : Nat → Int) : Prop := ls = 0 ∨ ∃ A O, sa = some ⟨A, O, none⟩ ∧ A < w.heap.size ∧ NumAt w A O ls s
def StSl (w : World) (ta : Option Addr) (lt : Nat) (t : Nat → St5) : Prop := lt = 0 ∨ ∃ C P, ta = some ⟨C, P, none⟩ ∧ C < w.heap.size ∧ StAt w C P lt t
structure RightP (ls lt : Nat) (s : Nat → Int) (t : Nat → St5) : Prop where
  ls1 : 1 ≤ ls
  ls2 : ls ≤ 10
  lt1 : 1 ≤ lt
  lt2 : lt ≤ 8
  sok : ∀ k, k < ls → fromB 1 1000 (s k) = true
  tok : StOk ls lt t

theorem no_iff {p : Prop} (h : p → False) : (false = true ↔ p) := ⟨fun e => Bool.noConfusion e, fun x => (h x).elim⟩

set_option maxRecDepth 100000 in
set_option maxHeartbeats 4000000 in
theorem right_w (sa ta : Option Addr) (ls cs lt ct : Nat) (s : Nat → Int) (t : Nat → St5) (w : World) (hls : ls ≤ 1000000) (hlt : lt ≤ 1000000)
    (HS : Hid (NumSl w sa ls s)) (HT : Hid (StSl w ta lt t)) :
    Calls Tryz.prog 19 #[.agg #[.slice sa ls cs, .slice ta lt ct]] w
      fun e w' => (∃ rb : Bool, e = .returned (.bool rb) ∧ (rb = true ↔ RightP ls lt s t)) ∧ Below w.heap.size w w' := by
  go_enter Tryz.func19, Tryz.ntmps19
  go_wp2
  go_loop [3] (fun i => ∃ k : Nat, k ≤ ls ∧ i = .int .i64 k ∧ ∀ j, j < k → fromB 1 1000 (s j) = true) (fun i => ls - (intOf i).toNat)
  case atStart => exact ⟨0, Nat.zero_le _, rfl, fun j hj => absurd hj (by omega)⟩
  case round =>
    obtain ⟨k, hk, rfl, hall⟩ := hrel
    have HALL := Lib.hid hall
    clear hall
    by_cases hlt1 : k < ls
    · obtain ⟨A, O, rfl, hA, hcells⟩ := HS.out.resolve_left (by omega)
      have hcell : (w.alloc (.cells #[.slice (some ⟨A, O, none⟩) ls cs, .slice ta lt ct] 25)).cell? ⟨A, O + k, none⟩ = some (.int .i64 (s k)) := (World.cell?_alloc_lt w _ _ hA).trans (hcells k hlt1)
      clear hcells
      cases hv : fromB 1 1000 (s k)
      · go_wp2_with (go_at_call 65; refine (in_w _ _ _ _).mono ?_; rintro e w1 ⟨rfl, rfl⟩)
        go_ret
        exact ⟨⟨false, rfl, no_iff (fun h => by rw [h.sok k hlt1] at hv; exact Bool.noConfusion hv)⟩, (Below.refl _ _).alloc (Nat.le_refl _) _⟩
      · go_wp2_with (go_at_call 65; refine (in_w _ _ _ _).mono ?_; rintro e w1 ⟨rfl, rfl⟩)
        go_round
        case rel => exact ⟨k + 1, by omega, by go_num, fun j hj => by
          rcases Nat.lt_succ_iff_lt_or_eq.1 hj with h | h
          · exact HALL.out j h
          · rw [h]; exact hv⟩
        case measure => simp [intOf]; omega
    · have HSP : Hid (∀ k, k < ls → fromB 1 1000 (s k) = true) := Lib.hid fun j hj => HALL.out j (by omega)
      go_wp2
      go_loopw [4] (fun i wr => ∃ k : Nat, k ≤ lt ∧ i = .int .i64 k ∧ Below (w.heap.size + 1) (w.alloc (.cells #[.slice sa ls cs, .slice ta lt ct] 25)) wr ∧ (∀ j, j < k → stB (t j).b (t j).d (t j).f (t j).lo (t j).hi ls = true)) (fun i _ => lt - (intOf i).toNat)
      case atStart => exact ⟨0, Nat.zero_le _, rfl, Below.refl _ _, fun j hj => absurd hj (by omega)⟩
      case round =>
        obtain ⟨j, hj, rfl, hbw, hall⟩ := hrel
        have HALL2 := Lib.hid hall
        clear hall
        have x0 : wr.cell? ⟨w.heap.size, 0, none⟩ = some (.slice sa ls cs) := (hbw.cell (p := ⟨w.heap.size, 0, none⟩) (by simp)).trans (by simp)
        have x1 : wr.cell? ⟨w.heap.size, 1, none⟩ = some (.slice ta lt ct) := (hbw.cell (p := ⟨w.heap.size, 1, none⟩) (by simp)).trans (by simp)
        have hz : w.heap.size + 1 ≤ wr.heap.size := by have := hbw.size; simp at this; omega
        have HBW := Lib.hid hbw
        by_cases hlt2 : j < lt
        · obtain ⟨C, P, rfl, hC, hcells⟩ := HT.out.resolve_left (by omega)
          obtain ⟨c0, c1, c2, c3, c4⟩ := hcells.below hC (((Below.refl _ _).alloc (Nat.le_refl _) _).trans (hbw.mono (by simp))) j hlt2
          clear hcells hbw
          cases hv : stB (t j).b (t j).d (t j).f (t j).lo (t j).hi ls
          · go_wp2
            go_region_with (go_at_call 66; refine (stretch_w _ _ _ _ _ _ _ ⟨by omega, by omega⟩).mono ?_; rintro e w1 ⟨rfl, hb1⟩)
            all_goals
              go_wp2
              go_ret
              have hB : Below (w.heap.size + 1) (w.alloc (.cells #[.slice sa ls cs, .slice (some ⟨C, P, none⟩) lt ct] 25)) w1 := by
                first
                  | exact HBW.out.trans (hb1.mono hz)
                  | exact (below_drew HBW.out).trans (hb1.mono hz)
              exact ⟨⟨false, rfl, no_iff (fun h => by rw [h.tok j hlt2] at hv; exact Bool.noConfusion hv)⟩, ((Below.refl _ _).alloc (Nat.le_refl _) _).trans (hB.mono (Nat.le_succ _))⟩
          · go_wp2
            go_region_with (go_at_call 66; refine (stretch_w _ _ _ _ _ _ _ ⟨by omega, by omega⟩).mono ?_; rintro e w1 ⟨rfl, hb1⟩)
            all_goals
              go_wp2
              go_roundw
              case rel =>
                have hB : Below (w.heap.size + 1) (w.alloc (.cells #[.slice sa ls cs, .slice (some ⟨C, P, none⟩) lt ct] 25)) w1 := by
                  first
                    | exact HBW.out.trans (hb1.mono hz)
                    | exact (below_drew HBW.out).trans (hb1.mono hz)
                exact ⟨j + 1, by omega, by go_num, hB, fun i hi => by
                  rcases Nat.lt_succ_iff_lt_or_eq.1 hi with h | h
                  · exact HALL2.out i h
                  · rw [h]; exact hv⟩
              case measure => simp [intOf]; omega
        · have HTOK : Hid (StOk ls lt t) := Lib.hid fun i hi => HALL2.out i (by omega)
          clear HALL2
          have fin : Below w.heap.size w wr := ((Below.refl _ _).alloc (Nat.le_refl _) _).trans (hbw.mono (Nat.le_succ _))
          cases hv : fromB 1 10 (ls : Int)
          · go_wp2_with (go_at_call 65; refine (in_w _ _ _ _).mono ?_; rintro e w1 ⟨rfl, rfl⟩)
            go_ret
            exact ⟨⟨false, rfl, no_iff (fun h => by have := h.ls1; have := h.ls2; simp only [fromB, decide_eq_false_iff_not] at hv; omega)⟩, fin⟩
          · go_wp2_with (go_at_call 65; refine (in_w _ _ _ _).mono ?_; rintro e w1 ⟨rfl, rfl⟩)
            go_ret
            refine ⟨⟨fromB 1 8 (lt : Int), rfl, (fun h => ?_), (fun h => by have := h.lt1; have := h.lt2; simp only [fromB, decide_eq_true_eq]; omega)⟩, fin⟩
            simp only [fromB, decide_eq_true_eq] at h hv
            exact ⟨by omega, by omega, by omega, by omega, HSP.out, HTOK.out⟩
end Go.Kn
