/- Contracts of functions that the laws of this seat call, or the evaluator of closed calls and its runs. Conditions: as each theorem states them. -/
import Derived.Test.YtpfbfdcpibajoaaGreatDoorHB
set_option linter.unusedVariables false
set_option linter.unusedSimpArgs false
/- Contracts of functions that the laws of this seat call, or the evaluator of closed calls and its runs. Conditions: as each theorem states them. -/
set_option linter.unusedVariables false
set_option linter.unusedSimpArgs false
namespace Go.Kn
open Go Go.Proofs Go.RowKit



set_option maxRecDepth 100000 in
set_option maxHeartbeats 2000000 in
theorem list_w (f : Int) (na oa sa : Option Addr) (ln cn lo co ls cs : Nat) (N : Nat → N2) (U : Nat → O3) (s : Nat → Int) (w : World) (hlo : lo ≤ 1000000) (hls : ls ≤ maxLen) (H : Hid (Tr7 w na oa ln lo N U)) (HS : Hid (IntSl w sa ls s)) :
    Calls Tryz.prog 18 #[.agg #[.int .i64 f, .slice na ln cn, .slice oa lo co], .slice sa ls cs] w
      fun e w' => (∃ rb : Bool, e = .returned (.bool rb) ∧ (rb = true ↔ SharesP ls lo s U)) ∧ Below w.heap.size w w' := by
  unfold maxLen at hls
  by_cases hq : ls = lo
  case neg =>
    have hq1 : ((ls : Int) == (lo : Int)) = false := by simp; omega
    have hq2 : ¬ (ls : Int) = (lo : Int) := by omega
    go_enter Tryz.func18, Tryz.ntmps18
    go_wp2
    go_ret
    exact ⟨⟨false, rfl, no_iff (fun h => hq h.len)⟩, (Below.refl _ _).alloc (Nat.le_refl _) _⟩
  subst hq
  have hq1 : ((ls : Int) == (ls : Int)) = true := by simp
  have BX := Lib.hid (fun (w1 : World) (hb : Below (w.alloc (.cells #[.int .i64 f, .slice na ln cn, .slice oa ls co] 25)).heap.size (w.alloc (.cells #[.int .i64 f, .slice na ln cn, .slice oa ls co] 25)) w1) => box7 hb)
  go_enter Tryz.func18, Tryz.ntmps18
  go_wp2
  go_loopw [5] (fun ii wr => ∃ k : Nat, k ≤ ls ∧ ii = .int .i64 (k : Int) ∧ Below (w.alloc (.cells #[.int .i64 f, .slice na ln cn, .slice oa ls co] 25)).heap.size (w.alloc (.cells #[.int .i64 f, .slice na ln cn, .slice oa ls co] 25)) wr ∧ ∀ j, j < k → fromB 0 (U j).c (s j) = true) (fun ii _ => ls - (intOf ii).toNat)
  case atStart => exact ⟨0, Nat.zero_le _, rfl, Below.refl _ _, fun j hj => absurd hj (by omega)⟩
  case round =>
    obtain ⟨k, hk, rfl, hbw, hall⟩ := hrel
    obtain ⟨x1, x2, x3, x4⟩ := BX.out _ hbw
    have HA := Lib.hid hall
    have HB := Lib.hid hbw
    clear hall
    by_cases hlt : k < ls
    · obtain ⟨C, P, rfl, hC, hcells⟩ := (H.out.below (below_al hbw)).ho.resolve_left (by omega)
      obtain ⟨A, O, rfl, hA, hsc⟩ := (HS.out.below (below_al hbw)).resolve_left (by omega)
      obtain ⟨_, c1, _⟩ := hcells k hlt
      have c2 := hsc k hlt
      have n1 : (0 : Int) ≤ (k : Int) := by omega
      have n2 : (k : Int) < (ls : Int) := by omega
      clear hcells hsc hbw
      cases hv : fromB 0 (U k).c (s k)
      · go_wp2
        go_region_law ((first | (go_simp; go_at_call 68; refine (in_w _ _ _ _).mono ?_; rw [hv]; rintro e w1 ⟨rfl, rfl⟩)))
        all_goals
          go_wp2
          go_ret
          exact ⟨⟨false, rfl, no_iff (fun h => by have := h.sok k hlt; rw [hv] at this; cases this)⟩, below_drew (below_al HB.out)⟩
      · go_wp2
        go_region_law ((first | (go_simp; go_at_call 68; refine (in_w _ _ _ _).mono ?_; rw [hv]; rintro e w1 ⟨rfl, rfl⟩)))
        all_goals
          go_wp2
          go_roundw
          case rel => exact ⟨k + 1, by omega, by go_num, below_drew HB.out, fun j hj => by
            rcases Nat.lt_succ_iff_lt_or_eq.1 hj with h | h
            · exact HA.out j h
            · rw [h]; exact hv⟩
          case measure => simp [intOf]; omega
    · obtain rfl : k = ls := by omega
      go_wp2
      go_ret
      exact ⟨⟨true, rfl, ⟨fun _ => ⟨rfl, HA.out⟩, fun _ => rfl⟩⟩, below_al HB.out⟩
end Go.Kn

namespace Go.Kn
open Go Go.Proofs Go.RowKit

set_option maxRecDepth 100000 in
set_option maxHeartbeats 2000000 in
theorem areShares_w (f : Int) (na oa sa : Option Addr) (ln cn lo co ls cs : Nat) (N : Nat → N2) (U : Nat → O3) (s : Nat → Int) (w : World) (hlo : lo ≤ 1000000) (hls : ls ≤ maxLen) (H : Hid (Tr7 w na oa ln lo N U)) (HS : Hid (IntSl w sa ls s)) :
    Calls Tryz.prog 63 #[.agg #[.int .i64 f, .slice na ln cn, .slice oa lo co], .slice sa ls cs] w
      fun e w' => (∃ rb : Bool, e = .returned (.bool rb) ∧ (rb = true ↔ SharesP ls lo s U)) ∧ Below w.heap.size w w' := by
  unfold maxLen at hls
  by_cases hq : ls = lo
  case neg =>
    have hq1 : ((ls : Int) == (lo : Int)) = false := by simp; omega
    have hq2 : ¬ (ls : Int) = (lo : Int) := by omega
    go_enter Tryz.func63, Tryz.ntmps63
    go_wp2
    go_ret
    exact ⟨⟨false, rfl, no_iff (fun h => hq h.len)⟩, (Below.refl _ _).alloc (Nat.le_refl _) _⟩
  subst hq
  have hq1 : ((ls : Int) == (ls : Int)) = true := by simp
  have BX := Lib.hid (fun (w1 : World) (hb : Below (w.alloc (.cells #[.int .i64 f, .slice na ln cn, .slice oa ls co] 25)).heap.size (w.alloc (.cells #[.int .i64 f, .slice na ln cn, .slice oa ls co] 25)) w1) => box7 hb)
  go_enter Tryz.func63, Tryz.ntmps63
  go_wp2
  go_loopw [16] (fun ii wr => ∃ k : Nat, k ≤ ls ∧ ii = .int .i64 (k : Int) ∧ Below (w.alloc (.cells #[.int .i64 f, .slice na ln cn, .slice oa ls co] 25)).heap.size (w.alloc (.cells #[.int .i64 f, .slice na ln cn, .slice oa ls co] 25)) wr ∧ ∀ j, j < k → fromB 0 (U j).c (s j) = true) (fun ii _ => ls - (intOf ii).toNat)
  case atStart => exact ⟨0, Nat.zero_le _, rfl, Below.refl _ _, fun j hj => absurd hj (by omega)⟩
  case round =>
    obtain ⟨k, hk, rfl, hbw, hall⟩ := hrel
    have HA := Lib.hid hall
    have HB := Lib.hid hbw
    clear hall
    by_cases hlt : k < ls
    · obtain ⟨C, P, rfl, hC, hcells⟩ := (H.out.below (below_al hbw)).ho.resolve_left (by omega)
      obtain ⟨A, O, rfl, hA, hsc⟩ := (HS.out.below (below_al hbw)).resolve_left (by omega)
      obtain ⟨c0, c1, c3⟩ := hcells k hlt
      have c2 := hsc k hlt
      have n1 : (0 : Int) ≤ (k : Int) := by omega
      have n2 : (k : Int) < (ls : Int) := by omega
      have hAn : A ≠ wr.heap.size := by omega
      have hAm : wr.heap.size ≠ A := by omega
      clear hcells hsc hbw
      cases hv : fromB 0 (U k).c (s k)
      · go_wp2
        go_region_law ((first | (go_simp; go_at_call 91; refine (isFrom_w _ _ _ _).mono ?_; rw [hv]; rintro e w1 ⟨rfl, rfl⟩)))
        all_goals
          go_wp2
          go_ret
          exact ⟨⟨false, rfl, no_iff (fun h => by have := h.sok k hlt; rw [hv] at this; cases this)⟩, below_al (below_drew (HB.out.alloc HB.out.size _))⟩
      · go_wp2
        go_region_law ((first | (go_simp; go_at_call 91; refine (isFrom_w _ _ _ _).mono ?_; rw [hv]; rintro e w1 ⟨rfl, rfl⟩)))
        all_goals
          go_wp2
          go_roundw
          case rel => exact ⟨k + 1, by omega, by go_num, below_drew (HB.out.alloc HB.out.size _), fun j hj => by
            rcases Nat.lt_succ_iff_lt_or_eq.1 hj with h | h
            · exact HA.out j h
            · rw [h]; exact hv⟩
          case measure => simp [intOf]; omega
    · obtain rfl : k = ls := by omega
      go_wp2
      go_ret
      exact ⟨⟨true, rfl, ⟨fun _ => ⟨rfl, HA.out⟩, fun _ => rfl⟩⟩, below_al HB.out⟩

set_option maxRecDepth 100000 in
set_option maxHeartbeats 1000000 in
theorem check_w (f : Int) (na oa : Option Addr) (ln cn lo co : Nat) (N : Nat → N2) (U : Nat → O3) (w : World) (hls : ln ≤ 1000000) (hlt : lo ≤ 1000000) (H : Hid (Tr7 w na oa ln lo N U)) :
    Calls Tryz.prog 15 #[.agg #[.int .i64 f, .slice na ln cn, .slice oa lo co]] w fun e w' => ((TreeS f ln lo N U ∧ e = .returned (.int .i64 0)) ∨ (¬ TreeS f ln lo N U ∧ e = .returned (.int .i64 2))) ∧ Below w.heap.size w w' := by
  have hB0 : Below w.heap.size w (w.alloc (.cells #[.int .i64 f, .slice na ln cn, .slice oa lo co] 25)) := (Below.refl _ _).alloc (Nat.le_refl _) _
  by_cases hR : TreeS f ln lo N U
  · have HR := Lib.hid hR
    have HIT : Hid (Calls Tryz.prog 62 #[.agg #[.int .i64 f, .slice na ln cn, .slice oa lo co]] (w.alloc (.cells #[.int .i64 f, .slice na ln cn, .slice oa lo co] 25)) fun e w' => e = .returned (.bool true) ∧ Below w.heap.size w w') := Lib.hid ((isTree_w f na oa ln cn lo co N U _ hls hlt (Lib.hid (H.out.below hB0))).mono fun e w' ⟨⟨rb, he, hrb⟩, hb⟩ => ⟨by rw [he, hrb.2 HR.out], hB0.trans (hb.mono hB0.size)⟩)
    clear hB0 hR
    go_enter Tryz.func15, Tryz.ntmps15
    go_wp2_with (go_at_call 62; refine HIT.out.mono ?_; rintro e w1 ⟨rfl, hb1⟩)
    refine bodyPost_ret (v := .int .i64 0) (by simp [results, Tryz.results15, go_sem]) rfl ⟨.inl ⟨HR.out, rfl⟩, hb1⟩
  · have HR := Lib.hid hR
    have HIT : Hid (Calls Tryz.prog 62 #[.agg #[.int .i64 f, .slice na ln cn, .slice oa lo co]] (w.alloc (.cells #[.int .i64 f, .slice na ln cn, .slice oa lo co] 25)) fun e w' => e = .returned (.bool false) ∧ Below w.heap.size w w') := Lib.hid ((isTree_w f na oa ln cn lo co N U _ hls hlt (Lib.hid (H.out.below hB0))).mono fun e w' ⟨⟨rb, he, hrb⟩, hb⟩ => ⟨by cases rb with | true => exact (HR.out (hrb.1 rfl)).elim | false => exact he, hB0.trans (hb.mono hB0.size)⟩)
    clear hB0 hR
    go_enter Tryz.func15, Tryz.ntmps15
    go_wp2_with (go_at_call 62; refine HIT.out.mono ?_; rintro e w1 ⟨rfl, hb1⟩)
    refine bodyPost_ret (v := .int .i64 2) (by simp [results, Tryz.results15, go_sem]) rfl ⟨.inr ⟨HR.out, rfl⟩, hb1⟩




set_option maxRecDepth 100000 in
set_option maxHeartbeats 1000000 in
theorem capacity_w (f : Int) (na oa : Option Addr) (ln cn lo co n : Nat) (N : Nat → N2) (U : Nat → O3) (w : World) (hn : n ≤ ln) (hls : ln ≤ 1000000) (H : Hid (Tr7 w na oa ln lo N U)) :
    Calls Tryz.prog 117 #[.agg #[.int .i64 f, .slice na ln cn, .slice oa lo co], .int .i64 (n : Int)] w fun e w' => e = .returned (.int .i64 (capN f N n)) ∧ Below w.heap.size w w' := by
  cases n with
  | zero =>
    go_enter Tryz.func117, Tryz.ntmps117
    go_wp2
    go_ret
    exact ⟨rfl, (Below.refl _ _).alloc (Nat.le_refl _) _⟩
  | succ k =>
    have hb0 : Below w.heap.size w (w.alloc (.cells #[.int .i64 f, .slice na ln cn, .slice oa lo co] 25)) := (Below.refl _ _).alloc (Nat.le_refl _) _
    obtain ⟨A, O, rfl, hA, hcells⟩ := (H.out.below hb0).hn.resolve_left (by omega)
    obtain ⟨_, c1⟩ := hcells k (by omega)
    have n1 : (0 : Int) ≤ (k : Int) := by omega
    have n2 : (k : Int) < (ln : Int) := by omega
    have n0 : ¬ (k : Int) + 1 = 0 := by omega
    have n00 : ((k : Int) + 1 == 0) = false := by simp; omega
    have hw : wrap64 ((k : Int) + 1 - 1) = (k : Int) := by unfold wrap64; omega
    have hw2 : (k : Int) + 1 - 1 = (k : Int) := by omega
    clear hcells hb0
    go_enter Tryz.func117, Tryz.ntmps117
    go_wp2
    go_ret
    exact ⟨rfl, (Below.refl _ _).alloc (Nat.le_refl _) _⟩

set_option maxRecDepth 100000 in
set_option maxHeartbeats 1000000 in
theorem rcap_w (f : Int) (na oa : Option Addr) (ln cn lo co n : Nat) (N : Nat → N2) (U : Nat → O3) (w : World) (hn : n ≤ ln) (hls : ln ≤ 1000000) (H : Hid (Tr7 w na oa ln lo N U)) :
    Calls Tryz.prog 28 #[.agg #[.int .i64 f, .slice na ln cn, .slice oa lo co], .int .i64 (n : Int)] w fun e w' => e = .returned (.int .i64 (capN f N n)) ∧ Below w.heap.size w w' := by
  cases n with
  | zero =>
    go_enter Tryz.func28, Tryz.ntmps28
    go_wp2
    go_ret
    exact ⟨rfl, (Below.refl _ _).alloc (Nat.le_refl _) _⟩
  | succ k =>
    have hb0 : Below w.heap.size w (w.alloc (.cells #[.int .i64 f, .slice na ln cn, .slice oa lo co] 25)) := (Below.refl _ _).alloc (Nat.le_refl _) _
    obtain ⟨A, O, rfl, hA, hcells⟩ := (H.out.below hb0).hn.resolve_left (by omega)
    obtain ⟨_, c1⟩ := hcells k (by omega)
    have n1 : (0 : Int) ≤ (k : Int) := by omega
    have n2 : (k : Int) < (ln : Int) := by omega
    have n0 : ¬ (k : Int) + 1 = 0 := by omega
    have n00 : ((k : Int) + 1 == 0) = false := by simp; omega
    have hw : wrap64 ((k : Int) + 1 - 1) = (k : Int) := by unfold wrap64; omega
    have hw2 : (k : Int) + 1 - 1 = (k : Int) := by omega
    clear hcells hb0
    go_enter Tryz.func28, Tryz.ntmps28
    go_wp2
    go_ret
    exact ⟨rfl, (Below.refl _ _).alloc (Nat.le_refl _) _⟩

set_option maxRecDepth 100000 in
set_option maxHeartbeats 1000000 in
theorem rparent_w (f : Int) (na oa : Option Addr) (ln cn lo co n : Nat) (N : Nat → N2) (U : Nat → O3) (w : World) (hn : n ≤ ln) (hls : ln ≤ 1000000) (H : Hid (Tr7 w na oa ln lo N U)) :
    Calls Tryz.prog 78 #[.agg #[.int .i64 f, .slice na ln cn, .slice oa lo co], .int .i64 (n : Int)] w fun e w' => e = .returned (.int .i64 (parN N n)) ∧ Below w.heap.size w w' := by
  cases n with
  | zero =>
    go_enter Tryz.func78, Tryz.ntmps78
    go_wp2
    go_ret
    exact ⟨rfl, (Below.refl _ _).alloc (Nat.le_refl _) _⟩
  | succ k =>
    have hb0 : Below w.heap.size w (w.alloc (.cells #[.int .i64 f, .slice na ln cn, .slice oa lo co] 25)) := (Below.refl _ _).alloc (Nat.le_refl _) _
    obtain ⟨A, O, rfl, hA, hcells⟩ := (H.out.below hb0).hn.resolve_left (by omega)
    obtain ⟨c0, _⟩ := hcells k (by omega)
    have n1 : (0 : Int) ≤ (k : Int) := by omega
    have n2 : (k : Int) < (ln : Int) := by omega
    have n0 : ¬ (k : Int) + 1 = 0 := by omega
    have n00 : ((k : Int) + 1 == 0) = false := by simp; omega
    have hw : wrap64 ((k : Int) + 1 - 1) = (k : Int) := by unfold wrap64; omega
    have hw2 : (k : Int) + 1 - 1 = (k : Int) := by omega
    clear hcells hb0
    go_enter Tryz.func78, Tryz.ntmps78
    go_wp2
    go_ret
    exact ⟨rfl, (Below.refl _ _).alloc (Nat.le_refl _) _⟩
end Go.Kn

namespace Go.Kn
open Go Go.Proofs Go.RowKit









set_option maxRecDepth 100000 in
set_option maxHeartbeats 2000000 in
theorem below_w (f : Int) (na oa : Option Addr) (ln cn lo co i m : Nat) (N : Nat → N2) (U : Nat → O3) (w : World) (hi : i < lo) (HR : Hid (TreeP f ln lo N U)) (H : Hid (Tr7 w na oa ln lo N U)) :
    Calls Tryz.prog 29 #[.agg #[.int .i64 f, .slice na ln cn, .slice oa lo co], .int .i64 (i : Int), .int .i64 (m : Int)] w fun e w' => e = .returned (.bool (decide (m ∈ path N (U i).n.toNat))) ∧ Below w.heap.size w w' := by
  have q1 := HR.out.l6
  have q2 := HR.out.lo2
  have hu := (tree_o HR.out hi).1
  have BX := Lib.hid (fun (w1 : World) (hb : Below (w.alloc (.cells #[.int .i64 f, .slice na ln cn, .slice oa lo co] 25)).heap.size (w.alloc (.cells #[.int .i64 f, .slice na ln cn, .slice oa lo co] 25)) w1) => box7 hb)
  have hb0 : Below w.heap.size w (w.alloc (.cells #[.int .i64 f, .slice na ln cn, .slice oa lo co] 25)) := (Below.refl _ _).alloc (Nat.le_refl _) _
  obtain ⟨C, P, rfl, hC, hcells⟩ := (H.out.below hb0).ho.resolve_left (by omega)
  obtain ⟨c0, _, _⟩ := hcells i hi
  obtain ⟨u, hu0⟩ : ∃ u : Nat, (U i).n.toNat = u := ⟨_, rfl⟩
  have hu1 : (U i).n = (u : Int) := by omega
  have hu2 : u ≤ ln := by omega
  rw [hu1] at c0
  rw [hu0]
  have n1 : (0 : Int) ≤ (i : Int) := by omega
  have n2 : (i : Int) < (lo : Int) := by omega
  clear hcells hb0 hu hu0 hu1
  go_enter Tryz.func29, Tryz.ntmps29
  go_wp2
  clear c0
  go_loopw [7] (fun ii wr => Below (w.alloc (.cells #[.int .i64 f, .slice na ln cn, .slice (some ⟨C, P, none⟩) lo co] 25)).heap.size (w.alloc (.cells #[.int .i64 f, .slice na ln cn, .slice (some ⟨C, P, none⟩) lo co] 25)) wr ∧ ((ii = .int .i64 (-1) ∧ m ∉ path N u) ∨ ∃ n : Nat, ii = .int .i64 (n : Int) ∧ n ≤ ln ∧ (m ∈ path N u ↔ m ∈ path N n))) (fun ii _ => (intOf ii + 1).toNat)
  case atStart => exact ⟨Below.refl _ _, .inr ⟨u, rfl, hu2, Iff.rfl⟩⟩
  case round =>
    obtain ⟨hbw, ⟨rfl, hno⟩ | ⟨n, rfl, hn, hiff⟩⟩ := hrel
    · have HNO := Lib.hid hno
      clear hno
      go_wp2
      go_ret
      exact ⟨by rw [decide_eq_false HNO.out]; rfl, below_al hbw⟩
    · obtain ⟨x1, x2, x3, x4⟩ := BX.out _ hbw
      have HB := Lib.hid hbw
      have HI := Lib.hid hiff
      have HTR := Lib.hid (H.out.below (below_al hbw))
      have n3 : (0 : Int) ≤ (n : Int) := by omega
      clear hbw hiff
      by_cases he : n = m
      · have e1 : ((n : Int) == (m : Int)) = true := by simp; omega
        have e2 : (n : Int) = (m : Int) := by omega
        go_wp2
        go_ret
        refine ⟨?_, below_al HB.out⟩
        have : m ∈ path N u := HI.out.2 (by rw [he]; cases m with
          | zero => simp [path_zero]
          | succ k => rw [path_succ HR.out (by omega)]; simp)
        rw [decide_eq_true this]; rfl
      · have e1 : ((n : Int) == (m : Int)) = false := by simp; omega
        have e2 : ¬ (n : Int) = (m : Int) := by omega
        have HP := Lib.hid (rparent_w f na (some ⟨C, P, none⟩) ln cn lo co n N U wr hn (by omega) HTR)
        cases n with
        | zero =>
          have hp0 : parN N 0 = -1 := rfl
          rw [hp0] at HP
          go_wp2_with (go_at_call 78; refine HP.out.mono ?_; rintro e w2 ⟨rfl, hb2⟩)
          go_roundw
          case rel => exact ⟨HB.out.trans (hb2.mono HB.out.size), .inl ⟨rfl, fun h => by have h2 := HI.out.1 h; simp [path_zero] at h2; omega⟩⟩
          case measure => simp [intOf]
        | succ k =>
          obtain ⟨p, hp⟩ : ∃ p : Nat, (N k).p.toNat = p := ⟨_, rfl⟩
          have hpk := (tree_n HR.out (show k < ln by omega)).1
          have hp1 : parN N (k + 1) = (p : Int) := by show (N k).p = _; omega
          have hp2 : p ≤ k := by omega
          rw [hp1] at HP
          have HPP := Lib.hid hp
          clear hpk hp hp1
          go_wp2_with (go_at_call 78; refine HP.out.mono ?_; rintro e w2 ⟨rfl, hb2⟩)
          go_roundw
          case rel => exact ⟨HB.out.trans (hb2.mono HB.out.size), .inr ⟨p, rfl, by omega, by
            rw [HI.out, path_succ HR.out (show k < ln by omega), HPP.out]
            simp
            omega⟩⟩
          case measure => simp [intOf]; omega
end Go.Kn

namespace Go.Kn
open Go Go.Proofs Go.RowKit







set_option maxRecDepth 100000 in
set_option maxHeartbeats 2000000 in
theorem sum_w (f : Int) (na oa sa : Option Addr) (ln cn lo co cs m : Nat) (N : Nat → N2) (U : Nat → O3) (s : Nat → Int) (w : World) (HR : Hid (TreeP f ln lo N U)) (HSP : Hid (SharesP lo lo s U)) (H : Hid (Tr7 w na oa ln lo N U)) (HS : Hid (IntSl w sa lo s)) :
    Calls Tryz.prog 71 #[.agg #[.int .i64 f, .slice na ln cn, .slice oa lo co], .slice sa lo cs, .int .i64 (m : Int)] w
      fun e w' => e = .returned (.int .i64 (sumB N U s m lo)) ∧ Below w.heap.size w w' := by
  have q1 := HR.out.l6
  have q2 := HR.out.lo2
  have BX := Lib.hid (fun (w1 : World) (hb : Below (w.alloc (.cells #[.int .i64 f, .slice na ln cn, .slice oa lo co] 25)).heap.size (w.alloc (.cells #[.int .i64 f, .slice na ln cn, .slice oa lo co] 25)) w1) => box7 hb)
  go_enter Tryz.func71, Tryz.ntmps71
  go_wp2
  go_loopw [7, 8] (fun nv ii wr => ∃ k : Nat, k ≤ lo ∧ ii = .int .i64 (k : Int) ∧ nv = .int .i64 (sumB N U s m k) ∧ Below (w.alloc (.cells #[.int .i64 f, .slice na ln cn, .slice oa lo co] 25)).heap.size (w.alloc (.cells #[.int .i64 f, .slice na ln cn, .slice oa lo co] 25)) wr) (fun _ ii _ => lo - (intOf ii).toNat)
  case atStart => exact ⟨0, Nat.zero_le _, rfl, rfl, Below.refl _ _⟩
  case round =>
    obtain ⟨k, hk, rfl, rfl, hbw⟩ := hrel
    obtain ⟨x1, x2, x3, x4⟩ := BX.out _ hbw
    have HB := Lib.hid hbw
    by_cases hlt : k < lo
    · obtain ⟨A, O, rfl, hA, hsc⟩ := (HS.out.below (below_al hbw)).resolve_left (by omega)
      have c2 := hsc k hlt
      have n1 : (0 : Int) ≤ (k : Int) := by omega
      have n2 : (k : Int) < (lo : Int) := by omega
      have hbl := Lib.hid (below_w f na oa ln cn lo co k m N U wr hlt HR (Lib.hid (H.out.below (below_al hbw))))
      have hsb := sumB_le (N := N) (U := U) (s := s) (m := m) k (fun i hi => ⟨(shares_bd HR.out HSP.out (show i < lo by omega)).1, (shares_bd HR.out HSP.out (show i < lo by omega)).2.2⟩)
      have hsk := shares_bd HR.out HSP.out hlt
      have hsn : sumB N U s m (k + 1) = sumB N U s m k + (if m ∈ path N (U k).n.toNat then s k else 0) := rfl
      obtain ⟨S, hS⟩ : ∃ S, sumB N U s m k = S := ⟨_, rfl⟩
      rw [hS] at hsn hsb ⊢
      have HSN := Lib.hid hsn
      have hw : wrap64 (S + s k) = S + s k := by unfold wrap64; omega
      clear hsc hbw hsn hS
      by_cases hin : m ∈ path N (U k).n.toNat
      · have hd : decide (m ∈ path N (U k).n.toNat) = true := decide_eq_true hin
        rw [hd] at hbl
        have HIN := Lib.hid hin
        clear hd hin
        have hbz : Hid (∀ w2, Below wr.heap.size wr w2 → w2.cell? ⟨A, O + k, none⟩ = some (.int .i64 (s k))) := Lib.hid fun w2 h => ((bcell h).1 _ _ hA).trans c2
        go_wp2_with (go_at_call 29; refine hbl.out.mono ?_; rintro e w2 ⟨rfl, hb2⟩; have c3 := hbz.out _ hb2)
        go_roundw
        case rel => exact ⟨k + 1, by omega, by go_num, by rw [HSN.out, if_pos HIN.out], HB.out.trans (hb2.mono HB.out.size)⟩
        case measure => simp [intOf]; omega
      · have hd : decide (m ∈ path N (U k).n.toNat) = false := decide_eq_false hin
        rw [hd] at hbl
        have HIN := Lib.hid hin
        clear hd hin
        go_wp2_with (go_at_call 29; refine hbl.out.mono ?_; rintro e w2 ⟨rfl, hb2⟩)
        go_roundw
        case rel => exact ⟨k + 1, by omega, by go_num, by rw [HSN.out, if_neg HIN.out, Int.add_zero], HB.out.trans (hb2.mono HB.out.size)⟩
        case measure => simp [intOf]; omega
    · obtain rfl : k = lo := by omega
      go_wp2
      go_ret
      exact ⟨rfl, below_al HB.out⟩



set_option maxRecDepth 100000 in
set_option maxHeartbeats 2000000 in
theorem rfits_w (f : Int) (na oa sa : Option Addr) (ln cn lo co cs : Nat) (N : Nat → N2) (U : Nat → O3) (s : Nat → Int) (w : World) (HR : Hid (TreeP f ln lo N U)) (HSP : Hid (SharesP lo lo s U)) (H : Hid (Tr7 w na oa ln lo N U)) (HS : Hid (IntSl w sa lo s)) :
    Calls Tryz.prog 19 #[.agg #[.int .i64 f, .slice na ln cn, .slice oa lo co], .slice sa lo cs] w
      fun e w' => (∃ rb : Bool, e = .returned (.bool rb) ∧ (rb = true ↔ FitP f ln lo N U s)) ∧ Below w.heap.size w w' := by
  have q1 := HR.out.l6
  have q2 := HR.out.lo2
  have BX := Lib.hid (fun (w1 : World) (hb : Below (w.alloc (.cells #[.int .i64 f, .slice na ln cn, .slice oa lo co] 25)).heap.size (w.alloc (.cells #[.int .i64 f, .slice na ln cn, .slice oa lo co] 25)) w1) => box7 hb)
  go_enter Tryz.func19, Tryz.ntmps19
  go_wp2
  go_loopw [5] (fun ii wr => ∃ k : Nat, k ≤ ln + 1 ∧ ii = .int .i64 (k : Int) ∧ Below (w.alloc (.cells #[.int .i64 f, .slice na ln cn, .slice oa lo co] 25)).heap.size (w.alloc (.cells #[.int .i64 f, .slice na ln cn, .slice oa lo co] 25)) wr ∧ ∀ m, m < k → sumB N U s m lo ≤ capN f N m) (fun ii _ => ln + 1 - (intOf ii).toNat)
  case atStart => exact ⟨0, Nat.zero_le _, rfl, Below.refl _ _, fun j hj => absurd hj (by omega)⟩
  case round =>
    obtain ⟨k, hk, rfl, hbw, hall⟩ := hrel
    obtain ⟨x1, x2, x3, x4⟩ := BX.out _ hbw
    have HB := Lib.hid hbw
    have HA := Lib.hid hall
    clear hall
    by_cases hlt : k ≤ ln
    · have n1 : (k : Int) ≤ (ln : Int) := by omega
      have HW : Hid (∀ w2, Below wr.heap.size wr w2 → Below w.heap.size w w2) := Lib.hid fun w2 h => (below_al hbw).trans (h.mono (below_al hbw).size)
      have HC1 : Hid (∀ w2, Below wr.heap.size wr w2 → Calls Tryz.prog 71 #[.agg #[.int .i64 f, .slice na ln cn, .slice oa lo co], .slice sa lo cs, .int .i64 (k : Int)] w2 fun e w' => e = .returned (.int .i64 (sumB N U s k lo)) ∧ Below w2.heap.size w2 w') := Lib.hid fun w2 h => sum_w f na oa sa ln cn lo co cs k N U s w2 HR HSP (Lib.hid (H.out.below (HW.out _ h))) (Lib.hid (HS.out.below (HW.out _ h)))
      have HC2 : Hid (∀ w2, Below wr.heap.size wr w2 → Calls Tryz.prog 28 #[.agg #[.int .i64 f, .slice na ln cn, .slice oa lo co], .int .i64 (k : Int)] w2 fun e w' => e = .returned (.int .i64 (capN f N k)) ∧ Below w2.heap.size w2 w') := Lib.hid fun w2 h => rcap_w f na oa ln cn lo co k N U w2 hlt (by omega) (Lib.hid (H.out.below (HW.out _ h)))
      have HX : Hid (∀ w2, Below wr.heap.size wr w2 → w2.cell? ⟨w.heap.size, 0, none⟩ = some (.int .i64 f) ∧ w2.cell? ⟨w.heap.size, 1, none⟩ = some (.slice na ln cn) ∧ w2.cell? ⟨w.heap.size, 2, none⟩ = some (.slice oa lo co)) := Lib.hid fun w2 h => by
        obtain ⟨c, _⟩ := bcell h
        exact ⟨(c _ _ x4).trans x1, (c _ _ x4).trans x2, (c _ _ x4).trans x3⟩
      obtain ⟨S, hS⟩ : ∃ S, sumB N U s k lo = S := ⟨_, rfl⟩
      obtain ⟨Cp, hCp⟩ : ∃ C, capN f N k = C := ⟨_, rfl⟩
      rw [hS] at HC1
      rw [hCp] at HC2
      have HSC := Lib.hid (And.intro hS hCp)
      clear hS hCp hbw
      by_cases hgt : Cp < S
      · have hg : decide (Cp < S) = true := decide_eq_true hgt
        go_wp2
        refine wp_region_calm (W := wr) (by kernel_rfl) (by kernel_rfl) (Below.refl _ _) ?_
        repeat (first
          | (refine calm_no (by rfl) ?_
             (try simp only [Act.put, List.setIfInBounds_toArray, List.set_cons_zero, List.set_cons_succ]))
          | (apply calm_yes
             focus rfl
             focus
               intro w' hw'
               obtain ⟨z1, z2, z3⟩ := HX.out w' hw'
               go_simp
               first
                 | done
                 | with_reducible rfl
                 | (go_at_call 71; refine (HC1.out w' hw').mono ?_; rintro e w8 ⟨rfl, hb8⟩; exact ⟨rfl, hw'.trans (hb8.mono hw'.size)⟩)
                 | (go_at_call 28; refine (HC2.out w' hw').mono ?_; rintro e w8 ⟨rfl, hb8⟩; exact ⟨rfl, hw'.trans (hb8.mono hw'.size)⟩)
                 | fail
             (try simp only [Act.put, List.setIfInBounds_toArray, List.set_cons_zero, List.set_cons_succ])))
        refine calm_nil ?_
        intro w20 hb20
        have HB20 := Lib.hid hb20
        clear hb20
        go_wp2
        go_ret
        refine ⟨⟨false, rfl, no_iff (fun h => ?_)⟩, HW.out _ HB20.out⟩
        have h1 := h k hlt
        rw [HSC.out.1, HSC.out.2] at h1
        omega
      · have hg : decide (Cp < S) = false := decide_eq_false hgt
        go_wp2
        refine wp_region_calm (W := wr) (by kernel_rfl) (by kernel_rfl) (Below.refl _ _) ?_
        repeat (first
          | (refine calm_no (by rfl) ?_
             (try simp only [Act.put, List.setIfInBounds_toArray, List.set_cons_zero, List.set_cons_succ]))
          | (apply calm_yes
             focus rfl
             focus
               intro w' hw'
               obtain ⟨z1, z2, z3⟩ := HX.out w' hw'
               go_simp
               first
                 | done
                 | with_reducible rfl
                 | (go_at_call 71; refine (HC1.out w' hw').mono ?_; rintro e w8 ⟨rfl, hb8⟩; exact ⟨rfl, hw'.trans (hb8.mono hw'.size)⟩)
                 | (go_at_call 28; refine (HC2.out w' hw').mono ?_; rintro e w8 ⟨rfl, hb8⟩; exact ⟨rfl, hw'.trans (hb8.mono hw'.size)⟩)
                 | fail
             (try simp only [Act.put, List.setIfInBounds_toArray, List.set_cons_zero, List.set_cons_succ])))
        refine calm_nil ?_
        intro w20 hb20
        have HB20 := Lib.hid (HB.out.trans (hb20.mono HB.out.size))
        clear hb20
        go_wp2
        go_roundw
        case rel => exact ⟨k + 1, by omega, by go_num, HB20.out, fun j hj => by
          rcases Nat.lt_succ_iff_lt_or_eq.1 hj with h | h
          · exact HA.out j h
          · rw [h, HSC.out.1, HSC.out.2]; omega⟩
        case measure => simp [intOf]; omega
    · obtain rfl : k = ln + 1 := by omega
      have n1 : ¬ (((ln + 1 : Nat) : Int) ≤ (ln : Int)) := by omega
      have n2 : ¬ ((ln : Int) + 1 ≤ (ln : Int)) := by omega
      go_wp2
      go_ret
      exact ⟨.inr ⟨rfl, fun m hm => HA.out m (by omega)⟩, below_al HB.out⟩
end Go.Kn
