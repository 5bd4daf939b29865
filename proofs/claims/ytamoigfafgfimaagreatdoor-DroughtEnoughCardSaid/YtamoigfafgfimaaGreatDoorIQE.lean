/- Contracts of functions that the laws of this seat call, or the evaluator of closed calls and its runs. Conditions: as each theorem states them. -/
import Derived.Test.YtamoigfafgfimaaGreatDoorIO
set_option linter.unusedVariables false
set_option linter.unusedSimpArgs false
namespace Go.Kn
open Go Go.Proofs Go.RowKit

theorem needR3 {P : Nat → Prop} (hm : ∀ a b : Nat, a ≤ b → b ≤ 200 → P a → P b) {rn re : Int} {G : Nat} (hG : G ≤ 200) (h : NeedR P rn re) :
    (re = 0 ∧ ∃ n : Nat, rn = (n : Int) ∧ n ≤ 200 ∧ P n ∧ (n : Int) ≤ (G : Int) ∧ P G) ∨ (re = 0 ∧ ∃ n : Nat, rn = (n : Int) ∧ n ≤ 200 ∧ P n ∧ ¬ (n : Int) ≤ (G : Int) ∧ ¬ P G) ∨ (re = 5 ∧ rn = 0 ∧ ¬ P G) := by
  rcases h with ⟨h1, n, h2, h3, h4, h5⟩ | ⟨h1, h2, h3⟩
  · by_cases e : n ≤ G
    · exact .inl ⟨h1, n, h2, h3, h4, by omega, hm n G e hG h4⟩
    · exact .inr (.inl ⟨h1, n, h2, h3, h4, by omega, h5 G (by omega)⟩)
  · exact .inr (.inr ⟨h1, h2, h3 G hG⟩)
theorem needR_is {P : Nat → Prop} {rn re : Int} {n : Nat} (h : NeedR P rn re) (hn : n ≤ 200) (hp : P n) (hl : ∀ m, m < n → ¬ P m) : re = 0 ∧ rn = (n : Int) := by
  rcases h with ⟨h1, k, rfl, h3, h4, h5⟩ | ⟨_, _, h3⟩
  · refine ⟨h1, ?_⟩
    rcases Nat.lt_trichotomy n k with e | e | e
    · exact absurd hp (h5 n e)
    · rw [e]
    · exact absurd h4 (hl k e)
  · exact absurd hp (h3 n hn)
theorem needR_no {P : Nat → Prop} {rn re : Int} (h : NeedR P rn re) (hl : ∀ m, m ≤ 200 → ¬ P m) : re = 5 ∧ rn = 0 := by
  rcases h with ⟨_, k, _, h3, h4, _⟩ | ⟨h1, h2, _⟩
  · exact absurd h4 (hl k h3)
  · exact ⟨h1, h2⟩
theorem least_ex (P : Nat → Prop) : (∃ n, n ≤ 200 ∧ P n ∧ ∀ m, m < n → ¬ P m) ∨ ∀ m, m ≤ 200 → ¬ P m := by
  by_cases h : ∃ n, n ≤ 200 ∧ P n
  · obtain ⟨n, hn, hp⟩ := h
    have key : ∀ k, k ≤ 200 → P k → ∃ n, n ≤ 200 ∧ P n ∧ ∀ m, m < n → ¬ P m := by
      intro k
      induction k using Nat.strongRecOn with
      | ind k ih =>
        intro hk hp
        by_cases h : ∃ m, m < k ∧ P m
        · obtain ⟨m, hm, hpm⟩ := h
          exact ih m hm (by omega) hpm
        · exact ⟨k, hk, hp, fun m hm hpm => h ⟨m, hm, hpm⟩⟩
    exact .inl (key n hn hp)
  · exact .inr fun m hm hp => h ⟨m, hm, hp⟩
theorem full_mono {lo : Nat} {U : Nat → O3} {s t : Nat → Int} {c : Int} (h : FullP lo U s c) (hst : ∀ j, s j ≤ t j) : FullP lo U t c := fun i hi hk => Int.le_trans (h i hi hk) (hst i)
theorem cups_nat {n : Nat} (h : n ≤ 200) : fromB 0 200 (n : Int) = true := by simp only [fromB, decide_eq_true_eq]; omega

set_option maxRecDepth 100000 in
set_option maxHeartbeats 6000000 in
theorem lawen_a (f : Int) (na oa : Option Addr) (ln cn lo co : Nat) (N : Nat → N2) (U : Nat → O3) (z c k g : Int) (w : World) (hls : ln ≤ maxLen) (hlt : lo ≤ maxLen) (H : Hid (Tr7 w na oa ln lo N U)) (K : Hid KnownOk) (hq : ¬ (ln ≤ 8 ∧ lo ≤ 10)) :
    Calls Tryz.prog 12 #[.agg #[.int .i64 f, .slice na ln cn, .slice oa lo co], .int .i64 z, .int .i64 c, .int .i64 k, .int .i64 g] w
      fun e w' => e = .returned (.bool true) ∧ Below w.heap.size w w' := by
  have hsh : decide (ln ≤ 8 ∧ lo ≤ 10) = false := decide_eq_false hq
  have BX := Lib.hid (fun (w1 : World) (hb : Below (w.alloc (.cells #[.int .i64 f, .slice na ln cn, .slice oa lo co] 25)).heap.size (w.alloc (.cells #[.int .i64 f, .slice na ln cn, .slice oa lo co] 25)) w1) => box7 hb)
  have HN : Hid (∀ w1, Below (w.alloc (.cells #[.int .i64 f, .slice na ln cn, .slice oa lo co] 25)).heap.size (w.alloc (.cells #[.int .i64 f, .slice na ln cn, .slice oa lo co] 25)) w1 → Hid (Tr7 w1 na oa ln lo N U)) := Lib.hid fun w1 h => Lib.hid (H.out.below (below_al h))
  have hb : Below (w.alloc (.cells #[.int .i64 f, .slice na ln cn, .slice oa lo co] 25)).heap.size (w.alloc (.cells #[.int .i64 f, .slice na ln cn, .slice oa lo co] 25)) (w.alloc (.cells #[.int .i64 f, .slice na ln cn, .slice oa lo co] 25)) := Below.refl _ _
  obtain ⟨x1, x2, x3, x4⟩ := BX.out _ hb
  clear H
  go_enter Tryz.func12, Tryz.ntmps12
  go_wp2_with (first
    | (go_at_call 14; refine (short_w _ _ _ _ _ _ _ _ hls hlt).mono ?_; rw [hsh]; rintro e wl ⟨rfl, hv⟩; (try replace hbG := hbG.trans (hv.mono hbG.size)); (try replace hbn := hbn.trans (hv.mono hbn.size)); (try replace hbm := hbm.trans (hv.mono hbm.size)); replace hb := hb.trans (hv.mono hb.size); clear x1 x2 x3 x4; obtain ⟨x1, x2, x3, x4⟩ := BX.out _ hb; (try (clear x5; have x5 := HCL.out _ hb)); (try (clear y1; have y1 := HYG.out _ hbG)); (try (clear y2; have y2 := HYn.out _ hbn)))
    | (go_at_call 15; refine (K.out _).mono ?_; rintro e wl ⟨rfl, hv⟩; (try replace hbG := hbG.trans (hv.mono hbG.size)); (try replace hbn := hbn.trans (hv.mono hbn.size)); (try replace hbm := hbm.trans (hv.mono hbm.size)); replace hb := hb.trans (hv.mono hb.size); clear x1 x2 x3 x4; obtain ⟨x1, x2, x3, x4⟩ := BX.out _ hb; (try (clear x5; have x5 := HCL.out _ hb)); (try (clear y1; have y1 := HYG.out _ hbG)); (try (clear y2; have y2 := HYn.out _ hbn))))
  all_goals
    go_ret
    exact ⟨rfl, below_al hb⟩

set_option maxRecDepth 100000 in
set_option maxHeartbeats 6000000 in
theorem lawen_b (f : Int) (na oa : Option Addr) (ln cn lo co : Nat) (N : Nat → N2) (U : Nat → O3) (z c k g : Int) (w : World) (hls : ln ≤ 1000000) (hlt : lo ≤ 1000000) (H : Hid (Tr7 w na oa ln lo N U)) (K : Hid KnownOk) (hq : ln ≤ 8 ∧ lo ≤ 10) (HR : Hid (¬ TreeP f ln lo N U)) :
    Calls Tryz.prog 12 #[.agg #[.int .i64 f, .slice na ln cn, .slice oa lo co], .int .i64 z, .int .i64 c, .int .i64 k, .int .i64 g] w
      fun e w' => e = .returned (.bool true) ∧ Below w.heap.size w w' := by
  have hsh : decide (ln ≤ 8 ∧ lo ≤ 10) = true := decide_eq_true hq
  have BX := Lib.hid (fun (w1 : World) (hb : Below (w.alloc (.cells #[.int .i64 f, .slice na ln cn, .slice oa lo co] 25)).heap.size (w.alloc (.cells #[.int .i64 f, .slice na ln cn, .slice oa lo co] 25)) w1) => box7 hb)
  have HN : Hid (∀ w1, Below (w.alloc (.cells #[.int .i64 f, .slice na ln cn, .slice oa lo co] 25)).heap.size (w.alloc (.cells #[.int .i64 f, .slice na ln cn, .slice oa lo co] 25)) w1 → Hid (Tr7 w1 na oa ln lo N U)) := Lib.hid fun w1 h => Lib.hid (H.out.below (below_al h))
  have hb : Below (w.alloc (.cells #[.int .i64 f, .slice na ln cn, .slice oa lo co] 25)).heap.size (w.alloc (.cells #[.int .i64 f, .slice na ln cn, .slice oa lo co] 25)) (w.alloc (.cells #[.int .i64 f, .slice na ln cn, .slice oa lo co] 25)) := Below.refl _ _
  obtain ⟨x1, x2, x3, x4⟩ := BX.out _ hb
  clear H
  go_enter Tryz.func12, Tryz.ntmps12
  go_wp2_with (first
    | (go_at_call 14; refine (short_w _ _ _ _ _ _ _ _ (by unfold maxLen; omega) (by unfold maxLen; omega)).mono ?_; rw [hsh]; rintro e wl ⟨rfl, hv⟩; (try replace hbG := hbG.trans (hv.mono hbG.size)); (try replace hbn := hbn.trans (hv.mono hbn.size)); (try replace hbm := hbm.trans (hv.mono hbm.size)); replace hb := hb.trans (hv.mono hb.size); clear x1 x2 x3 x4; obtain ⟨x1, x2, x3, x4⟩ := BX.out _ hb; (try (clear x5; have x5 := HCL.out _ hb)); (try (clear y1; have y1 := HYG.out _ hbG)); (try (clear y2; have y2 := HYn.out _ hbn)))
    | (go_at_call 18; refine (tree_w _ _ _ _ _ _ _ N U _ hls hlt (HN.out _ hb)).mono ?_; rintro e wl ⟨⟨rb, rfl, hrb⟩, hv⟩; obtain rfl : rb = false := (by cases rb <;> first | rfl | exact (HR.out (hrb.1 rfl)).elim); clear hrb; (try replace hbG := hbG.trans (hv.mono hbG.size)); (try replace hbn := hbn.trans (hv.mono hbn.size)); (try replace hbm := hbm.trans (hv.mono hbm.size)); replace hb := hb.trans (hv.mono hb.size); clear x1 x2 x3 x4; obtain ⟨x1, x2, x3, x4⟩ := BX.out _ hb; (try (clear x5; have x5 := HCL.out _ hb)); (try (clear y1; have y1 := HYG.out _ hbG)); (try (clear y2; have y2 := HYn.out _ hbn)))
    | (go_at_call 15; refine (K.out _).mono ?_; rintro e wl ⟨rfl, hv⟩; (try replace hbG := hbG.trans (hv.mono hbG.size)); (try replace hbn := hbn.trans (hv.mono hbn.size)); (try replace hbm := hbm.trans (hv.mono hbm.size)); replace hb := hb.trans (hv.mono hb.size); clear x1 x2 x3 x4; obtain ⟨x1, x2, x3, x4⟩ := BX.out _ hb; (try (clear x5; have x5 := HCL.out _ hb)); (try (clear y1; have y1 := HYG.out _ hbG)); (try (clear y2; have y2 := HYn.out _ hbn))))
  all_goals
    go_ret
    exact ⟨rfl, below_al hb⟩

set_option maxRecDepth 100000 in
set_option maxHeartbeats 6000000 in
theorem lawen_c (f : Int) (na oa : Option Addr) (ln cn lo co : Nat) (N : Nat → N2) (U : Nat → O3) (z c k g : Int) (w : World) (hls : ln ≤ 1000000) (hlt : lo ≤ 1000000) (H : Hid (Tr7 w na oa ln lo N U)) (K : Hid KnownOk) (hq : ln ≤ 8 ∧ lo ≤ 10) (HR : Hid (TreeP f ln lo N U)) (HO : Hid (fromB 0 ((lo : Int) - 1) z = false)) :
    Calls Tryz.prog 12 #[.agg #[.int .i64 f, .slice na ln cn, .slice oa lo co], .int .i64 z, .int .i64 c, .int .i64 k, .int .i64 g] w
      fun e w' => e = .returned (.bool true) ∧ Below w.heap.size w w' := by
  have hsh : decide (ln ≤ 8 ∧ lo ≤ 10) = true := decide_eq_true hq
  have BX := Lib.hid (fun (w1 : World) (hb : Below (w.alloc (.cells #[.int .i64 f, .slice na ln cn, .slice oa lo co] 25)).heap.size (w.alloc (.cells #[.int .i64 f, .slice na ln cn, .slice oa lo co] 25)) w1) => box7 hb)
  have HN : Hid (∀ w1, Below (w.alloc (.cells #[.int .i64 f, .slice na ln cn, .slice oa lo co] 25)).heap.size (w.alloc (.cells #[.int .i64 f, .slice na ln cn, .slice oa lo co] 25)) w1 → Hid (Tr7 w1 na oa ln lo N U)) := Lib.hid fun w1 h => Lib.hid (H.out.below (below_al h))
  have hb : Below (w.alloc (.cells #[.int .i64 f, .slice na ln cn, .slice oa lo co] 25)).heap.size (w.alloc (.cells #[.int .i64 f, .slice na ln cn, .slice oa lo co] 25)) (w.alloc (.cells #[.int .i64 f, .slice na ln cn, .slice oa lo co] 25)) := Below.refl _ _
  obtain ⟨x1, x2, x3, x4⟩ := BX.out _ hb
  clear H
  go_enter Tryz.func12, Tryz.ntmps12
  go_wp2_with (first
    | (go_at_call 14; refine (short_w _ _ _ _ _ _ _ _ (by unfold maxLen; omega) (by unfold maxLen; omega)).mono ?_; rw [hsh]; rintro e wl ⟨rfl, hv⟩; (try replace hbG := hbG.trans (hv.mono hbG.size)); (try replace hbn := hbn.trans (hv.mono hbn.size)); (try replace hbm := hbm.trans (hv.mono hbm.size)); replace hb := hb.trans (hv.mono hb.size); clear x1 x2 x3 x4; obtain ⟨x1, x2, x3, x4⟩ := BX.out _ hb; (try (clear x5; have x5 := HCL.out _ hb)); (try (clear y1; have y1 := HYG.out _ hbG)); (try (clear y2; have y2 := HYn.out _ hbn)))
    | (go_at_call 18; refine (tree_w _ _ _ _ _ _ _ N U _ hls hlt (HN.out _ hb)).mono ?_; rintro e wl ⟨⟨rb, rfl, hrb⟩, hv⟩; obtain rfl : rb = true := hrb.2 HR.out; clear hrb; (try replace hbG := hbG.trans (hv.mono hbG.size)); (try replace hbn := hbn.trans (hv.mono hbn.size)); (try replace hbm := hbm.trans (hv.mono hbm.size)); replace hb := hb.trans (hv.mono hb.size); clear x1 x2 x3 x4; obtain ⟨x1, x2, x3, x4⟩ := BX.out _ hb; (try (clear x5; have x5 := HCL.out _ hb)); (try (clear y1; have y1 := HYG.out _ hbG)); (try (clear y2; have y2 := HYn.out _ hbn)))
    | (go_at_call 29; refine (outlet_w _ _ _ _ _ _ _ _ _ hlt).mono ?_; rw [HO.out]; rintro e wl ⟨rfl, hv⟩; (try replace hbG := hbG.trans (hv.mono hbG.size)); (try replace hbn := hbn.trans (hv.mono hbn.size)); (try replace hbm := hbm.trans (hv.mono hbm.size)); replace hb := hb.trans (hv.mono hb.size); clear x1 x2 x3 x4; obtain ⟨x1, x2, x3, x4⟩ := BX.out _ hb; (try (clear x5; have x5 := HCL.out _ hb)); (try (clear y1; have y1 := HYG.out _ hbG)); (try (clear y2; have y2 := HYn.out _ hbn)))
    | (go_at_call 15; refine (K.out _).mono ?_; rintro e wl ⟨rfl, hv⟩; (try replace hbG := hbG.trans (hv.mono hbG.size)); (try replace hbn := hbn.trans (hv.mono hbn.size)); (try replace hbm := hbm.trans (hv.mono hbm.size)); replace hb := hb.trans (hv.mono hb.size); clear x1 x2 x3 x4; obtain ⟨x1, x2, x3, x4⟩ := BX.out _ hb; (try (clear x5; have x5 := HCL.out _ hb)); (try (clear y1; have y1 := HYG.out _ hbG)); (try (clear y2; have y2 := HYn.out _ hbn))))
  all_goals
    go_ret
    exact ⟨rfl, below_al hb⟩

set_option maxRecDepth 100000 in
set_option maxHeartbeats 6000000 in
theorem lawen_d (f : Int) (na oa : Option Addr) (ln cn lo co : Nat) (N : Nat → N2) (U : Nat → O3) (i : Nat) (c k g : Int) (w : World) (hls : ln ≤ 1000000) (hlt : lo ≤ 1000000) (H : Hid (Tr7 w na oa ln lo N U)) (K : Hid KnownOk) (hi : i < lo) (hq : ln ≤ 8 ∧ lo ≤ 10) (HR : Hid (TreeP f ln lo N U)) (hc1 : c < 1) :
    Calls Tryz.prog 12 #[.agg #[.int .i64 f, .slice na ln cn, .slice oa lo co], .int .i64 (i : Int), .int .i64 c, .int .i64 k, .int .i64 g] w
      fun e w' => e = .returned (.bool true) ∧ Below w.heap.size w w' := by
  have hsh : decide (ln ≤ 8 ∧ lo ≤ 10) = true := decide_eq_true hq
  have hoz : fromB 0 ((lo : Int) - 1) (i : Int) = true := by simp only [fromB, decide_eq_true_eq]; omega
  have HO := Lib.hid hoz
  obtain ⟨C, P, hoa, hC, hn⟩ := H.out.ho.resolve_left (by omega)
  have HCL : Hid (∀ w2, Below (w.alloc (.cells #[.int .i64 f, .slice na ln cn, .slice oa lo co] 25)).heap.size (w.alloc (.cells #[.int .i64 f, .slice na ln cn, .slice oa lo co] 25)) w2 → w2.cell? ⟨C, P + i * 3 + 1, none⟩ = some (.int .i64 (U i).c)) := Lib.hid fun w2 h => ((below_al h).cell (p := ⟨C, P + i * 3 + 1, none⟩) hC).trans (hn i hi).2.1
  have n1 : (0 : Int) ≤ (i : Int) := by omega
  have n2 : (i : Int) < (lo : Int) := by omega
  subst hoa
  clear hn hoz
  have BX := Lib.hid (fun (w1 : World) (hb : Below (w.alloc (.cells #[.int .i64 f, .slice na ln cn, .slice (some ⟨C, P, none⟩) lo co] 25)).heap.size (w.alloc (.cells #[.int .i64 f, .slice na ln cn, .slice (some ⟨C, P, none⟩) lo co] 25)) w1) => box7 hb)
  have HN : Hid (∀ w1, Below (w.alloc (.cells #[.int .i64 f, .slice na ln cn, .slice (some ⟨C, P, none⟩) lo co] 25)).heap.size (w.alloc (.cells #[.int .i64 f, .slice na ln cn, .slice (some ⟨C, P, none⟩) lo co] 25)) w1 → Hid (Tr7 w1 na (some ⟨C, P, none⟩) ln lo N U)) := Lib.hid fun w1 h => Lib.hid (H.out.below (below_al h))
  have hb : Below (w.alloc (.cells #[.int .i64 f, .slice na ln cn, .slice (some ⟨C, P, none⟩) lo co] 25)).heap.size (w.alloc (.cells #[.int .i64 f, .slice na ln cn, .slice (some ⟨C, P, none⟩) lo co] 25)) (w.alloc (.cells #[.int .i64 f, .slice na ln cn, .slice (some ⟨C, P, none⟩) lo co] 25)) := Below.refl _ _
  obtain ⟨x1, x2, x3, x4⟩ := BX.out _ hb
  clear H
  have x5 := HCL.out _ hb
  go_enter Tryz.func12, Tryz.ntmps12
  go_wp2_with (first
    | (go_at_call 14; refine (short_w _ _ _ _ _ _ _ _ (by unfold maxLen; omega) (by unfold maxLen; omega)).mono ?_; rw [hsh]; rintro e wl ⟨rfl, hv⟩; (try replace hbG := hbG.trans (hv.mono hbG.size)); (try replace hbn := hbn.trans (hv.mono hbn.size)); (try replace hbm := hbm.trans (hv.mono hbm.size)); replace hb := hb.trans (hv.mono hb.size); clear x1 x2 x3 x4; obtain ⟨x1, x2, x3, x4⟩ := BX.out _ hb; (try (clear x5; have x5 := HCL.out _ hb)); (try (clear y1; have y1 := HYG.out _ hbG)); (try (clear y2; have y2 := HYn.out _ hbn)))
    | (go_at_call 18; refine (tree_w _ _ _ _ _ _ _ N U _ hls hlt (HN.out _ hb)).mono ?_; rintro e wl ⟨⟨rb, rfl, hrb⟩, hv⟩; obtain rfl : rb = true := hrb.2 HR.out; clear hrb; (try replace hbG := hbG.trans (hv.mono hbG.size)); (try replace hbn := hbn.trans (hv.mono hbn.size)); (try replace hbm := hbm.trans (hv.mono hbm.size)); replace hb := hb.trans (hv.mono hb.size); clear x1 x2 x3 x4; obtain ⟨x1, x2, x3, x4⟩ := BX.out _ hb; (try (clear x5; have x5 := HCL.out _ hb)); (try (clear y1; have y1 := HYG.out _ hbG)); (try (clear y2; have y2 := HYn.out _ hbn)))
    | (go_at_call 29; refine (outlet_w _ _ _ _ _ _ _ _ _ hlt).mono ?_; rw [HO.out]; rintro e wl ⟨rfl, hv⟩; (try replace hbG := hbG.trans (hv.mono hbG.size)); (try replace hbn := hbn.trans (hv.mono hbn.size)); (try replace hbm := hbm.trans (hv.mono hbm.size)); replace hb := hb.trans (hv.mono hb.size); clear x1 x2 x3 x4; obtain ⟨x1, x2, x3, x4⟩ := BX.out _ hb; (try (clear x5; have x5 := HCL.out _ hb)); (try (clear y1; have y1 := HYG.out _ hbG)); (try (clear y2; have y2 := HYn.out _ hbn)))
    | (go_at_call 15; refine (K.out _).mono ?_; rintro e wl ⟨rfl, hv⟩; (try replace hbG := hbG.trans (hv.mono hbG.size)); (try replace hbn := hbn.trans (hv.mono hbn.size)); (try replace hbm := hbm.trans (hv.mono hbm.size)); replace hb := hb.trans (hv.mono hb.size); clear x1 x2 x3 x4; obtain ⟨x1, x2, x3, x4⟩ := BX.out _ hb; (try (clear x5; have x5 := HCL.out _ hb)); (try (clear y1; have y1 := HYG.out _ hbG)); (try (clear y2; have y2 := HYn.out _ hbn))))
  all_goals
    go_ret
    exact ⟨rfl, below_al hb⟩

set_option maxRecDepth 100000 in
set_option maxHeartbeats 6000000 in
theorem lawen_e (f : Int) (na oa : Option Addr) (ln cn lo co : Nat) (N : Nat → N2) (U : Nat → O3) (i : Nat) (c k g : Int) (w : World) (hls : ln ≤ 1000000) (hlt : lo ≤ 1000000) (H : Hid (Tr7 w na oa ln lo N U)) (K : Hid KnownOk) (hi : i < lo) (hq : ln ≤ 8 ∧ lo ≤ 10) (HR : Hid (TreeP f ln lo N U)) (hc1 : ¬ c < 1) (hc2 : (U i).c < c) :
    Calls Tryz.prog 12 #[.agg #[.int .i64 f, .slice na ln cn, .slice oa lo co], .int .i64 (i : Int), .int .i64 c, .int .i64 k, .int .i64 g] w
      fun e w' => e = .returned (.bool true) ∧ Below w.heap.size w w' := by
  have hsh : decide (ln ≤ 8 ∧ lo ≤ 10) = true := decide_eq_true hq
  have hoz : fromB 0 ((lo : Int) - 1) (i : Int) = true := by simp only [fromB, decide_eq_true_eq]; omega
  have HO := Lib.hid hoz
  obtain ⟨C, P, hoa, hC, hn⟩ := H.out.ho.resolve_left (by omega)
  have HCL : Hid (∀ w2, Below (w.alloc (.cells #[.int .i64 f, .slice na ln cn, .slice oa lo co] 25)).heap.size (w.alloc (.cells #[.int .i64 f, .slice na ln cn, .slice oa lo co] 25)) w2 → w2.cell? ⟨C, P + i * 3 + 1, none⟩ = some (.int .i64 (U i).c)) := Lib.hid fun w2 h => ((below_al h).cell (p := ⟨C, P + i * 3 + 1, none⟩) hC).trans (hn i hi).2.1
  have n1 : (0 : Int) ≤ (i : Int) := by omega
  have n2 : (i : Int) < (lo : Int) := by omega
  subst hoa
  clear hn hoz
  have BX := Lib.hid (fun (w1 : World) (hb : Below (w.alloc (.cells #[.int .i64 f, .slice na ln cn, .slice (some ⟨C, P, none⟩) lo co] 25)).heap.size (w.alloc (.cells #[.int .i64 f, .slice na ln cn, .slice (some ⟨C, P, none⟩) lo co] 25)) w1) => box7 hb)
  have HN : Hid (∀ w1, Below (w.alloc (.cells #[.int .i64 f, .slice na ln cn, .slice (some ⟨C, P, none⟩) lo co] 25)).heap.size (w.alloc (.cells #[.int .i64 f, .slice na ln cn, .slice (some ⟨C, P, none⟩) lo co] 25)) w1 → Hid (Tr7 w1 na (some ⟨C, P, none⟩) ln lo N U)) := Lib.hid fun w1 h => Lib.hid (H.out.below (below_al h))
  have hb : Below (w.alloc (.cells #[.int .i64 f, .slice na ln cn, .slice (some ⟨C, P, none⟩) lo co] 25)).heap.size (w.alloc (.cells #[.int .i64 f, .slice na ln cn, .slice (some ⟨C, P, none⟩) lo co] 25)) (w.alloc (.cells #[.int .i64 f, .slice na ln cn, .slice (some ⟨C, P, none⟩) lo co] 25)) := Below.refl _ _
  obtain ⟨x1, x2, x3, x4⟩ := BX.out _ hb
  clear H
  have x5 := HCL.out _ hb
  go_enter Tryz.func12, Tryz.ntmps12
  go_wp2_with (first
    | (go_at_call 14; refine (short_w _ _ _ _ _ _ _ _ (by unfold maxLen; omega) (by unfold maxLen; omega)).mono ?_; rw [hsh]; rintro e wl ⟨rfl, hv⟩; (try replace hbG := hbG.trans (hv.mono hbG.size)); (try replace hbn := hbn.trans (hv.mono hbn.size)); (try replace hbm := hbm.trans (hv.mono hbm.size)); replace hb := hb.trans (hv.mono hb.size); clear x1 x2 x3 x4; obtain ⟨x1, x2, x3, x4⟩ := BX.out _ hb; (try (clear x5; have x5 := HCL.out _ hb)); (try (clear y1; have y1 := HYG.out _ hbG)); (try (clear y2; have y2 := HYn.out _ hbn)))
    | (go_at_call 18; refine (tree_w _ _ _ _ _ _ _ N U _ hls hlt (HN.out _ hb)).mono ?_; rintro e wl ⟨⟨rb, rfl, hrb⟩, hv⟩; obtain rfl : rb = true := hrb.2 HR.out; clear hrb; (try replace hbG := hbG.trans (hv.mono hbG.size)); (try replace hbn := hbn.trans (hv.mono hbn.size)); (try replace hbm := hbm.trans (hv.mono hbm.size)); replace hb := hb.trans (hv.mono hb.size); clear x1 x2 x3 x4; obtain ⟨x1, x2, x3, x4⟩ := BX.out _ hb; (try (clear x5; have x5 := HCL.out _ hb)); (try (clear y1; have y1 := HYG.out _ hbG)); (try (clear y2; have y2 := HYn.out _ hbn)))
    | (go_at_call 29; refine (outlet_w _ _ _ _ _ _ _ _ _ hlt).mono ?_; rw [HO.out]; rintro e wl ⟨rfl, hv⟩; (try replace hbG := hbG.trans (hv.mono hbG.size)); (try replace hbn := hbn.trans (hv.mono hbn.size)); (try replace hbm := hbm.trans (hv.mono hbm.size)); replace hb := hb.trans (hv.mono hb.size); clear x1 x2 x3 x4; obtain ⟨x1, x2, x3, x4⟩ := BX.out _ hb; (try (clear x5; have x5 := HCL.out _ hb)); (try (clear y1; have y1 := HYG.out _ hbG)); (try (clear y2; have y2 := HYn.out _ hbn)))
    | (go_at_call 15; refine (K.out _).mono ?_; rintro e wl ⟨rfl, hv⟩; (try replace hbG := hbG.trans (hv.mono hbG.size)); (try replace hbn := hbn.trans (hv.mono hbn.size)); (try replace hbm := hbm.trans (hv.mono hbm.size)); replace hb := hb.trans (hv.mono hb.size); clear x1 x2 x3 x4; obtain ⟨x1, x2, x3, x4⟩ := BX.out _ hb; (try (clear x5; have x5 := HCL.out _ hb)); (try (clear y1; have y1 := HYG.out _ hbG)); (try (clear y2; have y2 := HYn.out _ hbn))))
  all_goals
    go_ret
    exact ⟨rfl, below_al hb⟩

set_option maxRecDepth 100000 in
set_option maxHeartbeats 6000000 in
theorem lawen_f (f : Int) (na oa : Option Addr) (ln cn lo co : Nat) (N : Nat → N2) (U : Nat → O3) (i : Nat) (c k g : Int) (w : World) (hls : ln ≤ 1000000) (hlt : lo ≤ 1000000) (H : Hid (Tr7 w na oa ln lo N U)) (K : Hid KnownOk) (hi : i < lo) (hq : ln ≤ 8 ∧ lo ≤ 10) (HR : Hid (TreeP f ln lo N U)) (hc1 : ¬ c < 1) (hc2 : ¬ (U i).c < c) (HK : Hid (fromB 0 3 k = false)) :
    Calls Tryz.prog 12 #[.agg #[.int .i64 f, .slice na ln cn, .slice oa lo co], .int .i64 (i : Int), .int .i64 c, .int .i64 k, .int .i64 g] w
      fun e w' => e = .returned (.bool true) ∧ Below w.heap.size w w' := by
  have hsh : decide (ln ≤ 8 ∧ lo ≤ 10) = true := decide_eq_true hq
  have hoz : fromB 0 ((lo : Int) - 1) (i : Int) = true := by simp only [fromB, decide_eq_true_eq]; omega
  have HO := Lib.hid hoz
  obtain ⟨C, P, hoa, hC, hn⟩ := H.out.ho.resolve_left (by omega)
  have HCL : Hid (∀ w2, Below (w.alloc (.cells #[.int .i64 f, .slice na ln cn, .slice oa lo co] 25)).heap.size (w.alloc (.cells #[.int .i64 f, .slice na ln cn, .slice oa lo co] 25)) w2 → w2.cell? ⟨C, P + i * 3 + 1, none⟩ = some (.int .i64 (U i).c)) := Lib.hid fun w2 h => ((below_al h).cell (p := ⟨C, P + i * 3 + 1, none⟩) hC).trans (hn i hi).2.1
  have n1 : (0 : Int) ≤ (i : Int) := by omega
  have n2 : (i : Int) < (lo : Int) := by omega
  subst hoa
  clear hn hoz
  have BX := Lib.hid (fun (w1 : World) (hb : Below (w.alloc (.cells #[.int .i64 f, .slice na ln cn, .slice (some ⟨C, P, none⟩) lo co] 25)).heap.size (w.alloc (.cells #[.int .i64 f, .slice na ln cn, .slice (some ⟨C, P, none⟩) lo co] 25)) w1) => box7 hb)
  have HN : Hid (∀ w1, Below (w.alloc (.cells #[.int .i64 f, .slice na ln cn, .slice (some ⟨C, P, none⟩) lo co] 25)).heap.size (w.alloc (.cells #[.int .i64 f, .slice na ln cn, .slice (some ⟨C, P, none⟩) lo co] 25)) w1 → Hid (Tr7 w1 na (some ⟨C, P, none⟩) ln lo N U)) := Lib.hid fun w1 h => Lib.hid (H.out.below (below_al h))
  have hb : Below (w.alloc (.cells #[.int .i64 f, .slice na ln cn, .slice (some ⟨C, P, none⟩) lo co] 25)).heap.size (w.alloc (.cells #[.int .i64 f, .slice na ln cn, .slice (some ⟨C, P, none⟩) lo co] 25)) (w.alloc (.cells #[.int .i64 f, .slice na ln cn, .slice (some ⟨C, P, none⟩) lo co] 25)) := Below.refl _ _
  obtain ⟨x1, x2, x3, x4⟩ := BX.out _ hb
  clear H
  have x5 := HCL.out _ hb
  go_enter Tryz.func12, Tryz.ntmps12
  go_wp2_with (first
    | (go_at_call 14; refine (short_w _ _ _ _ _ _ _ _ (by unfold maxLen; omega) (by unfold maxLen; omega)).mono ?_; rw [hsh]; rintro e wl ⟨rfl, hv⟩; (try replace hbG := hbG.trans (hv.mono hbG.size)); (try replace hbn := hbn.trans (hv.mono hbn.size)); (try replace hbm := hbm.trans (hv.mono hbm.size)); replace hb := hb.trans (hv.mono hb.size); clear x1 x2 x3 x4; obtain ⟨x1, x2, x3, x4⟩ := BX.out _ hb; (try (clear x5; have x5 := HCL.out _ hb)); (try (clear y1; have y1 := HYG.out _ hbG)); (try (clear y2; have y2 := HYn.out _ hbn)))
    | (go_at_call 18; refine (tree_w _ _ _ _ _ _ _ N U _ hls hlt (HN.out _ hb)).mono ?_; rintro e wl ⟨⟨rb, rfl, hrb⟩, hv⟩; obtain rfl : rb = true := hrb.2 HR.out; clear hrb; (try replace hbG := hbG.trans (hv.mono hbG.size)); (try replace hbn := hbn.trans (hv.mono hbn.size)); (try replace hbm := hbm.trans (hv.mono hbm.size)); replace hb := hb.trans (hv.mono hb.size); clear x1 x2 x3 x4; obtain ⟨x1, x2, x3, x4⟩ := BX.out _ hb; (try (clear x5; have x5 := HCL.out _ hb)); (try (clear y1; have y1 := HYG.out _ hbG)); (try (clear y2; have y2 := HYn.out _ hbn)))
    | (go_at_call 29; refine (outlet_w _ _ _ _ _ _ _ _ _ hlt).mono ?_; rw [HO.out]; rintro e wl ⟨rfl, hv⟩; (try replace hbG := hbG.trans (hv.mono hbG.size)); (try replace hbn := hbn.trans (hv.mono hbn.size)); (try replace hbm := hbm.trans (hv.mono hbm.size)); replace hb := hb.trans (hv.mono hb.size); clear x1 x2 x3 x4; obtain ⟨x1, x2, x3, x4⟩ := BX.out _ hb; (try (clear x5; have x5 := HCL.out _ hb)); (try (clear y1; have y1 := HYG.out _ hbG)); (try (clear y2; have y2 := HYn.out _ hbn)))
    | (go_at_call 48; refine (class_w k _).mono ?_; rw [HK.out]; rintro e wl ⟨rfl, rfl⟩)
    | (go_at_call 15; refine (K.out _).mono ?_; rintro e wl ⟨rfl, hv⟩; (try replace hbG := hbG.trans (hv.mono hbG.size)); (try replace hbn := hbn.trans (hv.mono hbn.size)); (try replace hbm := hbm.trans (hv.mono hbm.size)); replace hb := hb.trans (hv.mono hb.size); clear x1 x2 x3 x4; obtain ⟨x1, x2, x3, x4⟩ := BX.out _ hb; (try (clear x5; have x5 := HCL.out _ hb)); (try (clear y1; have y1 := HYG.out _ hbG)); (try (clear y2; have y2 := HYn.out _ hbn))))
  all_goals
    go_ret
    exact ⟨rfl, below_al hb⟩

set_option maxRecDepth 100000 in
set_option maxHeartbeats 6000000 in
theorem lawen_g (f : Int) (na oa : Option Addr) (ln cn lo co : Nat) (N : Nat → N2) (U : Nat → O3) (i : Nat) (c k g : Int) (w : World) (hls : ln ≤ 1000000) (hlt : lo ≤ 1000000) (H : Hid (Tr7 w na oa ln lo N U)) (K : Hid KnownOk) (hi : i < lo) (hq : ln ≤ 8 ∧ lo ≤ 10) (HR : Hid (TreeP f ln lo N U)) (hc1 : ¬ c < 1) (hc2 : ¬ (U i).c < c) (HK : Hid (fromB 0 3 k = true)) (hcg : fromB 0 200 g = false) :
    Calls Tryz.prog 12 #[.agg #[.int .i64 f, .slice na ln cn, .slice oa lo co], .int .i64 (i : Int), .int .i64 c, .int .i64 k, .int .i64 g] w
      fun e w' => e = .returned (.bool true) ∧ Below w.heap.size w w' := by
  have hsh : decide (ln ≤ 8 ∧ lo ≤ 10) = true := decide_eq_true hq
  have hoz : fromB 0 ((lo : Int) - 1) (i : Int) = true := by simp only [fromB, decide_eq_true_eq]; omega
  have HO := Lib.hid hoz
  obtain ⟨C, P, hoa, hC, hn⟩ := H.out.ho.resolve_left (by omega)
  have HCL : Hid (∀ w2, Below (w.alloc (.cells #[.int .i64 f, .slice na ln cn, .slice oa lo co] 25)).heap.size (w.alloc (.cells #[.int .i64 f, .slice na ln cn, .slice oa lo co] 25)) w2 → w2.cell? ⟨C, P + i * 3 + 1, none⟩ = some (.int .i64 (U i).c)) := Lib.hid fun w2 h => ((below_al h).cell (p := ⟨C, P + i * 3 + 1, none⟩) hC).trans (hn i hi).2.1
  have n1 : (0 : Int) ≤ (i : Int) := by omega
  have n2 : (i : Int) < (lo : Int) := by omega
  subst hoa
  clear hn hoz
  have BX := Lib.hid (fun (w1 : World) (hb : Below (w.alloc (.cells #[.int .i64 f, .slice na ln cn, .slice (some ⟨C, P, none⟩) lo co] 25)).heap.size (w.alloc (.cells #[.int .i64 f, .slice na ln cn, .slice (some ⟨C, P, none⟩) lo co] 25)) w1) => box7 hb)
  have HN : Hid (∀ w1, Below (w.alloc (.cells #[.int .i64 f, .slice na ln cn, .slice (some ⟨C, P, none⟩) lo co] 25)).heap.size (w.alloc (.cells #[.int .i64 f, .slice na ln cn, .slice (some ⟨C, P, none⟩) lo co] 25)) w1 → Hid (Tr7 w1 na (some ⟨C, P, none⟩) ln lo N U)) := Lib.hid fun w1 h => Lib.hid (H.out.below (below_al h))
  have hb : Below (w.alloc (.cells #[.int .i64 f, .slice na ln cn, .slice (some ⟨C, P, none⟩) lo co] 25)).heap.size (w.alloc (.cells #[.int .i64 f, .slice na ln cn, .slice (some ⟨C, P, none⟩) lo co] 25)) (w.alloc (.cells #[.int .i64 f, .slice na ln cn, .slice (some ⟨C, P, none⟩) lo co] 25)) := Below.refl _ _
  obtain ⟨x1, x2, x3, x4⟩ := BX.out _ hb
  clear H
  have x5 := HCL.out _ hb
  go_enter Tryz.func12, Tryz.ntmps12
  go_wp2_with (first
    | (go_at_call 14; refine (short_w _ _ _ _ _ _ _ _ (by unfold maxLen; omega) (by unfold maxLen; omega)).mono ?_; rw [hsh]; rintro e wl ⟨rfl, hv⟩; (try replace hbG := hbG.trans (hv.mono hbG.size)); (try replace hbn := hbn.trans (hv.mono hbn.size)); (try replace hbm := hbm.trans (hv.mono hbm.size)); replace hb := hb.trans (hv.mono hb.size); clear x1 x2 x3 x4; obtain ⟨x1, x2, x3, x4⟩ := BX.out _ hb; (try (clear x5; have x5 := HCL.out _ hb)); (try (clear y1; have y1 := HYG.out _ hbG)); (try (clear y2; have y2 := HYn.out _ hbn)))
    | (go_at_call 18; refine (tree_w _ _ _ _ _ _ _ N U _ hls hlt (HN.out _ hb)).mono ?_; rintro e wl ⟨⟨rb, rfl, hrb⟩, hv⟩; obtain rfl : rb = true := hrb.2 HR.out; clear hrb; (try replace hbG := hbG.trans (hv.mono hbG.size)); (try replace hbn := hbn.trans (hv.mono hbn.size)); (try replace hbm := hbm.trans (hv.mono hbm.size)); replace hb := hb.trans (hv.mono hb.size); clear x1 x2 x3 x4; obtain ⟨x1, x2, x3, x4⟩ := BX.out _ hb; (try (clear x5; have x5 := HCL.out _ hb)); (try (clear y1; have y1 := HYG.out _ hbG)); (try (clear y2; have y2 := HYn.out _ hbn)))
    | (go_at_call 29; refine (outlet_w _ _ _ _ _ _ _ _ _ hlt).mono ?_; rw [HO.out]; rintro e wl ⟨rfl, hv⟩; (try replace hbG := hbG.trans (hv.mono hbG.size)); (try replace hbn := hbn.trans (hv.mono hbn.size)); (try replace hbm := hbm.trans (hv.mono hbm.size)); replace hb := hb.trans (hv.mono hb.size); clear x1 x2 x3 x4; obtain ⟨x1, x2, x3, x4⟩ := BX.out _ hb; (try (clear x5; have x5 := HCL.out _ hb)); (try (clear y1; have y1 := HYG.out _ hbG)); (try (clear y2; have y2 := HYn.out _ hbn)))
    | (go_at_call 48; refine (class_w k _).mono ?_; rw [HK.out]; rintro e wl ⟨rfl, rfl⟩)
    | (go_at_call 41; refine (cups_w _ _).mono ?_; rintro e wl ⟨rfl, rfl⟩)
    | (go_at_call 15; refine (K.out _).mono ?_; rintro e wl ⟨rfl, hv⟩; (try replace hbG := hbG.trans (hv.mono hbG.size)); (try replace hbn := hbn.trans (hv.mono hbn.size)); (try replace hbm := hbm.trans (hv.mono hbm.size)); replace hb := hb.trans (hv.mono hb.size); clear x1 x2 x3 x4; obtain ⟨x1, x2, x3, x4⟩ := BX.out _ hb; (try (clear x5; have x5 := HCL.out _ hb)); (try (clear y1; have y1 := HYG.out _ hbG)); (try (clear y2; have y2 := HYn.out _ hbn))))
  all_goals
    go_ret
    exact ⟨rfl, below_al hb⟩
end Go.Kn

namespace Go.Kn
open Go Go.Proofs Go.RowKit

set_option maxRecDepth 100000 in
theorem neq_tt1 (w : World) : (binOp BinOp.neq 4 (.bool true) (.bool true)).run Tryz.prog w = .ok (.bool false) w := rfl
attribute [local go_sem] neq_tt1

set_option maxRecDepth 100000 in
set_option maxHeartbeats 6000000 in
theorem lawen_h11 (f : Int) (na oa : Option Addr) (ln cn lo co : Nat) (N : Nat → N2) (U : Nat → O3) (i : Nat) (c k : Int) (G : Nat) (w : World) (hls : ln ≤ 1000000) (hlt : lo ≤ 1000000) (H : Hid (Tr7 w na oa ln lo N U)) (K : Hid KnownOk) (hi : i < lo) (hq : ln ≤ 8 ∧ lo ≤ 10) (HR : Hid (TreeP f ln lo N U)) (hc1 : ¬ c < 1) (hc2 : ¬ (U i).c < c) (HC : Hid (fromB 1 (U i).c c = true)) (HK : Hid (fromB 0 3 k = true)) (hG : G ≤ 200) (X : Nat → Nat → Int) (HXS : Hid (XS lo N U X)) (n : Nat) (hn : n ≤ 200) (HPn : Hid (c ≤ X n i)) (HLn : Hid (∀ m, m < n → X m i < c)) (hlen : (n : Int) ≤ (G : Int)) (hpgn : c ≤ X G i) (m : Nat) (hm : m ≤ 200) (HPm : Hid (FullP lo U (X m) k)) (HLm : Hid (∀ j, j < m → ¬ FullP lo U (X j) k)) (hlem : (m : Int) ≤ (G : Int)) (HPGm : Hid (FullP lo U (X G) k))  :
    Calls Tryz.prog 12 #[.agg #[.int .i64 f, .slice na ln cn, .slice oa lo co], .int .i64 (i : Int), .int .i64 c, .int .i64 k, .int .i64 (G : Int)] w
      fun e w' => e = .returned (.bool true) ∧ Below w.heap.size w w' := by
  have hsh : decide (ln ≤ 8 ∧ lo ≤ 10) = true := decide_eq_true hq
  have hoz : fromB 0 ((lo : Int) - 1) (i : Int) = true := by simp only [fromB, decide_eq_true_eq]; omega
  have HO := Lib.hid hoz
  obtain ⟨C, P, hoa, hC, hn⟩ := H.out.ho.resolve_left (by omega)
  have HCL : Hid (∀ w2, Below (w.alloc (.cells #[.int .i64 f, .slice na ln cn, .slice oa lo co] 25)).heap.size (w.alloc (.cells #[.int .i64 f, .slice na ln cn, .slice oa lo co] 25)) w2 → w2.cell? ⟨C, P + i * 3 + 1, none⟩ = some (.int .i64 (U i).c)) := Lib.hid fun w2 h => ((below_al h).cell (p := ⟨C, P + i * 3 + 1, none⟩) hC).trans (hn i hi).2.1
  have n1 : (0 : Int) ≤ (i : Int) := by omega
  have n2 : (i : Int) < (lo : Int) := by omega
  subst hoa
  clear hn hoz
  have hcg : fromB 0 200 (G : Int) = true := cups_nat hG
  have hc0 : fromB 0 200 0 = true := by decide
  have HM1 : Hid (∀ a b : Nat, a ≤ b → b ≤ 200 → c ≤ X a i → c ≤ X b i) := Lib.hid fun a b h hb h1 => Int.le_trans h1 (xs_mono HR.out HXS.out h hb i)
  have HM2 : Hid (∀ a b : Nat, a ≤ b → b ≤ 200 → FullP lo U (X a) k → FullP lo U (X b) k) := Lib.hid fun a b h hb h1 => full_mono h1 (fun j => xs_mono HR.out HXS.out h hb j)
  have HSP : Hid (∀ a : Nat, a ≤ 200 → SharesP lo lo (X a) U) := Lib.hid fun a ha => sharesP_of (xs_vd HR.out HXS.out ha)
  have HSH : Hid (∀ (n : Nat) w2, n ≤ 200 → Below (w.alloc (.cells #[.int .i64 f, .slice na ln cn, .slice (some ⟨C, P, none⟩) lo co] 25)).heap.size (w.alloc (.cells #[.int .i64 f, .slice na ln cn, .slice (some ⟨C, P, none⟩) lo co] 25)) w2 → Calls Tryz.prog 21 #[.agg #[.int .i64 (n : Int), .slice na ln cn, .slice (some ⟨C, P, none⟩) lo co]] w2 fun e w' => (∃ A O cs, e = .returned (.tuple #[.slice (some ⟨A, O, none⟩) lo cs, .int .i64 0]) ∧ A < w'.heap.size ∧ NumAt w' A O lo (X n)) ∧ Below w2.heap.size w2 w') := Lib.hid fun n w2 hn h => by
    refine (shares_w (n : Int) na (some ⟨C, P, none⟩) ln cn lo co N U w2 (Lib.hid (tree_with HR.out (by omega) (by omega))) (Lib.hid (H.out.below (below_al h)))).mono ?_
    rintro e w' ⟨⟨sa, cs, t, he, hs, ho⟩, hb⟩
    obtain rfl : t = X n := ho.det (HXS.out n hn)
    obtain ⟨A, O, rfl, hA, hnm⟩ := hs.resolve_left (by omega)
    exact ⟨⟨A, O, cs, he, hA, hnm⟩, hb⟩
  have hlo3 : lo ≤ maxLen := by unfold maxLen; omega
  have q2 := HR.out.lo2
  have hpgd : decide (c ≤ X G i) = true := decide_eq_true hpgn
  have hld : decide ((n : Int) ≤ (G : Int)) = true := decide_eq_true hlen
  have hmd : decide ((m : Int) ≤ (G : Int)) = true := decide_eq_true hlem
  have hcun := cups_nat hn
  have hpn2 := HPn.out
  have hcum := cups_nat hm
  have BX := Lib.hid (fun (w1 : World) (hb : Below (w.alloc (.cells #[.int .i64 f, .slice na ln cn, .slice (some ⟨C, P, none⟩) lo co] 25)).heap.size (w.alloc (.cells #[.int .i64 f, .slice na ln cn, .slice (some ⟨C, P, none⟩) lo co] 25)) w1) => box7 hb)
  have HN : Hid (∀ w1, Below (w.alloc (.cells #[.int .i64 f, .slice na ln cn, .slice (some ⟨C, P, none⟩) lo co] 25)).heap.size (w.alloc (.cells #[.int .i64 f, .slice na ln cn, .slice (some ⟨C, P, none⟩) lo co] 25)) w1 → Hid (Tr7 w1 na (some ⟨C, P, none⟩) ln lo N U)) := Lib.hid fun w1 h => Lib.hid (H.out.below (below_al h))
  have hb : Below (w.alloc (.cells #[.int .i64 f, .slice na ln cn, .slice (some ⟨C, P, none⟩) lo co] 25)).heap.size (w.alloc (.cells #[.int .i64 f, .slice na ln cn, .slice (some ⟨C, P, none⟩) lo co] 25)) (w.alloc (.cells #[.int .i64 f, .slice na ln cn, .slice (some ⟨C, P, none⟩) lo co] 25)) := Below.refl _ _
  obtain ⟨x1, x2, x3, x4⟩ := BX.out _ hb
  clear H
  have x5 := HCL.out _ hb
  go_enter Tryz.func12, Tryz.ntmps12
  go_wp2_with (first
    | (go_at_call 14; refine (short_w _ _ _ _ _ _ _ _ (by unfold maxLen; omega) (by unfold maxLen; omega)).mono ?_; rw [hsh]; rintro e wl ⟨rfl, hv⟩; (try replace hbG := hbG.trans (hv.mono hbG.size)); (try replace hbn := hbn.trans (hv.mono hbn.size)); (try replace hbm := hbm.trans (hv.mono hbm.size)); replace hb := hb.trans (hv.mono hb.size); clear x1 x2 x3 x4; obtain ⟨x1, x2, x3, x4⟩ := BX.out _ hb; (try (clear x5; have x5 := HCL.out _ hb)); (try (clear y1; have y1 := HYG.out _ hbG)); (try (clear y2; have y2 := HYn.out _ hbn)))
    | (go_at_call 18; refine (tree_w _ _ _ _ _ _ _ N U _ hls hlt (HN.out _ hb)).mono ?_; rintro e wl ⟨⟨rb, rfl, hrb⟩, hv⟩; obtain rfl : rb = true := hrb.2 HR.out; clear hrb; (try replace hbG := hbG.trans (hv.mono hbG.size)); (try replace hbn := hbn.trans (hv.mono hbn.size)); (try replace hbm := hbm.trans (hv.mono hbm.size)); replace hb := hb.trans (hv.mono hb.size); clear x1 x2 x3 x4; obtain ⟨x1, x2, x3, x4⟩ := BX.out _ hb; (try (clear x5; have x5 := HCL.out _ hb)); (try (clear y1; have y1 := HYG.out _ hbG)); (try (clear y2; have y2 := HYn.out _ hbn)))
    | (go_at_call 29; refine (outlet_w _ _ _ _ _ _ _ _ _ hlt).mono ?_; rw [HO.out]; rintro e wl ⟨rfl, hv⟩; (try replace hbG := hbG.trans (hv.mono hbG.size)); (try replace hbn := hbn.trans (hv.mono hbn.size)); (try replace hbm := hbm.trans (hv.mono hbm.size)); replace hb := hb.trans (hv.mono hb.size); clear x1 x2 x3 x4; obtain ⟨x1, x2, x3, x4⟩ := BX.out _ hb; (try (clear x5; have x5 := HCL.out _ hb)); (try (clear y1; have y1 := HYG.out _ hbG)); (try (clear y2; have y2 := HYn.out _ hbn)))
    | (go_at_call 48; refine (class_w k _).mono ?_; rw [HK.out]; rintro e wl ⟨rfl, rfl⟩)
    | (go_at_call 41; refine (cups_w _ _).mono ?_; rintro e wl ⟨rfl, rfl⟩)
    | (go_at_call 46; refine (needs_w f c na _ ln cn lo co i N U X _ hi HC.out HR (HN.out _ hb) HXS).mono ?_; rintro e wl ⟨⟨rn, re, rfl, hnr⟩, hv⟩; (try replace hbG := hbG.trans (hv.mono hbG.size)); (try replace hbn := hbn.trans (hv.mono hbn.size)); (try replace hbm := hbm.trans (hv.mono hbm.size)); replace hb := hb.trans (hv.mono hb.size); clear x1 x2 x3 x4; obtain ⟨x1, x2, x3, x4⟩ := BX.out _ hb; (try (clear x5; have x5 := HCL.out _ hb)); (try (clear y1; have y1 := HYG.out _ hbG)); (try (clear y2; have y2 := HYn.out _ hbn)); obtain ⟨rfl, rfl⟩ := needR_is hnr hn HPn.out (fun m hm => Int.not_le.2 (HLn.out m hm)); clear hnr)
    | (go_at_call 47; refine (keeps_w f k na _ ln cn lo co N U X _ HK.out HR (HN.out _ hb) HXS).mono ?_; rintro e wl ⟨⟨km, ke, rfl, hkr⟩, hv⟩; (try replace hbG := hbG.trans (hv.mono hbG.size)); (try replace hbn := hbn.trans (hv.mono hbn.size)); (try replace hbm := hbm.trans (hv.mono hbm.size)); replace hb := hb.trans (hv.mono hb.size); clear x1 x2 x3 x4; obtain ⟨x1, x2, x3, x4⟩ := BX.out _ hb; (try (clear x5; have x5 := HCL.out _ hb)); (try (clear y1; have y1 := HYG.out _ hbG)); (try (clear y2; have y2 := HYn.out _ hbn)); obtain ⟨rfl, rfl⟩ := needR_is hkr hm HPm.out HLm.out; clear hkr)
    | (go_at_call 43; refine (with_w _ _ _ _ _ _ _ _ _).mono ?_; rintro e wl ⟨rfl, hv⟩; (try replace hbG := hbG.trans (hv.mono hbG.size)); (try replace hbn := hbn.trans (hv.mono hbn.size)); (try replace hbm := hbm.trans (hv.mono hbm.size)); replace hb := hb.trans (hv.mono hb.size); clear x1 x2 x3 x4; obtain ⟨x1, x2, x3, x4⟩ := BX.out _ hb; (try (clear x5; have x5 := HCL.out _ hb)); (try (clear y1; have y1 := HYG.out _ hbG)); (try (clear y2; have y2 := HYn.out _ hbn)))
    | (go_at_call_of 21 m; refine (HSH.out m _ hm hb).mono ?_; rintro e wl ⟨⟨Am, Om, qcm, rfl, hAm, hNm⟩, hv⟩; (try replace hbG := hbG.trans (hv.mono hbG.size)); (try replace hbn := hbn.trans (hv.mono hbn.size)); (try replace hbm := hbm.trans (hv.mono hbm.size)); replace hb := hb.trans (hv.mono hb.size); clear x1 x2 x3 x4; obtain ⟨x1, x2, x3, x4⟩ := BX.out _ hb; (try (clear x5; have x5 := HCL.out _ hb)); (try (clear y1; have y1 := HYG.out _ hbG)); (try (clear y2; have y2 := HYn.out _ hbn)); have hbm := Below.refl wl.heap.size wl; have HIm : Hid (∀ w2, Below wl.heap.size wl w2 → IntSl w2 (some ⟨Am, Om, none⟩) lo (X m)) := Lib.hid (fun w2 h => .inr ⟨_, _, rfl, Nat.lt_of_lt_of_le hAm h.size, hNm.below hAm h⟩); clear hAm hNm)
    | (go_at_call_of 19 Am; refine (list_w _ _ _ _ _ _ _ _ _ _ N U (X m) _ hlt hlo3 (HN.out _ hb) (Lib.hid (HIm.out _ hbm))).mono ?_; rintro e wl ⟨⟨rb, rfl, hrb⟩, hv⟩; obtain rfl : rb = true := hrb.2 (HSP.out m hm); clear hrb; (try replace hbG := hbG.trans (hv.mono hbG.size)); (try replace hbn := hbn.trans (hv.mono hbn.size)); (try replace hbm := hbm.trans (hv.mono hbm.size)); replace hb := hb.trans (hv.mono hb.size); clear x1 x2 x3 x4; obtain ⟨x1, x2, x3, x4⟩ := BX.out _ hb; (try (clear x5; have x5 := HCL.out _ hb)); (try (clear y1; have y1 := HYG.out _ hbG)); (try (clear y2; have y2 := HYn.out _ hbn)))
    | (go_at_call_of 51 Am; refine (rfull_w f k na _ _ ln cn lo co _ N U (X m) _ q2 (HN.out _ hb) (Lib.hid (HIm.out _ hbm))).mono ?_; rintro e wl ⟨⟨rb, rfl, hrb⟩, hv⟩; (try replace hbG := hbG.trans (hv.mono hbG.size)); (try replace hbn := hbn.trans (hv.mono hbn.size)); (try replace hbm := hbm.trans (hv.mono hbm.size)); replace hb := hb.trans (hv.mono hb.size); clear x1 x2 x3 x4; obtain ⟨x1, x2, x3, x4⟩ := BX.out _ hb; (try (clear x5; have x5 := HCL.out _ hb)); (try (clear y1; have y1 := HYG.out _ hbG)); (try (clear y2; have y2 := HYn.out _ hbn)); (first | (have hq9 := hrb.2 HPm.out; subst hq9) | (have hq9 : rb = false := (by cases rb <;> first | rfl | exact (HPm.out (hrb.1 rfl)).elim); subst hq9)); clear hrb)
    | (go_at_call_of 21 n; refine (HSH.out n _ hn hb).mono ?_; rintro e wl ⟨⟨An, On, qcn, rfl, hAn, hNn⟩, hv⟩; (try replace hbG := hbG.trans (hv.mono hbG.size)); (try replace hbn := hbn.trans (hv.mono hbn.size)); (try replace hbm := hbm.trans (hv.mono hbm.size)); replace hb := hb.trans (hv.mono hb.size); clear x1 x2 x3 x4; obtain ⟨x1, x2, x3, x4⟩ := BX.out _ hb; (try (clear x5; have x5 := HCL.out _ hb)); (try (clear y1; have y1 := HYG.out _ hbG)); (try (clear y2; have y2 := HYn.out _ hbn)); have hbn := Below.refl wl.heap.size wl; have HIn : Hid (∀ w2, Below wl.heap.size wl w2 → IntSl w2 (some ⟨An, On, none⟩) lo (X n)) := Lib.hid (fun w2 h => .inr ⟨_, _, rfl, Nat.lt_of_lt_of_le hAn h.size, hNn.below hAn h⟩); have HYn : Hid (∀ w2, Below wl.heap.size wl w2 → w2.cell? ⟨An, On + i, none⟩ = some (.int .i64 (X n i))) := Lib.hid (fun w2 h => (hNn.below hAn h) i hi); have y2 := HYn.out _ hbn; clear hAn hNn)
    | (go_at_call_of 19 An; refine (list_w _ _ _ _ _ _ _ _ _ _ N U (X n) _ hlt hlo3 (HN.out _ hb) (Lib.hid (HIn.out _ hbn))).mono ?_; rintro e wl ⟨⟨rb, rfl, hrb⟩, hv⟩; obtain rfl : rb = true := hrb.2 (HSP.out n hn); clear hrb; (try replace hbG := hbG.trans (hv.mono hbG.size)); (try replace hbn := hbn.trans (hv.mono hbn.size)); (try replace hbm := hbm.trans (hv.mono hbm.size)); replace hb := hb.trans (hv.mono hb.size); clear x1 x2 x3 x4; obtain ⟨x1, x2, x3, x4⟩ := BX.out _ hb; (try (clear x5; have x5 := HCL.out _ hb)); (try (clear y1; have y1 := HYG.out _ hbG)); (try (clear y2; have y2 := HYn.out _ hbn)))
    | (go_at_call_of 21 G; refine (HSH.out G _ hG hb).mono ?_; rintro e wl ⟨⟨AG, OG, qcG, rfl, hAG, hNG⟩, hv⟩; (try replace hbG := hbG.trans (hv.mono hbG.size)); (try replace hbn := hbn.trans (hv.mono hbn.size)); (try replace hbm := hbm.trans (hv.mono hbm.size)); replace hb := hb.trans (hv.mono hb.size); clear x1 x2 x3 x4; obtain ⟨x1, x2, x3, x4⟩ := BX.out _ hb; (try (clear x5; have x5 := HCL.out _ hb)); (try (clear y1; have y1 := HYG.out _ hbG)); (try (clear y2; have y2 := HYn.out _ hbn)); have hbG := Below.refl wl.heap.size wl; have HIG : Hid (∀ w2, Below wl.heap.size wl w2 → IntSl w2 (some ⟨AG, OG, none⟩) lo (X G)) := Lib.hid (fun w2 h => .inr ⟨_, _, rfl, Nat.lt_of_lt_of_le hAG h.size, hNG.below hAG h⟩); have HYG : Hid (∀ w2, Below wl.heap.size wl w2 → w2.cell? ⟨AG, OG + i, none⟩ = some (.int .i64 (X G i))) := Lib.hid (fun w2 h => (hNG.below hAG h) i hi); have y1 := HYG.out _ hbG; clear hAG hNG)
    | (go_at_call_of 19 AG; refine (list_w _ _ _ _ _ _ _ _ _ _ N U (X G) _ hlt hlo3 (HN.out _ hb) (Lib.hid (HIG.out _ hbG))).mono ?_; rintro e wl ⟨⟨rb, rfl, hrb⟩, hv⟩; obtain rfl : rb = true := hrb.2 (HSP.out G hG); clear hrb; (try replace hbG := hbG.trans (hv.mono hbG.size)); (try replace hbn := hbn.trans (hv.mono hbn.size)); (try replace hbm := hbm.trans (hv.mono hbm.size)); replace hb := hb.trans (hv.mono hb.size); clear x1 x2 x3 x4; obtain ⟨x1, x2, x3, x4⟩ := BX.out _ hb; (try (clear x5; have x5 := HCL.out _ hb)); (try (clear y1; have y1 := HYG.out _ hbG)); (try (clear y2; have y2 := HYn.out _ hbn)))
    | (go_at_call_of 51 AG; refine (rfull_w f k na _ _ ln cn lo co _ N U (X G) _ q2 (HN.out _ hb) (Lib.hid (HIG.out _ hbG))).mono ?_; rintro e wl ⟨⟨rb, rfl, hrb⟩, hv⟩; (try replace hbG := hbG.trans (hv.mono hbG.size)); (try replace hbn := hbn.trans (hv.mono hbn.size)); (try replace hbm := hbm.trans (hv.mono hbm.size)); replace hb := hb.trans (hv.mono hb.size); clear x1 x2 x3 x4; obtain ⟨x1, x2, x3, x4⟩ := BX.out _ hb; (try (clear x5; have x5 := HCL.out _ hb)); (try (clear y1; have y1 := HYG.out _ hbG)); (try (clear y2; have y2 := HYn.out _ hbn)); (first | (have hq9 := hrb.2 HPGm.out; subst hq9) | (have hq9 : rb = false := (by cases rb <;> first | rfl | exact (HPGm.out (hrb.1 rfl)).elim); subst hq9)); clear hrb)
    | (go_at_call 15; refine (K.out _).mono ?_; rintro e wl ⟨rfl, hv⟩; (try replace hbG := hbG.trans (hv.mono hbG.size)); (try replace hbn := hbn.trans (hv.mono hbn.size)); (try replace hbm := hbm.trans (hv.mono hbm.size)); replace hb := hb.trans (hv.mono hb.size); clear x1 x2 x3 x4; obtain ⟨x1, x2, x3, x4⟩ := BX.out _ hb; (try (clear x5; have x5 := HCL.out _ hb)); (try (clear y1; have y1 := HYG.out _ hbG)); (try (clear y2; have y2 := HYn.out _ hbn))))
  all_goals
    go_ret
    exact ⟨rfl, below_al hb⟩

set_option maxRecDepth 100000 in
set_option maxHeartbeats 6000000 in
theorem lawen_h12 (f : Int) (na oa : Option Addr) (ln cn lo co : Nat) (N : Nat → N2) (U : Nat → O3) (i : Nat) (c k : Int) (G : Nat) (w : World) (hls : ln ≤ 1000000) (hlt : lo ≤ 1000000) (H : Hid (Tr7 w na oa ln lo N U)) (K : Hid KnownOk) (hi : i < lo) (hq : ln ≤ 8 ∧ lo ≤ 10) (HR : Hid (TreeP f ln lo N U)) (hc1 : ¬ c < 1) (hc2 : ¬ (U i).c < c) (HC : Hid (fromB 1 (U i).c c = true)) (HK : Hid (fromB 0 3 k = true)) (hG : G ≤ 200) (X : Nat → Nat → Int) (HXS : Hid (XS lo N U X)) (n : Nat) (hn : n ≤ 200) (HPn : Hid (c ≤ X n i)) (HLn : Hid (∀ m, m < n → X m i < c)) (hlen : (n : Int) ≤ (G : Int)) (hpgn : c ≤ X G i) (m : Nat) (hm : m ≤ 200) (HPm : Hid (FullP lo U (X m) k)) (HLm : Hid (∀ j, j < m → ¬ FullP lo U (X j) k)) (hlem : ¬ (m : Int) ≤ (G : Int)) (HPGm : Hid (¬ FullP lo U (X G) k))  :
    Calls Tryz.prog 12 #[.agg #[.int .i64 f, .slice na ln cn, .slice oa lo co], .int .i64 (i : Int), .int .i64 c, .int .i64 k, .int .i64 (G : Int)] w
      fun e w' => e = .returned (.bool true) ∧ Below w.heap.size w w' := by
  have hsh : decide (ln ≤ 8 ∧ lo ≤ 10) = true := decide_eq_true hq
  have hoz : fromB 0 ((lo : Int) - 1) (i : Int) = true := by simp only [fromB, decide_eq_true_eq]; omega
  have HO := Lib.hid hoz
  obtain ⟨C, P, hoa, hC, hn⟩ := H.out.ho.resolve_left (by omega)
  have HCL : Hid (∀ w2, Below (w.alloc (.cells #[.int .i64 f, .slice na ln cn, .slice oa lo co] 25)).heap.size (w.alloc (.cells #[.int .i64 f, .slice na ln cn, .slice oa lo co] 25)) w2 → w2.cell? ⟨C, P + i * 3 + 1, none⟩ = some (.int .i64 (U i).c)) := Lib.hid fun w2 h => ((below_al h).cell (p := ⟨C, P + i * 3 + 1, none⟩) hC).trans (hn i hi).2.1
  have n1 : (0 : Int) ≤ (i : Int) := by omega
  have n2 : (i : Int) < (lo : Int) := by omega
  subst hoa
  clear hn hoz
  have hcg : fromB 0 200 (G : Int) = true := cups_nat hG
  have hc0 : fromB 0 200 0 = true := by decide
  have HM1 : Hid (∀ a b : Nat, a ≤ b → b ≤ 200 → c ≤ X a i → c ≤ X b i) := Lib.hid fun a b h hb h1 => Int.le_trans h1 (xs_mono HR.out HXS.out h hb i)
  have HM2 : Hid (∀ a b : Nat, a ≤ b → b ≤ 200 → FullP lo U (X a) k → FullP lo U (X b) k) := Lib.hid fun a b h hb h1 => full_mono h1 (fun j => xs_mono HR.out HXS.out h hb j)
  have HSP : Hid (∀ a : Nat, a ≤ 200 → SharesP lo lo (X a) U) := Lib.hid fun a ha => sharesP_of (xs_vd HR.out HXS.out ha)
  have HSH : Hid (∀ (n : Nat) w2, n ≤ 200 → Below (w.alloc (.cells #[.int .i64 f, .slice na ln cn, .slice (some ⟨C, P, none⟩) lo co] 25)).heap.size (w.alloc (.cells #[.int .i64 f, .slice na ln cn, .slice (some ⟨C, P, none⟩) lo co] 25)) w2 → Calls Tryz.prog 21 #[.agg #[.int .i64 (n : Int), .slice na ln cn, .slice (some ⟨C, P, none⟩) lo co]] w2 fun e w' => (∃ A O cs, e = .returned (.tuple #[.slice (some ⟨A, O, none⟩) lo cs, .int .i64 0]) ∧ A < w'.heap.size ∧ NumAt w' A O lo (X n)) ∧ Below w2.heap.size w2 w') := Lib.hid fun n w2 hn h => by
    refine (shares_w (n : Int) na (some ⟨C, P, none⟩) ln cn lo co N U w2 (Lib.hid (tree_with HR.out (by omega) (by omega))) (Lib.hid (H.out.below (below_al h)))).mono ?_
    rintro e w' ⟨⟨sa, cs, t, he, hs, ho⟩, hb⟩
    obtain rfl : t = X n := ho.det (HXS.out n hn)
    obtain ⟨A, O, rfl, hA, hnm⟩ := hs.resolve_left (by omega)
    exact ⟨⟨A, O, cs, he, hA, hnm⟩, hb⟩
  have hlo3 : lo ≤ maxLen := by unfold maxLen; omega
  have q2 := HR.out.lo2
  have hpgd : decide (c ≤ X G i) = true := decide_eq_true hpgn
  have hld : decide ((n : Int) ≤ (G : Int)) = true := decide_eq_true hlen
  have hmd : decide ((m : Int) ≤ (G : Int)) = false := decide_eq_false hlem
  have hcun := cups_nat hn
  have hpn2 := HPn.out
  have hcum := cups_nat hm
  have BX := Lib.hid (fun (w1 : World) (hb : Below (w.alloc (.cells #[.int .i64 f, .slice na ln cn, .slice (some ⟨C, P, none⟩) lo co] 25)).heap.size (w.alloc (.cells #[.int .i64 f, .slice na ln cn, .slice (some ⟨C, P, none⟩) lo co] 25)) w1) => box7 hb)
  have HN : Hid (∀ w1, Below (w.alloc (.cells #[.int .i64 f, .slice na ln cn, .slice (some ⟨C, P, none⟩) lo co] 25)).heap.size (w.alloc (.cells #[.int .i64 f, .slice na ln cn, .slice (some ⟨C, P, none⟩) lo co] 25)) w1 → Hid (Tr7 w1 na (some ⟨C, P, none⟩) ln lo N U)) := Lib.hid fun w1 h => Lib.hid (H.out.below (below_al h))
  have hb : Below (w.alloc (.cells #[.int .i64 f, .slice na ln cn, .slice (some ⟨C, P, none⟩) lo co] 25)).heap.size (w.alloc (.cells #[.int .i64 f, .slice na ln cn, .slice (some ⟨C, P, none⟩) lo co] 25)) (w.alloc (.cells #[.int .i64 f, .slice na ln cn, .slice (some ⟨C, P, none⟩) lo co] 25)) := Below.refl _ _
  obtain ⟨x1, x2, x3, x4⟩ := BX.out _ hb
  clear H
  have x5 := HCL.out _ hb
  go_enter Tryz.func12, Tryz.ntmps12
  go_wp2_with (first
    | (go_at_call 14; refine (short_w _ _ _ _ _ _ _ _ (by unfold maxLen; omega) (by unfold maxLen; omega)).mono ?_; rw [hsh]; rintro e wl ⟨rfl, hv⟩; (try replace hbG := hbG.trans (hv.mono hbG.size)); (try replace hbn := hbn.trans (hv.mono hbn.size)); (try replace hbm := hbm.trans (hv.mono hbm.size)); replace hb := hb.trans (hv.mono hb.size); clear x1 x2 x3 x4; obtain ⟨x1, x2, x3, x4⟩ := BX.out _ hb; (try (clear x5; have x5 := HCL.out _ hb)); (try (clear y1; have y1 := HYG.out _ hbG)); (try (clear y2; have y2 := HYn.out _ hbn)))
    | (go_at_call 18; refine (tree_w _ _ _ _ _ _ _ N U _ hls hlt (HN.out _ hb)).mono ?_; rintro e wl ⟨⟨rb, rfl, hrb⟩, hv⟩; obtain rfl : rb = true := hrb.2 HR.out; clear hrb; (try replace hbG := hbG.trans (hv.mono hbG.size)); (try replace hbn := hbn.trans (hv.mono hbn.size)); (try replace hbm := hbm.trans (hv.mono hbm.size)); replace hb := hb.trans (hv.mono hb.size); clear x1 x2 x3 x4; obtain ⟨x1, x2, x3, x4⟩ := BX.out _ hb; (try (clear x5; have x5 := HCL.out _ hb)); (try (clear y1; have y1 := HYG.out _ hbG)); (try (clear y2; have y2 := HYn.out _ hbn)))
    | (go_at_call 29; refine (outlet_w _ _ _ _ _ _ _ _ _ hlt).mono ?_; rw [HO.out]; rintro e wl ⟨rfl, hv⟩; (try replace hbG := hbG.trans (hv.mono hbG.size)); (try replace hbn := hbn.trans (hv.mono hbn.size)); (try replace hbm := hbm.trans (hv.mono hbm.size)); replace hb := hb.trans (hv.mono hb.size); clear x1 x2 x3 x4; obtain ⟨x1, x2, x3, x4⟩ := BX.out _ hb; (try (clear x5; have x5 := HCL.out _ hb)); (try (clear y1; have y1 := HYG.out _ hbG)); (try (clear y2; have y2 := HYn.out _ hbn)))
    | (go_at_call 48; refine (class_w k _).mono ?_; rw [HK.out]; rintro e wl ⟨rfl, rfl⟩)
    | (go_at_call 41; refine (cups_w _ _).mono ?_; rintro e wl ⟨rfl, rfl⟩)
    | (go_at_call 46; refine (needs_w f c na _ ln cn lo co i N U X _ hi HC.out HR (HN.out _ hb) HXS).mono ?_; rintro e wl ⟨⟨rn, re, rfl, hnr⟩, hv⟩; (try replace hbG := hbG.trans (hv.mono hbG.size)); (try replace hbn := hbn.trans (hv.mono hbn.size)); (try replace hbm := hbm.trans (hv.mono hbm.size)); replace hb := hb.trans (hv.mono hb.size); clear x1 x2 x3 x4; obtain ⟨x1, x2, x3, x4⟩ := BX.out _ hb; (try (clear x5; have x5 := HCL.out _ hb)); (try (clear y1; have y1 := HYG.out _ hbG)); (try (clear y2; have y2 := HYn.out _ hbn)); obtain ⟨rfl, rfl⟩ := needR_is hnr hn HPn.out (fun m hm => Int.not_le.2 (HLn.out m hm)); clear hnr)
    | (go_at_call 47; refine (keeps_w f k na _ ln cn lo co N U X _ HK.out HR (HN.out _ hb) HXS).mono ?_; rintro e wl ⟨⟨km, ke, rfl, hkr⟩, hv⟩; (try replace hbG := hbG.trans (hv.mono hbG.size)); (try replace hbn := hbn.trans (hv.mono hbn.size)); (try replace hbm := hbm.trans (hv.mono hbm.size)); replace hb := hb.trans (hv.mono hb.size); clear x1 x2 x3 x4; obtain ⟨x1, x2, x3, x4⟩ := BX.out _ hb; (try (clear x5; have x5 := HCL.out _ hb)); (try (clear y1; have y1 := HYG.out _ hbG)); (try (clear y2; have y2 := HYn.out _ hbn)); obtain ⟨rfl, rfl⟩ := needR_is hkr hm HPm.out HLm.out; clear hkr)
    | (go_at_call 43; refine (with_w _ _ _ _ _ _ _ _ _).mono ?_; rintro e wl ⟨rfl, hv⟩; (try replace hbG := hbG.trans (hv.mono hbG.size)); (try replace hbn := hbn.trans (hv.mono hbn.size)); (try replace hbm := hbm.trans (hv.mono hbm.size)); replace hb := hb.trans (hv.mono hb.size); clear x1 x2 x3 x4; obtain ⟨x1, x2, x3, x4⟩ := BX.out _ hb; (try (clear x5; have x5 := HCL.out _ hb)); (try (clear y1; have y1 := HYG.out _ hbG)); (try (clear y2; have y2 := HYn.out _ hbn)))
    | (go_at_call_of 21 m; refine (HSH.out m _ hm hb).mono ?_; rintro e wl ⟨⟨Am, Om, qcm, rfl, hAm, hNm⟩, hv⟩; (try replace hbG := hbG.trans (hv.mono hbG.size)); (try replace hbn := hbn.trans (hv.mono hbn.size)); (try replace hbm := hbm.trans (hv.mono hbm.size)); replace hb := hb.trans (hv.mono hb.size); clear x1 x2 x3 x4; obtain ⟨x1, x2, x3, x4⟩ := BX.out _ hb; (try (clear x5; have x5 := HCL.out _ hb)); (try (clear y1; have y1 := HYG.out _ hbG)); (try (clear y2; have y2 := HYn.out _ hbn)); have hbm := Below.refl wl.heap.size wl; have HIm : Hid (∀ w2, Below wl.heap.size wl w2 → IntSl w2 (some ⟨Am, Om, none⟩) lo (X m)) := Lib.hid (fun w2 h => .inr ⟨_, _, rfl, Nat.lt_of_lt_of_le hAm h.size, hNm.below hAm h⟩); clear hAm hNm)
    | (go_at_call_of 19 Am; refine (list_w _ _ _ _ _ _ _ _ _ _ N U (X m) _ hlt hlo3 (HN.out _ hb) (Lib.hid (HIm.out _ hbm))).mono ?_; rintro e wl ⟨⟨rb, rfl, hrb⟩, hv⟩; obtain rfl : rb = true := hrb.2 (HSP.out m hm); clear hrb; (try replace hbG := hbG.trans (hv.mono hbG.size)); (try replace hbn := hbn.trans (hv.mono hbn.size)); (try replace hbm := hbm.trans (hv.mono hbm.size)); replace hb := hb.trans (hv.mono hb.size); clear x1 x2 x3 x4; obtain ⟨x1, x2, x3, x4⟩ := BX.out _ hb; (try (clear x5; have x5 := HCL.out _ hb)); (try (clear y1; have y1 := HYG.out _ hbG)); (try (clear y2; have y2 := HYn.out _ hbn)))
    | (go_at_call_of 51 Am; refine (rfull_w f k na _ _ ln cn lo co _ N U (X m) _ q2 (HN.out _ hb) (Lib.hid (HIm.out _ hbm))).mono ?_; rintro e wl ⟨⟨rb, rfl, hrb⟩, hv⟩; (try replace hbG := hbG.trans (hv.mono hbG.size)); (try replace hbn := hbn.trans (hv.mono hbn.size)); (try replace hbm := hbm.trans (hv.mono hbm.size)); replace hb := hb.trans (hv.mono hb.size); clear x1 x2 x3 x4; obtain ⟨x1, x2, x3, x4⟩ := BX.out _ hb; (try (clear x5; have x5 := HCL.out _ hb)); (try (clear y1; have y1 := HYG.out _ hbG)); (try (clear y2; have y2 := HYn.out _ hbn)); (first | (have hq9 := hrb.2 HPm.out; subst hq9) | (have hq9 : rb = false := (by cases rb <;> first | rfl | exact (HPm.out (hrb.1 rfl)).elim); subst hq9)); clear hrb)
    | (go_at_call_of 21 n; refine (HSH.out n _ hn hb).mono ?_; rintro e wl ⟨⟨An, On, qcn, rfl, hAn, hNn⟩, hv⟩; (try replace hbG := hbG.trans (hv.mono hbG.size)); (try replace hbn := hbn.trans (hv.mono hbn.size)); (try replace hbm := hbm.trans (hv.mono hbm.size)); replace hb := hb.trans (hv.mono hb.size); clear x1 x2 x3 x4; obtain ⟨x1, x2, x3, x4⟩ := BX.out _ hb; (try (clear x5; have x5 := HCL.out _ hb)); (try (clear y1; have y1 := HYG.out _ hbG)); (try (clear y2; have y2 := HYn.out _ hbn)); have hbn := Below.refl wl.heap.size wl; have HIn : Hid (∀ w2, Below wl.heap.size wl w2 → IntSl w2 (some ⟨An, On, none⟩) lo (X n)) := Lib.hid (fun w2 h => .inr ⟨_, _, rfl, Nat.lt_of_lt_of_le hAn h.size, hNn.below hAn h⟩); have HYn : Hid (∀ w2, Below wl.heap.size wl w2 → w2.cell? ⟨An, On + i, none⟩ = some (.int .i64 (X n i))) := Lib.hid (fun w2 h => (hNn.below hAn h) i hi); have y2 := HYn.out _ hbn; clear hAn hNn)
    | (go_at_call_of 19 An; refine (list_w _ _ _ _ _ _ _ _ _ _ N U (X n) _ hlt hlo3 (HN.out _ hb) (Lib.hid (HIn.out _ hbn))).mono ?_; rintro e wl ⟨⟨rb, rfl, hrb⟩, hv⟩; obtain rfl : rb = true := hrb.2 (HSP.out n hn); clear hrb; (try replace hbG := hbG.trans (hv.mono hbG.size)); (try replace hbn := hbn.trans (hv.mono hbn.size)); (try replace hbm := hbm.trans (hv.mono hbm.size)); replace hb := hb.trans (hv.mono hb.size); clear x1 x2 x3 x4; obtain ⟨x1, x2, x3, x4⟩ := BX.out _ hb; (try (clear x5; have x5 := HCL.out _ hb)); (try (clear y1; have y1 := HYG.out _ hbG)); (try (clear y2; have y2 := HYn.out _ hbn)))
    | (go_at_call_of 21 G; refine (HSH.out G _ hG hb).mono ?_; rintro e wl ⟨⟨AG, OG, qcG, rfl, hAG, hNG⟩, hv⟩; (try replace hbG := hbG.trans (hv.mono hbG.size)); (try replace hbn := hbn.trans (hv.mono hbn.size)); (try replace hbm := hbm.trans (hv.mono hbm.size)); replace hb := hb.trans (hv.mono hb.size); clear x1 x2 x3 x4; obtain ⟨x1, x2, x3, x4⟩ := BX.out _ hb; (try (clear x5; have x5 := HCL.out _ hb)); (try (clear y1; have y1 := HYG.out _ hbG)); (try (clear y2; have y2 := HYn.out _ hbn)); have hbG := Below.refl wl.heap.size wl; have HIG : Hid (∀ w2, Below wl.heap.size wl w2 → IntSl w2 (some ⟨AG, OG, none⟩) lo (X G)) := Lib.hid (fun w2 h => .inr ⟨_, _, rfl, Nat.lt_of_lt_of_le hAG h.size, hNG.below hAG h⟩); have HYG : Hid (∀ w2, Below wl.heap.size wl w2 → w2.cell? ⟨AG, OG + i, none⟩ = some (.int .i64 (X G i))) := Lib.hid (fun w2 h => (hNG.below hAG h) i hi); have y1 := HYG.out _ hbG; clear hAG hNG)
    | (go_at_call_of 19 AG; refine (list_w _ _ _ _ _ _ _ _ _ _ N U (X G) _ hlt hlo3 (HN.out _ hb) (Lib.hid (HIG.out _ hbG))).mono ?_; rintro e wl ⟨⟨rb, rfl, hrb⟩, hv⟩; obtain rfl : rb = true := hrb.2 (HSP.out G hG); clear hrb; (try replace hbG := hbG.trans (hv.mono hbG.size)); (try replace hbn := hbn.trans (hv.mono hbn.size)); (try replace hbm := hbm.trans (hv.mono hbm.size)); replace hb := hb.trans (hv.mono hb.size); clear x1 x2 x3 x4; obtain ⟨x1, x2, x3, x4⟩ := BX.out _ hb; (try (clear x5; have x5 := HCL.out _ hb)); (try (clear y1; have y1 := HYG.out _ hbG)); (try (clear y2; have y2 := HYn.out _ hbn)))
    | (go_at_call_of 51 AG; refine (rfull_w f k na _ _ ln cn lo co _ N U (X G) _ q2 (HN.out _ hb) (Lib.hid (HIG.out _ hbG))).mono ?_; rintro e wl ⟨⟨rb, rfl, hrb⟩, hv⟩; (try replace hbG := hbG.trans (hv.mono hbG.size)); (try replace hbn := hbn.trans (hv.mono hbn.size)); (try replace hbm := hbm.trans (hv.mono hbm.size)); replace hb := hb.trans (hv.mono hb.size); clear x1 x2 x3 x4; obtain ⟨x1, x2, x3, x4⟩ := BX.out _ hb; (try (clear x5; have x5 := HCL.out _ hb)); (try (clear y1; have y1 := HYG.out _ hbG)); (try (clear y2; have y2 := HYn.out _ hbn)); (first | (have hq9 := hrb.2 HPGm.out; subst hq9) | (have hq9 : rb = false := (by cases rb <;> first | rfl | exact (HPGm.out (hrb.1 rfl)).elim); subst hq9)); clear hrb)
    | (go_at_call 15; refine (K.out _).mono ?_; rintro e wl ⟨rfl, hv⟩; (try replace hbG := hbG.trans (hv.mono hbG.size)); (try replace hbn := hbn.trans (hv.mono hbn.size)); (try replace hbm := hbm.trans (hv.mono hbm.size)); replace hb := hb.trans (hv.mono hb.size); clear x1 x2 x3 x4; obtain ⟨x1, x2, x3, x4⟩ := BX.out _ hb; (try (clear x5; have x5 := HCL.out _ hb)); (try (clear y1; have y1 := HYG.out _ hbG)); (try (clear y2; have y2 := HYn.out _ hbn))))
  all_goals
    go_ret
    exact ⟨rfl, below_al hb⟩

set_option maxRecDepth 100000 in
set_option maxHeartbeats 6000000 in
theorem lawen_h13 (f : Int) (na oa : Option Addr) (ln cn lo co : Nat) (N : Nat → N2) (U : Nat → O3) (i : Nat) (c k : Int) (G : Nat) (w : World) (hls : ln ≤ 1000000) (hlt : lo ≤ 1000000) (H : Hid (Tr7 w na oa ln lo N U)) (K : Hid KnownOk) (hi : i < lo) (hq : ln ≤ 8 ∧ lo ≤ 10) (HR : Hid (TreeP f ln lo N U)) (hc1 : ¬ c < 1) (hc2 : ¬ (U i).c < c) (HC : Hid (fromB 1 (U i).c c = true)) (HK : Hid (fromB 0 3 k = true)) (hG : G ≤ 200) (X : Nat → Nat → Int) (HXS : Hid (XS lo N U X)) (n : Nat) (hn : n ≤ 200) (HPn : Hid (c ≤ X n i)) (HLn : Hid (∀ m, m < n → X m i < c)) (hlen : (n : Int) ≤ (G : Int)) (hpgn : c ≤ X G i) (HNm : Hid (∀ j, j ≤ 200 → ¬ FullP lo U (X j) k)) (HPGm : Hid (¬ FullP lo U (X G) k))  :
    Calls Tryz.prog 12 #[.agg #[.int .i64 f, .slice na ln cn, .slice oa lo co], .int .i64 (i : Int), .int .i64 c, .int .i64 k, .int .i64 (G : Int)] w
      fun e w' => e = .returned (.bool true) ∧ Below w.heap.size w w' := by
  have hsh : decide (ln ≤ 8 ∧ lo ≤ 10) = true := decide_eq_true hq
  have hoz : fromB 0 ((lo : Int) - 1) (i : Int) = true := by simp only [fromB, decide_eq_true_eq]; omega
  have HO := Lib.hid hoz
  obtain ⟨C, P, hoa, hC, hn⟩ := H.out.ho.resolve_left (by omega)
  have HCL : Hid (∀ w2, Below (w.alloc (.cells #[.int .i64 f, .slice na ln cn, .slice oa lo co] 25)).heap.size (w.alloc (.cells #[.int .i64 f, .slice na ln cn, .slice oa lo co] 25)) w2 → w2.cell? ⟨C, P + i * 3 + 1, none⟩ = some (.int .i64 (U i).c)) := Lib.hid fun w2 h => ((below_al h).cell (p := ⟨C, P + i * 3 + 1, none⟩) hC).trans (hn i hi).2.1
  have n1 : (0 : Int) ≤ (i : Int) := by omega
  have n2 : (i : Int) < (lo : Int) := by omega
  subst hoa
  clear hn hoz
  have hcg : fromB 0 200 (G : Int) = true := cups_nat hG
  have hc0 : fromB 0 200 0 = true := by decide
  have HM1 : Hid (∀ a b : Nat, a ≤ b → b ≤ 200 → c ≤ X a i → c ≤ X b i) := Lib.hid fun a b h hb h1 => Int.le_trans h1 (xs_mono HR.out HXS.out h hb i)
  have HM2 : Hid (∀ a b : Nat, a ≤ b → b ≤ 200 → FullP lo U (X a) k → FullP lo U (X b) k) := Lib.hid fun a b h hb h1 => full_mono h1 (fun j => xs_mono HR.out HXS.out h hb j)
  have HSP : Hid (∀ a : Nat, a ≤ 200 → SharesP lo lo (X a) U) := Lib.hid fun a ha => sharesP_of (xs_vd HR.out HXS.out ha)
  have HSH : Hid (∀ (n : Nat) w2, n ≤ 200 → Below (w.alloc (.cells #[.int .i64 f, .slice na ln cn, .slice (some ⟨C, P, none⟩) lo co] 25)).heap.size (w.alloc (.cells #[.int .i64 f, .slice na ln cn, .slice (some ⟨C, P, none⟩) lo co] 25)) w2 → Calls Tryz.prog 21 #[.agg #[.int .i64 (n : Int), .slice na ln cn, .slice (some ⟨C, P, none⟩) lo co]] w2 fun e w' => (∃ A O cs, e = .returned (.tuple #[.slice (some ⟨A, O, none⟩) lo cs, .int .i64 0]) ∧ A < w'.heap.size ∧ NumAt w' A O lo (X n)) ∧ Below w2.heap.size w2 w') := Lib.hid fun n w2 hn h => by
    refine (shares_w (n : Int) na (some ⟨C, P, none⟩) ln cn lo co N U w2 (Lib.hid (tree_with HR.out (by omega) (by omega))) (Lib.hid (H.out.below (below_al h)))).mono ?_
    rintro e w' ⟨⟨sa, cs, t, he, hs, ho⟩, hb⟩
    obtain rfl : t = X n := ho.det (HXS.out n hn)
    obtain ⟨A, O, rfl, hA, hnm⟩ := hs.resolve_left (by omega)
    exact ⟨⟨A, O, cs, he, hA, hnm⟩, hb⟩
  have hlo3 : lo ≤ maxLen := by unfold maxLen; omega
  have q2 := HR.out.lo2
  have hpgd : decide (c ≤ X G i) = true := decide_eq_true hpgn
  have hld : decide ((n : Int) ≤ (G : Int)) = true := decide_eq_true hlen
  have hcun := cups_nat hn
  have hpn2 := HPn.out
  have BX := Lib.hid (fun (w1 : World) (hb : Below (w.alloc (.cells #[.int .i64 f, .slice na ln cn, .slice (some ⟨C, P, none⟩) lo co] 25)).heap.size (w.alloc (.cells #[.int .i64 f, .slice na ln cn, .slice (some ⟨C, P, none⟩) lo co] 25)) w1) => box7 hb)
  have HN : Hid (∀ w1, Below (w.alloc (.cells #[.int .i64 f, .slice na ln cn, .slice (some ⟨C, P, none⟩) lo co] 25)).heap.size (w.alloc (.cells #[.int .i64 f, .slice na ln cn, .slice (some ⟨C, P, none⟩) lo co] 25)) w1 → Hid (Tr7 w1 na (some ⟨C, P, none⟩) ln lo N U)) := Lib.hid fun w1 h => Lib.hid (H.out.below (below_al h))
  have hb : Below (w.alloc (.cells #[.int .i64 f, .slice na ln cn, .slice (some ⟨C, P, none⟩) lo co] 25)).heap.size (w.alloc (.cells #[.int .i64 f, .slice na ln cn, .slice (some ⟨C, P, none⟩) lo co] 25)) (w.alloc (.cells #[.int .i64 f, .slice na ln cn, .slice (some ⟨C, P, none⟩) lo co] 25)) := Below.refl _ _
  obtain ⟨x1, x2, x3, x4⟩ := BX.out _ hb
  clear H
  have x5 := HCL.out _ hb
  go_enter Tryz.func12, Tryz.ntmps12
  go_wp2_with (first
    | (go_at_call 14; refine (short_w _ _ _ _ _ _ _ _ (by unfold maxLen; omega) (by unfold maxLen; omega)).mono ?_; rw [hsh]; rintro e wl ⟨rfl, hv⟩; (try replace hbG := hbG.trans (hv.mono hbG.size)); (try replace hbn := hbn.trans (hv.mono hbn.size)); (try replace hbm := hbm.trans (hv.mono hbm.size)); replace hb := hb.trans (hv.mono hb.size); clear x1 x2 x3 x4; obtain ⟨x1, x2, x3, x4⟩ := BX.out _ hb; (try (clear x5; have x5 := HCL.out _ hb)); (try (clear y1; have y1 := HYG.out _ hbG)); (try (clear y2; have y2 := HYn.out _ hbn)))
    | (go_at_call 18; refine (tree_w _ _ _ _ _ _ _ N U _ hls hlt (HN.out _ hb)).mono ?_; rintro e wl ⟨⟨rb, rfl, hrb⟩, hv⟩; obtain rfl : rb = true := hrb.2 HR.out; clear hrb; (try replace hbG := hbG.trans (hv.mono hbG.size)); (try replace hbn := hbn.trans (hv.mono hbn.size)); (try replace hbm := hbm.trans (hv.mono hbm.size)); replace hb := hb.trans (hv.mono hb.size); clear x1 x2 x3 x4; obtain ⟨x1, x2, x3, x4⟩ := BX.out _ hb; (try (clear x5; have x5 := HCL.out _ hb)); (try (clear y1; have y1 := HYG.out _ hbG)); (try (clear y2; have y2 := HYn.out _ hbn)))
    | (go_at_call 29; refine (outlet_w _ _ _ _ _ _ _ _ _ hlt).mono ?_; rw [HO.out]; rintro e wl ⟨rfl, hv⟩; (try replace hbG := hbG.trans (hv.mono hbG.size)); (try replace hbn := hbn.trans (hv.mono hbn.size)); (try replace hbm := hbm.trans (hv.mono hbm.size)); replace hb := hb.trans (hv.mono hb.size); clear x1 x2 x3 x4; obtain ⟨x1, x2, x3, x4⟩ := BX.out _ hb; (try (clear x5; have x5 := HCL.out _ hb)); (try (clear y1; have y1 := HYG.out _ hbG)); (try (clear y2; have y2 := HYn.out _ hbn)))
    | (go_at_call 48; refine (class_w k _).mono ?_; rw [HK.out]; rintro e wl ⟨rfl, rfl⟩)
    | (go_at_call 41; refine (cups_w _ _).mono ?_; rintro e wl ⟨rfl, rfl⟩)
    | (go_at_call 46; refine (needs_w f c na _ ln cn lo co i N U X _ hi HC.out HR (HN.out _ hb) HXS).mono ?_; rintro e wl ⟨⟨rn, re, rfl, hnr⟩, hv⟩; (try replace hbG := hbG.trans (hv.mono hbG.size)); (try replace hbn := hbn.trans (hv.mono hbn.size)); (try replace hbm := hbm.trans (hv.mono hbm.size)); replace hb := hb.trans (hv.mono hb.size); clear x1 x2 x3 x4; obtain ⟨x1, x2, x3, x4⟩ := BX.out _ hb; (try (clear x5; have x5 := HCL.out _ hb)); (try (clear y1; have y1 := HYG.out _ hbG)); (try (clear y2; have y2 := HYn.out _ hbn)); obtain ⟨rfl, rfl⟩ := needR_is hnr hn HPn.out (fun m hm => Int.not_le.2 (HLn.out m hm)); clear hnr)
    | (go_at_call 47; refine (keeps_w f k na _ ln cn lo co N U X _ HK.out HR (HN.out _ hb) HXS).mono ?_; rintro e wl ⟨⟨km, ke, rfl, hkr⟩, hv⟩; (try replace hbG := hbG.trans (hv.mono hbG.size)); (try replace hbn := hbn.trans (hv.mono hbn.size)); (try replace hbm := hbm.trans (hv.mono hbm.size)); replace hb := hb.trans (hv.mono hb.size); clear x1 x2 x3 x4; obtain ⟨x1, x2, x3, x4⟩ := BX.out _ hb; (try (clear x5; have x5 := HCL.out _ hb)); (try (clear y1; have y1 := HYG.out _ hbG)); (try (clear y2; have y2 := HYn.out _ hbn)); obtain ⟨rfl, rfl⟩ := needR_no hkr HNm.out; clear hkr)
    | (go_at_call 43; refine (with_w _ _ _ _ _ _ _ _ _).mono ?_; rintro e wl ⟨rfl, hv⟩; (try replace hbG := hbG.trans (hv.mono hbG.size)); (try replace hbn := hbn.trans (hv.mono hbn.size)); (try replace hbm := hbm.trans (hv.mono hbm.size)); replace hb := hb.trans (hv.mono hb.size); clear x1 x2 x3 x4; obtain ⟨x1, x2, x3, x4⟩ := BX.out _ hb; (try (clear x5; have x5 := HCL.out _ hb)); (try (clear y1; have y1 := HYG.out _ hbG)); (try (clear y2; have y2 := HYn.out _ hbn)))
    | (go_at_call_of 21 n; refine (HSH.out n _ hn hb).mono ?_; rintro e wl ⟨⟨An, On, qcn, rfl, hAn, hNn⟩, hv⟩; (try replace hbG := hbG.trans (hv.mono hbG.size)); (try replace hbn := hbn.trans (hv.mono hbn.size)); (try replace hbm := hbm.trans (hv.mono hbm.size)); replace hb := hb.trans (hv.mono hb.size); clear x1 x2 x3 x4; obtain ⟨x1, x2, x3, x4⟩ := BX.out _ hb; (try (clear x5; have x5 := HCL.out _ hb)); (try (clear y1; have y1 := HYG.out _ hbG)); (try (clear y2; have y2 := HYn.out _ hbn)); have hbn := Below.refl wl.heap.size wl; have HIn : Hid (∀ w2, Below wl.heap.size wl w2 → IntSl w2 (some ⟨An, On, none⟩) lo (X n)) := Lib.hid (fun w2 h => .inr ⟨_, _, rfl, Nat.lt_of_lt_of_le hAn h.size, hNn.below hAn h⟩); have HYn : Hid (∀ w2, Below wl.heap.size wl w2 → w2.cell? ⟨An, On + i, none⟩ = some (.int .i64 (X n i))) := Lib.hid (fun w2 h => (hNn.below hAn h) i hi); have y2 := HYn.out _ hbn; clear hAn hNn)
    | (go_at_call_of 19 An; refine (list_w _ _ _ _ _ _ _ _ _ _ N U (X n) _ hlt hlo3 (HN.out _ hb) (Lib.hid (HIn.out _ hbn))).mono ?_; rintro e wl ⟨⟨rb, rfl, hrb⟩, hv⟩; obtain rfl : rb = true := hrb.2 (HSP.out n hn); clear hrb; (try replace hbG := hbG.trans (hv.mono hbG.size)); (try replace hbn := hbn.trans (hv.mono hbn.size)); (try replace hbm := hbm.trans (hv.mono hbm.size)); replace hb := hb.trans (hv.mono hb.size); clear x1 x2 x3 x4; obtain ⟨x1, x2, x3, x4⟩ := BX.out _ hb; (try (clear x5; have x5 := HCL.out _ hb)); (try (clear y1; have y1 := HYG.out _ hbG)); (try (clear y2; have y2 := HYn.out _ hbn)))
    | (go_at_call_of 21 G; refine (HSH.out G _ hG hb).mono ?_; rintro e wl ⟨⟨AG, OG, qcG, rfl, hAG, hNG⟩, hv⟩; (try replace hbG := hbG.trans (hv.mono hbG.size)); (try replace hbn := hbn.trans (hv.mono hbn.size)); (try replace hbm := hbm.trans (hv.mono hbm.size)); replace hb := hb.trans (hv.mono hb.size); clear x1 x2 x3 x4; obtain ⟨x1, x2, x3, x4⟩ := BX.out _ hb; (try (clear x5; have x5 := HCL.out _ hb)); (try (clear y1; have y1 := HYG.out _ hbG)); (try (clear y2; have y2 := HYn.out _ hbn)); have hbG := Below.refl wl.heap.size wl; have HIG : Hid (∀ w2, Below wl.heap.size wl w2 → IntSl w2 (some ⟨AG, OG, none⟩) lo (X G)) := Lib.hid (fun w2 h => .inr ⟨_, _, rfl, Nat.lt_of_lt_of_le hAG h.size, hNG.below hAG h⟩); have HYG : Hid (∀ w2, Below wl.heap.size wl w2 → w2.cell? ⟨AG, OG + i, none⟩ = some (.int .i64 (X G i))) := Lib.hid (fun w2 h => (hNG.below hAG h) i hi); have y1 := HYG.out _ hbG; clear hAG hNG)
    | (go_at_call_of 19 AG; refine (list_w _ _ _ _ _ _ _ _ _ _ N U (X G) _ hlt hlo3 (HN.out _ hb) (Lib.hid (HIG.out _ hbG))).mono ?_; rintro e wl ⟨⟨rb, rfl, hrb⟩, hv⟩; obtain rfl : rb = true := hrb.2 (HSP.out G hG); clear hrb; (try replace hbG := hbG.trans (hv.mono hbG.size)); (try replace hbn := hbn.trans (hv.mono hbn.size)); (try replace hbm := hbm.trans (hv.mono hbm.size)); replace hb := hb.trans (hv.mono hb.size); clear x1 x2 x3 x4; obtain ⟨x1, x2, x3, x4⟩ := BX.out _ hb; (try (clear x5; have x5 := HCL.out _ hb)); (try (clear y1; have y1 := HYG.out _ hbG)); (try (clear y2; have y2 := HYn.out _ hbn)))
    | (go_at_call_of 51 AG; refine (rfull_w f k na _ _ ln cn lo co _ N U (X G) _ q2 (HN.out _ hb) (Lib.hid (HIG.out _ hbG))).mono ?_; rintro e wl ⟨⟨rb, rfl, hrb⟩, hv⟩; (try replace hbG := hbG.trans (hv.mono hbG.size)); (try replace hbn := hbn.trans (hv.mono hbn.size)); (try replace hbm := hbm.trans (hv.mono hbm.size)); replace hb := hb.trans (hv.mono hb.size); clear x1 x2 x3 x4; obtain ⟨x1, x2, x3, x4⟩ := BX.out _ hb; (try (clear x5; have x5 := HCL.out _ hb)); (try (clear y1; have y1 := HYG.out _ hbG)); (try (clear y2; have y2 := HYn.out _ hbn)); (first | (have hq9 := hrb.2 HPGm.out; subst hq9) | (have hq9 : rb = false := (by cases rb <;> first | rfl | exact (HPGm.out (hrb.1 rfl)).elim); subst hq9)); clear hrb)
    | (go_at_call 15; refine (K.out _).mono ?_; rintro e wl ⟨rfl, hv⟩; (try replace hbG := hbG.trans (hv.mono hbG.size)); (try replace hbn := hbn.trans (hv.mono hbn.size)); (try replace hbm := hbm.trans (hv.mono hbm.size)); replace hb := hb.trans (hv.mono hb.size); clear x1 x2 x3 x4; obtain ⟨x1, x2, x3, x4⟩ := BX.out _ hb; (try (clear x5; have x5 := HCL.out _ hb)); (try (clear y1; have y1 := HYG.out _ hbG)); (try (clear y2; have y2 := HYn.out _ hbn))))
  all_goals
    go_ret
    exact ⟨rfl, below_al hb⟩
end Go.Kn

namespace Go.Kn
open Go Go.Proofs Go.RowKit

set_option maxRecDepth 100000 in
theorem neq_tt2 (w : World) : (binOp BinOp.neq 4 (.bool true) (.bool true)).run Tryz.prog w = .ok (.bool false) w := rfl
attribute [local go_sem] neq_tt2

set_option maxRecDepth 100000 in
set_option maxHeartbeats 6000000 in
theorem lawen_h21 (f : Int) (na oa : Option Addr) (ln cn lo co : Nat) (N : Nat → N2) (U : Nat → O3) (i : Nat) (c k : Int) (G : Nat) (w : World) (hls : ln ≤ 1000000) (hlt : lo ≤ 1000000) (H : Hid (Tr7 w na oa ln lo N U)) (K : Hid KnownOk) (hi : i < lo) (hq : ln ≤ 8 ∧ lo ≤ 10) (HR : Hid (TreeP f ln lo N U)) (hc1 : ¬ c < 1) (hc2 : ¬ (U i).c < c) (HC : Hid (fromB 1 (U i).c c = true)) (HK : Hid (fromB 0 3 k = true)) (hG : G ≤ 200) (X : Nat → Nat → Int) (HXS : Hid (XS lo N U X)) (n : Nat) (hn : n ≤ 200) (HPn : Hid (c ≤ X n i)) (HLn : Hid (∀ m, m < n → X m i < c)) (hlen : ¬ (n : Int) ≤ (G : Int)) (hpgn : ¬ c ≤ X G i) (m : Nat) (hm : m ≤ 200) (HPm : Hid (FullP lo U (X m) k)) (HLm : Hid (∀ j, j < m → ¬ FullP lo U (X j) k)) (hlem : (m : Int) ≤ (G : Int)) (HPGm : Hid (FullP lo U (X G) k))  :
    Calls Tryz.prog 12 #[.agg #[.int .i64 f, .slice na ln cn, .slice oa lo co], .int .i64 (i : Int), .int .i64 c, .int .i64 k, .int .i64 (G : Int)] w
      fun e w' => e = .returned (.bool true) ∧ Below w.heap.size w w' := by
  have hsh : decide (ln ≤ 8 ∧ lo ≤ 10) = true := decide_eq_true hq
  have hoz : fromB 0 ((lo : Int) - 1) (i : Int) = true := by simp only [fromB, decide_eq_true_eq]; omega
  have HO := Lib.hid hoz
  obtain ⟨C, P, hoa, hC, hn⟩ := H.out.ho.resolve_left (by omega)
  have HCL : Hid (∀ w2, Below (w.alloc (.cells #[.int .i64 f, .slice na ln cn, .slice oa lo co] 25)).heap.size (w.alloc (.cells #[.int .i64 f, .slice na ln cn, .slice oa lo co] 25)) w2 → w2.cell? ⟨C, P + i * 3 + 1, none⟩ = some (.int .i64 (U i).c)) := Lib.hid fun w2 h => ((below_al h).cell (p := ⟨C, P + i * 3 + 1, none⟩) hC).trans (hn i hi).2.1
  have n1 : (0 : Int) ≤ (i : Int) := by omega
  have n2 : (i : Int) < (lo : Int) := by omega
  subst hoa
  clear hn hoz
  have hcg : fromB 0 200 (G : Int) = true := cups_nat hG
  have hc0 : fromB 0 200 0 = true := by decide
  have HM1 : Hid (∀ a b : Nat, a ≤ b → b ≤ 200 → c ≤ X a i → c ≤ X b i) := Lib.hid fun a b h hb h1 => Int.le_trans h1 (xs_mono HR.out HXS.out h hb i)
  have HM2 : Hid (∀ a b : Nat, a ≤ b → b ≤ 200 → FullP lo U (X a) k → FullP lo U (X b) k) := Lib.hid fun a b h hb h1 => full_mono h1 (fun j => xs_mono HR.out HXS.out h hb j)
  have HSP : Hid (∀ a : Nat, a ≤ 200 → SharesP lo lo (X a) U) := Lib.hid fun a ha => sharesP_of (xs_vd HR.out HXS.out ha)
  have HSH : Hid (∀ (n : Nat) w2, n ≤ 200 → Below (w.alloc (.cells #[.int .i64 f, .slice na ln cn, .slice (some ⟨C, P, none⟩) lo co] 25)).heap.size (w.alloc (.cells #[.int .i64 f, .slice na ln cn, .slice (some ⟨C, P, none⟩) lo co] 25)) w2 → Calls Tryz.prog 21 #[.agg #[.int .i64 (n : Int), .slice na ln cn, .slice (some ⟨C, P, none⟩) lo co]] w2 fun e w' => (∃ A O cs, e = .returned (.tuple #[.slice (some ⟨A, O, none⟩) lo cs, .int .i64 0]) ∧ A < w'.heap.size ∧ NumAt w' A O lo (X n)) ∧ Below w2.heap.size w2 w') := Lib.hid fun n w2 hn h => by
    refine (shares_w (n : Int) na (some ⟨C, P, none⟩) ln cn lo co N U w2 (Lib.hid (tree_with HR.out (by omega) (by omega))) (Lib.hid (H.out.below (below_al h)))).mono ?_
    rintro e w' ⟨⟨sa, cs, t, he, hs, ho⟩, hb⟩
    obtain rfl : t = X n := ho.det (HXS.out n hn)
    obtain ⟨A, O, rfl, hA, hnm⟩ := hs.resolve_left (by omega)
    exact ⟨⟨A, O, cs, he, hA, hnm⟩, hb⟩
  have hlo3 : lo ≤ maxLen := by unfold maxLen; omega
  have q2 := HR.out.lo2
  have hpgd : decide (c ≤ X G i) = false := decide_eq_false hpgn
  have hld : decide ((n : Int) ≤ (G : Int)) = false := decide_eq_false hlen
  have hmd : decide ((m : Int) ≤ (G : Int)) = true := decide_eq_true hlem
  have hcun := cups_nat hn
  have hpn2 := HPn.out
  have hcum := cups_nat hm
  have BX := Lib.hid (fun (w1 : World) (hb : Below (w.alloc (.cells #[.int .i64 f, .slice na ln cn, .slice (some ⟨C, P, none⟩) lo co] 25)).heap.size (w.alloc (.cells #[.int .i64 f, .slice na ln cn, .slice (some ⟨C, P, none⟩) lo co] 25)) w1) => box7 hb)
  have HN : Hid (∀ w1, Below (w.alloc (.cells #[.int .i64 f, .slice na ln cn, .slice (some ⟨C, P, none⟩) lo co] 25)).heap.size (w.alloc (.cells #[.int .i64 f, .slice na ln cn, .slice (some ⟨C, P, none⟩) lo co] 25)) w1 → Hid (Tr7 w1 na (some ⟨C, P, none⟩) ln lo N U)) := Lib.hid fun w1 h => Lib.hid (H.out.below (below_al h))
  have hb : Below (w.alloc (.cells #[.int .i64 f, .slice na ln cn, .slice (some ⟨C, P, none⟩) lo co] 25)).heap.size (w.alloc (.cells #[.int .i64 f, .slice na ln cn, .slice (some ⟨C, P, none⟩) lo co] 25)) (w.alloc (.cells #[.int .i64 f, .slice na ln cn, .slice (some ⟨C, P, none⟩) lo co] 25)) := Below.refl _ _
  obtain ⟨x1, x2, x3, x4⟩ := BX.out _ hb
  clear H
  have x5 := HCL.out _ hb
  go_enter Tryz.func12, Tryz.ntmps12
  go_wp2_with (first
    | (go_at_call 14; refine (short_w _ _ _ _ _ _ _ _ (by unfold maxLen; omega) (by unfold maxLen; omega)).mono ?_; rw [hsh]; rintro e wl ⟨rfl, hv⟩; (try replace hbG := hbG.trans (hv.mono hbG.size)); (try replace hbn := hbn.trans (hv.mono hbn.size)); (try replace hbm := hbm.trans (hv.mono hbm.size)); replace hb := hb.trans (hv.mono hb.size); clear x1 x2 x3 x4; obtain ⟨x1, x2, x3, x4⟩ := BX.out _ hb; (try (clear x5; have x5 := HCL.out _ hb)); (try (clear y1; have y1 := HYG.out _ hbG)); (try (clear y2; have y2 := HYn.out _ hbn)))
    | (go_at_call 18; refine (tree_w _ _ _ _ _ _ _ N U _ hls hlt (HN.out _ hb)).mono ?_; rintro e wl ⟨⟨rb, rfl, hrb⟩, hv⟩; obtain rfl : rb = true := hrb.2 HR.out; clear hrb; (try replace hbG := hbG.trans (hv.mono hbG.size)); (try replace hbn := hbn.trans (hv.mono hbn.size)); (try replace hbm := hbm.trans (hv.mono hbm.size)); replace hb := hb.trans (hv.mono hb.size); clear x1 x2 x3 x4; obtain ⟨x1, x2, x3, x4⟩ := BX.out _ hb; (try (clear x5; have x5 := HCL.out _ hb)); (try (clear y1; have y1 := HYG.out _ hbG)); (try (clear y2; have y2 := HYn.out _ hbn)))
    | (go_at_call 29; refine (outlet_w _ _ _ _ _ _ _ _ _ hlt).mono ?_; rw [HO.out]; rintro e wl ⟨rfl, hv⟩; (try replace hbG := hbG.trans (hv.mono hbG.size)); (try replace hbn := hbn.trans (hv.mono hbn.size)); (try replace hbm := hbm.trans (hv.mono hbm.size)); replace hb := hb.trans (hv.mono hb.size); clear x1 x2 x3 x4; obtain ⟨x1, x2, x3, x4⟩ := BX.out _ hb; (try (clear x5; have x5 := HCL.out _ hb)); (try (clear y1; have y1 := HYG.out _ hbG)); (try (clear y2; have y2 := HYn.out _ hbn)))
    | (go_at_call 48; refine (class_w k _).mono ?_; rw [HK.out]; rintro e wl ⟨rfl, rfl⟩)
    | (go_at_call 41; refine (cups_w _ _).mono ?_; rintro e wl ⟨rfl, rfl⟩)
    | (go_at_call 46; refine (needs_w f c na _ ln cn lo co i N U X _ hi HC.out HR (HN.out _ hb) HXS).mono ?_; rintro e wl ⟨⟨rn, re, rfl, hnr⟩, hv⟩; (try replace hbG := hbG.trans (hv.mono hbG.size)); (try replace hbn := hbn.trans (hv.mono hbn.size)); (try replace hbm := hbm.trans (hv.mono hbm.size)); replace hb := hb.trans (hv.mono hb.size); clear x1 x2 x3 x4; obtain ⟨x1, x2, x3, x4⟩ := BX.out _ hb; (try (clear x5; have x5 := HCL.out _ hb)); (try (clear y1; have y1 := HYG.out _ hbG)); (try (clear y2; have y2 := HYn.out _ hbn)); obtain ⟨rfl, rfl⟩ := needR_is hnr hn HPn.out (fun m hm => Int.not_le.2 (HLn.out m hm)); clear hnr)
    | (go_at_call 47; refine (keeps_w f k na _ ln cn lo co N U X _ HK.out HR (HN.out _ hb) HXS).mono ?_; rintro e wl ⟨⟨km, ke, rfl, hkr⟩, hv⟩; (try replace hbG := hbG.trans (hv.mono hbG.size)); (try replace hbn := hbn.trans (hv.mono hbn.size)); (try replace hbm := hbm.trans (hv.mono hbm.size)); replace hb := hb.trans (hv.mono hb.size); clear x1 x2 x3 x4; obtain ⟨x1, x2, x3, x4⟩ := BX.out _ hb; (try (clear x5; have x5 := HCL.out _ hb)); (try (clear y1; have y1 := HYG.out _ hbG)); (try (clear y2; have y2 := HYn.out _ hbn)); obtain ⟨rfl, rfl⟩ := needR_is hkr hm HPm.out HLm.out; clear hkr)
    | (go_at_call 43; refine (with_w _ _ _ _ _ _ _ _ _).mono ?_; rintro e wl ⟨rfl, hv⟩; (try replace hbG := hbG.trans (hv.mono hbG.size)); (try replace hbn := hbn.trans (hv.mono hbn.size)); (try replace hbm := hbm.trans (hv.mono hbm.size)); replace hb := hb.trans (hv.mono hb.size); clear x1 x2 x3 x4; obtain ⟨x1, x2, x3, x4⟩ := BX.out _ hb; (try (clear x5; have x5 := HCL.out _ hb)); (try (clear y1; have y1 := HYG.out _ hbG)); (try (clear y2; have y2 := HYn.out _ hbn)))
    | (go_at_call_of 21 m; refine (HSH.out m _ hm hb).mono ?_; rintro e wl ⟨⟨Am, Om, qcm, rfl, hAm, hNm⟩, hv⟩; (try replace hbG := hbG.trans (hv.mono hbG.size)); (try replace hbn := hbn.trans (hv.mono hbn.size)); (try replace hbm := hbm.trans (hv.mono hbm.size)); replace hb := hb.trans (hv.mono hb.size); clear x1 x2 x3 x4; obtain ⟨x1, x2, x3, x4⟩ := BX.out _ hb; (try (clear x5; have x5 := HCL.out _ hb)); (try (clear y1; have y1 := HYG.out _ hbG)); (try (clear y2; have y2 := HYn.out _ hbn)); have hbm := Below.refl wl.heap.size wl; have HIm : Hid (∀ w2, Below wl.heap.size wl w2 → IntSl w2 (some ⟨Am, Om, none⟩) lo (X m)) := Lib.hid (fun w2 h => .inr ⟨_, _, rfl, Nat.lt_of_lt_of_le hAm h.size, hNm.below hAm h⟩); clear hAm hNm)
    | (go_at_call_of 19 Am; refine (list_w _ _ _ _ _ _ _ _ _ _ N U (X m) _ hlt hlo3 (HN.out _ hb) (Lib.hid (HIm.out _ hbm))).mono ?_; rintro e wl ⟨⟨rb, rfl, hrb⟩, hv⟩; obtain rfl : rb = true := hrb.2 (HSP.out m hm); clear hrb; (try replace hbG := hbG.trans (hv.mono hbG.size)); (try replace hbn := hbn.trans (hv.mono hbn.size)); (try replace hbm := hbm.trans (hv.mono hbm.size)); replace hb := hb.trans (hv.mono hb.size); clear x1 x2 x3 x4; obtain ⟨x1, x2, x3, x4⟩ := BX.out _ hb; (try (clear x5; have x5 := HCL.out _ hb)); (try (clear y1; have y1 := HYG.out _ hbG)); (try (clear y2; have y2 := HYn.out _ hbn)))
    | (go_at_call_of 51 Am; refine (rfull_w f k na _ _ ln cn lo co _ N U (X m) _ q2 (HN.out _ hb) (Lib.hid (HIm.out _ hbm))).mono ?_; rintro e wl ⟨⟨rb, rfl, hrb⟩, hv⟩; (try replace hbG := hbG.trans (hv.mono hbG.size)); (try replace hbn := hbn.trans (hv.mono hbn.size)); (try replace hbm := hbm.trans (hv.mono hbm.size)); replace hb := hb.trans (hv.mono hb.size); clear x1 x2 x3 x4; obtain ⟨x1, x2, x3, x4⟩ := BX.out _ hb; (try (clear x5; have x5 := HCL.out _ hb)); (try (clear y1; have y1 := HYG.out _ hbG)); (try (clear y2; have y2 := HYn.out _ hbn)); (first | (have hq9 := hrb.2 HPm.out; subst hq9) | (have hq9 : rb = false := (by cases rb <;> first | rfl | exact (HPm.out (hrb.1 rfl)).elim); subst hq9)); clear hrb)
    | (go_at_call_of 21 n; refine (HSH.out n _ hn hb).mono ?_; rintro e wl ⟨⟨An, On, qcn, rfl, hAn, hNn⟩, hv⟩; (try replace hbG := hbG.trans (hv.mono hbG.size)); (try replace hbn := hbn.trans (hv.mono hbn.size)); (try replace hbm := hbm.trans (hv.mono hbm.size)); replace hb := hb.trans (hv.mono hb.size); clear x1 x2 x3 x4; obtain ⟨x1, x2, x3, x4⟩ := BX.out _ hb; (try (clear x5; have x5 := HCL.out _ hb)); (try (clear y1; have y1 := HYG.out _ hbG)); (try (clear y2; have y2 := HYn.out _ hbn)); have hbn := Below.refl wl.heap.size wl; have HIn : Hid (∀ w2, Below wl.heap.size wl w2 → IntSl w2 (some ⟨An, On, none⟩) lo (X n)) := Lib.hid (fun w2 h => .inr ⟨_, _, rfl, Nat.lt_of_lt_of_le hAn h.size, hNn.below hAn h⟩); have HYn : Hid (∀ w2, Below wl.heap.size wl w2 → w2.cell? ⟨An, On + i, none⟩ = some (.int .i64 (X n i))) := Lib.hid (fun w2 h => (hNn.below hAn h) i hi); have y2 := HYn.out _ hbn; clear hAn hNn)
    | (go_at_call_of 19 An; refine (list_w _ _ _ _ _ _ _ _ _ _ N U (X n) _ hlt hlo3 (HN.out _ hb) (Lib.hid (HIn.out _ hbn))).mono ?_; rintro e wl ⟨⟨rb, rfl, hrb⟩, hv⟩; obtain rfl : rb = true := hrb.2 (HSP.out n hn); clear hrb; (try replace hbG := hbG.trans (hv.mono hbG.size)); (try replace hbn := hbn.trans (hv.mono hbn.size)); (try replace hbm := hbm.trans (hv.mono hbm.size)); replace hb := hb.trans (hv.mono hb.size); clear x1 x2 x3 x4; obtain ⟨x1, x2, x3, x4⟩ := BX.out _ hb; (try (clear x5; have x5 := HCL.out _ hb)); (try (clear y1; have y1 := HYG.out _ hbG)); (try (clear y2; have y2 := HYn.out _ hbn)))
    | (go_at_call_of 21 G; refine (HSH.out G _ hG hb).mono ?_; rintro e wl ⟨⟨AG, OG, qcG, rfl, hAG, hNG⟩, hv⟩; (try replace hbG := hbG.trans (hv.mono hbG.size)); (try replace hbn := hbn.trans (hv.mono hbn.size)); (try replace hbm := hbm.trans (hv.mono hbm.size)); replace hb := hb.trans (hv.mono hb.size); clear x1 x2 x3 x4; obtain ⟨x1, x2, x3, x4⟩ := BX.out _ hb; (try (clear x5; have x5 := HCL.out _ hb)); (try (clear y1; have y1 := HYG.out _ hbG)); (try (clear y2; have y2 := HYn.out _ hbn)); have hbG := Below.refl wl.heap.size wl; have HIG : Hid (∀ w2, Below wl.heap.size wl w2 → IntSl w2 (some ⟨AG, OG, none⟩) lo (X G)) := Lib.hid (fun w2 h => .inr ⟨_, _, rfl, Nat.lt_of_lt_of_le hAG h.size, hNG.below hAG h⟩); have HYG : Hid (∀ w2, Below wl.heap.size wl w2 → w2.cell? ⟨AG, OG + i, none⟩ = some (.int .i64 (X G i))) := Lib.hid (fun w2 h => (hNG.below hAG h) i hi); have y1 := HYG.out _ hbG; clear hAG hNG)
    | (go_at_call_of 19 AG; refine (list_w _ _ _ _ _ _ _ _ _ _ N U (X G) _ hlt hlo3 (HN.out _ hb) (Lib.hid (HIG.out _ hbG))).mono ?_; rintro e wl ⟨⟨rb, rfl, hrb⟩, hv⟩; obtain rfl : rb = true := hrb.2 (HSP.out G hG); clear hrb; (try replace hbG := hbG.trans (hv.mono hbG.size)); (try replace hbn := hbn.trans (hv.mono hbn.size)); (try replace hbm := hbm.trans (hv.mono hbm.size)); replace hb := hb.trans (hv.mono hb.size); clear x1 x2 x3 x4; obtain ⟨x1, x2, x3, x4⟩ := BX.out _ hb; (try (clear x5; have x5 := HCL.out _ hb)); (try (clear y1; have y1 := HYG.out _ hbG)); (try (clear y2; have y2 := HYn.out _ hbn)))
    | (go_at_call_of 51 AG; refine (rfull_w f k na _ _ ln cn lo co _ N U (X G) _ q2 (HN.out _ hb) (Lib.hid (HIG.out _ hbG))).mono ?_; rintro e wl ⟨⟨rb, rfl, hrb⟩, hv⟩; (try replace hbG := hbG.trans (hv.mono hbG.size)); (try replace hbn := hbn.trans (hv.mono hbn.size)); (try replace hbm := hbm.trans (hv.mono hbm.size)); replace hb := hb.trans (hv.mono hb.size); clear x1 x2 x3 x4; obtain ⟨x1, x2, x3, x4⟩ := BX.out _ hb; (try (clear x5; have x5 := HCL.out _ hb)); (try (clear y1; have y1 := HYG.out _ hbG)); (try (clear y2; have y2 := HYn.out _ hbn)); (first | (have hq9 := hrb.2 HPGm.out; subst hq9) | (have hq9 : rb = false := (by cases rb <;> first | rfl | exact (HPGm.out (hrb.1 rfl)).elim); subst hq9)); clear hrb)
    | (go_at_call 15; refine (K.out _).mono ?_; rintro e wl ⟨rfl, hv⟩; (try replace hbG := hbG.trans (hv.mono hbG.size)); (try replace hbn := hbn.trans (hv.mono hbn.size)); (try replace hbm := hbm.trans (hv.mono hbm.size)); replace hb := hb.trans (hv.mono hb.size); clear x1 x2 x3 x4; obtain ⟨x1, x2, x3, x4⟩ := BX.out _ hb; (try (clear x5; have x5 := HCL.out _ hb)); (try (clear y1; have y1 := HYG.out _ hbG)); (try (clear y2; have y2 := HYn.out _ hbn))))
  all_goals
    go_ret
    exact ⟨rfl, below_al hb⟩

set_option maxRecDepth 100000 in
set_option maxHeartbeats 6000000 in
theorem lawen_h22 (f : Int) (na oa : Option Addr) (ln cn lo co : Nat) (N : Nat → N2) (U : Nat → O3) (i : Nat) (c k : Int) (G : Nat) (w : World) (hls : ln ≤ 1000000) (hlt : lo ≤ 1000000) (H : Hid (Tr7 w na oa ln lo N U)) (K : Hid KnownOk) (hi : i < lo) (hq : ln ≤ 8 ∧ lo ≤ 10) (HR : Hid (TreeP f ln lo N U)) (hc1 : ¬ c < 1) (hc2 : ¬ (U i).c < c) (HC : Hid (fromB 1 (U i).c c = true)) (HK : Hid (fromB 0 3 k = true)) (hG : G ≤ 200) (X : Nat → Nat → Int) (HXS : Hid (XS lo N U X)) (n : Nat) (hn : n ≤ 200) (HPn : Hid (c ≤ X n i)) (HLn : Hid (∀ m, m < n → X m i < c)) (hlen : ¬ (n : Int) ≤ (G : Int)) (hpgn : ¬ c ≤ X G i) (m : Nat) (hm : m ≤ 200) (HPm : Hid (FullP lo U (X m) k)) (HLm : Hid (∀ j, j < m → ¬ FullP lo U (X j) k)) (hlem : ¬ (m : Int) ≤ (G : Int)) (HPGm : Hid (¬ FullP lo U (X G) k))  :
    Calls Tryz.prog 12 #[.agg #[.int .i64 f, .slice na ln cn, .slice oa lo co], .int .i64 (i : Int), .int .i64 c, .int .i64 k, .int .i64 (G : Int)] w
      fun e w' => e = .returned (.bool true) ∧ Below w.heap.size w w' := by
  have hsh : decide (ln ≤ 8 ∧ lo ≤ 10) = true := decide_eq_true hq
  have hoz : fromB 0 ((lo : Int) - 1) (i : Int) = true := by simp only [fromB, decide_eq_true_eq]; omega
  have HO := Lib.hid hoz
  obtain ⟨C, P, hoa, hC, hn⟩ := H.out.ho.resolve_left (by omega)
  have HCL : Hid (∀ w2, Below (w.alloc (.cells #[.int .i64 f, .slice na ln cn, .slice oa lo co] 25)).heap.size (w.alloc (.cells #[.int .i64 f, .slice na ln cn, .slice oa lo co] 25)) w2 → w2.cell? ⟨C, P + i * 3 + 1, none⟩ = some (.int .i64 (U i).c)) := Lib.hid fun w2 h => ((below_al h).cell (p := ⟨C, P + i * 3 + 1, none⟩) hC).trans (hn i hi).2.1
  have n1 : (0 : Int) ≤ (i : Int) := by omega
  have n2 : (i : Int) < (lo : Int) := by omega
  subst hoa
  clear hn hoz
  have hcg : fromB 0 200 (G : Int) = true := cups_nat hG
  have hc0 : fromB 0 200 0 = true := by decide
  have HM1 : Hid (∀ a b : Nat, a ≤ b → b ≤ 200 → c ≤ X a i → c ≤ X b i) := Lib.hid fun a b h hb h1 => Int.le_trans h1 (xs_mono HR.out HXS.out h hb i)
  have HM2 : Hid (∀ a b : Nat, a ≤ b → b ≤ 200 → FullP lo U (X a) k → FullP lo U (X b) k) := Lib.hid fun a b h hb h1 => full_mono h1 (fun j => xs_mono HR.out HXS.out h hb j)
  have HSP : Hid (∀ a : Nat, a ≤ 200 → SharesP lo lo (X a) U) := Lib.hid fun a ha => sharesP_of (xs_vd HR.out HXS.out ha)
  have HSH : Hid (∀ (n : Nat) w2, n ≤ 200 → Below (w.alloc (.cells #[.int .i64 f, .slice na ln cn, .slice (some ⟨C, P, none⟩) lo co] 25)).heap.size (w.alloc (.cells #[.int .i64 f, .slice na ln cn, .slice (some ⟨C, P, none⟩) lo co] 25)) w2 → Calls Tryz.prog 21 #[.agg #[.int .i64 (n : Int), .slice na ln cn, .slice (some ⟨C, P, none⟩) lo co]] w2 fun e w' => (∃ A O cs, e = .returned (.tuple #[.slice (some ⟨A, O, none⟩) lo cs, .int .i64 0]) ∧ A < w'.heap.size ∧ NumAt w' A O lo (X n)) ∧ Below w2.heap.size w2 w') := Lib.hid fun n w2 hn h => by
    refine (shares_w (n : Int) na (some ⟨C, P, none⟩) ln cn lo co N U w2 (Lib.hid (tree_with HR.out (by omega) (by omega))) (Lib.hid (H.out.below (below_al h)))).mono ?_
    rintro e w' ⟨⟨sa, cs, t, he, hs, ho⟩, hb⟩
    obtain rfl : t = X n := ho.det (HXS.out n hn)
    obtain ⟨A, O, rfl, hA, hnm⟩ := hs.resolve_left (by omega)
    exact ⟨⟨A, O, cs, he, hA, hnm⟩, hb⟩
  have hlo3 : lo ≤ maxLen := by unfold maxLen; omega
  have q2 := HR.out.lo2
  have hpgd : decide (c ≤ X G i) = false := decide_eq_false hpgn
  have hld : decide ((n : Int) ≤ (G : Int)) = false := decide_eq_false hlen
  have hmd : decide ((m : Int) ≤ (G : Int)) = false := decide_eq_false hlem
  have hcun := cups_nat hn
  have hpn2 := HPn.out
  have hcum := cups_nat hm
  have BX := Lib.hid (fun (w1 : World) (hb : Below (w.alloc (.cells #[.int .i64 f, .slice na ln cn, .slice (some ⟨C, P, none⟩) lo co] 25)).heap.size (w.alloc (.cells #[.int .i64 f, .slice na ln cn, .slice (some ⟨C, P, none⟩) lo co] 25)) w1) => box7 hb)
  have HN : Hid (∀ w1, Below (w.alloc (.cells #[.int .i64 f, .slice na ln cn, .slice (some ⟨C, P, none⟩) lo co] 25)).heap.size (w.alloc (.cells #[.int .i64 f, .slice na ln cn, .slice (some ⟨C, P, none⟩) lo co] 25)) w1 → Hid (Tr7 w1 na (some ⟨C, P, none⟩) ln lo N U)) := Lib.hid fun w1 h => Lib.hid (H.out.below (below_al h))
  have hb : Below (w.alloc (.cells #[.int .i64 f, .slice na ln cn, .slice (some ⟨C, P, none⟩) lo co] 25)).heap.size (w.alloc (.cells #[.int .i64 f, .slice na ln cn, .slice (some ⟨C, P, none⟩) lo co] 25)) (w.alloc (.cells #[.int .i64 f, .slice na ln cn, .slice (some ⟨C, P, none⟩) lo co] 25)) := Below.refl _ _
  obtain ⟨x1, x2, x3, x4⟩ := BX.out _ hb
  clear H
  have x5 := HCL.out _ hb
  go_enter Tryz.func12, Tryz.ntmps12
  go_wp2_with (first
    | (go_at_call 14; refine (short_w _ _ _ _ _ _ _ _ (by unfold maxLen; omega) (by unfold maxLen; omega)).mono ?_; rw [hsh]; rintro e wl ⟨rfl, hv⟩; (try replace hbG := hbG.trans (hv.mono hbG.size)); (try replace hbn := hbn.trans (hv.mono hbn.size)); (try replace hbm := hbm.trans (hv.mono hbm.size)); replace hb := hb.trans (hv.mono hb.size); clear x1 x2 x3 x4; obtain ⟨x1, x2, x3, x4⟩ := BX.out _ hb; (try (clear x5; have x5 := HCL.out _ hb)); (try (clear y1; have y1 := HYG.out _ hbG)); (try (clear y2; have y2 := HYn.out _ hbn)))
    | (go_at_call 18; refine (tree_w _ _ _ _ _ _ _ N U _ hls hlt (HN.out _ hb)).mono ?_; rintro e wl ⟨⟨rb, rfl, hrb⟩, hv⟩; obtain rfl : rb = true := hrb.2 HR.out; clear hrb; (try replace hbG := hbG.trans (hv.mono hbG.size)); (try replace hbn := hbn.trans (hv.mono hbn.size)); (try replace hbm := hbm.trans (hv.mono hbm.size)); replace hb := hb.trans (hv.mono hb.size); clear x1 x2 x3 x4; obtain ⟨x1, x2, x3, x4⟩ := BX.out _ hb; (try (clear x5; have x5 := HCL.out _ hb)); (try (clear y1; have y1 := HYG.out _ hbG)); (try (clear y2; have y2 := HYn.out _ hbn)))
    | (go_at_call 29; refine (outlet_w _ _ _ _ _ _ _ _ _ hlt).mono ?_; rw [HO.out]; rintro e wl ⟨rfl, hv⟩; (try replace hbG := hbG.trans (hv.mono hbG.size)); (try replace hbn := hbn.trans (hv.mono hbn.size)); (try replace hbm := hbm.trans (hv.mono hbm.size)); replace hb := hb.trans (hv.mono hb.size); clear x1 x2 x3 x4; obtain ⟨x1, x2, x3, x4⟩ := BX.out _ hb; (try (clear x5; have x5 := HCL.out _ hb)); (try (clear y1; have y1 := HYG.out _ hbG)); (try (clear y2; have y2 := HYn.out _ hbn)))
    | (go_at_call 48; refine (class_w k _).mono ?_; rw [HK.out]; rintro e wl ⟨rfl, rfl⟩)
    | (go_at_call 41; refine (cups_w _ _).mono ?_; rintro e wl ⟨rfl, rfl⟩)
    | (go_at_call 46; refine (needs_w f c na _ ln cn lo co i N U X _ hi HC.out HR (HN.out _ hb) HXS).mono ?_; rintro e wl ⟨⟨rn, re, rfl, hnr⟩, hv⟩; (try replace hbG := hbG.trans (hv.mono hbG.size)); (try replace hbn := hbn.trans (hv.mono hbn.size)); (try replace hbm := hbm.trans (hv.mono hbm.size)); replace hb := hb.trans (hv.mono hb.size); clear x1 x2 x3 x4; obtain ⟨x1, x2, x3, x4⟩ := BX.out _ hb; (try (clear x5; have x5 := HCL.out _ hb)); (try (clear y1; have y1 := HYG.out _ hbG)); (try (clear y2; have y2 := HYn.out _ hbn)); obtain ⟨rfl, rfl⟩ := needR_is hnr hn HPn.out (fun m hm => Int.not_le.2 (HLn.out m hm)); clear hnr)
    | (go_at_call 47; refine (keeps_w f k na _ ln cn lo co N U X _ HK.out HR (HN.out _ hb) HXS).mono ?_; rintro e wl ⟨⟨km, ke, rfl, hkr⟩, hv⟩; (try replace hbG := hbG.trans (hv.mono hbG.size)); (try replace hbn := hbn.trans (hv.mono hbn.size)); (try replace hbm := hbm.trans (hv.mono hbm.size)); replace hb := hb.trans (hv.mono hb.size); clear x1 x2 x3 x4; obtain ⟨x1, x2, x3, x4⟩ := BX.out _ hb; (try (clear x5; have x5 := HCL.out _ hb)); (try (clear y1; have y1 := HYG.out _ hbG)); (try (clear y2; have y2 := HYn.out _ hbn)); obtain ⟨rfl, rfl⟩ := needR_is hkr hm HPm.out HLm.out; clear hkr)
    | (go_at_call 43; refine (with_w _ _ _ _ _ _ _ _ _).mono ?_; rintro e wl ⟨rfl, hv⟩; (try replace hbG := hbG.trans (hv.mono hbG.size)); (try replace hbn := hbn.trans (hv.mono hbn.size)); (try replace hbm := hbm.trans (hv.mono hbm.size)); replace hb := hb.trans (hv.mono hb.size); clear x1 x2 x3 x4; obtain ⟨x1, x2, x3, x4⟩ := BX.out _ hb; (try (clear x5; have x5 := HCL.out _ hb)); (try (clear y1; have y1 := HYG.out _ hbG)); (try (clear y2; have y2 := HYn.out _ hbn)))
    | (go_at_call_of 21 m; refine (HSH.out m _ hm hb).mono ?_; rintro e wl ⟨⟨Am, Om, qcm, rfl, hAm, hNm⟩, hv⟩; (try replace hbG := hbG.trans (hv.mono hbG.size)); (try replace hbn := hbn.trans (hv.mono hbn.size)); (try replace hbm := hbm.trans (hv.mono hbm.size)); replace hb := hb.trans (hv.mono hb.size); clear x1 x2 x3 x4; obtain ⟨x1, x2, x3, x4⟩ := BX.out _ hb; (try (clear x5; have x5 := HCL.out _ hb)); (try (clear y1; have y1 := HYG.out _ hbG)); (try (clear y2; have y2 := HYn.out _ hbn)); have hbm := Below.refl wl.heap.size wl; have HIm : Hid (∀ w2, Below wl.heap.size wl w2 → IntSl w2 (some ⟨Am, Om, none⟩) lo (X m)) := Lib.hid (fun w2 h => .inr ⟨_, _, rfl, Nat.lt_of_lt_of_le hAm h.size, hNm.below hAm h⟩); clear hAm hNm)
    | (go_at_call_of 19 Am; refine (list_w _ _ _ _ _ _ _ _ _ _ N U (X m) _ hlt hlo3 (HN.out _ hb) (Lib.hid (HIm.out _ hbm))).mono ?_; rintro e wl ⟨⟨rb, rfl, hrb⟩, hv⟩; obtain rfl : rb = true := hrb.2 (HSP.out m hm); clear hrb; (try replace hbG := hbG.trans (hv.mono hbG.size)); (try replace hbn := hbn.trans (hv.mono hbn.size)); (try replace hbm := hbm.trans (hv.mono hbm.size)); replace hb := hb.trans (hv.mono hb.size); clear x1 x2 x3 x4; obtain ⟨x1, x2, x3, x4⟩ := BX.out _ hb; (try (clear x5; have x5 := HCL.out _ hb)); (try (clear y1; have y1 := HYG.out _ hbG)); (try (clear y2; have y2 := HYn.out _ hbn)))
    | (go_at_call_of 51 Am; refine (rfull_w f k na _ _ ln cn lo co _ N U (X m) _ q2 (HN.out _ hb) (Lib.hid (HIm.out _ hbm))).mono ?_; rintro e wl ⟨⟨rb, rfl, hrb⟩, hv⟩; (try replace hbG := hbG.trans (hv.mono hbG.size)); (try replace hbn := hbn.trans (hv.mono hbn.size)); (try replace hbm := hbm.trans (hv.mono hbm.size)); replace hb := hb.trans (hv.mono hb.size); clear x1 x2 x3 x4; obtain ⟨x1, x2, x3, x4⟩ := BX.out _ hb; (try (clear x5; have x5 := HCL.out _ hb)); (try (clear y1; have y1 := HYG.out _ hbG)); (try (clear y2; have y2 := HYn.out _ hbn)); (first | (have hq9 := hrb.2 HPm.out; subst hq9) | (have hq9 : rb = false := (by cases rb <;> first | rfl | exact (HPm.out (hrb.1 rfl)).elim); subst hq9)); clear hrb)
    | (go_at_call_of 21 n; refine (HSH.out n _ hn hb).mono ?_; rintro e wl ⟨⟨An, On, qcn, rfl, hAn, hNn⟩, hv⟩; (try replace hbG := hbG.trans (hv.mono hbG.size)); (try replace hbn := hbn.trans (hv.mono hbn.size)); (try replace hbm := hbm.trans (hv.mono hbm.size)); replace hb := hb.trans (hv.mono hb.size); clear x1 x2 x3 x4; obtain ⟨x1, x2, x3, x4⟩ := BX.out _ hb; (try (clear x5; have x5 := HCL.out _ hb)); (try (clear y1; have y1 := HYG.out _ hbG)); (try (clear y2; have y2 := HYn.out _ hbn)); have hbn := Below.refl wl.heap.size wl; have HIn : Hid (∀ w2, Below wl.heap.size wl w2 → IntSl w2 (some ⟨An, On, none⟩) lo (X n)) := Lib.hid (fun w2 h => .inr ⟨_, _, rfl, Nat.lt_of_lt_of_le hAn h.size, hNn.below hAn h⟩); have HYn : Hid (∀ w2, Below wl.heap.size wl w2 → w2.cell? ⟨An, On + i, none⟩ = some (.int .i64 (X n i))) := Lib.hid (fun w2 h => (hNn.below hAn h) i hi); have y2 := HYn.out _ hbn; clear hAn hNn)
    | (go_at_call_of 19 An; refine (list_w _ _ _ _ _ _ _ _ _ _ N U (X n) _ hlt hlo3 (HN.out _ hb) (Lib.hid (HIn.out _ hbn))).mono ?_; rintro e wl ⟨⟨rb, rfl, hrb⟩, hv⟩; obtain rfl : rb = true := hrb.2 (HSP.out n hn); clear hrb; (try replace hbG := hbG.trans (hv.mono hbG.size)); (try replace hbn := hbn.trans (hv.mono hbn.size)); (try replace hbm := hbm.trans (hv.mono hbm.size)); replace hb := hb.trans (hv.mono hb.size); clear x1 x2 x3 x4; obtain ⟨x1, x2, x3, x4⟩ := BX.out _ hb; (try (clear x5; have x5 := HCL.out _ hb)); (try (clear y1; have y1 := HYG.out _ hbG)); (try (clear y2; have y2 := HYn.out _ hbn)))
    | (go_at_call_of 21 G; refine (HSH.out G _ hG hb).mono ?_; rintro e wl ⟨⟨AG, OG, qcG, rfl, hAG, hNG⟩, hv⟩; (try replace hbG := hbG.trans (hv.mono hbG.size)); (try replace hbn := hbn.trans (hv.mono hbn.size)); (try replace hbm := hbm.trans (hv.mono hbm.size)); replace hb := hb.trans (hv.mono hb.size); clear x1 x2 x3 x4; obtain ⟨x1, x2, x3, x4⟩ := BX.out _ hb; (try (clear x5; have x5 := HCL.out _ hb)); (try (clear y1; have y1 := HYG.out _ hbG)); (try (clear y2; have y2 := HYn.out _ hbn)); have hbG := Below.refl wl.heap.size wl; have HIG : Hid (∀ w2, Below wl.heap.size wl w2 → IntSl w2 (some ⟨AG, OG, none⟩) lo (X G)) := Lib.hid (fun w2 h => .inr ⟨_, _, rfl, Nat.lt_of_lt_of_le hAG h.size, hNG.below hAG h⟩); have HYG : Hid (∀ w2, Below wl.heap.size wl w2 → w2.cell? ⟨AG, OG + i, none⟩ = some (.int .i64 (X G i))) := Lib.hid (fun w2 h => (hNG.below hAG h) i hi); have y1 := HYG.out _ hbG; clear hAG hNG)
    | (go_at_call_of 19 AG; refine (list_w _ _ _ _ _ _ _ _ _ _ N U (X G) _ hlt hlo3 (HN.out _ hb) (Lib.hid (HIG.out _ hbG))).mono ?_; rintro e wl ⟨⟨rb, rfl, hrb⟩, hv⟩; obtain rfl : rb = true := hrb.2 (HSP.out G hG); clear hrb; (try replace hbG := hbG.trans (hv.mono hbG.size)); (try replace hbn := hbn.trans (hv.mono hbn.size)); (try replace hbm := hbm.trans (hv.mono hbm.size)); replace hb := hb.trans (hv.mono hb.size); clear x1 x2 x3 x4; obtain ⟨x1, x2, x3, x4⟩ := BX.out _ hb; (try (clear x5; have x5 := HCL.out _ hb)); (try (clear y1; have y1 := HYG.out _ hbG)); (try (clear y2; have y2 := HYn.out _ hbn)))
    | (go_at_call_of 51 AG; refine (rfull_w f k na _ _ ln cn lo co _ N U (X G) _ q2 (HN.out _ hb) (Lib.hid (HIG.out _ hbG))).mono ?_; rintro e wl ⟨⟨rb, rfl, hrb⟩, hv⟩; (try replace hbG := hbG.trans (hv.mono hbG.size)); (try replace hbn := hbn.trans (hv.mono hbn.size)); (try replace hbm := hbm.trans (hv.mono hbm.size)); replace hb := hb.trans (hv.mono hb.size); clear x1 x2 x3 x4; obtain ⟨x1, x2, x3, x4⟩ := BX.out _ hb; (try (clear x5; have x5 := HCL.out _ hb)); (try (clear y1; have y1 := HYG.out _ hbG)); (try (clear y2; have y2 := HYn.out _ hbn)); (first | (have hq9 := hrb.2 HPGm.out; subst hq9) | (have hq9 : rb = false := (by cases rb <;> first | rfl | exact (HPGm.out (hrb.1 rfl)).elim); subst hq9)); clear hrb)
    | (go_at_call 15; refine (K.out _).mono ?_; rintro e wl ⟨rfl, hv⟩; (try replace hbG := hbG.trans (hv.mono hbG.size)); (try replace hbn := hbn.trans (hv.mono hbn.size)); (try replace hbm := hbm.trans (hv.mono hbm.size)); replace hb := hb.trans (hv.mono hb.size); clear x1 x2 x3 x4; obtain ⟨x1, x2, x3, x4⟩ := BX.out _ hb; (try (clear x5; have x5 := HCL.out _ hb)); (try (clear y1; have y1 := HYG.out _ hbG)); (try (clear y2; have y2 := HYn.out _ hbn))))
  all_goals
    go_ret
    exact ⟨rfl, below_al hb⟩

set_option maxRecDepth 100000 in
set_option maxHeartbeats 6000000 in
theorem lawen_h23 (f : Int) (na oa : Option Addr) (ln cn lo co : Nat) (N : Nat → N2) (U : Nat → O3) (i : Nat) (c k : Int) (G : Nat) (w : World) (hls : ln ≤ 1000000) (hlt : lo ≤ 1000000) (H : Hid (Tr7 w na oa ln lo N U)) (K : Hid KnownOk) (hi : i < lo) (hq : ln ≤ 8 ∧ lo ≤ 10) (HR : Hid (TreeP f ln lo N U)) (hc1 : ¬ c < 1) (hc2 : ¬ (U i).c < c) (HC : Hid (fromB 1 (U i).c c = true)) (HK : Hid (fromB 0 3 k = true)) (hG : G ≤ 200) (X : Nat → Nat → Int) (HXS : Hid (XS lo N U X)) (n : Nat) (hn : n ≤ 200) (HPn : Hid (c ≤ X n i)) (HLn : Hid (∀ m, m < n → X m i < c)) (hlen : ¬ (n : Int) ≤ (G : Int)) (hpgn : ¬ c ≤ X G i) (HNm : Hid (∀ j, j ≤ 200 → ¬ FullP lo U (X j) k)) (HPGm : Hid (¬ FullP lo U (X G) k))  :
    Calls Tryz.prog 12 #[.agg #[.int .i64 f, .slice na ln cn, .slice oa lo co], .int .i64 (i : Int), .int .i64 c, .int .i64 k, .int .i64 (G : Int)] w
      fun e w' => e = .returned (.bool true) ∧ Below w.heap.size w w' := by
  have hsh : decide (ln ≤ 8 ∧ lo ≤ 10) = true := decide_eq_true hq
  have hoz : fromB 0 ((lo : Int) - 1) (i : Int) = true := by simp only [fromB, decide_eq_true_eq]; omega
  have HO := Lib.hid hoz
  obtain ⟨C, P, hoa, hC, hn⟩ := H.out.ho.resolve_left (by omega)
  have HCL : Hid (∀ w2, Below (w.alloc (.cells #[.int .i64 f, .slice na ln cn, .slice oa lo co] 25)).heap.size (w.alloc (.cells #[.int .i64 f, .slice na ln cn, .slice oa lo co] 25)) w2 → w2.cell? ⟨C, P + i * 3 + 1, none⟩ = some (.int .i64 (U i).c)) := Lib.hid fun w2 h => ((below_al h).cell (p := ⟨C, P + i * 3 + 1, none⟩) hC).trans (hn i hi).2.1
  have n1 : (0 : Int) ≤ (i : Int) := by omega
  have n2 : (i : Int) < (lo : Int) := by omega
  subst hoa
  clear hn hoz
  have hcg : fromB 0 200 (G : Int) = true := cups_nat hG
  have hc0 : fromB 0 200 0 = true := by decide
  have HM1 : Hid (∀ a b : Nat, a ≤ b → b ≤ 200 → c ≤ X a i → c ≤ X b i) := Lib.hid fun a b h hb h1 => Int.le_trans h1 (xs_mono HR.out HXS.out h hb i)
  have HM2 : Hid (∀ a b : Nat, a ≤ b → b ≤ 200 → FullP lo U (X a) k → FullP lo U (X b) k) := Lib.hid fun a b h hb h1 => full_mono h1 (fun j => xs_mono HR.out HXS.out h hb j)
  have HSP : Hid (∀ a : Nat, a ≤ 200 → SharesP lo lo (X a) U) := Lib.hid fun a ha => sharesP_of (xs_vd HR.out HXS.out ha)
  have HSH : Hid (∀ (n : Nat) w2, n ≤ 200 → Below (w.alloc (.cells #[.int .i64 f, .slice na ln cn, .slice (some ⟨C, P, none⟩) lo co] 25)).heap.size (w.alloc (.cells #[.int .i64 f, .slice na ln cn, .slice (some ⟨C, P, none⟩) lo co] 25)) w2 → Calls Tryz.prog 21 #[.agg #[.int .i64 (n : Int), .slice na ln cn, .slice (some ⟨C, P, none⟩) lo co]] w2 fun e w' => (∃ A O cs, e = .returned (.tuple #[.slice (some ⟨A, O, none⟩) lo cs, .int .i64 0]) ∧ A < w'.heap.size ∧ NumAt w' A O lo (X n)) ∧ Below w2.heap.size w2 w') := Lib.hid fun n w2 hn h => by
    refine (shares_w (n : Int) na (some ⟨C, P, none⟩) ln cn lo co N U w2 (Lib.hid (tree_with HR.out (by omega) (by omega))) (Lib.hid (H.out.below (below_al h)))).mono ?_
    rintro e w' ⟨⟨sa, cs, t, he, hs, ho⟩, hb⟩
    obtain rfl : t = X n := ho.det (HXS.out n hn)
    obtain ⟨A, O, rfl, hA, hnm⟩ := hs.resolve_left (by omega)
    exact ⟨⟨A, O, cs, he, hA, hnm⟩, hb⟩
  have hlo3 : lo ≤ maxLen := by unfold maxLen; omega
  have q2 := HR.out.lo2
  have hpgd : decide (c ≤ X G i) = false := decide_eq_false hpgn
  have hld : decide ((n : Int) ≤ (G : Int)) = false := decide_eq_false hlen
  have hcun := cups_nat hn
  have hpn2 := HPn.out
  have BX := Lib.hid (fun (w1 : World) (hb : Below (w.alloc (.cells #[.int .i64 f, .slice na ln cn, .slice (some ⟨C, P, none⟩) lo co] 25)).heap.size (w.alloc (.cells #[.int .i64 f, .slice na ln cn, .slice (some ⟨C, P, none⟩) lo co] 25)) w1) => box7 hb)
  have HN : Hid (∀ w1, Below (w.alloc (.cells #[.int .i64 f, .slice na ln cn, .slice (some ⟨C, P, none⟩) lo co] 25)).heap.size (w.alloc (.cells #[.int .i64 f, .slice na ln cn, .slice (some ⟨C, P, none⟩) lo co] 25)) w1 → Hid (Tr7 w1 na (some ⟨C, P, none⟩) ln lo N U)) := Lib.hid fun w1 h => Lib.hid (H.out.below (below_al h))
  have hb : Below (w.alloc (.cells #[.int .i64 f, .slice na ln cn, .slice (some ⟨C, P, none⟩) lo co] 25)).heap.size (w.alloc (.cells #[.int .i64 f, .slice na ln cn, .slice (some ⟨C, P, none⟩) lo co] 25)) (w.alloc (.cells #[.int .i64 f, .slice na ln cn, .slice (some ⟨C, P, none⟩) lo co] 25)) := Below.refl _ _
  obtain ⟨x1, x2, x3, x4⟩ := BX.out _ hb
  clear H
  have x5 := HCL.out _ hb
  go_enter Tryz.func12, Tryz.ntmps12
  go_wp2_with (first
    | (go_at_call 14; refine (short_w _ _ _ _ _ _ _ _ (by unfold maxLen; omega) (by unfold maxLen; omega)).mono ?_; rw [hsh]; rintro e wl ⟨rfl, hv⟩; (try replace hbG := hbG.trans (hv.mono hbG.size)); (try replace hbn := hbn.trans (hv.mono hbn.size)); (try replace hbm := hbm.trans (hv.mono hbm.size)); replace hb := hb.trans (hv.mono hb.size); clear x1 x2 x3 x4; obtain ⟨x1, x2, x3, x4⟩ := BX.out _ hb; (try (clear x5; have x5 := HCL.out _ hb)); (try (clear y1; have y1 := HYG.out _ hbG)); (try (clear y2; have y2 := HYn.out _ hbn)))
    | (go_at_call 18; refine (tree_w _ _ _ _ _ _ _ N U _ hls hlt (HN.out _ hb)).mono ?_; rintro e wl ⟨⟨rb, rfl, hrb⟩, hv⟩; obtain rfl : rb = true := hrb.2 HR.out; clear hrb; (try replace hbG := hbG.trans (hv.mono hbG.size)); (try replace hbn := hbn.trans (hv.mono hbn.size)); (try replace hbm := hbm.trans (hv.mono hbm.size)); replace hb := hb.trans (hv.mono hb.size); clear x1 x2 x3 x4; obtain ⟨x1, x2, x3, x4⟩ := BX.out _ hb; (try (clear x5; have x5 := HCL.out _ hb)); (try (clear y1; have y1 := HYG.out _ hbG)); (try (clear y2; have y2 := HYn.out _ hbn)))
    | (go_at_call 29; refine (outlet_w _ _ _ _ _ _ _ _ _ hlt).mono ?_; rw [HO.out]; rintro e wl ⟨rfl, hv⟩; (try replace hbG := hbG.trans (hv.mono hbG.size)); (try replace hbn := hbn.trans (hv.mono hbn.size)); (try replace hbm := hbm.trans (hv.mono hbm.size)); replace hb := hb.trans (hv.mono hb.size); clear x1 x2 x3 x4; obtain ⟨x1, x2, x3, x4⟩ := BX.out _ hb; (try (clear x5; have x5 := HCL.out _ hb)); (try (clear y1; have y1 := HYG.out _ hbG)); (try (clear y2; have y2 := HYn.out _ hbn)))
    | (go_at_call 48; refine (class_w k _).mono ?_; rw [HK.out]; rintro e wl ⟨rfl, rfl⟩)
    | (go_at_call 41; refine (cups_w _ _).mono ?_; rintro e wl ⟨rfl, rfl⟩)
    | (go_at_call 46; refine (needs_w f c na _ ln cn lo co i N U X _ hi HC.out HR (HN.out _ hb) HXS).mono ?_; rintro e wl ⟨⟨rn, re, rfl, hnr⟩, hv⟩; (try replace hbG := hbG.trans (hv.mono hbG.size)); (try replace hbn := hbn.trans (hv.mono hbn.size)); (try replace hbm := hbm.trans (hv.mono hbm.size)); replace hb := hb.trans (hv.mono hb.size); clear x1 x2 x3 x4; obtain ⟨x1, x2, x3, x4⟩ := BX.out _ hb; (try (clear x5; have x5 := HCL.out _ hb)); (try (clear y1; have y1 := HYG.out _ hbG)); (try (clear y2; have y2 := HYn.out _ hbn)); obtain ⟨rfl, rfl⟩ := needR_is hnr hn HPn.out (fun m hm => Int.not_le.2 (HLn.out m hm)); clear hnr)
    | (go_at_call 47; refine (keeps_w f k na _ ln cn lo co N U X _ HK.out HR (HN.out _ hb) HXS).mono ?_; rintro e wl ⟨⟨km, ke, rfl, hkr⟩, hv⟩; (try replace hbG := hbG.trans (hv.mono hbG.size)); (try replace hbn := hbn.trans (hv.mono hbn.size)); (try replace hbm := hbm.trans (hv.mono hbm.size)); replace hb := hb.trans (hv.mono hb.size); clear x1 x2 x3 x4; obtain ⟨x1, x2, x3, x4⟩ := BX.out _ hb; (try (clear x5; have x5 := HCL.out _ hb)); (try (clear y1; have y1 := HYG.out _ hbG)); (try (clear y2; have y2 := HYn.out _ hbn)); obtain ⟨rfl, rfl⟩ := needR_no hkr HNm.out; clear hkr)
    | (go_at_call 43; refine (with_w _ _ _ _ _ _ _ _ _).mono ?_; rintro e wl ⟨rfl, hv⟩; (try replace hbG := hbG.trans (hv.mono hbG.size)); (try replace hbn := hbn.trans (hv.mono hbn.size)); (try replace hbm := hbm.trans (hv.mono hbm.size)); replace hb := hb.trans (hv.mono hb.size); clear x1 x2 x3 x4; obtain ⟨x1, x2, x3, x4⟩ := BX.out _ hb; (try (clear x5; have x5 := HCL.out _ hb)); (try (clear y1; have y1 := HYG.out _ hbG)); (try (clear y2; have y2 := HYn.out _ hbn)))
    | (go_at_call_of 21 n; refine (HSH.out n _ hn hb).mono ?_; rintro e wl ⟨⟨An, On, qcn, rfl, hAn, hNn⟩, hv⟩; (try replace hbG := hbG.trans (hv.mono hbG.size)); (try replace hbn := hbn.trans (hv.mono hbn.size)); (try replace hbm := hbm.trans (hv.mono hbm.size)); replace hb := hb.trans (hv.mono hb.size); clear x1 x2 x3 x4; obtain ⟨x1, x2, x3, x4⟩ := BX.out _ hb; (try (clear x5; have x5 := HCL.out _ hb)); (try (clear y1; have y1 := HYG.out _ hbG)); (try (clear y2; have y2 := HYn.out _ hbn)); have hbn := Below.refl wl.heap.size wl; have HIn : Hid (∀ w2, Below wl.heap.size wl w2 → IntSl w2 (some ⟨An, On, none⟩) lo (X n)) := Lib.hid (fun w2 h => .inr ⟨_, _, rfl, Nat.lt_of_lt_of_le hAn h.size, hNn.below hAn h⟩); have HYn : Hid (∀ w2, Below wl.heap.size wl w2 → w2.cell? ⟨An, On + i, none⟩ = some (.int .i64 (X n i))) := Lib.hid (fun w2 h => (hNn.below hAn h) i hi); have y2 := HYn.out _ hbn; clear hAn hNn)
    | (go_at_call_of 19 An; refine (list_w _ _ _ _ _ _ _ _ _ _ N U (X n) _ hlt hlo3 (HN.out _ hb) (Lib.hid (HIn.out _ hbn))).mono ?_; rintro e wl ⟨⟨rb, rfl, hrb⟩, hv⟩; obtain rfl : rb = true := hrb.2 (HSP.out n hn); clear hrb; (try replace hbG := hbG.trans (hv.mono hbG.size)); (try replace hbn := hbn.trans (hv.mono hbn.size)); (try replace hbm := hbm.trans (hv.mono hbm.size)); replace hb := hb.trans (hv.mono hb.size); clear x1 x2 x3 x4; obtain ⟨x1, x2, x3, x4⟩ := BX.out _ hb; (try (clear x5; have x5 := HCL.out _ hb)); (try (clear y1; have y1 := HYG.out _ hbG)); (try (clear y2; have y2 := HYn.out _ hbn)))
    | (go_at_call_of 21 G; refine (HSH.out G _ hG hb).mono ?_; rintro e wl ⟨⟨AG, OG, qcG, rfl, hAG, hNG⟩, hv⟩; (try replace hbG := hbG.trans (hv.mono hbG.size)); (try replace hbn := hbn.trans (hv.mono hbn.size)); (try replace hbm := hbm.trans (hv.mono hbm.size)); replace hb := hb.trans (hv.mono hb.size); clear x1 x2 x3 x4; obtain ⟨x1, x2, x3, x4⟩ := BX.out _ hb; (try (clear x5; have x5 := HCL.out _ hb)); (try (clear y1; have y1 := HYG.out _ hbG)); (try (clear y2; have y2 := HYn.out _ hbn)); have hbG := Below.refl wl.heap.size wl; have HIG : Hid (∀ w2, Below wl.heap.size wl w2 → IntSl w2 (some ⟨AG, OG, none⟩) lo (X G)) := Lib.hid (fun w2 h => .inr ⟨_, _, rfl, Nat.lt_of_lt_of_le hAG h.size, hNG.below hAG h⟩); have HYG : Hid (∀ w2, Below wl.heap.size wl w2 → w2.cell? ⟨AG, OG + i, none⟩ = some (.int .i64 (X G i))) := Lib.hid (fun w2 h => (hNG.below hAG h) i hi); have y1 := HYG.out _ hbG; clear hAG hNG)
    | (go_at_call_of 19 AG; refine (list_w _ _ _ _ _ _ _ _ _ _ N U (X G) _ hlt hlo3 (HN.out _ hb) (Lib.hid (HIG.out _ hbG))).mono ?_; rintro e wl ⟨⟨rb, rfl, hrb⟩, hv⟩; obtain rfl : rb = true := hrb.2 (HSP.out G hG); clear hrb; (try replace hbG := hbG.trans (hv.mono hbG.size)); (try replace hbn := hbn.trans (hv.mono hbn.size)); (try replace hbm := hbm.trans (hv.mono hbm.size)); replace hb := hb.trans (hv.mono hb.size); clear x1 x2 x3 x4; obtain ⟨x1, x2, x3, x4⟩ := BX.out _ hb; (try (clear x5; have x5 := HCL.out _ hb)); (try (clear y1; have y1 := HYG.out _ hbG)); (try (clear y2; have y2 := HYn.out _ hbn)))
    | (go_at_call_of 51 AG; refine (rfull_w f k na _ _ ln cn lo co _ N U (X G) _ q2 (HN.out _ hb) (Lib.hid (HIG.out _ hbG))).mono ?_; rintro e wl ⟨⟨rb, rfl, hrb⟩, hv⟩; (try replace hbG := hbG.trans (hv.mono hbG.size)); (try replace hbn := hbn.trans (hv.mono hbn.size)); (try replace hbm := hbm.trans (hv.mono hbm.size)); replace hb := hb.trans (hv.mono hb.size); clear x1 x2 x3 x4; obtain ⟨x1, x2, x3, x4⟩ := BX.out _ hb; (try (clear x5; have x5 := HCL.out _ hb)); (try (clear y1; have y1 := HYG.out _ hbG)); (try (clear y2; have y2 := HYn.out _ hbn)); (first | (have hq9 := hrb.2 HPGm.out; subst hq9) | (have hq9 : rb = false := (by cases rb <;> first | rfl | exact (HPGm.out (hrb.1 rfl)).elim); subst hq9)); clear hrb)
    | (go_at_call 15; refine (K.out _).mono ?_; rintro e wl ⟨rfl, hv⟩; (try replace hbG := hbG.trans (hv.mono hbG.size)); (try replace hbn := hbn.trans (hv.mono hbn.size)); (try replace hbm := hbm.trans (hv.mono hbm.size)); replace hb := hb.trans (hv.mono hb.size); clear x1 x2 x3 x4; obtain ⟨x1, x2, x3, x4⟩ := BX.out _ hb; (try (clear x5; have x5 := HCL.out _ hb)); (try (clear y1; have y1 := HYG.out _ hbG)); (try (clear y2; have y2 := HYn.out _ hbn))))
  all_goals
    go_ret
    exact ⟨rfl, below_al hb⟩
end Go.Kn

namespace Go.Kn
open Go Go.Proofs Go.RowKit

set_option maxRecDepth 100000 in
theorem neq_tt3 (w : World) : (binOp BinOp.neq 4 (.bool true) (.bool true)).run Tryz.prog w = .ok (.bool false) w := rfl
attribute [local go_sem] neq_tt3

set_option maxRecDepth 100000 in
set_option maxHeartbeats 6000000 in
theorem lawen_h31 (f : Int) (na oa : Option Addr) (ln cn lo co : Nat) (N : Nat → N2) (U : Nat → O3) (i : Nat) (c k : Int) (G : Nat) (w : World) (hls : ln ≤ 1000000) (hlt : lo ≤ 1000000) (H : Hid (Tr7 w na oa ln lo N U)) (K : Hid KnownOk) (hi : i < lo) (hq : ln ≤ 8 ∧ lo ≤ 10) (HR : Hid (TreeP f ln lo N U)) (hc1 : ¬ c < 1) (hc2 : ¬ (U i).c < c) (HC : Hid (fromB 1 (U i).c c = true)) (HK : Hid (fromB 0 3 k = true)) (hG : G ≤ 200) (X : Nat → Nat → Int) (HXS : Hid (XS lo N U X)) (HNn : Hid (∀ m, m ≤ 200 → X m i < c)) (hpgn : ¬ c ≤ X G i) (m : Nat) (hm : m ≤ 200) (HPm : Hid (FullP lo U (X m) k)) (HLm : Hid (∀ j, j < m → ¬ FullP lo U (X j) k)) (hlem : (m : Int) ≤ (G : Int)) (HPGm : Hid (FullP lo U (X G) k))  :
    Calls Tryz.prog 12 #[.agg #[.int .i64 f, .slice na ln cn, .slice oa lo co], .int .i64 (i : Int), .int .i64 c, .int .i64 k, .int .i64 (G : Int)] w
      fun e w' => e = .returned (.bool true) ∧ Below w.heap.size w w' := by
  have hsh : decide (ln ≤ 8 ∧ lo ≤ 10) = true := decide_eq_true hq
  have hoz : fromB 0 ((lo : Int) - 1) (i : Int) = true := by simp only [fromB, decide_eq_true_eq]; omega
  have HO := Lib.hid hoz
  obtain ⟨C, P, hoa, hC, hn⟩ := H.out.ho.resolve_left (by omega)
  have HCL : Hid (∀ w2, Below (w.alloc (.cells #[.int .i64 f, .slice na ln cn, .slice oa lo co] 25)).heap.size (w.alloc (.cells #[.int .i64 f, .slice na ln cn, .slice oa lo co] 25)) w2 → w2.cell? ⟨C, P + i * 3 + 1, none⟩ = some (.int .i64 (U i).c)) := Lib.hid fun w2 h => ((below_al h).cell (p := ⟨C, P + i * 3 + 1, none⟩) hC).trans (hn i hi).2.1
  have n1 : (0 : Int) ≤ (i : Int) := by omega
  have n2 : (i : Int) < (lo : Int) := by omega
  subst hoa
  clear hn hoz
  have hcg : fromB 0 200 (G : Int) = true := cups_nat hG
  have hc0 : fromB 0 200 0 = true := by decide
  have HM1 : Hid (∀ a b : Nat, a ≤ b → b ≤ 200 → c ≤ X a i → c ≤ X b i) := Lib.hid fun a b h hb h1 => Int.le_trans h1 (xs_mono HR.out HXS.out h hb i)
  have HM2 : Hid (∀ a b : Nat, a ≤ b → b ≤ 200 → FullP lo U (X a) k → FullP lo U (X b) k) := Lib.hid fun a b h hb h1 => full_mono h1 (fun j => xs_mono HR.out HXS.out h hb j)
  have HSP : Hid (∀ a : Nat, a ≤ 200 → SharesP lo lo (X a) U) := Lib.hid fun a ha => sharesP_of (xs_vd HR.out HXS.out ha)
  have HSH : Hid (∀ (n : Nat) w2, n ≤ 200 → Below (w.alloc (.cells #[.int .i64 f, .slice na ln cn, .slice (some ⟨C, P, none⟩) lo co] 25)).heap.size (w.alloc (.cells #[.int .i64 f, .slice na ln cn, .slice (some ⟨C, P, none⟩) lo co] 25)) w2 → Calls Tryz.prog 21 #[.agg #[.int .i64 (n : Int), .slice na ln cn, .slice (some ⟨C, P, none⟩) lo co]] w2 fun e w' => (∃ A O cs, e = .returned (.tuple #[.slice (some ⟨A, O, none⟩) lo cs, .int .i64 0]) ∧ A < w'.heap.size ∧ NumAt w' A O lo (X n)) ∧ Below w2.heap.size w2 w') := Lib.hid fun n w2 hn h => by
    refine (shares_w (n : Int) na (some ⟨C, P, none⟩) ln cn lo co N U w2 (Lib.hid (tree_with HR.out (by omega) (by omega))) (Lib.hid (H.out.below (below_al h)))).mono ?_
    rintro e w' ⟨⟨sa, cs, t, he, hs, ho⟩, hb⟩
    obtain rfl : t = X n := ho.det (HXS.out n hn)
    obtain ⟨A, O, rfl, hA, hnm⟩ := hs.resolve_left (by omega)
    exact ⟨⟨A, O, cs, he, hA, hnm⟩, hb⟩
  have hlo3 : lo ≤ maxLen := by unfold maxLen; omega
  have q2 := HR.out.lo2
  have hpgd : decide (c ≤ X G i) = false := decide_eq_false hpgn
  have hmd : decide ((m : Int) ≤ (G : Int)) = true := decide_eq_true hlem
  have hcum := cups_nat hm
  have BX := Lib.hid (fun (w1 : World) (hb : Below (w.alloc (.cells #[.int .i64 f, .slice na ln cn, .slice (some ⟨C, P, none⟩) lo co] 25)).heap.size (w.alloc (.cells #[.int .i64 f, .slice na ln cn, .slice (some ⟨C, P, none⟩) lo co] 25)) w1) => box7 hb)
  have HN : Hid (∀ w1, Below (w.alloc (.cells #[.int .i64 f, .slice na ln cn, .slice (some ⟨C, P, none⟩) lo co] 25)).heap.size (w.alloc (.cells #[.int .i64 f, .slice na ln cn, .slice (some ⟨C, P, none⟩) lo co] 25)) w1 → Hid (Tr7 w1 na (some ⟨C, P, none⟩) ln lo N U)) := Lib.hid fun w1 h => Lib.hid (H.out.below (below_al h))
  have hb : Below (w.alloc (.cells #[.int .i64 f, .slice na ln cn, .slice (some ⟨C, P, none⟩) lo co] 25)).heap.size (w.alloc (.cells #[.int .i64 f, .slice na ln cn, .slice (some ⟨C, P, none⟩) lo co] 25)) (w.alloc (.cells #[.int .i64 f, .slice na ln cn, .slice (some ⟨C, P, none⟩) lo co] 25)) := Below.refl _ _
  obtain ⟨x1, x2, x3, x4⟩ := BX.out _ hb
  clear H
  have x5 := HCL.out _ hb
  go_enter Tryz.func12, Tryz.ntmps12
  go_wp2_with (first
    | (go_at_call 14; refine (short_w _ _ _ _ _ _ _ _ (by unfold maxLen; omega) (by unfold maxLen; omega)).mono ?_; rw [hsh]; rintro e wl ⟨rfl, hv⟩; (try replace hbG := hbG.trans (hv.mono hbG.size)); (try replace hbn := hbn.trans (hv.mono hbn.size)); (try replace hbm := hbm.trans (hv.mono hbm.size)); replace hb := hb.trans (hv.mono hb.size); clear x1 x2 x3 x4; obtain ⟨x1, x2, x3, x4⟩ := BX.out _ hb; (try (clear x5; have x5 := HCL.out _ hb)); (try (clear y1; have y1 := HYG.out _ hbG)); (try (clear y2; have y2 := HYn.out _ hbn)))
    | (go_at_call 18; refine (tree_w _ _ _ _ _ _ _ N U _ hls hlt (HN.out _ hb)).mono ?_; rintro e wl ⟨⟨rb, rfl, hrb⟩, hv⟩; obtain rfl : rb = true := hrb.2 HR.out; clear hrb; (try replace hbG := hbG.trans (hv.mono hbG.size)); (try replace hbn := hbn.trans (hv.mono hbn.size)); (try replace hbm := hbm.trans (hv.mono hbm.size)); replace hb := hb.trans (hv.mono hb.size); clear x1 x2 x3 x4; obtain ⟨x1, x2, x3, x4⟩ := BX.out _ hb; (try (clear x5; have x5 := HCL.out _ hb)); (try (clear y1; have y1 := HYG.out _ hbG)); (try (clear y2; have y2 := HYn.out _ hbn)))
    | (go_at_call 29; refine (outlet_w _ _ _ _ _ _ _ _ _ hlt).mono ?_; rw [HO.out]; rintro e wl ⟨rfl, hv⟩; (try replace hbG := hbG.trans (hv.mono hbG.size)); (try replace hbn := hbn.trans (hv.mono hbn.size)); (try replace hbm := hbm.trans (hv.mono hbm.size)); replace hb := hb.trans (hv.mono hb.size); clear x1 x2 x3 x4; obtain ⟨x1, x2, x3, x4⟩ := BX.out _ hb; (try (clear x5; have x5 := HCL.out _ hb)); (try (clear y1; have y1 := HYG.out _ hbG)); (try (clear y2; have y2 := HYn.out _ hbn)))
    | (go_at_call 48; refine (class_w k _).mono ?_; rw [HK.out]; rintro e wl ⟨rfl, rfl⟩)
    | (go_at_call 41; refine (cups_w _ _).mono ?_; rintro e wl ⟨rfl, rfl⟩)
    | (go_at_call 46; refine (needs_w f c na _ ln cn lo co i N U X _ hi HC.out HR (HN.out _ hb) HXS).mono ?_; rintro e wl ⟨⟨rn, re, rfl, hnr⟩, hv⟩; (try replace hbG := hbG.trans (hv.mono hbG.size)); (try replace hbn := hbn.trans (hv.mono hbn.size)); (try replace hbm := hbm.trans (hv.mono hbm.size)); replace hb := hb.trans (hv.mono hb.size); clear x1 x2 x3 x4; obtain ⟨x1, x2, x3, x4⟩ := BX.out _ hb; (try (clear x5; have x5 := HCL.out _ hb)); (try (clear y1; have y1 := HYG.out _ hbG)); (try (clear y2; have y2 := HYn.out _ hbn)); obtain ⟨rfl, rfl⟩ := needR_no hnr (fun m hm => Int.not_le.2 (HNn.out m hm)); clear hnr)
    | (go_at_call 47; refine (keeps_w f k na _ ln cn lo co N U X _ HK.out HR (HN.out _ hb) HXS).mono ?_; rintro e wl ⟨⟨km, ke, rfl, hkr⟩, hv⟩; (try replace hbG := hbG.trans (hv.mono hbG.size)); (try replace hbn := hbn.trans (hv.mono hbn.size)); (try replace hbm := hbm.trans (hv.mono hbm.size)); replace hb := hb.trans (hv.mono hb.size); clear x1 x2 x3 x4; obtain ⟨x1, x2, x3, x4⟩ := BX.out _ hb; (try (clear x5; have x5 := HCL.out _ hb)); (try (clear y1; have y1 := HYG.out _ hbG)); (try (clear y2; have y2 := HYn.out _ hbn)); obtain ⟨rfl, rfl⟩ := needR_is hkr hm HPm.out HLm.out; clear hkr)
    | (go_at_call 43; refine (with_w _ _ _ _ _ _ _ _ _).mono ?_; rintro e wl ⟨rfl, hv⟩; (try replace hbG := hbG.trans (hv.mono hbG.size)); (try replace hbn := hbn.trans (hv.mono hbn.size)); (try replace hbm := hbm.trans (hv.mono hbm.size)); replace hb := hb.trans (hv.mono hb.size); clear x1 x2 x3 x4; obtain ⟨x1, x2, x3, x4⟩ := BX.out _ hb; (try (clear x5; have x5 := HCL.out _ hb)); (try (clear y1; have y1 := HYG.out _ hbG)); (try (clear y2; have y2 := HYn.out _ hbn)))
    | (go_at_call_of 21 m; refine (HSH.out m _ hm hb).mono ?_; rintro e wl ⟨⟨Am, Om, qcm, rfl, hAm, hNm⟩, hv⟩; (try replace hbG := hbG.trans (hv.mono hbG.size)); (try replace hbn := hbn.trans (hv.mono hbn.size)); (try replace hbm := hbm.trans (hv.mono hbm.size)); replace hb := hb.trans (hv.mono hb.size); clear x1 x2 x3 x4; obtain ⟨x1, x2, x3, x4⟩ := BX.out _ hb; (try (clear x5; have x5 := HCL.out _ hb)); (try (clear y1; have y1 := HYG.out _ hbG)); (try (clear y2; have y2 := HYn.out _ hbn)); have hbm := Below.refl wl.heap.size wl; have HIm : Hid (∀ w2, Below wl.heap.size wl w2 → IntSl w2 (some ⟨Am, Om, none⟩) lo (X m)) := Lib.hid (fun w2 h => .inr ⟨_, _, rfl, Nat.lt_of_lt_of_le hAm h.size, hNm.below hAm h⟩); clear hAm hNm)
    | (go_at_call_of 19 Am; refine (list_w _ _ _ _ _ _ _ _ _ _ N U (X m) _ hlt hlo3 (HN.out _ hb) (Lib.hid (HIm.out _ hbm))).mono ?_; rintro e wl ⟨⟨rb, rfl, hrb⟩, hv⟩; obtain rfl : rb = true := hrb.2 (HSP.out m hm); clear hrb; (try replace hbG := hbG.trans (hv.mono hbG.size)); (try replace hbn := hbn.trans (hv.mono hbn.size)); (try replace hbm := hbm.trans (hv.mono hbm.size)); replace hb := hb.trans (hv.mono hb.size); clear x1 x2 x3 x4; obtain ⟨x1, x2, x3, x4⟩ := BX.out _ hb; (try (clear x5; have x5 := HCL.out _ hb)); (try (clear y1; have y1 := HYG.out _ hbG)); (try (clear y2; have y2 := HYn.out _ hbn)))
    | (go_at_call_of 51 Am; refine (rfull_w f k na _ _ ln cn lo co _ N U (X m) _ q2 (HN.out _ hb) (Lib.hid (HIm.out _ hbm))).mono ?_; rintro e wl ⟨⟨rb, rfl, hrb⟩, hv⟩; (try replace hbG := hbG.trans (hv.mono hbG.size)); (try replace hbn := hbn.trans (hv.mono hbn.size)); (try replace hbm := hbm.trans (hv.mono hbm.size)); replace hb := hb.trans (hv.mono hb.size); clear x1 x2 x3 x4; obtain ⟨x1, x2, x3, x4⟩ := BX.out _ hb; (try (clear x5; have x5 := HCL.out _ hb)); (try (clear y1; have y1 := HYG.out _ hbG)); (try (clear y2; have y2 := HYn.out _ hbn)); (first | (have hq9 := hrb.2 HPm.out; subst hq9) | (have hq9 : rb = false := (by cases rb <;> first | rfl | exact (HPm.out (hrb.1 rfl)).elim); subst hq9)); clear hrb)
    | (go_at_call_of 21 G; refine (HSH.out G _ hG hb).mono ?_; rintro e wl ⟨⟨AG, OG, qcG, rfl, hAG, hNG⟩, hv⟩; (try replace hbG := hbG.trans (hv.mono hbG.size)); (try replace hbn := hbn.trans (hv.mono hbn.size)); (try replace hbm := hbm.trans (hv.mono hbm.size)); replace hb := hb.trans (hv.mono hb.size); clear x1 x2 x3 x4; obtain ⟨x1, x2, x3, x4⟩ := BX.out _ hb; (try (clear x5; have x5 := HCL.out _ hb)); (try (clear y1; have y1 := HYG.out _ hbG)); (try (clear y2; have y2 := HYn.out _ hbn)); have hbG := Below.refl wl.heap.size wl; have HIG : Hid (∀ w2, Below wl.heap.size wl w2 → IntSl w2 (some ⟨AG, OG, none⟩) lo (X G)) := Lib.hid (fun w2 h => .inr ⟨_, _, rfl, Nat.lt_of_lt_of_le hAG h.size, hNG.below hAG h⟩); have HYG : Hid (∀ w2, Below wl.heap.size wl w2 → w2.cell? ⟨AG, OG + i, none⟩ = some (.int .i64 (X G i))) := Lib.hid (fun w2 h => (hNG.below hAG h) i hi); have y1 := HYG.out _ hbG; clear hAG hNG)
    | (go_at_call_of 19 AG; refine (list_w _ _ _ _ _ _ _ _ _ _ N U (X G) _ hlt hlo3 (HN.out _ hb) (Lib.hid (HIG.out _ hbG))).mono ?_; rintro e wl ⟨⟨rb, rfl, hrb⟩, hv⟩; obtain rfl : rb = true := hrb.2 (HSP.out G hG); clear hrb; (try replace hbG := hbG.trans (hv.mono hbG.size)); (try replace hbn := hbn.trans (hv.mono hbn.size)); (try replace hbm := hbm.trans (hv.mono hbm.size)); replace hb := hb.trans (hv.mono hb.size); clear x1 x2 x3 x4; obtain ⟨x1, x2, x3, x4⟩ := BX.out _ hb; (try (clear x5; have x5 := HCL.out _ hb)); (try (clear y1; have y1 := HYG.out _ hbG)); (try (clear y2; have y2 := HYn.out _ hbn)))
    | (go_at_call_of 51 AG; refine (rfull_w f k na _ _ ln cn lo co _ N U (X G) _ q2 (HN.out _ hb) (Lib.hid (HIG.out _ hbG))).mono ?_; rintro e wl ⟨⟨rb, rfl, hrb⟩, hv⟩; (try replace hbG := hbG.trans (hv.mono hbG.size)); (try replace hbn := hbn.trans (hv.mono hbn.size)); (try replace hbm := hbm.trans (hv.mono hbm.size)); replace hb := hb.trans (hv.mono hb.size); clear x1 x2 x3 x4; obtain ⟨x1, x2, x3, x4⟩ := BX.out _ hb; (try (clear x5; have x5 := HCL.out _ hb)); (try (clear y1; have y1 := HYG.out _ hbG)); (try (clear y2; have y2 := HYn.out _ hbn)); (first | (have hq9 := hrb.2 HPGm.out; subst hq9) | (have hq9 : rb = false := (by cases rb <;> first | rfl | exact (HPGm.out (hrb.1 rfl)).elim); subst hq9)); clear hrb)
    | (go_at_call 15; refine (K.out _).mono ?_; rintro e wl ⟨rfl, hv⟩; (try replace hbG := hbG.trans (hv.mono hbG.size)); (try replace hbn := hbn.trans (hv.mono hbn.size)); (try replace hbm := hbm.trans (hv.mono hbm.size)); replace hb := hb.trans (hv.mono hb.size); clear x1 x2 x3 x4; obtain ⟨x1, x2, x3, x4⟩ := BX.out _ hb; (try (clear x5; have x5 := HCL.out _ hb)); (try (clear y1; have y1 := HYG.out _ hbG)); (try (clear y2; have y2 := HYn.out _ hbn))))
  all_goals
    go_ret
    exact ⟨rfl, below_al hb⟩

set_option maxRecDepth 100000 in
set_option maxHeartbeats 6000000 in
theorem lawen_h32 (f : Int) (na oa : Option Addr) (ln cn lo co : Nat) (N : Nat → N2) (U : Nat → O3) (i : Nat) (c k : Int) (G : Nat) (w : World) (hls : ln ≤ 1000000) (hlt : lo ≤ 1000000) (H : Hid (Tr7 w na oa ln lo N U)) (K : Hid KnownOk) (hi : i < lo) (hq : ln ≤ 8 ∧ lo ≤ 10) (HR : Hid (TreeP f ln lo N U)) (hc1 : ¬ c < 1) (hc2 : ¬ (U i).c < c) (HC : Hid (fromB 1 (U i).c c = true)) (HK : Hid (fromB 0 3 k = true)) (hG : G ≤ 200) (X : Nat → Nat → Int) (HXS : Hid (XS lo N U X)) (HNn : Hid (∀ m, m ≤ 200 → X m i < c)) (hpgn : ¬ c ≤ X G i) (m : Nat) (hm : m ≤ 200) (HPm : Hid (FullP lo U (X m) k)) (HLm : Hid (∀ j, j < m → ¬ FullP lo U (X j) k)) (hlem : ¬ (m : Int) ≤ (G : Int)) (HPGm : Hid (¬ FullP lo U (X G) k))  :
    Calls Tryz.prog 12 #[.agg #[.int .i64 f, .slice na ln cn, .slice oa lo co], .int .i64 (i : Int), .int .i64 c, .int .i64 k, .int .i64 (G : Int)] w
      fun e w' => e = .returned (.bool true) ∧ Below w.heap.size w w' := by
  have hsh : decide (ln ≤ 8 ∧ lo ≤ 10) = true := decide_eq_true hq
  have hoz : fromB 0 ((lo : Int) - 1) (i : Int) = true := by simp only [fromB, decide_eq_true_eq]; omega
  have HO := Lib.hid hoz
  obtain ⟨C, P, hoa, hC, hn⟩ := H.out.ho.resolve_left (by omega)
  have HCL : Hid (∀ w2, Below (w.alloc (.cells #[.int .i64 f, .slice na ln cn, .slice oa lo co] 25)).heap.size (w.alloc (.cells #[.int .i64 f, .slice na ln cn, .slice oa lo co] 25)) w2 → w2.cell? ⟨C, P + i * 3 + 1, none⟩ = some (.int .i64 (U i).c)) := Lib.hid fun w2 h => ((below_al h).cell (p := ⟨C, P + i * 3 + 1, none⟩) hC).trans (hn i hi).2.1
  have n1 : (0 : Int) ≤ (i : Int) := by omega
  have n2 : (i : Int) < (lo : Int) := by omega
  subst hoa
  clear hn hoz
  have hcg : fromB 0 200 (G : Int) = true := cups_nat hG
  have hc0 : fromB 0 200 0 = true := by decide
  have HM1 : Hid (∀ a b : Nat, a ≤ b → b ≤ 200 → c ≤ X a i → c ≤ X b i) := Lib.hid fun a b h hb h1 => Int.le_trans h1 (xs_mono HR.out HXS.out h hb i)
  have HM2 : Hid (∀ a b : Nat, a ≤ b → b ≤ 200 → FullP lo U (X a) k → FullP lo U (X b) k) := Lib.hid fun a b h hb h1 => full_mono h1 (fun j => xs_mono HR.out HXS.out h hb j)
  have HSP : Hid (∀ a : Nat, a ≤ 200 → SharesP lo lo (X a) U) := Lib.hid fun a ha => sharesP_of (xs_vd HR.out HXS.out ha)
  have HSH : Hid (∀ (n : Nat) w2, n ≤ 200 → Below (w.alloc (.cells #[.int .i64 f, .slice na ln cn, .slice (some ⟨C, P, none⟩) lo co] 25)).heap.size (w.alloc (.cells #[.int .i64 f, .slice na ln cn, .slice (some ⟨C, P, none⟩) lo co] 25)) w2 → Calls Tryz.prog 21 #[.agg #[.int .i64 (n : Int), .slice na ln cn, .slice (some ⟨C, P, none⟩) lo co]] w2 fun e w' => (∃ A O cs, e = .returned (.tuple #[.slice (some ⟨A, O, none⟩) lo cs, .int .i64 0]) ∧ A < w'.heap.size ∧ NumAt w' A O lo (X n)) ∧ Below w2.heap.size w2 w') := Lib.hid fun n w2 hn h => by
    refine (shares_w (n : Int) na (some ⟨C, P, none⟩) ln cn lo co N U w2 (Lib.hid (tree_with HR.out (by omega) (by omega))) (Lib.hid (H.out.below (below_al h)))).mono ?_
    rintro e w' ⟨⟨sa, cs, t, he, hs, ho⟩, hb⟩
    obtain rfl : t = X n := ho.det (HXS.out n hn)
    obtain ⟨A, O, rfl, hA, hnm⟩ := hs.resolve_left (by omega)
    exact ⟨⟨A, O, cs, he, hA, hnm⟩, hb⟩
  have hlo3 : lo ≤ maxLen := by unfold maxLen; omega
  have q2 := HR.out.lo2
  have hpgd : decide (c ≤ X G i) = false := decide_eq_false hpgn
  have hmd : decide ((m : Int) ≤ (G : Int)) = false := decide_eq_false hlem
  have hcum := cups_nat hm
  have BX := Lib.hid (fun (w1 : World) (hb : Below (w.alloc (.cells #[.int .i64 f, .slice na ln cn, .slice (some ⟨C, P, none⟩) lo co] 25)).heap.size (w.alloc (.cells #[.int .i64 f, .slice na ln cn, .slice (some ⟨C, P, none⟩) lo co] 25)) w1) => box7 hb)
  have HN : Hid (∀ w1, Below (w.alloc (.cells #[.int .i64 f, .slice na ln cn, .slice (some ⟨C, P, none⟩) lo co] 25)).heap.size (w.alloc (.cells #[.int .i64 f, .slice na ln cn, .slice (some ⟨C, P, none⟩) lo co] 25)) w1 → Hid (Tr7 w1 na (some ⟨C, P, none⟩) ln lo N U)) := Lib.hid fun w1 h => Lib.hid (H.out.below (below_al h))
  have hb : Below (w.alloc (.cells #[.int .i64 f, .slice na ln cn, .slice (some ⟨C, P, none⟩) lo co] 25)).heap.size (w.alloc (.cells #[.int .i64 f, .slice na ln cn, .slice (some ⟨C, P, none⟩) lo co] 25)) (w.alloc (.cells #[.int .i64 f, .slice na ln cn, .slice (some ⟨C, P, none⟩) lo co] 25)) := Below.refl _ _
  obtain ⟨x1, x2, x3, x4⟩ := BX.out _ hb
  clear H
  have x5 := HCL.out _ hb
  go_enter Tryz.func12, Tryz.ntmps12
  go_wp2_with (first
    | (go_at_call 14; refine (short_w _ _ _ _ _ _ _ _ (by unfold maxLen; omega) (by unfold maxLen; omega)).mono ?_; rw [hsh]; rintro e wl ⟨rfl, hv⟩; (try replace hbG := hbG.trans (hv.mono hbG.size)); (try replace hbn := hbn.trans (hv.mono hbn.size)); (try replace hbm := hbm.trans (hv.mono hbm.size)); replace hb := hb.trans (hv.mono hb.size); clear x1 x2 x3 x4; obtain ⟨x1, x2, x3, x4⟩ := BX.out _ hb; (try (clear x5; have x5 := HCL.out _ hb)); (try (clear y1; have y1 := HYG.out _ hbG)); (try (clear y2; have y2 := HYn.out _ hbn)))
    | (go_at_call 18; refine (tree_w _ _ _ _ _ _ _ N U _ hls hlt (HN.out _ hb)).mono ?_; rintro e wl ⟨⟨rb, rfl, hrb⟩, hv⟩; obtain rfl : rb = true := hrb.2 HR.out; clear hrb; (try replace hbG := hbG.trans (hv.mono hbG.size)); (try replace hbn := hbn.trans (hv.mono hbn.size)); (try replace hbm := hbm.trans (hv.mono hbm.size)); replace hb := hb.trans (hv.mono hb.size); clear x1 x2 x3 x4; obtain ⟨x1, x2, x3, x4⟩ := BX.out _ hb; (try (clear x5; have x5 := HCL.out _ hb)); (try (clear y1; have y1 := HYG.out _ hbG)); (try (clear y2; have y2 := HYn.out _ hbn)))
    | (go_at_call 29; refine (outlet_w _ _ _ _ _ _ _ _ _ hlt).mono ?_; rw [HO.out]; rintro e wl ⟨rfl, hv⟩; (try replace hbG := hbG.trans (hv.mono hbG.size)); (try replace hbn := hbn.trans (hv.mono hbn.size)); (try replace hbm := hbm.trans (hv.mono hbm.size)); replace hb := hb.trans (hv.mono hb.size); clear x1 x2 x3 x4; obtain ⟨x1, x2, x3, x4⟩ := BX.out _ hb; (try (clear x5; have x5 := HCL.out _ hb)); (try (clear y1; have y1 := HYG.out _ hbG)); (try (clear y2; have y2 := HYn.out _ hbn)))
    | (go_at_call 48; refine (class_w k _).mono ?_; rw [HK.out]; rintro e wl ⟨rfl, rfl⟩)
    | (go_at_call 41; refine (cups_w _ _).mono ?_; rintro e wl ⟨rfl, rfl⟩)
    | (go_at_call 46; refine (needs_w f c na _ ln cn lo co i N U X _ hi HC.out HR (HN.out _ hb) HXS).mono ?_; rintro e wl ⟨⟨rn, re, rfl, hnr⟩, hv⟩; (try replace hbG := hbG.trans (hv.mono hbG.size)); (try replace hbn := hbn.trans (hv.mono hbn.size)); (try replace hbm := hbm.trans (hv.mono hbm.size)); replace hb := hb.trans (hv.mono hb.size); clear x1 x2 x3 x4; obtain ⟨x1, x2, x3, x4⟩ := BX.out _ hb; (try (clear x5; have x5 := HCL.out _ hb)); (try (clear y1; have y1 := HYG.out _ hbG)); (try (clear y2; have y2 := HYn.out _ hbn)); obtain ⟨rfl, rfl⟩ := needR_no hnr (fun m hm => Int.not_le.2 (HNn.out m hm)); clear hnr)
    | (go_at_call 47; refine (keeps_w f k na _ ln cn lo co N U X _ HK.out HR (HN.out _ hb) HXS).mono ?_; rintro e wl ⟨⟨km, ke, rfl, hkr⟩, hv⟩; (try replace hbG := hbG.trans (hv.mono hbG.size)); (try replace hbn := hbn.trans (hv.mono hbn.size)); (try replace hbm := hbm.trans (hv.mono hbm.size)); replace hb := hb.trans (hv.mono hb.size); clear x1 x2 x3 x4; obtain ⟨x1, x2, x3, x4⟩ := BX.out _ hb; (try (clear x5; have x5 := HCL.out _ hb)); (try (clear y1; have y1 := HYG.out _ hbG)); (try (clear y2; have y2 := HYn.out _ hbn)); obtain ⟨rfl, rfl⟩ := needR_is hkr hm HPm.out HLm.out; clear hkr)
    | (go_at_call 43; refine (with_w _ _ _ _ _ _ _ _ _).mono ?_; rintro e wl ⟨rfl, hv⟩; (try replace hbG := hbG.trans (hv.mono hbG.size)); (try replace hbn := hbn.trans (hv.mono hbn.size)); (try replace hbm := hbm.trans (hv.mono hbm.size)); replace hb := hb.trans (hv.mono hb.size); clear x1 x2 x3 x4; obtain ⟨x1, x2, x3, x4⟩ := BX.out _ hb; (try (clear x5; have x5 := HCL.out _ hb)); (try (clear y1; have y1 := HYG.out _ hbG)); (try (clear y2; have y2 := HYn.out _ hbn)))
    | (go_at_call_of 21 m; refine (HSH.out m _ hm hb).mono ?_; rintro e wl ⟨⟨Am, Om, qcm, rfl, hAm, hNm⟩, hv⟩; (try replace hbG := hbG.trans (hv.mono hbG.size)); (try replace hbn := hbn.trans (hv.mono hbn.size)); (try replace hbm := hbm.trans (hv.mono hbm.size)); replace hb := hb.trans (hv.mono hb.size); clear x1 x2 x3 x4; obtain ⟨x1, x2, x3, x4⟩ := BX.out _ hb; (try (clear x5; have x5 := HCL.out _ hb)); (try (clear y1; have y1 := HYG.out _ hbG)); (try (clear y2; have y2 := HYn.out _ hbn)); have hbm := Below.refl wl.heap.size wl; have HIm : Hid (∀ w2, Below wl.heap.size wl w2 → IntSl w2 (some ⟨Am, Om, none⟩) lo (X m)) := Lib.hid (fun w2 h => .inr ⟨_, _, rfl, Nat.lt_of_lt_of_le hAm h.size, hNm.below hAm h⟩); clear hAm hNm)
    | (go_at_call_of 19 Am; refine (list_w _ _ _ _ _ _ _ _ _ _ N U (X m) _ hlt hlo3 (HN.out _ hb) (Lib.hid (HIm.out _ hbm))).mono ?_; rintro e wl ⟨⟨rb, rfl, hrb⟩, hv⟩; obtain rfl : rb = true := hrb.2 (HSP.out m hm); clear hrb; (try replace hbG := hbG.trans (hv.mono hbG.size)); (try replace hbn := hbn.trans (hv.mono hbn.size)); (try replace hbm := hbm.trans (hv.mono hbm.size)); replace hb := hb.trans (hv.mono hb.size); clear x1 x2 x3 x4; obtain ⟨x1, x2, x3, x4⟩ := BX.out _ hb; (try (clear x5; have x5 := HCL.out _ hb)); (try (clear y1; have y1 := HYG.out _ hbG)); (try (clear y2; have y2 := HYn.out _ hbn)))
    | (go_at_call_of 51 Am; refine (rfull_w f k na _ _ ln cn lo co _ N U (X m) _ q2 (HN.out _ hb) (Lib.hid (HIm.out _ hbm))).mono ?_; rintro e wl ⟨⟨rb, rfl, hrb⟩, hv⟩; (try replace hbG := hbG.trans (hv.mono hbG.size)); (try replace hbn := hbn.trans (hv.mono hbn.size)); (try replace hbm := hbm.trans (hv.mono hbm.size)); replace hb := hb.trans (hv.mono hb.size); clear x1 x2 x3 x4; obtain ⟨x1, x2, x3, x4⟩ := BX.out _ hb; (try (clear x5; have x5 := HCL.out _ hb)); (try (clear y1; have y1 := HYG.out _ hbG)); (try (clear y2; have y2 := HYn.out _ hbn)); (first | (have hq9 := hrb.2 HPm.out; subst hq9) | (have hq9 : rb = false := (by cases rb <;> first | rfl | exact (HPm.out (hrb.1 rfl)).elim); subst hq9)); clear hrb)
    | (go_at_call_of 21 G; refine (HSH.out G _ hG hb).mono ?_; rintro e wl ⟨⟨AG, OG, qcG, rfl, hAG, hNG⟩, hv⟩; (try replace hbG := hbG.trans (hv.mono hbG.size)); (try replace hbn := hbn.trans (hv.mono hbn.size)); (try replace hbm := hbm.trans (hv.mono hbm.size)); replace hb := hb.trans (hv.mono hb.size); clear x1 x2 x3 x4; obtain ⟨x1, x2, x3, x4⟩ := BX.out _ hb; (try (clear x5; have x5 := HCL.out _ hb)); (try (clear y1; have y1 := HYG.out _ hbG)); (try (clear y2; have y2 := HYn.out _ hbn)); have hbG := Below.refl wl.heap.size wl; have HIG : Hid (∀ w2, Below wl.heap.size wl w2 → IntSl w2 (some ⟨AG, OG, none⟩) lo (X G)) := Lib.hid (fun w2 h => .inr ⟨_, _, rfl, Nat.lt_of_lt_of_le hAG h.size, hNG.below hAG h⟩); have HYG : Hid (∀ w2, Below wl.heap.size wl w2 → w2.cell? ⟨AG, OG + i, none⟩ = some (.int .i64 (X G i))) := Lib.hid (fun w2 h => (hNG.below hAG h) i hi); have y1 := HYG.out _ hbG; clear hAG hNG)
    | (go_at_call_of 19 AG; refine (list_w _ _ _ _ _ _ _ _ _ _ N U (X G) _ hlt hlo3 (HN.out _ hb) (Lib.hid (HIG.out _ hbG))).mono ?_; rintro e wl ⟨⟨rb, rfl, hrb⟩, hv⟩; obtain rfl : rb = true := hrb.2 (HSP.out G hG); clear hrb; (try replace hbG := hbG.trans (hv.mono hbG.size)); (try replace hbn := hbn.trans (hv.mono hbn.size)); (try replace hbm := hbm.trans (hv.mono hbm.size)); replace hb := hb.trans (hv.mono hb.size); clear x1 x2 x3 x4; obtain ⟨x1, x2, x3, x4⟩ := BX.out _ hb; (try (clear x5; have x5 := HCL.out _ hb)); (try (clear y1; have y1 := HYG.out _ hbG)); (try (clear y2; have y2 := HYn.out _ hbn)))
    | (go_at_call_of 51 AG; refine (rfull_w f k na _ _ ln cn lo co _ N U (X G) _ q2 (HN.out _ hb) (Lib.hid (HIG.out _ hbG))).mono ?_; rintro e wl ⟨⟨rb, rfl, hrb⟩, hv⟩; (try replace hbG := hbG.trans (hv.mono hbG.size)); (try replace hbn := hbn.trans (hv.mono hbn.size)); (try replace hbm := hbm.trans (hv.mono hbm.size)); replace hb := hb.trans (hv.mono hb.size); clear x1 x2 x3 x4; obtain ⟨x1, x2, x3, x4⟩ := BX.out _ hb; (try (clear x5; have x5 := HCL.out _ hb)); (try (clear y1; have y1 := HYG.out _ hbG)); (try (clear y2; have y2 := HYn.out _ hbn)); (first | (have hq9 := hrb.2 HPGm.out; subst hq9) | (have hq9 : rb = false := (by cases rb <;> first | rfl | exact (HPGm.out (hrb.1 rfl)).elim); subst hq9)); clear hrb)
    | (go_at_call 15; refine (K.out _).mono ?_; rintro e wl ⟨rfl, hv⟩; (try replace hbG := hbG.trans (hv.mono hbG.size)); (try replace hbn := hbn.trans (hv.mono hbn.size)); (try replace hbm := hbm.trans (hv.mono hbm.size)); replace hb := hb.trans (hv.mono hb.size); clear x1 x2 x3 x4; obtain ⟨x1, x2, x3, x4⟩ := BX.out _ hb; (try (clear x5; have x5 := HCL.out _ hb)); (try (clear y1; have y1 := HYG.out _ hbG)); (try (clear y2; have y2 := HYn.out _ hbn))))
  all_goals
    go_ret
    exact ⟨rfl, below_al hb⟩

set_option maxRecDepth 100000 in
set_option maxHeartbeats 6000000 in
theorem lawen_h33 (f : Int) (na oa : Option Addr) (ln cn lo co : Nat) (N : Nat → N2) (U : Nat → O3) (i : Nat) (c k : Int) (G : Nat) (w : World) (hls : ln ≤ 1000000) (hlt : lo ≤ 1000000) (H : Hid (Tr7 w na oa ln lo N U)) (K : Hid KnownOk) (hi : i < lo) (hq : ln ≤ 8 ∧ lo ≤ 10) (HR : Hid (TreeP f ln lo N U)) (hc1 : ¬ c < 1) (hc2 : ¬ (U i).c < c) (HC : Hid (fromB 1 (U i).c c = true)) (HK : Hid (fromB 0 3 k = true)) (hG : G ≤ 200) (X : Nat → Nat → Int) (HXS : Hid (XS lo N U X)) (HNn : Hid (∀ m, m ≤ 200 → X m i < c)) (hpgn : ¬ c ≤ X G i) (HNm : Hid (∀ j, j ≤ 200 → ¬ FullP lo U (X j) k)) (HPGm : Hid (¬ FullP lo U (X G) k))  :
    Calls Tryz.prog 12 #[.agg #[.int .i64 f, .slice na ln cn, .slice oa lo co], .int .i64 (i : Int), .int .i64 c, .int .i64 k, .int .i64 (G : Int)] w
      fun e w' => e = .returned (.bool true) ∧ Below w.heap.size w w' := by
  have hsh : decide (ln ≤ 8 ∧ lo ≤ 10) = true := decide_eq_true hq
  have hoz : fromB 0 ((lo : Int) - 1) (i : Int) = true := by simp only [fromB, decide_eq_true_eq]; omega
  have HO := Lib.hid hoz
  obtain ⟨C, P, hoa, hC, hn⟩ := H.out.ho.resolve_left (by omega)
  have HCL : Hid (∀ w2, Below (w.alloc (.cells #[.int .i64 f, .slice na ln cn, .slice oa lo co] 25)).heap.size (w.alloc (.cells #[.int .i64 f, .slice na ln cn, .slice oa lo co] 25)) w2 → w2.cell? ⟨C, P + i * 3 + 1, none⟩ = some (.int .i64 (U i).c)) := Lib.hid fun w2 h => ((below_al h).cell (p := ⟨C, P + i * 3 + 1, none⟩) hC).trans (hn i hi).2.1
  have n1 : (0 : Int) ≤ (i : Int) := by omega
  have n2 : (i : Int) < (lo : Int) := by omega
  subst hoa
  clear hn hoz
  have hcg : fromB 0 200 (G : Int) = true := cups_nat hG
  have hc0 : fromB 0 200 0 = true := by decide
  have HM1 : Hid (∀ a b : Nat, a ≤ b → b ≤ 200 → c ≤ X a i → c ≤ X b i) := Lib.hid fun a b h hb h1 => Int.le_trans h1 (xs_mono HR.out HXS.out h hb i)
  have HM2 : Hid (∀ a b : Nat, a ≤ b → b ≤ 200 → FullP lo U (X a) k → FullP lo U (X b) k) := Lib.hid fun a b h hb h1 => full_mono h1 (fun j => xs_mono HR.out HXS.out h hb j)
  have HSP : Hid (∀ a : Nat, a ≤ 200 → SharesP lo lo (X a) U) := Lib.hid fun a ha => sharesP_of (xs_vd HR.out HXS.out ha)
  have HSH : Hid (∀ (n : Nat) w2, n ≤ 200 → Below (w.alloc (.cells #[.int .i64 f, .slice na ln cn, .slice (some ⟨C, P, none⟩) lo co] 25)).heap.size (w.alloc (.cells #[.int .i64 f, .slice na ln cn, .slice (some ⟨C, P, none⟩) lo co] 25)) w2 → Calls Tryz.prog 21 #[.agg #[.int .i64 (n : Int), .slice na ln cn, .slice (some ⟨C, P, none⟩) lo co]] w2 fun e w' => (∃ A O cs, e = .returned (.tuple #[.slice (some ⟨A, O, none⟩) lo cs, .int .i64 0]) ∧ A < w'.heap.size ∧ NumAt w' A O lo (X n)) ∧ Below w2.heap.size w2 w') := Lib.hid fun n w2 hn h => by
    refine (shares_w (n : Int) na (some ⟨C, P, none⟩) ln cn lo co N U w2 (Lib.hid (tree_with HR.out (by omega) (by omega))) (Lib.hid (H.out.below (below_al h)))).mono ?_
    rintro e w' ⟨⟨sa, cs, t, he, hs, ho⟩, hb⟩
    obtain rfl : t = X n := ho.det (HXS.out n hn)
    obtain ⟨A, O, rfl, hA, hnm⟩ := hs.resolve_left (by omega)
    exact ⟨⟨A, O, cs, he, hA, hnm⟩, hb⟩
  have hlo3 : lo ≤ maxLen := by unfold maxLen; omega
  have q2 := HR.out.lo2
  have hpgd : decide (c ≤ X G i) = false := decide_eq_false hpgn
  have BX := Lib.hid (fun (w1 : World) (hb : Below (w.alloc (.cells #[.int .i64 f, .slice na ln cn, .slice (some ⟨C, P, none⟩) lo co] 25)).heap.size (w.alloc (.cells #[.int .i64 f, .slice na ln cn, .slice (some ⟨C, P, none⟩) lo co] 25)) w1) => box7 hb)
  have HN : Hid (∀ w1, Below (w.alloc (.cells #[.int .i64 f, .slice na ln cn, .slice (some ⟨C, P, none⟩) lo co] 25)).heap.size (w.alloc (.cells #[.int .i64 f, .slice na ln cn, .slice (some ⟨C, P, none⟩) lo co] 25)) w1 → Hid (Tr7 w1 na (some ⟨C, P, none⟩) ln lo N U)) := Lib.hid fun w1 h => Lib.hid (H.out.below (below_al h))
  have hb : Below (w.alloc (.cells #[.int .i64 f, .slice na ln cn, .slice (some ⟨C, P, none⟩) lo co] 25)).heap.size (w.alloc (.cells #[.int .i64 f, .slice na ln cn, .slice (some ⟨C, P, none⟩) lo co] 25)) (w.alloc (.cells #[.int .i64 f, .slice na ln cn, .slice (some ⟨C, P, none⟩) lo co] 25)) := Below.refl _ _
  obtain ⟨x1, x2, x3, x4⟩ := BX.out _ hb
  clear H
  have x5 := HCL.out _ hb
  go_enter Tryz.func12, Tryz.ntmps12
  go_wp2_with (first
    | (go_at_call 14; refine (short_w _ _ _ _ _ _ _ _ (by unfold maxLen; omega) (by unfold maxLen; omega)).mono ?_; rw [hsh]; rintro e wl ⟨rfl, hv⟩; (try replace hbG := hbG.trans (hv.mono hbG.size)); (try replace hbn := hbn.trans (hv.mono hbn.size)); (try replace hbm := hbm.trans (hv.mono hbm.size)); replace hb := hb.trans (hv.mono hb.size); clear x1 x2 x3 x4; obtain ⟨x1, x2, x3, x4⟩ := BX.out _ hb; (try (clear x5; have x5 := HCL.out _ hb)); (try (clear y1; have y1 := HYG.out _ hbG)); (try (clear y2; have y2 := HYn.out _ hbn)))
    | (go_at_call 18; refine (tree_w _ _ _ _ _ _ _ N U _ hls hlt (HN.out _ hb)).mono ?_; rintro e wl ⟨⟨rb, rfl, hrb⟩, hv⟩; obtain rfl : rb = true := hrb.2 HR.out; clear hrb; (try replace hbG := hbG.trans (hv.mono hbG.size)); (try replace hbn := hbn.trans (hv.mono hbn.size)); (try replace hbm := hbm.trans (hv.mono hbm.size)); replace hb := hb.trans (hv.mono hb.size); clear x1 x2 x3 x4; obtain ⟨x1, x2, x3, x4⟩ := BX.out _ hb; (try (clear x5; have x5 := HCL.out _ hb)); (try (clear y1; have y1 := HYG.out _ hbG)); (try (clear y2; have y2 := HYn.out _ hbn)))
    | (go_at_call 29; refine (outlet_w _ _ _ _ _ _ _ _ _ hlt).mono ?_; rw [HO.out]; rintro e wl ⟨rfl, hv⟩; (try replace hbG := hbG.trans (hv.mono hbG.size)); (try replace hbn := hbn.trans (hv.mono hbn.size)); (try replace hbm := hbm.trans (hv.mono hbm.size)); replace hb := hb.trans (hv.mono hb.size); clear x1 x2 x3 x4; obtain ⟨x1, x2, x3, x4⟩ := BX.out _ hb; (try (clear x5; have x5 := HCL.out _ hb)); (try (clear y1; have y1 := HYG.out _ hbG)); (try (clear y2; have y2 := HYn.out _ hbn)))
    | (go_at_call 48; refine (class_w k _).mono ?_; rw [HK.out]; rintro e wl ⟨rfl, rfl⟩)
    | (go_at_call 41; refine (cups_w _ _).mono ?_; rintro e wl ⟨rfl, rfl⟩)
    | (go_at_call 46; refine (needs_w f c na _ ln cn lo co i N U X _ hi HC.out HR (HN.out _ hb) HXS).mono ?_; rintro e wl ⟨⟨rn, re, rfl, hnr⟩, hv⟩; (try replace hbG := hbG.trans (hv.mono hbG.size)); (try replace hbn := hbn.trans (hv.mono hbn.size)); (try replace hbm := hbm.trans (hv.mono hbm.size)); replace hb := hb.trans (hv.mono hb.size); clear x1 x2 x3 x4; obtain ⟨x1, x2, x3, x4⟩ := BX.out _ hb; (try (clear x5; have x5 := HCL.out _ hb)); (try (clear y1; have y1 := HYG.out _ hbG)); (try (clear y2; have y2 := HYn.out _ hbn)); obtain ⟨rfl, rfl⟩ := needR_no hnr (fun m hm => Int.not_le.2 (HNn.out m hm)); clear hnr)
    | (go_at_call 47; refine (keeps_w f k na _ ln cn lo co N U X _ HK.out HR (HN.out _ hb) HXS).mono ?_; rintro e wl ⟨⟨km, ke, rfl, hkr⟩, hv⟩; (try replace hbG := hbG.trans (hv.mono hbG.size)); (try replace hbn := hbn.trans (hv.mono hbn.size)); (try replace hbm := hbm.trans (hv.mono hbm.size)); replace hb := hb.trans (hv.mono hb.size); clear x1 x2 x3 x4; obtain ⟨x1, x2, x3, x4⟩ := BX.out _ hb; (try (clear x5; have x5 := HCL.out _ hb)); (try (clear y1; have y1 := HYG.out _ hbG)); (try (clear y2; have y2 := HYn.out _ hbn)); obtain ⟨rfl, rfl⟩ := needR_no hkr HNm.out; clear hkr)
    | (go_at_call 43; refine (with_w _ _ _ _ _ _ _ _ _).mono ?_; rintro e wl ⟨rfl, hv⟩; (try replace hbG := hbG.trans (hv.mono hbG.size)); (try replace hbn := hbn.trans (hv.mono hbn.size)); (try replace hbm := hbm.trans (hv.mono hbm.size)); replace hb := hb.trans (hv.mono hb.size); clear x1 x2 x3 x4; obtain ⟨x1, x2, x3, x4⟩ := BX.out _ hb; (try (clear x5; have x5 := HCL.out _ hb)); (try (clear y1; have y1 := HYG.out _ hbG)); (try (clear y2; have y2 := HYn.out _ hbn)))
    | (go_at_call_of 21 G; refine (HSH.out G _ hG hb).mono ?_; rintro e wl ⟨⟨AG, OG, qcG, rfl, hAG, hNG⟩, hv⟩; (try replace hbG := hbG.trans (hv.mono hbG.size)); (try replace hbn := hbn.trans (hv.mono hbn.size)); (try replace hbm := hbm.trans (hv.mono hbm.size)); replace hb := hb.trans (hv.mono hb.size); clear x1 x2 x3 x4; obtain ⟨x1, x2, x3, x4⟩ := BX.out _ hb; (try (clear x5; have x5 := HCL.out _ hb)); (try (clear y1; have y1 := HYG.out _ hbG)); (try (clear y2; have y2 := HYn.out _ hbn)); have hbG := Below.refl wl.heap.size wl; have HIG : Hid (∀ w2, Below wl.heap.size wl w2 → IntSl w2 (some ⟨AG, OG, none⟩) lo (X G)) := Lib.hid (fun w2 h => .inr ⟨_, _, rfl, Nat.lt_of_lt_of_le hAG h.size, hNG.below hAG h⟩); have HYG : Hid (∀ w2, Below wl.heap.size wl w2 → w2.cell? ⟨AG, OG + i, none⟩ = some (.int .i64 (X G i))) := Lib.hid (fun w2 h => (hNG.below hAG h) i hi); have y1 := HYG.out _ hbG; clear hAG hNG)
    | (go_at_call_of 19 AG; refine (list_w _ _ _ _ _ _ _ _ _ _ N U (X G) _ hlt hlo3 (HN.out _ hb) (Lib.hid (HIG.out _ hbG))).mono ?_; rintro e wl ⟨⟨rb, rfl, hrb⟩, hv⟩; obtain rfl : rb = true := hrb.2 (HSP.out G hG); clear hrb; (try replace hbG := hbG.trans (hv.mono hbG.size)); (try replace hbn := hbn.trans (hv.mono hbn.size)); (try replace hbm := hbm.trans (hv.mono hbm.size)); replace hb := hb.trans (hv.mono hb.size); clear x1 x2 x3 x4; obtain ⟨x1, x2, x3, x4⟩ := BX.out _ hb; (try (clear x5; have x5 := HCL.out _ hb)); (try (clear y1; have y1 := HYG.out _ hbG)); (try (clear y2; have y2 := HYn.out _ hbn)))
    | (go_at_call_of 51 AG; refine (rfull_w f k na _ _ ln cn lo co _ N U (X G) _ q2 (HN.out _ hb) (Lib.hid (HIG.out _ hbG))).mono ?_; rintro e wl ⟨⟨rb, rfl, hrb⟩, hv⟩; (try replace hbG := hbG.trans (hv.mono hbG.size)); (try replace hbn := hbn.trans (hv.mono hbn.size)); (try replace hbm := hbm.trans (hv.mono hbm.size)); replace hb := hb.trans (hv.mono hb.size); clear x1 x2 x3 x4; obtain ⟨x1, x2, x3, x4⟩ := BX.out _ hb; (try (clear x5; have x5 := HCL.out _ hb)); (try (clear y1; have y1 := HYG.out _ hbG)); (try (clear y2; have y2 := HYn.out _ hbn)); (first | (have hq9 := hrb.2 HPGm.out; subst hq9) | (have hq9 : rb = false := (by cases rb <;> first | rfl | exact (HPGm.out (hrb.1 rfl)).elim); subst hq9)); clear hrb)
    | (go_at_call 15; refine (K.out _).mono ?_; rintro e wl ⟨rfl, hv⟩; (try replace hbG := hbG.trans (hv.mono hbG.size)); (try replace hbn := hbn.trans (hv.mono hbn.size)); (try replace hbm := hbm.trans (hv.mono hbm.size)); replace hb := hb.trans (hv.mono hb.size); clear x1 x2 x3 x4; obtain ⟨x1, x2, x3, x4⟩ := BX.out _ hb; (try (clear x5; have x5 := HCL.out _ hb)); (try (clear y1; have y1 := HYG.out _ hbG)); (try (clear y2; have y2 := HYn.out _ hbn))))
  all_goals
    go_ret
    exact ⟨rfl, below_al hb⟩
end Go.Kn

namespace Go.Kn
open Go Go.Proofs Go.RowKit

set_option maxHeartbeats 1000000 in
theorem lawen_w (f : Int) (na oa : Option Addr) (ln cn lo co : Nat) (N : Nat → N2) (U : Nat → O3) (z c k g : Int) (w : World) (hls : ln ≤ maxLen) (hlt : lo ≤ maxLen) (H : Tr7 w na oa ln lo N U) (K : KnownOk) :
    Calls Tryz.prog 12 #[.agg #[.int .i64 f, .slice na ln cn, .slice oa lo co], .int .i64 z, .int .i64 c, .int .i64 k, .int .i64 g] w
      fun e w' => e = .returned (.bool true) ∧ Below w.heap.size w w' := by
  by_cases hq : ln ≤ 8 ∧ lo ≤ 10
  case neg => exact lawen_a f na oa ln cn lo co N U z c k g w hls hlt (Lib.hid H) (Lib.hid K) hq
  by_cases HR : TreeP f ln lo N U
  case neg => exact lawen_b f na oa ln cn lo co N U z c k g w (by omega) (by omega) (Lib.hid H) (Lib.hid K) hq (Lib.hid HR)
  have l1 : ln ≤ 1000000 := by omega
  have l2 : lo ≤ 1000000 := by omega
  cases ho : fromB 0 ((lo : Int) - 1) z with
  | false => exact lawen_c f na oa ln cn lo co N U z c k g w l1 l2 (Lib.hid H) (Lib.hid K) hq (Lib.hid HR) (Lib.hid ho)
  | true =>
    obtain ⟨i, rfl, hi⟩ := outlet_nat ho
    by_cases h1 : c < 1
    · exact lawen_d f na oa ln cn lo co N U i c k g w l1 l2 (Lib.hid H) (Lib.hid K) hi hq (Lib.hid HR) h1
    by_cases h2 : (U i).c < c
    · exact lawen_e f na oa ln cn lo co N U i c k g w l1 l2 (Lib.hid H) (Lib.hid K) hi hq (Lib.hid HR) h1 h2
    cases hk : fromB 0 3 k with
    | false => exact lawen_f f na oa ln cn lo co N U i c k g w l1 l2 (Lib.hid H) (Lib.hid K) hi hq (Lib.hid HR) h1 h2 (Lib.hid hk)
    | true =>
      cases hg : fromB 0 200 g with
      | false => exact lawen_g f na oa ln cn lo co N U i c k g w l1 l2 (Lib.hid H) (Lib.hid K) hi hq (Lib.hid HR) h1 h2 (Lib.hid hk) hg
      | true =>
        obtain ⟨X, HX⟩ := xs_ex HR
        obtain ⟨G, rfl, hG⟩ : ∃ G : Nat, g = (G : Int) ∧ G ≤ 200 := by
          simp only [fromB, decide_eq_true_eq] at hg
          exact ⟨g.toNat, by omega, by omega⟩
        have hc : fromB 1 (U i).c c = true := by simp only [fromB, decide_eq_true_eq]; omega
        have M1 : ∀ a b : Nat, a ≤ b → b ≤ 200 → c ≤ X a i → c ≤ X b i := fun a b h hb h1 => Int.le_trans h1 (xs_mono HR HX h hb i)
        have M2 : ∀ a b : Nat, a ≤ b → b ≤ 200 → FullP lo U (X a) k → FullP lo U (X b) k := fun a b h hb h1 => full_mono h1 (fun j => xs_mono HR HX h hb j)
        rcases least_ex (fun n => c ≤ X n i) with ⟨n, hn, hpn, hln⟩ | hno
        · have HL : ∀ m, m < n → X m i < c := fun m hm => Int.not_le.1 (hln m hm)
          by_cases e1 : (n : Int) ≤ (G : Int)
          · have hpg := M1 n G (by omega) hG hpn
            rcases least_ex (fun n => FullP lo U (X n) k) with ⟨m, hm, hpm, hlm⟩ | hnm
            · by_cases e2 : (m : Int) ≤ (G : Int)
              · exact lawen_h11 f na oa ln cn lo co N U i c k G w l1 l2 (Lib.hid H) (Lib.hid K) hi hq (Lib.hid HR) h1 h2 (Lib.hid hc) (Lib.hid hk) hG X (Lib.hid HX) n hn (Lib.hid hpn) (Lib.hid HL) e1 hpg m hm (Lib.hid hpm) (Lib.hid hlm) e2 (Lib.hid (M2 m G (by omega) hG hpm))
              · exact lawen_h12 f na oa ln cn lo co N U i c k G w l1 l2 (Lib.hid H) (Lib.hid K) hi hq (Lib.hid HR) h1 h2 (Lib.hid hc) (Lib.hid hk) hG X (Lib.hid HX) n hn (Lib.hid hpn) (Lib.hid HL) e1 hpg m hm (Lib.hid hpm) (Lib.hid hlm) e2 (Lib.hid (hlm G (by omega)))
            · exact lawen_h13 f na oa ln cn lo co N U i c k G w l1 l2 (Lib.hid H) (Lib.hid K) hi hq (Lib.hid HR) h1 h2 (Lib.hid hc) (Lib.hid hk) hG X (Lib.hid HX) n hn (Lib.hid hpn) (Lib.hid HL) e1 hpg (Lib.hid hnm) (Lib.hid (hnm G hG))
          · have hpg : ¬ c ≤ X G i := hln G (by omega)
            rcases least_ex (fun n => FullP lo U (X n) k) with ⟨m, hm, hpm, hlm⟩ | hnm
            · by_cases e2 : (m : Int) ≤ (G : Int)
              · exact lawen_h21 f na oa ln cn lo co N U i c k G w l1 l2 (Lib.hid H) (Lib.hid K) hi hq (Lib.hid HR) h1 h2 (Lib.hid hc) (Lib.hid hk) hG X (Lib.hid HX) n hn (Lib.hid hpn) (Lib.hid HL) e1 hpg m hm (Lib.hid hpm) (Lib.hid hlm) e2 (Lib.hid (M2 m G (by omega) hG hpm))
              · exact lawen_h22 f na oa ln cn lo co N U i c k G w l1 l2 (Lib.hid H) (Lib.hid K) hi hq (Lib.hid HR) h1 h2 (Lib.hid hc) (Lib.hid hk) hG X (Lib.hid HX) n hn (Lib.hid hpn) (Lib.hid HL) e1 hpg m hm (Lib.hid hpm) (Lib.hid hlm) e2 (Lib.hid (hlm G (by omega)))
            · exact lawen_h23 f na oa ln cn lo co N U i c k G w l1 l2 (Lib.hid H) (Lib.hid K) hi hq (Lib.hid HR) h1 h2 (Lib.hid hc) (Lib.hid hk) hG X (Lib.hid HX) n hn (Lib.hid hpn) (Lib.hid HL) e1 hpg (Lib.hid hnm) (Lib.hid (hnm G hG))
        · have HL : ∀ m, m ≤ 200 → X m i < c := fun m hm => Int.not_le.1 (hno m hm)
          have hpg : ¬ c ≤ X G i := hno G hG
          rcases least_ex (fun n => FullP lo U (X n) k) with ⟨m, hm, hpm, hlm⟩ | hnm
          · by_cases e2 : (m : Int) ≤ (G : Int)
            · exact lawen_h31 f na oa ln cn lo co N U i c k G w l1 l2 (Lib.hid H) (Lib.hid K) hi hq (Lib.hid HR) h1 h2 (Lib.hid hc) (Lib.hid hk) hG X (Lib.hid HX) (Lib.hid HL) hpg m hm (Lib.hid hpm) (Lib.hid hlm) e2 (Lib.hid (M2 m G (by omega) hG hpm))
            · exact lawen_h32 f na oa ln cn lo co N U i c k G w l1 l2 (Lib.hid H) (Lib.hid K) hi hq (Lib.hid HR) h1 h2 (Lib.hid hc) (Lib.hid hk) hG X (Lib.hid HX) (Lib.hid HL) hpg m hm (Lib.hid hpm) (Lib.hid hlm) e2 (Lib.hid (hlm G (by omega)))
          · exact lawen_h33 f na oa ln cn lo co N U i c k G w l1 l2 (Lib.hid H) (Lib.hid K) hi hq (Lib.hid HR) h1 h2 (Lib.hid hc) (Lib.hid hk) hG X (Lib.hid HX) (Lib.hid HL) hpg (Lib.hid hnm) (Lib.hid (hnm G hG))
end Go.Kn
