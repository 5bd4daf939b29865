/- Contracts of functions that the laws of this seat call, or the evaluator of closed calls and its runs. Conditions: as each theorem states them. -/
import Derived.Test.YtamoigfafgfimaaGreatDoorHF
import Derived.Test.YtamoigfafgfimaaGreatDoorHB
set_option linter.unusedVariables false
set_option linter.unusedSimpArgs false
namespace Go.Kn
open Go Go.Proofs Go.RowKit

set_option maxRecDepth 100000 in
set_option maxHeartbeats 2000000 in
theorem fits_bad1 (f : Int) (na oa sa : Option Addr) (ln cn lo co ls cs : Nat) (N : Nat → N2) (U : Nat → O3) (s : Nat → Int) (w : World) (hls : ln ≤ 1000000) (hlt : lo ≤ 1000000) (H : Hid (Tr7 w na oa ln lo N U)) (HR : Hid (¬ TreeP f ln lo N U)) :
    Calls Tryz.prog 17 #[.agg #[.int .i64 f, .slice na ln cn, .slice oa lo co], .slice sa ls cs] w fun e w' => e = .returned (.tuple #[.bool false, .int .i64 2]) ∧ Below w.heap.size w w' := by
  obtain ⟨W, hW⟩ : ∃ W, W = (w.alloc (.cells #[.int .i64 f, .slice na ln cn, .slice oa lo co] 25)).alloc (.cells #[.slice sa ls cs] 26) := ⟨_, rfl⟩
  have hbW : Below w.heap.size w W := by rw [hW]; exact ((Below.refl _ _).alloc (Nat.le_refl _) _).alloc (by simp) _
  have HIT : Hid (Calls Tryz.prog 61 #[.agg #[.int .i64 f, .slice na ln cn, .slice oa lo co]] W fun e w' => e = .returned (.bool false) ∧ Below w.heap.size w w') := Lib.hid ((isTree_w f na oa ln cn lo co N U W hls hlt (Lib.hid (H.out.below hbW))).mono fun e w' ⟨⟨rb, he, hrb⟩, hb⟩ => ⟨by cases rb with | true => exact (HR.out (hrb.1 rfl)).elim | false => exact he, hbW.trans (hb.mono hbW.size)⟩)
  clear hbW
  go_enter Tryz.func17, Tryz.ntmps17
  go_wp2_with (go_at_call 61; rw [← hW]; refine HIT.out.mono ?_; rintro e w1 ⟨rfl, hb1⟩)
  refine bodyPost_ret (v := .tuple #[.bool false, .int .i64 2]) (by simp [results, Tryz.results17, go_sem]) rfl ⟨rfl, hb1⟩

set_option maxRecDepth 100000 in
set_option maxHeartbeats 2000000 in
theorem fits_bad2 (f : Int) (na oa sa : Option Addr) (ln cn lo co ls cs : Nat) (N : Nat → N2) (U : Nat → O3) (s : Nat → Int) (w : World) (hls : ls ≤ maxLen) (H : Hid (Tr7 w na oa ln lo N U)) (HS : Hid (IntSl w sa ls s)) (HR : Hid (TreeP f ln lo N U)) (HSP : Hid (¬ SharesP ls lo s U)) :
    Calls Tryz.prog 17 #[.agg #[.int .i64 f, .slice na ln cn, .slice oa lo co], .slice sa ls cs] w fun e w' => e = .returned (.tuple #[.bool false, .int .i64 2]) ∧ Below w.heap.size w w' := by
  have q1 := HR.out.l6
  have q2 := HR.out.lo2
  obtain ⟨W, hW⟩ : ∃ W, W = (w.alloc (.cells #[.int .i64 f, .slice na ln cn, .slice oa lo co] 25)).alloc (.cells #[.slice sa ls cs] 26) := ⟨_, rfl⟩
  have hbW : Below w.heap.size w W := by rw [hW]; exact ((Below.refl _ _).alloc (Nat.le_refl _) _).alloc (by simp) _
  have hzW : W.heap.size = w.heap.size + 1 + 1 := by rw [hW]; simp
  have HX : Hid (∀ w2, Below W.heap.size W w2 → w2.cell? ⟨w.heap.size, 0, none⟩ = some (.int .i64 f) ∧ w2.cell? ⟨w.heap.size, 1, none⟩ = some (.slice na ln cn) ∧ w2.cell? ⟨w.heap.size, 2, none⟩ = some (.slice oa lo co) ∧ w2.cell? ⟨w.heap.size + 1, 0, none⟩ = some (.slice sa ls cs)) := Lib.hid fun w2 h => by
    obtain ⟨c, _⟩ := bcell h
    exact ⟨(c _ _ (by omega)).trans (by rw [hW]; simp), (c _ _ (by omega)).trans (by rw [hW]; simp), (c _ _ (by omega)).trans (by rw [hW]; simp), (c _ _ (by omega)).trans (by rw [hW]; simp)⟩
  have HIT : Hid (Calls Tryz.prog 61 #[.agg #[.int .i64 f, .slice na ln cn, .slice oa lo co]] W fun e w' => e = .returned (.bool true) ∧ Below W.heap.size W w') := Lib.hid ((isTree_w f na oa ln cn lo co N U W (by omega) (by omega) (Lib.hid (H.out.below hbW))).mono fun e w' ⟨⟨rb, he, hrb⟩, hb⟩ => ⟨by rw [he, hrb.2 HR.out], hb⟩)
  have HAS : Hid (∀ w2, Below W.heap.size W w2 → Calls Tryz.prog 62 #[.agg #[.int .i64 f, .slice na ln cn, .slice oa lo co], .slice sa ls cs] w2 fun e w' => e = .returned (.bool false) ∧ Below w.heap.size w w') := Lib.hid fun w2 h => (areShares_w f na oa sa ln cn lo co ls cs N U s w2 (by omega) hls (Lib.hid (H.out.below (hbW.trans (h.mono hbW.size)))) (Lib.hid (HS.out.below (hbW.trans (h.mono hbW.size))))).mono fun e w' ⟨⟨rb, he, hrb⟩, hb⟩ => ⟨by cases rb with | true => exact (HSP.out (hrb.1 rfl)).elim | false => exact he, (hbW.trans (h.mono hbW.size)).trans (hb.mono (hbW.trans (h.mono hbW.size)).size)⟩
  clear hbW hzW
  go_enter Tryz.func17, Tryz.ntmps17
  go_wp2_with (first
    | (go_at_call 61; rw [← hW]; refine HIT.out.mono ?_; rintro e w1 ⟨rfl, hb1⟩; obtain ⟨x1, x2, x3, x4⟩ := HX.out _ hb1)
    | (go_at_call 62; refine (HAS.out _ hb1).mono ?_; rintro e w2 ⟨rfl, hb2⟩))
  refine bodyPost_ret (v := .tuple #[.bool false, .int .i64 2]) (by simp [results, Tryz.results17, go_sem]) rfl ⟨rfl, hb2⟩

set_option maxRecDepth 100000 in
set_option maxHeartbeats 2000000 in
theorem lawft_a (f : Int) (na oa sa : Option Addr) (ln cn lo co ls cs : Nat) (N : Nat → N2) (U : Nat → O3) (s : Nat → Int) (w : World) (hls : ln ≤ maxLen) (hlt : lo ≤ maxLen) (hlz : ls ≤ maxLen) (H : Hid (Tr7 w na oa ln lo N U)) (HS : Hid (IntSl w sa ls s)) (K : Hid KnownOk) (hq : ¬ (ln ≤ 8 ∧ lo ≤ 10)) :
    Calls Tryz.prog 3 #[.agg #[.int .i64 f, .slice na ln cn, .slice oa lo co], .slice sa ls cs] w
      fun e w' => e = .returned (.bool true) ∧ Below w.heap.size w w' := by
  have hlz' := hlz
  unfold maxLen at hlz'
  have hsh : decide (ln ≤ 8 ∧ lo ≤ 10) = false := decide_eq_false hq
  have BX := Lib.hid (fun (w1 : World) (hb : Below (w.alloc (.cells #[.int .i64 f, .slice na ln cn, .slice oa lo co] 25)).heap.size (w.alloc (.cells #[.int .i64 f, .slice na ln cn, .slice oa lo co] 25)) w1) => box7 hb)
  have HN : Hid (∀ w1, Below (w.alloc (.cells #[.int .i64 f, .slice na ln cn, .slice oa lo co] 25)).heap.size (w.alloc (.cells #[.int .i64 f, .slice na ln cn, .slice oa lo co] 25)) w1 → Hid (Tr7 w1 na oa ln lo N U)) := Lib.hid fun w1 h => Lib.hid (H.out.below (below_al h))
  have HM : Hid (∀ w1, Below (w.alloc (.cells #[.int .i64 f, .slice na ln cn, .slice oa lo co] 25)).heap.size (w.alloc (.cells #[.int .i64 f, .slice na ln cn, .slice oa lo co] 25)) w1 → Hid (IntSl w1 sa ls s)) := Lib.hid fun w1 h => Lib.hid (HS.out.below (below_al h))
  have hb : Below (w.alloc (.cells #[.int .i64 f, .slice na ln cn, .slice oa lo co] 25)).heap.size (w.alloc (.cells #[.int .i64 f, .slice na ln cn, .slice oa lo co] 25)) (w.alloc (.cells #[.int .i64 f, .slice na ln cn, .slice oa lo co] 25)) := Below.refl _ _
  obtain ⟨x1, x2, x3, x4⟩ := BX.out _ hb
  clear H HS
  go_enter Tryz.func3, Tryz.ntmps3
  go_wp2_with (first
    | (go_at_call 14; refine (short_w _ _ _ _ _ _ _ _ hls hlt).mono ?_; rw [hsh]; rintro e wl ⟨rfl, hv⟩; replace hb := hb.trans (hv.mono hb.size); clear x1 x2 x3 x4; obtain ⟨x1, x2, x3, x4⟩ := BX.out _ hb)
    | (go_at_call 15; refine (K.out _).mono ?_; rintro e wl ⟨rfl, hv⟩; replace hb := hb.trans (hv.mono hb.size); clear x1 x2 x3 x4; obtain ⟨x1, x2, x3, x4⟩ := BX.out _ hb)    )
  go_ret
  exact ⟨rfl, below_al hb⟩

set_option maxRecDepth 100000 in
set_option maxHeartbeats 2000000 in
theorem lawft_b (f : Int) (na oa sa : Option Addr) (ln cn lo co ls cs : Nat) (N : Nat → N2) (U : Nat → O3) (s : Nat → Int) (w : World) (hls : ln ≤ 1000000) (hlt : lo ≤ 1000000) (hlz : ls ≤ maxLen) (H : Hid (Tr7 w na oa ln lo N U)) (HS : Hid (IntSl w sa ls s)) (K : Hid KnownOk) (hq : ln ≤ 8 ∧ lo ≤ 10) (hq2 : 12 < ls) :
    Calls Tryz.prog 3 #[.agg #[.int .i64 f, .slice na ln cn, .slice oa lo co], .slice sa ls cs] w
      fun e w' => e = .returned (.bool true) ∧ Below w.heap.size w w' := by
  have hlz' := hlz
  unfold maxLen at hlz'
  have hsh : decide (ln ≤ 8 ∧ lo ≤ 10) = true := decide_eq_true hq
  have hd : ((12 : Int) < (ls : Int)) := by omega
  have BX := Lib.hid (fun (w1 : World) (hb : Below (w.alloc (.cells #[.int .i64 f, .slice na ln cn, .slice oa lo co] 25)).heap.size (w.alloc (.cells #[.int .i64 f, .slice na ln cn, .slice oa lo co] 25)) w1) => box7 hb)
  have HN : Hid (∀ w1, Below (w.alloc (.cells #[.int .i64 f, .slice na ln cn, .slice oa lo co] 25)).heap.size (w.alloc (.cells #[.int .i64 f, .slice na ln cn, .slice oa lo co] 25)) w1 → Hid (Tr7 w1 na oa ln lo N U)) := Lib.hid fun w1 h => Lib.hid (H.out.below (below_al h))
  have HM : Hid (∀ w1, Below (w.alloc (.cells #[.int .i64 f, .slice na ln cn, .slice oa lo co] 25)).heap.size (w.alloc (.cells #[.int .i64 f, .slice na ln cn, .slice oa lo co] 25)) w1 → Hid (IntSl w1 sa ls s)) := Lib.hid fun w1 h => Lib.hid (HS.out.below (below_al h))
  have hb : Below (w.alloc (.cells #[.int .i64 f, .slice na ln cn, .slice oa lo co] 25)).heap.size (w.alloc (.cells #[.int .i64 f, .slice na ln cn, .slice oa lo co] 25)) (w.alloc (.cells #[.int .i64 f, .slice na ln cn, .slice oa lo co] 25)) := Below.refl _ _
  obtain ⟨x1, x2, x3, x4⟩ := BX.out _ hb
  clear H HS
  go_enter Tryz.func3, Tryz.ntmps3
  go_wp2_with (first
    | (go_at_call 14; refine (short_w _ _ _ _ _ _ _ _ (by unfold maxLen; omega) (by unfold maxLen; omega)).mono ?_; rw [hsh]; rintro e wl ⟨rfl, hv⟩; replace hb := hb.trans (hv.mono hb.size); clear x1 x2 x3 x4; obtain ⟨x1, x2, x3, x4⟩ := BX.out _ hb)
    | (go_at_call 15; refine (K.out _).mono ?_; rintro e wl ⟨rfl, hv⟩; replace hb := hb.trans (hv.mono hb.size); clear x1 x2 x3 x4; obtain ⟨x1, x2, x3, x4⟩ := BX.out _ hb)    )
  go_ret
  exact ⟨rfl, below_al hb⟩

set_option maxRecDepth 100000 in
set_option maxHeartbeats 2000000 in
theorem lawft_c (f : Int) (na oa sa : Option Addr) (ln cn lo co ls cs : Nat) (N : Nat → N2) (U : Nat → O3) (s : Nat → Int) (w : World) (hls : ln ≤ 1000000) (hlt : lo ≤ 1000000) (hlz : ls ≤ maxLen) (H : Hid (Tr7 w na oa ln lo N U)) (HS : Hid (IntSl w sa ls s)) (K : Hid KnownOk) (hq : ln ≤ 8 ∧ lo ≤ 10) (hq2 : ¬ 12 < ls) (HR : Hid (¬ TreeP f ln lo N U)) :
    Calls Tryz.prog 3 #[.agg #[.int .i64 f, .slice na ln cn, .slice oa lo co], .slice sa ls cs] w
      fun e w' => e = .returned (.bool true) ∧ Below w.heap.size w w' := by
  have hlz' := hlz
  unfold maxLen at hlz'
  have hsh : decide (ln ≤ 8 ∧ lo ≤ 10) = true := decide_eq_true hq
  have hd : ¬ ((12 : Int) < (ls : Int)) := by omega
  have BX := Lib.hid (fun (w1 : World) (hb : Below (w.alloc (.cells #[.int .i64 f, .slice na ln cn, .slice oa lo co] 25)).heap.size (w.alloc (.cells #[.int .i64 f, .slice na ln cn, .slice oa lo co] 25)) w1) => box7 hb)
  have HN : Hid (∀ w1, Below (w.alloc (.cells #[.int .i64 f, .slice na ln cn, .slice oa lo co] 25)).heap.size (w.alloc (.cells #[.int .i64 f, .slice na ln cn, .slice oa lo co] 25)) w1 → Hid (Tr7 w1 na oa ln lo N U)) := Lib.hid fun w1 h => Lib.hid (H.out.below (below_al h))
  have HM : Hid (∀ w1, Below (w.alloc (.cells #[.int .i64 f, .slice na ln cn, .slice oa lo co] 25)).heap.size (w.alloc (.cells #[.int .i64 f, .slice na ln cn, .slice oa lo co] 25)) w1 → Hid (IntSl w1 sa ls s)) := Lib.hid fun w1 h => Lib.hid (HS.out.below (below_al h))
  have hb : Below (w.alloc (.cells #[.int .i64 f, .slice na ln cn, .slice oa lo co] 25)).heap.size (w.alloc (.cells #[.int .i64 f, .slice na ln cn, .slice oa lo co] 25)) (w.alloc (.cells #[.int .i64 f, .slice na ln cn, .slice oa lo co] 25)) := Below.refl _ _
  obtain ⟨x1, x2, x3, x4⟩ := BX.out _ hb
  clear H HS
  go_enter Tryz.func3, Tryz.ntmps3
  go_wp2_with (first
    | (go_at_call 14; refine (short_w _ _ _ _ _ _ _ _ (by unfold maxLen; omega) (by unfold maxLen; omega)).mono ?_; rw [hsh]; rintro e wl ⟨rfl, hv⟩; replace hb := hb.trans (hv.mono hb.size); clear x1 x2 x3 x4; obtain ⟨x1, x2, x3, x4⟩ := BX.out _ hb)
    | (go_at_call 16; refine (check_w _ _ _ _ _ _ _ N U _ hls hlt (HN.out _ hb)).mono ?_; rintro e wl ⟨he, hv⟩; obtain rfl := (show e = .returned (.int .i64 2) from (he.elim (fun h => (HR.out h.1).elim) And.right)); clear he; replace hb := hb.trans (hv.mono hb.size); clear x1 x2 x3 x4; obtain ⟨x1, x2, x3, x4⟩ := BX.out _ hb)
    | (go_at_call 17; refine (fits_bad1 _ _ _ _ _ _ _ _ _ _ N U s _ hls hlt (HN.out _ hb) HR).mono ?_; rintro e wl ⟨rfl, hv⟩; replace hb := hb.trans (hv.mono hb.size); clear x1 x2 x3 x4; obtain ⟨x1, x2, x3, x4⟩ := BX.out _ hb)
    | (go_at_call 18; refine (tree_w _ _ _ _ _ _ _ N U _ hls hlt (HN.out _ hb)).mono ?_; rintro e wl ⟨⟨rb, rfl, hrb⟩, hv⟩; obtain rfl : rb = false := (by cases rb <;> first | rfl | exact (HR.out (hrb.1 rfl)).elim); clear hrb; replace hb := hb.trans (hv.mono hb.size); clear x1 x2 x3 x4; obtain ⟨x1, x2, x3, x4⟩ := BX.out _ hb)
    | (go_at_call 15; refine (K.out _).mono ?_; rintro e wl ⟨rfl, hv⟩; replace hb := hb.trans (hv.mono hb.size); clear x1 x2 x3 x4; obtain ⟨x1, x2, x3, x4⟩ := BX.out _ hb)    )
  go_ret
  exact ⟨rfl, below_al hb⟩

set_option maxRecDepth 100000 in
set_option maxHeartbeats 2000000 in
theorem lawft_d (f : Int) (na oa sa : Option Addr) (ln cn lo co ls cs : Nat) (N : Nat → N2) (U : Nat → O3) (s : Nat → Int) (w : World) (hls : ln ≤ 1000000) (hlt : lo ≤ 1000000) (hlz : ls ≤ maxLen) (H : Hid (Tr7 w na oa ln lo N U)) (HS : Hid (IntSl w sa ls s)) (K : Hid KnownOk) (hq : ln ≤ 8 ∧ lo ≤ 10) (hq2 : ¬ 12 < ls) (HR : Hid (TreeP f ln lo N U)) (HSP : Hid (¬ SharesP ls lo s U)) :
    Calls Tryz.prog 3 #[.agg #[.int .i64 f, .slice na ln cn, .slice oa lo co], .slice sa ls cs] w
      fun e w' => e = .returned (.bool true) ∧ Below w.heap.size w w' := by
  have hlz' := hlz
  unfold maxLen at hlz'
  have hsh : decide (ln ≤ 8 ∧ lo ≤ 10) = true := decide_eq_true hq
  have hd : ¬ ((12 : Int) < (ls : Int)) := by omega
  have BX := Lib.hid (fun (w1 : World) (hb : Below (w.alloc (.cells #[.int .i64 f, .slice na ln cn, .slice oa lo co] 25)).heap.size (w.alloc (.cells #[.int .i64 f, .slice na ln cn, .slice oa lo co] 25)) w1) => box7 hb)
  have HN : Hid (∀ w1, Below (w.alloc (.cells #[.int .i64 f, .slice na ln cn, .slice oa lo co] 25)).heap.size (w.alloc (.cells #[.int .i64 f, .slice na ln cn, .slice oa lo co] 25)) w1 → Hid (Tr7 w1 na oa ln lo N U)) := Lib.hid fun w1 h => Lib.hid (H.out.below (below_al h))
  have HM : Hid (∀ w1, Below (w.alloc (.cells #[.int .i64 f, .slice na ln cn, .slice oa lo co] 25)).heap.size (w.alloc (.cells #[.int .i64 f, .slice na ln cn, .slice oa lo co] 25)) w1 → Hid (IntSl w1 sa ls s)) := Lib.hid fun w1 h => Lib.hid (HS.out.below (below_al h))
  have hb : Below (w.alloc (.cells #[.int .i64 f, .slice na ln cn, .slice oa lo co] 25)).heap.size (w.alloc (.cells #[.int .i64 f, .slice na ln cn, .slice oa lo co] 25)) (w.alloc (.cells #[.int .i64 f, .slice na ln cn, .slice oa lo co] 25)) := Below.refl _ _
  obtain ⟨x1, x2, x3, x4⟩ := BX.out _ hb
  clear H HS
  go_enter Tryz.func3, Tryz.ntmps3
  go_wp2_with (first
    | (go_at_call 14; refine (short_w _ _ _ _ _ _ _ _ (by unfold maxLen; omega) (by unfold maxLen; omega)).mono ?_; rw [hsh]; rintro e wl ⟨rfl, hv⟩; replace hb := hb.trans (hv.mono hb.size); clear x1 x2 x3 x4; obtain ⟨x1, x2, x3, x4⟩ := BX.out _ hb)
    | (go_at_call 16; refine (check_w _ _ _ _ _ _ _ N U _ hls hlt (HN.out _ hb)).mono ?_; rintro e wl ⟨he, hv⟩; obtain rfl := (show e = .returned (.int .i64 0) from (he.elim And.right (fun h => (h.1 HR.out).elim))); clear he; replace hb := hb.trans (hv.mono hb.size); clear x1 x2 x3 x4; obtain ⟨x1, x2, x3, x4⟩ := BX.out _ hb)
    | (go_at_call 17; refine (fits_bad2 _ _ _ _ _ _ _ _ _ _ N U s _ hlz (HN.out _ hb) (HM.out _ hb) HR HSP).mono ?_; rintro e wl ⟨rfl, hv⟩; replace hb := hb.trans (hv.mono hb.size); clear x1 x2 x3 x4; obtain ⟨x1, x2, x3, x4⟩ := BX.out _ hb)
    | (go_at_call 18; refine (tree_w _ _ _ _ _ _ _ N U _ hls hlt (HN.out _ hb)).mono ?_; rintro e wl ⟨⟨rb, rfl, hrb⟩, hv⟩; obtain rfl : rb = true := hrb.2 HR.out; clear hrb; replace hb := hb.trans (hv.mono hb.size); clear x1 x2 x3 x4; obtain ⟨x1, x2, x3, x4⟩ := BX.out _ hb)
    | (go_at_call 19; refine (list_w _ _ _ _ _ _ _ _ _ _ N U s _ hlt hlz (HN.out _ hb) (HM.out _ hb)).mono ?_; rintro e wl ⟨⟨rb, rfl, hrb⟩, hv⟩; obtain rfl : rb = false := (by cases rb <;> first | rfl | exact (HSP.out (hrb.1 rfl)).elim); clear hrb; replace hb := hb.trans (hv.mono hb.size); clear x1 x2 x3 x4; obtain ⟨x1, x2, x3, x4⟩ := BX.out _ hb)
    | (go_at_call 15; refine (K.out _).mono ?_; rintro e wl ⟨rfl, hv⟩; replace hb := hb.trans (hv.mono hb.size); clear x1 x2 x3 x4; obtain ⟨x1, x2, x3, x4⟩ := BX.out _ hb)    )
  go_ret
  exact ⟨rfl, below_al hb⟩

set_option maxRecDepth 100000 in
set_option maxHeartbeats 2000000 in
theorem lawft_e (f : Int) (na oa sa : Option Addr) (ln cn lo co cs : Nat) (N : Nat → N2) (U : Nat → O3) (s : Nat → Int) (w : World) (hls : ln ≤ 1000000) (hlt : lo ≤ 1000000) (hlz : lo ≤ maxLen) (H : Hid (Tr7 w na oa ln lo N U)) (HS : Hid (IntSl w sa lo s)) (K : Hid KnownOk) (hq : ln ≤ 8 ∧ lo ≤ 10) (hq2 : ¬ 12 < lo) (HR : Hid (TreeP f ln lo N U)) (HSP : Hid (SharesP lo lo s U)) (HF : Hid (∀ w1, Hid (Tr7 w1 na oa ln lo N U) → Hid (IntSl w1 sa lo s) → Calls Tryz.prog 17 #[.agg #[.int .i64 f, .slice na ln cn, .slice oa lo co], .slice sa lo cs] w1 fun e w' => (∃ rb : Bool, e = .returned (.tuple #[.bool rb, .int .i64 0]) ∧ (rb = true ↔ FitP f ln lo N U s)) ∧ Below w1.heap.size w1 w')) :
    Calls Tryz.prog 3 #[.agg #[.int .i64 f, .slice na ln cn, .slice oa lo co], .slice sa lo cs] w
      fun e w' => e = .returned (.bool true) ∧ Below w.heap.size w w' := by
  have hlz' := hlz
  unfold maxLen at hlz'
  have hsh : decide (ln ≤ 8 ∧ lo ≤ 10) = true := decide_eq_true hq
  have hd : ¬ ((12 : Int) < (lo : Int)) := by omega
  have BX := Lib.hid (fun (w1 : World) (hb : Below (w.alloc (.cells #[.int .i64 f, .slice na ln cn, .slice oa lo co] 25)).heap.size (w.alloc (.cells #[.int .i64 f, .slice na ln cn, .slice oa lo co] 25)) w1) => box7 hb)
  have HN : Hid (∀ w1, Below (w.alloc (.cells #[.int .i64 f, .slice na ln cn, .slice oa lo co] 25)).heap.size (w.alloc (.cells #[.int .i64 f, .slice na ln cn, .slice oa lo co] 25)) w1 → Hid (Tr7 w1 na oa ln lo N U)) := Lib.hid fun w1 h => Lib.hid (H.out.below (below_al h))
  have HM : Hid (∀ w1, Below (w.alloc (.cells #[.int .i64 f, .slice na ln cn, .slice oa lo co] 25)).heap.size (w.alloc (.cells #[.int .i64 f, .slice na ln cn, .slice oa lo co] 25)) w1 → Hid (IntSl w1 sa lo s)) := Lib.hid fun w1 h => Lib.hid (HS.out.below (below_al h))
  have hb : Below (w.alloc (.cells #[.int .i64 f, .slice na ln cn, .slice oa lo co] 25)).heap.size (w.alloc (.cells #[.int .i64 f, .slice na ln cn, .slice oa lo co] 25)) (w.alloc (.cells #[.int .i64 f, .slice na ln cn, .slice oa lo co] 25)) := Below.refl _ _
  obtain ⟨x1, x2, x3, x4⟩ := BX.out _ hb
  clear H HS
  go_enter Tryz.func3, Tryz.ntmps3
  go_wp2_with (first
    | (go_at_call 14; refine (short_w _ _ _ _ _ _ _ _ (by unfold maxLen; omega) (by unfold maxLen; omega)).mono ?_; rw [hsh]; rintro e wl ⟨rfl, hv⟩; replace hb := hb.trans (hv.mono hb.size); clear x1 x2 x3 x4; obtain ⟨x1, x2, x3, x4⟩ := BX.out _ hb)
    | (go_at_call 16; refine (check_w _ _ _ _ _ _ _ N U _ hls hlt (HN.out _ hb)).mono ?_; rintro e wl ⟨he, hv⟩; obtain rfl := (show e = .returned (.int .i64 0) from (he.elim And.right (fun h => (h.1 HR.out).elim))); clear he; replace hb := hb.trans (hv.mono hb.size); clear x1 x2 x3 x4; obtain ⟨x1, x2, x3, x4⟩ := BX.out _ hb)
    | (go_at_call 17; refine (HF.out _ (HN.out _ hb) (HM.out _ hb)).mono ?_; rintro e wl ⟨⟨rb, rfl, hrb⟩, hv⟩; have HRB := Lib.hid hrb; clear hrb; replace hb := hb.trans (hv.mono hb.size); clear x1 x2 x3 x4; obtain ⟨x1, x2, x3, x4⟩ := BX.out _ hb)
    | (go_at_call 18; refine (tree_w _ _ _ _ _ _ _ N U _ hls hlt (HN.out _ hb)).mono ?_; rintro e wl ⟨⟨rb, rfl, hrb⟩, hv⟩; obtain rfl : rb = true := hrb.2 HR.out; clear hrb; replace hb := hb.trans (hv.mono hb.size); clear x1 x2 x3 x4; obtain ⟨x1, x2, x3, x4⟩ := BX.out _ hb)
    | (go_at_call 19; refine (list_w _ _ _ _ _ _ _ _ _ _ N U s _ hlt hlz (HN.out _ hb) (HM.out _ hb)).mono ?_; rintro e wl ⟨⟨rb, rfl, hrb⟩, hv⟩; obtain rfl : rb = true := hrb.2 HSP.out; clear hrb; replace hb := hb.trans (hv.mono hb.size); clear x1 x2 x3 x4; obtain ⟨x1, x2, x3, x4⟩ := BX.out _ hb)
    | (go_at_call 20; refine (rfits_w _ _ _ _ _ _ _ _ _ N U s _ HR HSP (HN.out _ hb) (HM.out _ hb)).mono ?_; rintro e wl ⟨⟨rc, rfl, hrc⟩, hv⟩; obtain rfl : rb = rc := Bool.eq_iff_iff.2 (HRB.out.trans hrc.symm); clear hrc; replace hb := hb.trans (hv.mono hb.size); clear x1 x2 x3 x4; obtain ⟨x1, x2, x3, x4⟩ := BX.out _ hb)
    | (go_at_call 15; refine (K.out _).mono ?_; rintro e wl ⟨rfl, hv⟩; replace hb := hb.trans (hv.mono hb.size); clear x1 x2 x3 x4; obtain ⟨x1, x2, x3, x4⟩ := BX.out _ hb)    )
  go_ret
  exact ⟨rfl, below_al hb⟩
end Go.Kn
