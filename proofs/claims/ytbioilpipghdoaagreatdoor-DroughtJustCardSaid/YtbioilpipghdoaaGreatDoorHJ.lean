/- Contracts of functions that the laws of this seat call, or the evaluator of closed calls and its runs. Conditions: as each theorem states them. -/
import Derived.Test.YtbioilpipghdoaaGreatDoorHO
set_option linter.unusedVariables false
set_option linter.unusedSimpArgs false
namespace Go.Kn
open Go Go.Proofs Go.RowKit

/-- some outlet has lost what another one gains *rightly* -/
def metB (U : Nat → O3) (s t : Nat → Int) (k : Nat) : Nat → Bool
  | 0 => false
  | j + 1 => metB U s t k j || (decide (s j < t j) && (decide ((U j).k < (U k).k) || (decide ((U j).k = (U k).k) && decide (s j ≤ t k))))
theorem metB_succ (U : Nat → O3) (s t : Nat → Int) (k j : Nat) : metB U s t k (j + 1) = (metB U s t k j || (decide (s j < t j) && (decide ((U j).k < (U k).k) || (decide ((U j).k = (U k).k) && decide (s j ≤ t k))))) := rfl
theorem metB_of {U : Nat → O3} {s t : Nat → Int} {k q : Nat} (h : s q < t q ∧ ((U q).k < (U k).k ∨ ((U q).k = (U k).k ∧ s q ≤ t k))) : ∀ n, q < n → metB U s t k n = true
  | n + 1, hq => by
    rw [metB_succ]
    by_cases e : q = n
    · subst e
      rcases h with ⟨h1, h2 | ⟨h2, h3⟩⟩ <;> simp [*]
    · rw [metB_of h n (by omega)]; rfl

set_option maxRecDepth 100000 in
set_option maxHeartbeats 4000000 in
theorem lawju_a (f : Int) (na oa sa : Option Addr) (ln cn lo co ls cs : Nat) (N : Nat → N2) (U : Nat → O3) (s : Nat → Int) (w : World) (hls : ln ≤ maxLen) (hlt : lo ≤ maxLen) (hlz : ls ≤ maxLen) (H : Hid (Tr7 w na oa ln lo N U)) (HS : Hid (IntSl w sa ls s)) (K : Hid KnownOk) (hq : ¬ (ln ≤ 8 ∧ lo ≤ 10)) :
    Calls Tryz.prog 5 #[.agg #[.int .i64 f, .slice na ln cn, .slice oa lo co], .slice sa ls cs] w
      fun e w' => e = .returned (.bool true) ∧ Below w.heap.size w w' := by
  have hlz' := hlz
  unfold maxLen at hlz'
  have hsh : decide (ln ≤ 8 ∧ lo ≤ 10) = false := decide_eq_false hq
  have BX := Lib.hid (fun (w1 : World) (hb : Below (w.alloc (.cells #[.int .i64 f, .slice na ln cn, .slice oa lo co] 25)).heap.size (w.alloc (.cells #[.int .i64 f, .slice na ln cn, .slice oa lo co] 25)) w1) => box7 hb)
  have HN : Hid (∀ w1, Below (w.alloc (.cells #[.int .i64 f, .slice na ln cn, .slice oa lo co] 25)).heap.size (w.alloc (.cells #[.int .i64 f, .slice na ln cn, .slice oa lo co] 25)) w1 → Hid (Tr7 w1 na oa ln lo N U)) := Lib.hid fun w1 h => Lib.hid (H.out.below (below_al h))
  have HM : Hid (∀ w1, Below (w.alloc (.cells #[.int .i64 f, .slice na ln cn, .slice oa lo co] 25)).heap.size (w.alloc (.cells #[.int .i64 f, .slice na ln cn, .slice oa lo co] 25)) w1 → Hid (IntSl w1 sa ls s)) := Lib.hid fun w1 h => Lib.hid (HS.out.below (below_al h))
  have hb : Below (w.alloc (.cells #[.int .i64 f, .slice na ln cn, .slice oa lo co] 25)).heap.size (w.alloc (.cells #[.int .i64 f, .slice na ln cn, .slice oa lo co] 25)) (w.alloc (.cells #[.int .i64 f, .slice na ln cn, .slice oa lo co] 25)) := Below.refl _ _
  obtain ⟨x1, x2, x3, x4⟩ := BX.out _ hb
  clear H HS
  go_enter Tryz.func5, Tryz.ntmps5
  go_wp2_with (first
    | (go_at_call 13; refine (short_w _ _ _ _ _ _ _ _ hls hlt).mono ?_; rw [hsh]; rintro e wl ⟨rfl, hv⟩; (try replace hbs := hbs.trans (hv.mono hbs.size)); replace hb := hb.trans (hv.mono hb.size); clear x1 x2 x3 x4; obtain ⟨x1, x2, x3, x4⟩ := BX.out _ hb)
    | (go_at_call 14; refine (K.out _).mono ?_; rintro e wl ⟨rfl, hv⟩; (try replace hbs := hbs.trans (hv.mono hbs.size)); replace hb := hb.trans (hv.mono hb.size); clear x1 x2 x3 x4; obtain ⟨x1, x2, x3, x4⟩ := BX.out _ hb))
  go_ret
  exact ⟨rfl, below_al hb⟩

set_option maxRecDepth 100000 in
set_option maxHeartbeats 4000000 in
theorem lawju_b (f : Int) (na oa sa : Option Addr) (ln cn lo co ls cs : Nat) (N : Nat → N2) (U : Nat → O3) (s : Nat → Int) (w : World) (hls : ln ≤ 1000000) (hlt : lo ≤ 1000000) (hlz : ls ≤ maxLen) (H : Hid (Tr7 w na oa ln lo N U)) (HS : Hid (IntSl w sa ls s)) (K : Hid KnownOk) (hq : ln ≤ 8 ∧ lo ≤ 10) (hq2 : 12 < ls) :
    Calls Tryz.prog 5 #[.agg #[.int .i64 f, .slice na ln cn, .slice oa lo co], .slice sa ls cs] w
      fun e w' => e = .returned (.bool true) ∧ Below w.heap.size w w' := by
  have hlz' := hlz
  unfold maxLen at hlz'
  have hsh : decide (ln ≤ 8 ∧ lo ≤ 10) = true := decide_eq_true hq
  have hd : ((12 : Int) < (ls : Int)) := by omega
  have BX := Lib.hid (fun (w1 : World) (hb : Below (w.alloc (.cells #[.int .i64 f, .slice na ln cn, .slice oa lo co] 25)).heap.size (w.alloc (.cells #[.int .i64 f, .slice na ln cn, .slice oa lo co] 25)) w1) => box7 hb)
  have HN : Hid (∀ w1, Below (w.alloc (.cells #[.int .i64 f, .slice na ln cn, .slice oa lo co] 25)).heap.size (w.alloc (.cells #[.int .i64 f, .slice na ln cn, .slice oa lo co] 25)) w1 → Hid (Tr7 w1 na oa ln lo N U)) := Lib.hid fun w1 h => Lib.hid (H.out.below (below_al h))
  have HM : Hid (∀ w1, Below (w.alloc (.cells #[.int .i64 f, .slice na ln cn, .slice oa lo co] 25)).heap.size (w.alloc (.cells #[.int .i64 f, .slice na ln cn, .slice oa lo co] 25)) w1 → Hid (IntSl w1 sa ls s)) := Lib.hid fun w1 h => Lib.hid (HS.out.below (below_al h))
  have hb : Below (w.alloc (.cells #[.int .i64 f, .slice na ln cn, .slice oa lo co] 25)).heap.size (w.alloc (.cells #[.int .i64 f, .slice na ln cn, .slice oa lo co] 25)) (w.alloc (.cells #[.int .i64 f, .slice na ln cn, .slice oa lo co] 25)) := Below.refl _ _
  obtain ⟨x1, x2, x3, x4⟩ := BX.out _ hb
  clear H HS
  go_enter Tryz.func5, Tryz.ntmps5
  go_wp2_with (first
    | (go_at_call 13; refine (short_w _ _ _ _ _ _ _ _ (by unfold maxLen; omega) (by unfold maxLen; omega)).mono ?_; rw [hsh]; rintro e wl ⟨rfl, hv⟩; (try replace hbs := hbs.trans (hv.mono hbs.size)); replace hb := hb.trans (hv.mono hb.size); clear x1 x2 x3 x4; obtain ⟨x1, x2, x3, x4⟩ := BX.out _ hb)
    | (go_at_call 14; refine (K.out _).mono ?_; rintro e wl ⟨rfl, hv⟩; (try replace hbs := hbs.trans (hv.mono hbs.size)); replace hb := hb.trans (hv.mono hb.size); clear x1 x2 x3 x4; obtain ⟨x1, x2, x3, x4⟩ := BX.out _ hb))
  go_ret
  exact ⟨rfl, below_al hb⟩

set_option maxRecDepth 100000 in
set_option maxHeartbeats 4000000 in
theorem lawju_c (f : Int) (na oa sa : Option Addr) (ln cn lo co ls cs : Nat) (N : Nat → N2) (U : Nat → O3) (s : Nat → Int) (w : World) (hls : ln ≤ 1000000) (hlt : lo ≤ 1000000) (hlz : ls ≤ maxLen) (H : Hid (Tr7 w na oa ln lo N U)) (HS : Hid (IntSl w sa ls s)) (K : Hid KnownOk) (hq : ln ≤ 8 ∧ lo ≤ 10) (hq2 : ¬ 12 < ls) (HR : Hid (¬ TreeP f ln lo N U)) :
    Calls Tryz.prog 5 #[.agg #[.int .i64 f, .slice na ln cn, .slice oa lo co], .slice sa ls cs] w
      fun e w' => e = .returned (.bool true) ∧ Below w.heap.size w w' := by
  have hlz' := hlz
  unfold maxLen at hlz'
  have hsh : decide (ln ≤ 8 ∧ lo ≤ 10) = true := decide_eq_true hq
  have hd : ¬ ((12 : Int) < (ls : Int)) := by omega
  have BX := Lib.hid (fun (w1 : World) (hb : Below (w.alloc (.cells #[.int .i64 f, .slice na ln cn, .slice oa lo co] 25)).heap.size (w.alloc (.cells #[.int .i64 f, .slice na ln cn, .slice oa lo co] 25)) w1) => box7 hb)
  have HN : Hid (∀ w1, Below (w.alloc (.cells #[.int .i64 f, .slice na ln cn, .slice oa lo co] 25)).heap.size (w.alloc (.cells #[.int .i64 f, .slice na ln cn, .slice oa lo co] 25)) w1 → Hid (Tr7 w1 na oa ln lo N U)) := Lib.hid fun w1 h => Lib.hid (H.out.below (below_al h))
  have HM : Hid (∀ w1, Below (w.alloc (.cells #[.int .i64 f, .slice na ln cn, .slice oa lo co] 25)).heap.size (w.alloc (.cells #[.int .i64 f, .slice na ln cn, .slice oa lo co] 25)) w1 → Hid (IntSl w1 sa ls s)) := Lib.hid fun w1 h => Lib.hid (HS.out.below (below_al h))
  have hb : Below (w.alloc (.cells #[.int .i64 f, .slice na ln cn, .slice oa lo co] 25)).heap.size (w.alloc (.cells #[.int .i64 f, .slice na ln cn, .slice oa lo co] 25)) (w.alloc (.cells #[.int .i64 f, .slice na ln cn, .slice oa lo co] 25)) := Below.refl _ _
  obtain ⟨x1, x2, x3, x4⟩ := BX.out _ hb
  clear H HS
  go_enter Tryz.func5, Tryz.ntmps5
  go_wp2_with (first
    | (go_at_call 13; refine (short_w _ _ _ _ _ _ _ _ (by unfold maxLen; omega) (by unfold maxLen; omega)).mono ?_; rw [hsh]; rintro e wl ⟨rfl, hv⟩; (try replace hbs := hbs.trans (hv.mono hbs.size)); replace hb := hb.trans (hv.mono hb.size); clear x1 x2 x3 x4; obtain ⟨x1, x2, x3, x4⟩ := BX.out _ hb)
    | (go_at_call 17; refine (tree_w _ _ _ _ _ _ _ N U _ hls hlt (HN.out _ hb)).mono ?_; rintro e wl ⟨⟨rb, rfl, hrb⟩, hv⟩; obtain rfl : rb = false := (by cases rb <;> first | rfl | exact (HR.out (hrb.1 rfl)).elim); clear hrb; (try replace hbs := hbs.trans (hv.mono hbs.size)); replace hb := hb.trans (hv.mono hb.size); clear x1 x2 x3 x4; obtain ⟨x1, x2, x3, x4⟩ := BX.out _ hb)
    | (go_at_call 14; refine (K.out _).mono ?_; rintro e wl ⟨rfl, hv⟩; (try replace hbs := hbs.trans (hv.mono hbs.size)); replace hb := hb.trans (hv.mono hb.size); clear x1 x2 x3 x4; obtain ⟨x1, x2, x3, x4⟩ := BX.out _ hb))
  go_ret
  exact ⟨rfl, below_al hb⟩

set_option maxRecDepth 100000 in
set_option maxHeartbeats 4000000 in
theorem lawju_d (f : Int) (na oa sa : Option Addr) (ln cn lo co ls cs : Nat) (N : Nat → N2) (U : Nat → O3) (s : Nat → Int) (w : World) (hls : ln ≤ 1000000) (hlt : lo ≤ 1000000) (hlz : ls ≤ maxLen) (H : Hid (Tr7 w na oa ln lo N U)) (HS : Hid (IntSl w sa ls s)) (K : Hid KnownOk) (hq : ln ≤ 8 ∧ lo ≤ 10) (hq2 : ¬ 12 < ls) (HR : Hid (TreeP f ln lo N U)) (HSP : Hid (¬ SharesP ls lo s U)) :
    Calls Tryz.prog 5 #[.agg #[.int .i64 f, .slice na ln cn, .slice oa lo co], .slice sa ls cs] w
      fun e w' => e = .returned (.bool true) ∧ Below w.heap.size w w' := by
  have hlz' := hlz
  unfold maxLen at hlz'
  have hsh : decide (ln ≤ 8 ∧ lo ≤ 10) = true := decide_eq_true hq
  have hd : ¬ ((12 : Int) < (ls : Int)) := by omega
  have BX := Lib.hid (fun (w1 : World) (hb : Below (w.alloc (.cells #[.int .i64 f, .slice na ln cn, .slice oa lo co] 25)).heap.size (w.alloc (.cells #[.int .i64 f, .slice na ln cn, .slice oa lo co] 25)) w1) => box7 hb)
  have HN : Hid (∀ w1, Below (w.alloc (.cells #[.int .i64 f, .slice na ln cn, .slice oa lo co] 25)).heap.size (w.alloc (.cells #[.int .i64 f, .slice na ln cn, .slice oa lo co] 25)) w1 → Hid (Tr7 w1 na oa ln lo N U)) := Lib.hid fun w1 h => Lib.hid (H.out.below (below_al h))
  have HM : Hid (∀ w1, Below (w.alloc (.cells #[.int .i64 f, .slice na ln cn, .slice oa lo co] 25)).heap.size (w.alloc (.cells #[.int .i64 f, .slice na ln cn, .slice oa lo co] 25)) w1 → Hid (IntSl w1 sa ls s)) := Lib.hid fun w1 h => Lib.hid (HS.out.below (below_al h))
  have hb : Below (w.alloc (.cells #[.int .i64 f, .slice na ln cn, .slice oa lo co] 25)).heap.size (w.alloc (.cells #[.int .i64 f, .slice na ln cn, .slice oa lo co] 25)) (w.alloc (.cells #[.int .i64 f, .slice na ln cn, .slice oa lo co] 25)) := Below.refl _ _
  obtain ⟨x1, x2, x3, x4⟩ := BX.out _ hb
  clear H HS
  go_enter Tryz.func5, Tryz.ntmps5
  go_wp2_with (first
    | (go_at_call 13; refine (short_w _ _ _ _ _ _ _ _ (by unfold maxLen; omega) (by unfold maxLen; omega)).mono ?_; rw [hsh]; rintro e wl ⟨rfl, hv⟩; (try replace hbs := hbs.trans (hv.mono hbs.size)); replace hb := hb.trans (hv.mono hb.size); clear x1 x2 x3 x4; obtain ⟨x1, x2, x3, x4⟩ := BX.out _ hb)
    | (go_at_call 17; refine (tree_w _ _ _ _ _ _ _ N U _ hls hlt (HN.out _ hb)).mono ?_; rintro e wl ⟨⟨rb, rfl, hrb⟩, hv⟩; obtain rfl : rb = true := hrb.2 HR.out; clear hrb; (try replace hbs := hbs.trans (hv.mono hbs.size)); replace hb := hb.trans (hv.mono hb.size); clear x1 x2 x3 x4; obtain ⟨x1, x2, x3, x4⟩ := BX.out _ hb)
    | (go_at_call 18; refine (list_w _ _ _ _ _ _ _ _ _ _ N U s _ hlt hlz (HN.out _ hb) (HM.out _ hb)).mono ?_; rintro e wl ⟨⟨rb, rfl, hrb⟩, hv⟩; obtain rfl : rb = false := (by cases rb <;> first | rfl | exact (HSP.out (hrb.1 rfl)).elim); clear hrb; (try replace hbs := hbs.trans (hv.mono hbs.size)); replace hb := hb.trans (hv.mono hb.size); clear x1 x2 x3 x4; obtain ⟨x1, x2, x3, x4⟩ := BX.out _ hb)
    | (go_at_call 14; refine (K.out _).mono ?_; rintro e wl ⟨rfl, hv⟩; (try replace hbs := hbs.trans (hv.mono hbs.size)); replace hb := hb.trans (hv.mono hb.size); clear x1 x2 x3 x4; obtain ⟨x1, x2, x3, x4⟩ := BX.out _ hb))
  go_ret
  exact ⟨rfl, below_al hb⟩

set_option maxRecDepth 100000 in
set_option maxHeartbeats 4000000 in
theorem lawju_e (f : Int) (na oa sa : Option Addr) (ln cn lo co cs : Nat) (N : Nat → N2) (U : Nat → O3) (s : Nat → Int) (w : World) (hls : ln ≤ 1000000) (hlt : lo ≤ 1000000) (hlz : lo ≤ maxLen) (H : Hid (Tr7 w na oa ln lo N U)) (HS : Hid (IntSl w sa lo s)) (K : Hid KnownOk) (hq : ln ≤ 8 ∧ lo ≤ 10) (hq2 : ¬ 12 < lo) (HR : Hid (TreeP f ln lo N U)) (HSP : Hid (SharesP lo lo s U)) :
    Calls Tryz.prog 5 #[.agg #[.int .i64 f, .slice na ln cn, .slice oa lo co], .slice sa lo cs] w
      fun e w' => e = .returned (.bool true) ∧ Below w.heap.size w w' := by
  have hlz' := hlz
  unfold maxLen at hlz'
  have hsh : decide (ln ≤ 8 ∧ lo ≤ 10) = true := decide_eq_true hq
  have hd : ¬ ((12 : Int) < (lo : Int)) := by omega
  have BX := Lib.hid (fun (w1 : World) (hb : Below (w.alloc (.cells #[.int .i64 f, .slice na ln cn, .slice oa lo co] 25)).heap.size (w.alloc (.cells #[.int .i64 f, .slice na ln cn, .slice oa lo co] 25)) w1) => box7 hb)
  have HN : Hid (∀ w1, Below (w.alloc (.cells #[.int .i64 f, .slice na ln cn, .slice oa lo co] 25)).heap.size (w.alloc (.cells #[.int .i64 f, .slice na ln cn, .slice oa lo co] 25)) w1 → Hid (Tr7 w1 na oa ln lo N U)) := Lib.hid fun w1 h => Lib.hid (H.out.below (below_al h))
  have HM : Hid (∀ w1, Below (w.alloc (.cells #[.int .i64 f, .slice na ln cn, .slice oa lo co] 25)).heap.size (w.alloc (.cells #[.int .i64 f, .slice na ln cn, .slice oa lo co] 25)) w1 → Hid (IntSl w1 sa lo s)) := Lib.hid fun w1 h => Lib.hid (HS.out.below (below_al h))
  have hb : Below (w.alloc (.cells #[.int .i64 f, .slice na ln cn, .slice oa lo co] 25)).heap.size (w.alloc (.cells #[.int .i64 f, .slice na ln cn, .slice oa lo co] 25)) (w.alloc (.cells #[.int .i64 f, .slice na ln cn, .slice oa lo co] 25)) := Below.refl _ _
  obtain ⟨x1, x2, x3, x4⟩ := BX.out _ hb
  clear H HS
  go_enter Tryz.func5, Tryz.ntmps5
  go_wp2_with (first
    | (go_at_call 13; refine (short_w _ _ _ _ _ _ _ _ (by unfold maxLen; omega) (by unfold maxLen; omega)).mono ?_; rw [hsh]; rintro e wl ⟨rfl, hv⟩; (try replace hbs := hbs.trans (hv.mono hbs.size)); replace hb := hb.trans (hv.mono hb.size); clear x1 x2 x3 x4; obtain ⟨x1, x2, x3, x4⟩ := BX.out _ hb)
    | (go_at_call 17; refine (tree_w _ _ _ _ _ _ _ N U _ hls hlt (HN.out _ hb)).mono ?_; rintro e wl ⟨⟨rb, rfl, hrb⟩, hv⟩; obtain rfl : rb = true := hrb.2 HR.out; clear hrb; (try replace hbs := hbs.trans (hv.mono hbs.size)); replace hb := hb.trans (hv.mono hb.size); clear x1 x2 x3 x4; obtain ⟨x1, x2, x3, x4⟩ := BX.out _ hb)
    | (go_at_call_of 18 sb; refine (list_w _ _ _ _ _ _ _ _ _ _ N U t _ hlt hlz (HN.out _ hb) (Lib.hid (HSB.out.below hbs))).mono ?_; rintro e wl ⟨⟨rb, rfl, hrb⟩, hv⟩; obtain rfl : rb = true := hrb.2 (sharesP_of HVD.out); clear hrb; (try replace hbs := hbs.trans (hv.mono hbs.size)); replace hb := hb.trans (hv.mono hb.size); clear x1 x2 x3 x4; obtain ⟨x1, x2, x3, x4⟩ := BX.out _ hb)
    | (go_at_call_of 19 sb; refine (rfits_w _ _ _ _ _ _ _ _ _ N U t _ HR (Lib.hid (sharesP_of HVD.out)) (HN.out _ hb) (Lib.hid (HSB.out.below hbs))).mono ?_; rintro e wl ⟨⟨rb, rfl, hrb⟩, hv⟩; obtain rfl : rb = true := hrb.2 HVD.out.fit; clear hrb; (try replace hbs := hbs.trans (hv.mono hbs.size)); replace hb := hb.trans (hv.mono hb.size); clear x1 x2 x3 x4; obtain ⟨x1, x2, x3, x4⟩ := BX.out _ hb)
    | (go_at_call 18; refine (list_w _ _ _ _ _ _ _ _ _ _ N U s _ hlt hlz (HN.out _ hb) (HM.out _ hb)).mono ?_; rintro e wl ⟨⟨rb, rfl, hrb⟩, hv⟩; obtain rfl : rb = true := hrb.2 HSP.out; clear hrb; (try replace hbs := hbs.trans (hv.mono hbs.size)); replace hb := hb.trans (hv.mono hb.size); clear x1 x2 x3 x4; obtain ⟨x1, x2, x3, x4⟩ := BX.out _ hb)
    | (go_at_call 20; refine (shares_w f na oa ln cn lo co N U _ HR (HN.out _ hb)).mono ?_; rintro e wl ⟨⟨sb, cb, t, rfl, hsb, hord⟩, hv⟩; (try replace hbs := hbs.trans (hv.mono hbs.size)); replace hb := hb.trans (hv.mono hb.size); clear x1 x2 x3 x4; obtain ⟨x1, x2, x3, x4⟩ := BX.out _ hb; have HORD := Lib.hid hord; have HVD := Lib.hid (hord.vd (vd_zero HR.out)); have HSB := Lib.hid hsb; have hbs := Below.refl wl.heap.size wl; clear hord hsb)
    | (go_at_call 16; refine (fits_w f na oa sa ln cn lo co cs N U s _ hlz (HN.out _ hb) (HM.out _ hb) HR HSP).mono ?_; rintro e wl ⟨⟨rf, rfl, hrf⟩, hv⟩; (try replace hbs := hbs.trans (hv.mono hbs.size)); replace hb := hb.trans (hv.mono hb.size); clear x1 x2 x3 x4; obtain ⟨x1, x2, x3, x4⟩ := BX.out _ hb; have HRF := Lib.hid hrf; clear hrf)
    | (go_at_call 19; refine (rfits_w _ _ _ _ _ _ _ _ _ N U s _ HR HSP (HN.out _ hb) (HM.out _ hb)).mono ?_; rintro e wl ⟨⟨rc, rfl, hrc⟩, hv⟩; obtain rfl : rf = rc := Bool.eq_iff_iff.2 (HRF.out.trans hrc.symm); clear hrc; (try replace hbs := hbs.trans (hv.mono hbs.size)); replace hb := hb.trans (hv.mono hb.size); clear x1 x2 x3 x4; obtain ⟨x1, x2, x3, x4⟩ := BX.out _ hb))
  obtain ⟨wq, hwq⟩ : ∃ wq, wq = wl := ⟨_, rfl⟩
  subst hwq
  have q2 := HR.out.lo2
  have q3 := HR.out.lo1
  have hTQ := (HN.out _ hb).out
  have hSQ := (HM.out _ hb).out
  have hTS := HSB.out.below hbs
  obtain ⟨A, O, hsa, hA, hnA⟩ := hSQ.resolve_left (by omega)
  subst hsa
  obtain ⟨B2, O2, hsb, hB2, hnB⟩ := hTS.resolve_left (by omega)
  subst hsb
  obtain ⟨C, P, hoa, hC, hnC⟩ := hTQ.ho.resolve_left (by omega)
  subst hoa
  have HQ0 : Hid (∀ w' j, Below wq.heap.size wq w' → j < lo → w'.cell? ⟨w.heap.size, 2, none⟩ = some (.slice (some ⟨C, P, none⟩) lo co) ∧ w'.cell? ⟨A, O + j, none⟩ = some (.int .i64 (s j)) ∧ w'.cell? ⟨B2, O2 + j, none⟩ = some (.int .i64 (t j)) ∧ w'.cell? ⟨C, P + j * 3 + 2, none⟩ = some (.int .i64 (U j).k)) := Lib.hid fun w' j h hj =>
    ⟨((bcell h).1 _ _ (World.block_lt_of_cell? _ _ x3)).trans x3, (h.cell (p := ⟨A, O + j, none⟩) hA).trans (hnA j hj), (h.cell (p := ⟨B2, O2 + j, none⟩) hB2).trans (hnB j hj), (h.cell (p := ⟨C, P + j * 3 + 2, none⟩) hC).trans (hnC j hj).2.2⟩
  have HBQ : Hid (Below w.heap.size w wq) := Lib.hid (below_al hb)
  have HJ : Hid (rf = true → ∀ k, k < lo → t k < s k → metB U s t k lo = true) := Lib.hid fun hf k hk hgt => by
    obtain ⟨q, h1, h2, h3⟩ := just_p HR.out HORD.out (fun i hi => by have := shares_bd HR.out HSP.out hi; omega) (HRF.out.1 hf) hk hgt
    exact metB_of ⟨h2, h3⟩ lo h1
  clear hTQ hSQ hTS hnA hnB hnC hb hbs x1 x2 x3 x4 HN HM BX
  go_loopw [9] (fun ii wr => ∃ k : Nat, k ≤ lo ∧ ii = .int .i64 (k : Int) ∧ Below wq.heap.size wq wr) (fun ii _ => lo - (intOf ii).toNat)
  case atStart => exact ⟨0, Nat.zero_le _, rfl, Below.refl _ _⟩
  case round =>
    obtain ⟨k, hk, rfl, hbr⟩ := hrel
    have HBR := Lib.hid hbr
    clear hbr
    cases hrf : rf with
    | false =>
      have HK : Hid (∀ w', Below wq.heap.size wq w' → Calls Tryz.prog 14 #[] w' fun e w'' => e = .returned (.bool true) ∧ Below w.heap.size w w'') := Lib.hid fun w' h => (K.out w').mono fun e w'' ⟨he, hb⟩ => ⟨he, (HBQ.out.trans (h.mono HBQ.out.size)).trans (hb.mono (HBQ.out.trans (h.mono HBQ.out.size)).size)⟩
      by_cases hlt : k < lo
      · have n2 : (k : Int) < (lo : Int) := by omega
        go_wp2_with (go_at_call 14; refine (HK.out _ HBR.out).mono ?_; rintro e w5 ⟨rfl, hb5⟩)
        go_ret
        exact ⟨rfl, hb5⟩
      · have n2 : ¬ (k : Int) < (lo : Int) := by omega
        go_wp2_with (go_at_call 14; refine (HK.out _ HBR.out).mono ?_; rintro e w5 ⟨rfl, hb5⟩)
        go_ret
        exact ⟨rfl, hb5⟩
    | true =>
      have HJT := Lib.hid (HJ.out hrf)
      by_cases hlt : k < lo
      case neg =>
        have HK : Hid (∀ w', Below wq.heap.size wq w' → Calls Tryz.prog 14 #[] w' fun e w'' => e = .returned (.bool true) ∧ Below w.heap.size w w'') := Lib.hid fun w' h => (K.out w').mono fun e w'' ⟨he, hb⟩ => ⟨he, (HBQ.out.trans (h.mono HBQ.out.size)).trans (hb.mono (HBQ.out.trans (h.mono HBQ.out.size)).size)⟩
        have n2 : ¬ (k : Int) < (lo : Int) := by omega
        go_wp2_with (go_at_call 14; refine (HK.out _ HBR.out).mono ?_; rintro e w5 ⟨rfl, hb5⟩)
        go_ret
        exact ⟨rfl, hb5⟩
      case pos =>
        have n1 : (0 : Int) ≤ (k : Int) := by omega
        have n2 : (k : Int) < (lo : Int) := by omega
        have HQ : Hid (∀ w', Below wq.heap.size wq w' → w'.cell? ⟨w.heap.size, 2, none⟩ = some (.slice (some ⟨C, P, none⟩) lo co) ∧ w'.cell? ⟨A, O + k, none⟩ = some (.int .i64 (s k)) ∧ w'.cell? ⟨B2, O2 + k, none⟩ = some (.int .i64 (t k)) ∧ w'.cell? ⟨C, P + k * 3 + 2, none⟩ = some (.int .i64 (U k).k)) := Lib.hid fun w' h => HQ0.out w' k h hlt
        obtain ⟨wz0, hwz0⟩ : ∃ wz0, wz0 = wr := ⟨_, rfl⟩
        subst hwz0
        by_cases hle : s k ≤ t k
        case pos =>
          have d0 : decide (s k ≤ t k) = true := decide_eq_true hle
          clear hle
          go_wp2
          refine wp_region_calm (W := wz0) (by kernel_rfl) (by kernel_rfl) (Below.refl _ _) ?_
          repeat (first
            | (refine calm_no (by rfl) ?_
               (try simp only [Act.put, List.setIfInBounds_toArray, List.set_cons_zero, List.set_cons_succ]))
            | (apply calm_yes
               focus rfl
               focus
                 intro w' hw'
                 obtain ⟨z1, z2, z3, z4⟩ := HQ.out w' (HBR.out.trans (hw'.mono HBR.out.size))
                 go_simp
                 first
                   | done
                   | with_reducible rfl
                   | fail
               (try simp only [Act.put, List.setIfInBounds_toArray, List.set_cons_zero, List.set_cons_succ])))
          refine calm_nil ?_
          intro v0 hqv0
          have HBv0 := Lib.hid hqv0
          clear hqv0
          go_wp2
          go_roundw
          case rel => exact ⟨k + 1, by omega, by go_num, HBR.out.trans (HBv0.out.mono HBR.out.size)⟩
          case measure => simp [intOf]; omega
        case neg =>
          have d0 : decide (s k ≤ t k) = false := decide_eq_false hle
          have HMT := Lib.hid (HJT.out k hlt (by omega))
          clear hle
          go_wp2
          refine wp_region_calm (W := wz0) (by kernel_rfl) (by kernel_rfl) (Below.refl _ _) ?_
          repeat (first
            | (refine calm_no (by rfl) ?_
               (try simp only [Act.put, List.setIfInBounds_toArray, List.set_cons_zero, List.set_cons_succ]))
            | (apply calm_yes
               focus rfl
               focus
                 intro w' hw'
                 obtain ⟨z1, z2, z3, z4⟩ := HQ.out w' (HBR.out.trans (hw'.mono HBR.out.size))
                 go_simp
                 first
                   | done
                   | with_reducible rfl
                   | fail
               (try simp only [Act.put, List.setIfInBounds_toArray, List.set_cons_zero, List.set_cons_succ])))
          refine calm_nil ?_
          intro v0 hqv0
          have HBv0 := Lib.hid hqv0
          clear hqv0
          have HB0 := Lib.hid (HBR.out.trans (HBv0.out.mono HBR.out.size))
          clear d0
          go_wp2
          go_loopw [10, 11] (fun mv jj wz => ∃ j : Nat, j ≤ lo ∧ jj = .int .i64 (j : Int) ∧ mv = .bool (metB U s t k j) ∧ Below wq.heap.size wq wz) (fun _ jj _ => lo - (intOf jj).toNat)
          case atStart => exact ⟨0, Nat.zero_le _, rfl, rfl, HB0.out⟩
          case round =>
            obtain ⟨j, hj, rfl, rfl, hbz⟩ := hrel
            have HZQ := Lib.hid hbz
            clear hbz
            by_cases hjl : j < lo
            case neg =>
              have hjl2 : lo = j := by omega
              subst hjl2
              have hmt := HMT.out
              have n3 : ¬ (lo : Int) < (lo : Int) := by omega
              go_wp2
              go_roundw
              case rel => exact ⟨k + 1, by omega, by go_num, HZQ.out⟩
              case measure => simp [intOf]; omega
            case pos =>
              have n3 : (0 : Int) ≤ (j : Int) := by omega
              have n4 : (j : Int) < (lo : Int) := by omega
              obtain ⟨M, hm⟩ : ∃ M, metB U s t k j = M := ⟨_, rfl⟩
              rw [hm]
              obtain ⟨wz, hwz⟩ : ∃ wz, wz = wr := ⟨_, rfl⟩
              subst hwz
              have HQk := HQ
              have HQ : Hid (∀ w', Below wq.heap.size wq w' → w'.cell? ⟨w.heap.size, 2, none⟩ = some (.slice (some ⟨C, P, none⟩) lo co) ∧ w'.cell? ⟨A, O + j, none⟩ = some (.int .i64 (s j)) ∧ w'.cell? ⟨B2, O2 + j, none⟩ = some (.int .i64 (t j)) ∧ w'.cell? ⟨C, P + j * 3 + 2, none⟩ = some (.int .i64 (U j).k) ∧ w'.cell? ⟨A, O + k, none⟩ = some (.int .i64 (s k)) ∧ w'.cell? ⟨B2, O2 + k, none⟩ = some (.int .i64 (t k)) ∧ w'.cell? ⟨C, P + k * 3 + 2, none⟩ = some (.int .i64 (U k).k)) := Lib.hid fun w' h => by
                obtain ⟨y1, y2, y3, y4⟩ := HQ0.out w' j h hjl
                obtain ⟨u1, u2, u3, u4⟩ := HQk.out w' h
                exact ⟨y1, y2, y3, y4, u2, u3, u4⟩
              go_wp2
              cases hM : M
              case true =>
                have HMET := Lib.hid (hm.trans hM)
                clear hm hM
                refine wp_region_calm (W := wz) (by kernel_rfl) (by kernel_rfl) (Below.refl _ _) ?_
                repeat (first
                  | (refine calm_no (by rfl) ?_
                     (try simp only [Act.put, List.setIfInBounds_toArray, List.set_cons_zero, List.set_cons_succ]))
                  | (apply calm_yes
                     focus rfl
                     focus
                       intro w' hw'
                       obtain ⟨z1, z2, z3, z4, z5, z6, z7⟩ := HQ.out w' (HZQ.out.trans (hw'.mono HZQ.out.size))
                       go_simp
                       first
                         | done
                         | with_reducible rfl
                         | fail
                     (try simp only [Act.put, List.setIfInBounds_toArray, List.set_cons_zero, List.set_cons_succ])))
                refine calm_nil ?_
                intro v1 hqv1
                have HBv1 := Lib.hid hqv1
                clear hqv1
                go_wp2
                refine wp_region_calm (W := v1) (by kernel_rfl) (by kernel_rfl) (Below.refl _ _) ?_
                repeat (first
                  | (refine calm_no (by rfl) ?_
                     (try simp only [Act.put, List.setIfInBounds_toArray, List.set_cons_zero, List.set_cons_succ]))
                  | (apply calm_yes
                     focus rfl
                     focus
                       intro w' hw'
                       obtain ⟨z1, z2, z3, z4, z5, z6, z7⟩ := HQ.out w' ((HZQ.out.trans (HBv1.out.mono HZQ.out.size)).trans (hw'.mono (HZQ.out.trans (HBv1.out.mono HZQ.out.size)).size))
                       go_simp
                       first
                         | done
                         | with_reducible rfl
                         | fail
                     (try simp only [Act.put, List.setIfInBounds_toArray, List.set_cons_zero, List.set_cons_succ])))
                refine calm_nil ?_
                intro v2 hqv2
                have HBv2 := Lib.hid hqv2
                clear hqv2
                have HZ2 := Lib.hid ((HZQ.out.trans (HBv1.out.mono HZQ.out.size)).trans (HBv2.out.mono (HZQ.out.trans (HBv1.out.mono HZQ.out.size)).size))
                go_wp2
                refine wp_region_calm (W := v2) (by kernel_rfl) (by kernel_rfl) (Below.refl _ _) ?_
                repeat (first
                  | (refine calm_no (by rfl) ?_
                     (try simp only [Act.put, List.setIfInBounds_toArray, List.set_cons_zero, List.set_cons_succ]))
                  | (apply calm_yes
                     focus rfl
                     focus
                       intro w' hw'
                       obtain ⟨z1, z2, z3, z4, z5, z6, z7⟩ := HQ.out w' (HZ2.out.trans (hw'.mono HZ2.out.size))
                       go_simp
                       first
                         | done
                         | with_reducible rfl
                         | fail
                     (try simp only [Act.put, List.setIfInBounds_toArray, List.set_cons_zero, List.set_cons_succ])))
                refine calm_nil ?_
                intro v3 hqv3
                have HBv3 := Lib.hid hqv3
                clear hqv3
                go_wp2
                go_roundw
                case rel => exact ⟨j + 1, by omega, by go_num, by rw [metB_succ]; simp [HMET.out], HZ2.out.trans (HBv3.out.mono HZ2.out.size)⟩
                case measure => simp [intOf]; omega
              case false =>
                have HMET := Lib.hid (hm.trans hM)
                clear hm hM
                by_cases c1 : s j < t j
                case neg =>
                  have d1 : decide (s j < t j) = false := decide_eq_false c1
                  have HC := Lib.hid d1
                  clear c1
                  refine wp_region_calm (W := wz) (by kernel_rfl) (by kernel_rfl) (Below.refl _ _) ?_
                  repeat (first
                    | (refine calm_no (by rfl) ?_
                       (try simp only [Act.put, List.setIfInBounds_toArray, List.set_cons_zero, List.set_cons_succ]))
                    | (apply calm_yes
                       focus rfl
                       focus
                         intro w' hw'
                         obtain ⟨z1, z2, z3, z4, z5, z6, z7⟩ := HQ.out w' (HZQ.out.trans (hw'.mono HZQ.out.size))
                         go_simp
                         first
                           | done
                           | with_reducible rfl
                           | fail
                       (try simp only [Act.put, List.setIfInBounds_toArray, List.set_cons_zero, List.set_cons_succ])))
                  refine calm_nil ?_
                  intro v1 hqv1
                  have HBv1 := Lib.hid hqv1
                  clear hqv1
                  go_wp2
                  refine wp_region_calm (W := v1) (by kernel_rfl) (by kernel_rfl) (Below.refl _ _) ?_
                  repeat (first
                    | (refine calm_no (by rfl) ?_
                       (try simp only [Act.put, List.setIfInBounds_toArray, List.set_cons_zero, List.set_cons_succ]))
                    | (apply calm_yes
                       focus rfl
                       focus
                         intro w' hw'
                         obtain ⟨z1, z2, z3, z4, z5, z6, z7⟩ := HQ.out w' ((HZQ.out.trans (HBv1.out.mono HZQ.out.size)).trans (hw'.mono (HZQ.out.trans (HBv1.out.mono HZQ.out.size)).size))
                         go_simp
                         first
                           | done
                           | with_reducible rfl
                           | fail
                       (try simp only [Act.put, List.setIfInBounds_toArray, List.set_cons_zero, List.set_cons_succ])))
                  refine calm_nil ?_
                  intro v2 hqv2
                  have HBv2 := Lib.hid hqv2
                  clear hqv2
                  have HZ2 := Lib.hid ((HZQ.out.trans (HBv1.out.mono HZQ.out.size)).trans (HBv2.out.mono (HZQ.out.trans (HBv1.out.mono HZQ.out.size)).size))
                  go_wp2
                  refine wp_region_calm (W := v2) (by kernel_rfl) (by kernel_rfl) (Below.refl _ _) ?_
                  repeat (first
                    | (refine calm_no (by rfl) ?_
                       (try simp only [Act.put, List.setIfInBounds_toArray, List.set_cons_zero, List.set_cons_succ]))
                    | (apply calm_yes
                       focus rfl
                       focus
                         intro w' hw'
                         obtain ⟨z1, z2, z3, z4, z5, z6, z7⟩ := HQ.out w' (HZ2.out.trans (hw'.mono HZ2.out.size))
                         go_simp
                         first
                           | done
                           | with_reducible rfl
                           | fail
                       (try simp only [Act.put, List.setIfInBounds_toArray, List.set_cons_zero, List.set_cons_succ])))
                  refine calm_nil ?_
                  intro v3 hqv3
                  have HBv3 := Lib.hid hqv3
                  clear hqv3
                  go_wp2
                  go_roundw
                  case rel => exact ⟨j + 1, by omega, by go_num, by rw [metB_succ]; simp [HMET.out, HC.out], HZ2.out.trans (HBv3.out.mono HZ2.out.size)⟩
                  case measure => simp [intOf]; omega
                case pos =>
                  have d1 : decide (s j < t j) = true := decide_eq_true c1
                  have HC := Lib.hid d1
                  clear c1
                  by_cases c2 : (U j).k < (U k).k
                  case pos =>
                    have d2 : decide ((U j).k < (U k).k) = true := decide_eq_true c2
                    have HC2 := Lib.hid d2
                    clear c2
                    refine wp_region_calm (W := wz) (by kernel_rfl) (by kernel_rfl) (Below.refl _ _) ?_
                    repeat (first
                      | (refine calm_no (by rfl) ?_
                         (try simp only [Act.put, List.setIfInBounds_toArray, List.set_cons_zero, List.set_cons_succ]))
                      | (apply calm_yes
                         focus rfl
                         focus
                           intro w' hw'
                           obtain ⟨z1, z2, z3, z4, z5, z6, z7⟩ := HQ.out w' (HZQ.out.trans (hw'.mono HZQ.out.size))
                           go_simp
                           first
                             | done
                             | with_reducible rfl
                             | fail
                         (try simp only [Act.put, List.setIfInBounds_toArray, List.set_cons_zero, List.set_cons_succ])))
                    refine calm_nil ?_
                    intro v1 hqv1
                    have HBv1 := Lib.hid hqv1
                    clear hqv1
                    go_wp2
                    refine wp_region_calm (W := v1) (by kernel_rfl) (by kernel_rfl) (Below.refl _ _) ?_
                    repeat (first
                      | (refine calm_no (by rfl) ?_
                         (try simp only [Act.put, List.setIfInBounds_toArray, List.set_cons_zero, List.set_cons_succ]))
                      | (apply calm_yes
                         focus rfl
                         focus
                           intro w' hw'
                           obtain ⟨z1, z2, z3, z4, z5, z6, z7⟩ := HQ.out w' ((HZQ.out.trans (HBv1.out.mono HZQ.out.size)).trans (hw'.mono (HZQ.out.trans (HBv1.out.mono HZQ.out.size)).size))
                           go_simp
                           first
                             | done
                             | with_reducible rfl
                             | fail
                         (try simp only [Act.put, List.setIfInBounds_toArray, List.set_cons_zero, List.set_cons_succ])))
                    refine calm_nil ?_
                    intro v2 hqv2
                    have HBv2 := Lib.hid hqv2
                    clear hqv2
                    have HZ2 := Lib.hid ((HZQ.out.trans (HBv1.out.mono HZQ.out.size)).trans (HBv2.out.mono (HZQ.out.trans (HBv1.out.mono HZQ.out.size)).size))
                    go_wp2
                    refine wp_region_calm (W := v2) (by kernel_rfl) (by kernel_rfl) (Below.refl _ _) ?_
                    repeat (first
                      | (refine calm_no (by rfl) ?_
                         (try simp only [Act.put, List.setIfInBounds_toArray, List.set_cons_zero, List.set_cons_succ]))
                      | (apply calm_yes
                         focus rfl
                         focus
                           intro w' hw'
                           obtain ⟨z1, z2, z3, z4, z5, z6, z7⟩ := HQ.out w' (HZ2.out.trans (hw'.mono HZ2.out.size))
                           go_simp
                           first
                             | done
                             | with_reducible rfl
                             | fail
                         (try simp only [Act.put, List.setIfInBounds_toArray, List.set_cons_zero, List.set_cons_succ])))
                    refine calm_nil ?_
                    intro v3 hqv3
                    have HBv3 := Lib.hid hqv3
                    clear hqv3
                    go_wp2
                    go_roundw
                    case rel => exact ⟨j + 1, by omega, by go_num, by rw [metB_succ]; simp [HMET.out, HC.out, HC2.out], HZ2.out.trans (HBv3.out.mono HZ2.out.size)⟩
                    case measure => simp [intOf]; omega
                  case neg =>
                    have d2 : decide ((U j).k < (U k).k) = false := decide_eq_false c2
                    have HC2 := Lib.hid d2
                    clear c2
                    by_cases c3 : (U j).k = (U k).k
                    case neg =>
                      have d3 : ((U j).k == (U k).k) = false := by simpa using c3
                      have HC3 := Lib.hid c3
                      clear c3
                      refine wp_region_calm (W := wz) (by kernel_rfl) (by kernel_rfl) (Below.refl _ _) ?_
                      repeat (first
                        | (refine calm_no (by rfl) ?_
                           (try simp only [Act.put, List.setIfInBounds_toArray, List.set_cons_zero, List.set_cons_succ]))
                        | (apply calm_yes
                           focus rfl
                           focus
                             intro w' hw'
                             obtain ⟨z1, z2, z3, z4, z5, z6, z7⟩ := HQ.out w' (HZQ.out.trans (hw'.mono HZQ.out.size))
                             go_simp
                             first
                               | done
                               | with_reducible rfl
                               | fail
                           (try simp only [Act.put, List.setIfInBounds_toArray, List.set_cons_zero, List.set_cons_succ])))
                      refine calm_nil ?_
                      intro v1 hqv1
                      have HBv1 := Lib.hid hqv1
                      clear hqv1
                      go_wp2
                      refine wp_region_calm (W := v1) (by kernel_rfl) (by kernel_rfl) (Below.refl _ _) ?_
                      repeat (first
                        | (refine calm_no (by rfl) ?_
                           (try simp only [Act.put, List.setIfInBounds_toArray, List.set_cons_zero, List.set_cons_succ]))
                        | (apply calm_yes
                           focus rfl
                           focus
                             intro w' hw'
                             obtain ⟨z1, z2, z3, z4, z5, z6, z7⟩ := HQ.out w' ((HZQ.out.trans (HBv1.out.mono HZQ.out.size)).trans (hw'.mono (HZQ.out.trans (HBv1.out.mono HZQ.out.size)).size))
                             go_simp
                             first
                               | done
                               | with_reducible rfl
                               | fail
                           (try simp only [Act.put, List.setIfInBounds_toArray, List.set_cons_zero, List.set_cons_succ])))
                      refine calm_nil ?_
                      intro v2 hqv2
                      have HBv2 := Lib.hid hqv2
                      clear hqv2
                      have HZ2 := Lib.hid ((HZQ.out.trans (HBv1.out.mono HZQ.out.size)).trans (HBv2.out.mono (HZQ.out.trans (HBv1.out.mono HZQ.out.size)).size))
                      go_wp2
                      refine wp_region_calm (W := v2) (by kernel_rfl) (by kernel_rfl) (Below.refl _ _) ?_
                      repeat (first
                        | (refine calm_no (by rfl) ?_
                           (try simp only [Act.put, List.setIfInBounds_toArray, List.set_cons_zero, List.set_cons_succ]))
                        | (apply calm_yes
                           focus rfl
                           focus
                             intro w' hw'
                             obtain ⟨z1, z2, z3, z4, z5, z6, z7⟩ := HQ.out w' (HZ2.out.trans (hw'.mono HZ2.out.size))
                             go_simp
                             first
                               | done
                               | with_reducible rfl
                               | fail
                           (try simp only [Act.put, List.setIfInBounds_toArray, List.set_cons_zero, List.set_cons_succ])))
                      refine calm_nil ?_
                      intro v3 hqv3
                      have HBv3 := Lib.hid hqv3
                      clear hqv3
                      go_wp2
                      go_roundw
                      case rel => exact ⟨j + 1, by omega, by go_num, by rw [metB_succ]; simp [HMET.out, HC.out, HC2.out, HC3.out], HZ2.out.trans (HBv3.out.mono HZ2.out.size)⟩
                      case measure => simp [intOf]; omega
                    case pos =>
                      have d3 : ((U j).k == (U k).k) = true := by simpa using c3
                      have HC3 := Lib.hid c3
                      clear c3
                      by_cases c4 : s j ≤ t k
                      case pos =>
                        have d4 : decide (s j ≤ t k) = true := decide_eq_true c4
                        have HC4 := Lib.hid d4
                        clear c4
                        refine wp_region_calm (W := wz) (by kernel_rfl) (by kernel_rfl) (Below.refl _ _) ?_
                        repeat (first
                          | (refine calm_no (by rfl) ?_
                             (try simp only [Act.put, List.setIfInBounds_toArray, List.set_cons_zero, List.set_cons_succ]))
                          | (apply calm_yes
                             focus rfl
                             focus
                               intro w' hw'
                               obtain ⟨z1, z2, z3, z4, z5, z6, z7⟩ := HQ.out w' (HZQ.out.trans (hw'.mono HZQ.out.size))
                               go_simp
                               first
                                 | done
                                 | with_reducible rfl
                                 | fail
                             (try simp only [Act.put, List.setIfInBounds_toArray, List.set_cons_zero, List.set_cons_succ])))
                        refine calm_nil ?_
                        intro v1 hqv1
                        have HBv1 := Lib.hid hqv1
                        clear hqv1
                        go_wp2
                        refine wp_region_calm (W := v1) (by kernel_rfl) (by kernel_rfl) (Below.refl _ _) ?_
                        repeat (first
                          | (refine calm_no (by rfl) ?_
                             (try simp only [Act.put, List.setIfInBounds_toArray, List.set_cons_zero, List.set_cons_succ]))
                          | (apply calm_yes
                             focus rfl
                             focus
                               intro w' hw'
                               obtain ⟨z1, z2, z3, z4, z5, z6, z7⟩ := HQ.out w' ((HZQ.out.trans (HBv1.out.mono HZQ.out.size)).trans (hw'.mono (HZQ.out.trans (HBv1.out.mono HZQ.out.size)).size))
                               go_simp
                               first
                                 | done
                                 | with_reducible rfl
                                 | fail
                             (try simp only [Act.put, List.setIfInBounds_toArray, List.set_cons_zero, List.set_cons_succ])))
                        refine calm_nil ?_
                        intro v2 hqv2
                        have HBv2 := Lib.hid hqv2
                        clear hqv2
                        have HZ2 := Lib.hid ((HZQ.out.trans (HBv1.out.mono HZQ.out.size)).trans (HBv2.out.mono (HZQ.out.trans (HBv1.out.mono HZQ.out.size)).size))
                        go_wp2
                        refine wp_region_calm (W := v2) (by kernel_rfl) (by kernel_rfl) (Below.refl _ _) ?_
                        repeat (first
                          | (refine calm_no (by rfl) ?_
                             (try simp only [Act.put, List.setIfInBounds_toArray, List.set_cons_zero, List.set_cons_succ]))
                          | (apply calm_yes
                             focus rfl
                             focus
                               intro w' hw'
                               obtain ⟨z1, z2, z3, z4, z5, z6, z7⟩ := HQ.out w' (HZ2.out.trans (hw'.mono HZ2.out.size))
                               go_simp
                               first
                                 | done
                                 | with_reducible rfl
                                 | fail
                             (try simp only [Act.put, List.setIfInBounds_toArray, List.set_cons_zero, List.set_cons_succ])))
                        refine calm_nil ?_
                        intro v3 hqv3
                        have HBv3 := Lib.hid hqv3
                        clear hqv3
                        go_wp2
                        go_roundw
                        case rel => exact ⟨j + 1, by omega, by go_num, by rw [metB_succ]; simp [HMET.out, HC.out, HC2.out, HC3.out, HC4.out], HZ2.out.trans (HBv3.out.mono HZ2.out.size)⟩
                        case measure => simp [intOf]; omega
                      case neg =>
                        have d4 : decide (s j ≤ t k) = false := decide_eq_false c4
                        have HC4 := Lib.hid d4
                        clear c4
                        refine wp_region_calm (W := wz) (by kernel_rfl) (by kernel_rfl) (Below.refl _ _) ?_
                        repeat (first
                          | (refine calm_no (by rfl) ?_
                             (try simp only [Act.put, List.setIfInBounds_toArray, List.set_cons_zero, List.set_cons_succ]))
                          | (apply calm_yes
                             focus rfl
                             focus
                               intro w' hw'
                               obtain ⟨z1, z2, z3, z4, z5, z6, z7⟩ := HQ.out w' (HZQ.out.trans (hw'.mono HZQ.out.size))
                               go_simp
                               first
                                 | done
                                 | with_reducible rfl
                                 | fail
                             (try simp only [Act.put, List.setIfInBounds_toArray, List.set_cons_zero, List.set_cons_succ])))
                        refine calm_nil ?_
                        intro v1 hqv1
                        have HBv1 := Lib.hid hqv1
                        clear hqv1
                        go_wp2
                        refine wp_region_calm (W := v1) (by kernel_rfl) (by kernel_rfl) (Below.refl _ _) ?_
                        repeat (first
                          | (refine calm_no (by rfl) ?_
                             (try simp only [Act.put, List.setIfInBounds_toArray, List.set_cons_zero, List.set_cons_succ]))
                          | (apply calm_yes
                             focus rfl
                             focus
                               intro w' hw'
                               obtain ⟨z1, z2, z3, z4, z5, z6, z7⟩ := HQ.out w' ((HZQ.out.trans (HBv1.out.mono HZQ.out.size)).trans (hw'.mono (HZQ.out.trans (HBv1.out.mono HZQ.out.size)).size))
                               go_simp
                               first
                                 | done
                                 | with_reducible rfl
                                 | fail
                             (try simp only [Act.put, List.setIfInBounds_toArray, List.set_cons_zero, List.set_cons_succ])))
                        refine calm_nil ?_
                        intro v2 hqv2
                        have HBv2 := Lib.hid hqv2
                        clear hqv2
                        have HZ2 := Lib.hid ((HZQ.out.trans (HBv1.out.mono HZQ.out.size)).trans (HBv2.out.mono (HZQ.out.trans (HBv1.out.mono HZQ.out.size)).size))
                        go_wp2
                        refine wp_region_calm (W := v2) (by kernel_rfl) (by kernel_rfl) (Below.refl _ _) ?_
                        repeat (first
                          | (refine calm_no (by rfl) ?_
                             (try simp only [Act.put, List.setIfInBounds_toArray, List.set_cons_zero, List.set_cons_succ]))
                          | (apply calm_yes
                             focus rfl
                             focus
                               intro w' hw'
                               obtain ⟨z1, z2, z3, z4, z5, z6, z7⟩ := HQ.out w' (HZ2.out.trans (hw'.mono HZ2.out.size))
                               go_simp
                               first
                                 | done
                                 | with_reducible rfl
                                 | fail
                             (try simp only [Act.put, List.setIfInBounds_toArray, List.set_cons_zero, List.set_cons_succ])))
                        refine calm_nil ?_
                        intro v3 hqv3
                        have HBv3 := Lib.hid hqv3
                        clear hqv3
                        go_wp2
                        go_roundw
                        case rel => exact ⟨j + 1, by omega, by go_num, by rw [metB_succ]; simp [HMET.out, HC.out, HC2.out, HC3.out, HC4.out], HZ2.out.trans (HBv3.out.mono HZ2.out.size)⟩
                        case measure => simp [intOf]; omega
end Go.Kn
