/- Contracts of functions that the laws of this seat call, or the evaluator of closed calls and its runs. Conditions: as each theorem states them. -/
import Derived.Test.YtpfbfdcpibajoaaGreatDoorHX
import Derived.Test.YtpfbfdcpibajoaaGreatDoorIX
set_option linter.unusedVariables false
set_option linter.unusedSimpArgs false
namespace Go.Kn
open Go Go.Proofs Go.RowKit

set_option maxRecDepth 100000 in
set_option maxHeartbeats 2000000 in
theorem lsame_w (sa sb : Option Addr) (ls c1 c2 : Nat) (s : Nat → Int) (w : World) (hls : ls ≤ maxLen) (H1 : Hid (IntSl w sa ls s)) (H2 : Hid (IntSl w sb ls s)) :
    Calls Tryz.prog 22 #[.slice sa ls c1, .slice sb ls c2] w fun e w' => e = .returned (.bool true) ∧ Below w.heap.size w w' := by
  unfold maxLen at hls
  go_enter Tryz.func22, Tryz.ntmps22
  go_wp2
  go_loopw [5] (fun i wr => ∃ k : Nat, k ≤ ls ∧ i = .int .i64 k ∧ Below w.heap.size w wr) (fun i _ => ls - (Go.RowKit.intOf i).toNat)
  case atStart => exact ⟨0, Nat.zero_le _, rfl, Below.refl _ _⟩
  case round =>
    obtain ⟨k, hk, rfl, hbw⟩ := hrel
    by_cases hlt : k < ls
    · obtain ⟨A, O, rfl, hA, h1⟩ := H1.out.resolve_left (by omega)
      obtain ⟨B, U, rfl, hB, h2⟩ := H2.out.resolve_left (by omega)
      have y0 := (h1.below hA hbw) k hlt
      have y1 := (h2.below hB hbw) k hlt
      clear h1 h2
      have n1 : (0 : Int) ≤ (k : Int) := by omega
      have n2 : (k : Int) < (ls : Int) := by omega
      go_wp2
      go_quiet (fail)
      go_wp2
      go_roundw
      case rel => exact ⟨k + 1, by omega, by go_num, below_drewM hbw _⟩
      case measure => simp [Go.RowKit.intOf]; omega
    · go_wp2
      go_ret
      exact ⟨rfl, hbw⟩
end Go.Kn

namespace Go.Kn
open Go Go.Proofs Go.RowKit

set_option maxRecDepth 100000 in
set_option maxHeartbeats 2000000 in
theorem widens_bad1 (f : Int) (na oa : Option Addr) (ln cn lo co : Nat) (N : Nat → N2) (U : Nat → O3) (z : Int) (w : World) (hls : ln ≤ 1000000) (hlt : lo ≤ 1000000) (H : Hid (Tr7 w na oa ln lo N U)) (HR : Hid (¬ TreeS f ln lo N U)) :
    Calls Tryz.prog 31 #[.agg #[.int .i64 f, .slice na ln cn, .slice oa lo co], .int .i64 z] w fun e w' => e = .returned (.tuple #[.slice none 0 0, .int .i64 2]) ∧ Below w.heap.size w w' := by
  have BX := Lib.hid (fun (w1 : World) (hb : Below (w.alloc (.cells #[.int .i64 f, .slice na ln cn, .slice oa lo co] 25)).heap.size (w.alloc (.cells #[.int .i64 f, .slice na ln cn, .slice oa lo co] 25)) w1) => box7 hb)
  have HN : Hid (∀ w1, Below (w.alloc (.cells #[.int .i64 f, .slice na ln cn, .slice oa lo co] 25)).heap.size (w.alloc (.cells #[.int .i64 f, .slice na ln cn, .slice oa lo co] 25)) w1 → Hid (Tr7 w1 na oa ln lo N U)) := Lib.hid fun w1 h => Lib.hid (H.out.below (below_al h))
  have hb : Below (w.alloc (.cells #[.int .i64 f, .slice na ln cn, .slice oa lo co] 25)).heap.size (w.alloc (.cells #[.int .i64 f, .slice na ln cn, .slice oa lo co] 25)) (w.alloc (.cells #[.int .i64 f, .slice na ln cn, .slice oa lo co] 25)) := Below.refl _ _
  obtain ⟨x1, x2, x3, x4⟩ := BX.out _ hb
  clear H
  go_enter Tryz.func31, Tryz.ntmps31
  go_wp2_with (first
    | (go_at_call 62; refine (isTree_w f na oa ln cn lo co N U _ hls hlt (HN.out _ hb)).mono ?_; rintro e wl ⟨⟨rb, rfl, hrb⟩, hv⟩; obtain rfl : rb = false := (by cases rb <;> first | rfl | exact (HR.out (hrb.1 rfl)).elim); clear hrb; (try replace hbs := hbs.trans (hv.mono hbs.size)); (try replace hba := hba.trans (hv.mono hba.size)); (try replace hbc := hbc.trans (hv.mono hbc.size)); (try replace hbd := hbd.trans (hv.mono hbd.size)); replace hb := hb.trans (hv.mono hb.size); clear x1 x2 x3 x4; obtain ⟨x1, x2, x3, x4⟩ := BX.out _ hb))
  refine bodyPost_ret (v := .tuple #[.slice none 0 0, .int .i64 2]) (by simp [results, Tryz.results31, go_sem]) rfl ⟨rfl, below_al hb⟩

set_option maxRecDepth 100000 in
set_option maxHeartbeats 2000000 in
theorem widens_bad2 (f : Int) (na oa : Option Addr) (ln cn lo co : Nat) (N : Nat → N2) (U : Nat → O3) (z : Int) (w : World) (hls : ln ≤ 1000000) (hlt : lo ≤ 1000000) (H : Hid (Tr7 w na oa ln lo N U)) (HR : Hid (TreeS f ln lo N U)) (HO : Hid (fromB 0 ((lo : Int) - 1) z = false)) :
    Calls Tryz.prog 31 #[.agg #[.int .i64 f, .slice na ln cn, .slice oa lo co], .int .i64 z] w fun e w' => e = .returned (.tuple #[.slice none 0 0, .int .i64 2]) ∧ Below w.heap.size w w' := by
  have BX := Lib.hid (fun (w1 : World) (hb : Below (w.alloc (.cells #[.int .i64 f, .slice na ln cn, .slice oa lo co] 25)).heap.size (w.alloc (.cells #[.int .i64 f, .slice na ln cn, .slice oa lo co] 25)) w1) => box7 hb)
  have HN : Hid (∀ w1, Below (w.alloc (.cells #[.int .i64 f, .slice na ln cn, .slice oa lo co] 25)).heap.size (w.alloc (.cells #[.int .i64 f, .slice na ln cn, .slice oa lo co] 25)) w1 → Hid (Tr7 w1 na oa ln lo N U)) := Lib.hid fun w1 h => Lib.hid (H.out.below (below_al h))
  have hb : Below (w.alloc (.cells #[.int .i64 f, .slice na ln cn, .slice oa lo co] 25)).heap.size (w.alloc (.cells #[.int .i64 f, .slice na ln cn, .slice oa lo co] 25)) (w.alloc (.cells #[.int .i64 f, .slice na ln cn, .slice oa lo co] 25)) := Below.refl _ _
  obtain ⟨x1, x2, x3, x4⟩ := BX.out _ hb
  clear H
  go_enter Tryz.func31, Tryz.ntmps31
  go_wp2_with (first
    | (go_at_call 62; refine (isTree_w f na oa ln cn lo co N U _ hls hlt (HN.out _ hb)).mono ?_; rintro e wl ⟨⟨rb, rfl, hrb⟩, hv⟩; obtain rfl : rb = true := hrb.2 HR.out; clear hrb; (try replace hbs := hbs.trans (hv.mono hbs.size)); (try replace hba := hba.trans (hv.mono hba.size)); (try replace hbc := hbc.trans (hv.mono hbc.size)); (try replace hbd := hbd.trans (hv.mono hbd.size)); replace hb := hb.trans (hv.mono hb.size); clear x1 x2 x3 x4; obtain ⟨x1, x2, x3, x4⟩ := BX.out _ hb)
    | (go_at_call 79; refine (isOutlet_w f _ na oa ln cn lo co _ hlt).mono ?_; rw [HO.out]; rintro e wl ⟨rfl, hv⟩; (try replace hbs := hbs.trans (hv.mono hbs.size)); (try replace hba := hba.trans (hv.mono hba.size)); (try replace hbc := hbc.trans (hv.mono hbc.size)); (try replace hbd := hbd.trans (hv.mono hbd.size)); replace hb := hb.trans (hv.mono hb.size); clear x1 x2 x3 x4; obtain ⟨x1, x2, x3, x4⟩ := BX.out _ hb))
  refine bodyPost_ret (v := .tuple #[.slice none 0 0, .int .i64 2]) (by simp [results, Tryz.results31, go_sem]) rfl ⟨rfl, below_al hb⟩

set_option maxRecDepth 100000 in
set_option maxHeartbeats 2000000 in
theorem cut_bad (f : Int) (na oa : Option Addr) (ln cn lo co : Nat) (N : Nat → N2) (U : Nat → O3) (w : World) (hls : ln ≤ 1000000) (hlt : lo ≤ 1000000) (H : Hid (Tr7 w na oa ln lo N U)) (HR : Hid (¬ TreeS f ln lo N U)) :
    Calls Tryz.prog 26 #[.agg #[.int .i64 f, .slice na ln cn, .slice oa lo co]] w fun e w' => e = .returned (.tuple #[.slice none 0 0, .int .i64 2]) ∧ Below w.heap.size w w' := by
  refine (callsIn_wide (n := 6)).1 ?_
  refine callsIn_of_wp_marks Tryz.func26 rfl trivial ?_ rfl
  simp only [Tryz.ntmps26, List.size_toArray, List.length_cons, List.length_nil, Nat.reduceAdd, Nat.reduceSub, Array.replicate_succ, Array.replicate_zero, List.push_toArray, List.append_toArray, List.nil_append, List.cons_append]
  have BX := Lib.hid (fun (w1 : World) (hb : Below (w.alloc (.cells #[.int .i64 f, .slice na ln cn, .slice oa lo co] 25)).heap.size (w.alloc (.cells #[.int .i64 f, .slice na ln cn, .slice oa lo co] 25)) w1) => box7 hb)
  have HN : Hid (∀ w1, Below (w.alloc (.cells #[.int .i64 f, .slice na ln cn, .slice oa lo co] 25)).heap.size (w.alloc (.cells #[.int .i64 f, .slice na ln cn, .slice oa lo co] 25)) w1 → Hid (Tr7 w1 na oa ln lo N U)) := Lib.hid fun w1 h => Lib.hid (H.out.below (below_al h))
  have hb : Below (w.alloc (.cells #[.int .i64 f, .slice na ln cn, .slice oa lo co] 25)).heap.size (w.alloc (.cells #[.int .i64 f, .slice na ln cn, .slice oa lo co] 25)) (w.alloc (.cells #[.int .i64 f, .slice na ln cn, .slice oa lo co] 25)) := Below.refl _ _
  obtain ⟨x1, x2, x3, x4⟩ := BX.out _ hb
  clear H
  gi_wp2
  refine wpIn_scope_straight ?_
  gi_wp2_with (first
    | (refine ⟨trivial, ?_⟩; gi_at_call 62; refine (callsIn_wide.2 (isTree_w f na oa ln cn lo co N U _ hls hlt (HN.out _ hb))).mono ?_; rintro e wl ⟨⟨rb, rfl, hrb⟩, hv⟩; obtain rfl : rb = false := (by cases rb <;> first | rfl | exact (HR.out (hrb.1 rfl)).elim); clear hrb; (try replace hbs := hbs.trans (hv.mono hbs.size)); (try replace hba := hba.trans (hv.mono hba.size)); (try replace hbc := hbc.trans (hv.mono hbc.size)); (try replace hbd := hbd.trans (hv.mono hbd.size)); replace hb := hb.trans (hv.mono hb.size); clear x1 x2 x3 x4; obtain ⟨x1, x2, x3, x4⟩ := BX.out _ hb))
  have HBF := Lib.hid (below_al hb)
  rw [Exit.noGoto_ret]
  refine leaves_mk (B := wl.heap.size) [] wl trivial fun w' hb' hc' => ?_
  exact ⟨.tuple #[.slice none 0 0, .int .i64 2], by simp [results, Tryz.results26, go_sem], rfl, HBF.out.trans (hb'.mono HBF.out.size)⟩

set_option maxRecDepth 100000 in
set_option maxHeartbeats 4000000 in
theorem lawcu_a (f : Int) (na oa : Option Addr) (ln cn lo co : Nat) (N : Nat → N2) (U : Nat → O3) (z : Int) (w : World) (hls : ln ≤ maxLen) (hlt : lo ≤ maxLen) (H : Hid (Tr7 w na oa ln lo N U)) (K : Hid KnownOk) (hq : ¬ (ln ≤ 8 ∧ lo ≤ 10)) :
    Calls Tryz.prog 6 #[.agg #[.int .i64 f, .slice na ln cn, .slice oa lo co], .int .i64 z] w
      fun e w' => e = .returned (.bool true) ∧ Below w.heap.size w w' := by
  have hsh : decide (ln ≤ 8 ∧ lo ≤ 10) = false := decide_eq_false hq
  have BX := Lib.hid (fun (w1 : World) (hb : Below (w.alloc (.cells #[.int .i64 f, .slice na ln cn, .slice oa lo co] 25)).heap.size (w.alloc (.cells #[.int .i64 f, .slice na ln cn, .slice oa lo co] 25)) w1) => box7 hb)
  have HN : Hid (∀ w1, Below (w.alloc (.cells #[.int .i64 f, .slice na ln cn, .slice oa lo co] 25)).heap.size (w.alloc (.cells #[.int .i64 f, .slice na ln cn, .slice oa lo co] 25)) w1 → Hid (Tr7 w1 na oa ln lo N U)) := Lib.hid fun w1 h => Lib.hid (H.out.below (below_al h))
  have hb : Below (w.alloc (.cells #[.int .i64 f, .slice na ln cn, .slice oa lo co] 25)).heap.size (w.alloc (.cells #[.int .i64 f, .slice na ln cn, .slice oa lo co] 25)) (w.alloc (.cells #[.int .i64 f, .slice na ln cn, .slice oa lo co] 25)) := Below.refl _ _
  obtain ⟨x1, x2, x3, x4⟩ := BX.out _ hb
  clear H
  go_enter Tryz.func6, Tryz.ntmps6
  go_wp2_with (first
    | (go_at_call 13; refine (short_w _ _ _ _ _ _ _ _ hls hlt).mono ?_; rw [hsh]; rintro e wl ⟨rfl, hv⟩; (try replace hbs := hbs.trans (hv.mono hbs.size)); (try replace hba := hba.trans (hv.mono hba.size)); (try replace hbc := hbc.trans (hv.mono hbc.size)); (try replace hbd := hbd.trans (hv.mono hbd.size)); replace hb := hb.trans (hv.mono hb.size); clear x1 x2 x3 x4; obtain ⟨x1, x2, x3, x4⟩ := BX.out _ hb)
    | (go_at_call 14; refine (K.out _).mono ?_; rintro e wl ⟨rfl, hv⟩; (try replace hbs := hbs.trans (hv.mono hbs.size)); (try replace hba := hba.trans (hv.mono hba.size)); (try replace hbc := hbc.trans (hv.mono hbc.size)); (try replace hbd := hbd.trans (hv.mono hbd.size)); replace hb := hb.trans (hv.mono hb.size); clear x1 x2 x3 x4; obtain ⟨x1, x2, x3, x4⟩ := BX.out _ hb))
  go_ret
  exact ⟨rfl, below_al hb⟩

set_option maxRecDepth 100000 in
set_option maxHeartbeats 4000000 in
theorem lawcu_b (f : Int) (na oa : Option Addr) (ln cn lo co : Nat) (N : Nat → N2) (U : Nat → O3) (z : Int) (w : World) (hls : ln ≤ 1000000) (hlt : lo ≤ 1000000) (H : Hid (Tr7 w na oa ln lo N U)) (K : Hid KnownOk) (hq : ln ≤ 8 ∧ lo ≤ 10) (HR : Hid (¬ TreeS f ln lo N U)) :
    Calls Tryz.prog 6 #[.agg #[.int .i64 f, .slice na ln cn, .slice oa lo co], .int .i64 z] w
      fun e w' => e = .returned (.bool true) ∧ Below w.heap.size w w' := by
  have hsh : decide (ln ≤ 8 ∧ lo ≤ 10) = true := decide_eq_true hq
  have BX := Lib.hid (fun (w1 : World) (hb : Below (w.alloc (.cells #[.int .i64 f, .slice na ln cn, .slice oa lo co] 25)).heap.size (w.alloc (.cells #[.int .i64 f, .slice na ln cn, .slice oa lo co] 25)) w1) => box7 hb)
  have HN : Hid (∀ w1, Below (w.alloc (.cells #[.int .i64 f, .slice na ln cn, .slice oa lo co] 25)).heap.size (w.alloc (.cells #[.int .i64 f, .slice na ln cn, .slice oa lo co] 25)) w1 → Hid (Tr7 w1 na oa ln lo N U)) := Lib.hid fun w1 h => Lib.hid (H.out.below (below_al h))
  have hb : Below (w.alloc (.cells #[.int .i64 f, .slice na ln cn, .slice oa lo co] 25)).heap.size (w.alloc (.cells #[.int .i64 f, .slice na ln cn, .slice oa lo co] 25)) (w.alloc (.cells #[.int .i64 f, .slice na ln cn, .slice oa lo co] 25)) := Below.refl _ _
  obtain ⟨x1, x2, x3, x4⟩ := BX.out _ hb
  clear H
  go_enter Tryz.func6, Tryz.ntmps6
  go_wp2_with (first
    | (go_at_call 13; refine (short_w _ _ _ _ _ _ _ _ (by unfold maxLen; omega) (by unfold maxLen; omega)).mono ?_; rw [hsh]; rintro e wl ⟨rfl, hv⟩; (try replace hbs := hbs.trans (hv.mono hbs.size)); (try replace hba := hba.trans (hv.mono hba.size)); (try replace hbc := hbc.trans (hv.mono hbc.size)); (try replace hbd := hbd.trans (hv.mono hbd.size)); replace hb := hb.trans (hv.mono hb.size); clear x1 x2 x3 x4; obtain ⟨x1, x2, x3, x4⟩ := BX.out _ hb)
    | (go_at_call 26; refine (cut_bad f na oa ln cn lo co N U _ hls hlt (HN.out _ hb) HR).mono ?_; rintro e wl ⟨rfl, hv⟩; (try replace hbs := hbs.trans (hv.mono hbs.size)); (try replace hba := hba.trans (hv.mono hba.size)); (try replace hbc := hbc.trans (hv.mono hbc.size)); (try replace hbd := hbd.trans (hv.mono hbd.size)); replace hb := hb.trans (hv.mono hb.size); clear x1 x2 x3 x4; obtain ⟨x1, x2, x3, x4⟩ := BX.out _ hb)
    | (go_at_call 31; refine (widens_bad1 f na oa ln cn lo co N U z _ hls hlt (HN.out _ hb) HR).mono ?_; rintro e wl ⟨rfl, hv⟩; (try replace hbs := hbs.trans (hv.mono hbs.size)); (try replace hba := hba.trans (hv.mono hba.size)); (try replace hbc := hbc.trans (hv.mono hbc.size)); (try replace hbd := hbd.trans (hv.mono hbd.size)); replace hb := hb.trans (hv.mono hb.size); clear x1 x2 x3 x4; obtain ⟨x1, x2, x3, x4⟩ := BX.out _ hb)
    | (go_at_call 17; refine (tree_w _ _ _ _ _ _ _ N U _ hls hlt (HN.out _ hb)).mono ?_; rintro e wl ⟨⟨rb, rfl, hrb⟩, hv⟩; obtain rfl : rb = false := (by cases rb <;> first | rfl | exact (HR.out (hrb.1 rfl)).elim); clear hrb; (try replace hbs := hbs.trans (hv.mono hbs.size)); (try replace hba := hba.trans (hv.mono hba.size)); (try replace hbc := hbc.trans (hv.mono hbc.size)); (try replace hbd := hbd.trans (hv.mono hbd.size)); replace hb := hb.trans (hv.mono hb.size); clear x1 x2 x3 x4; obtain ⟨x1, x2, x3, x4⟩ := BX.out _ hb)
    | (go_at_call 14; refine (K.out _).mono ?_; rintro e wl ⟨rfl, hv⟩; (try replace hbs := hbs.trans (hv.mono hbs.size)); (try replace hba := hba.trans (hv.mono hba.size)); (try replace hbc := hbc.trans (hv.mono hbc.size)); (try replace hbd := hbd.trans (hv.mono hbd.size)); replace hb := hb.trans (hv.mono hb.size); clear x1 x2 x3 x4; obtain ⟨x1, x2, x3, x4⟩ := BX.out _ hb))
  go_ret
  exact ⟨rfl, below_al hb⟩

set_option maxRecDepth 100000 in
set_option maxHeartbeats 4000000 in
theorem lawcu_c (f : Int) (na oa : Option Addr) (ln cn lo co : Nat) (N : Nat → N2) (U : Nat → O3) (z : Int) (w : World) (hls : ln ≤ 1000000) (hlt : lo ≤ 1000000) (H : Hid (Tr7 w na oa ln lo N U)) (K : Hid KnownOk) (hq : ln ≤ 8 ∧ lo ≤ 10) (HR : Hid (TreeS f ln lo N U)) (HO : Hid (fromB 0 ((lo : Int) - 1) z = false))(t : Nat → Int) (X : Nat → Nat → Int) (HX : Hid (WS f ln lo N U t X))  :
    Calls Tryz.prog 6 #[.agg #[.int .i64 f, .slice na ln cn, .slice oa lo co], .int .i64 z] w
      fun e w' => e = .returned (.bool true) ∧ Below w.heap.size w w' := by
  have hsh : decide (ln ≤ 8 ∧ lo ≤ 10) = true := decide_eq_true hq
  have BX := Lib.hid (fun (w1 : World) (hb : Below (w.alloc (.cells #[.int .i64 f, .slice na ln cn, .slice oa lo co] 25)).heap.size (w.alloc (.cells #[.int .i64 f, .slice na ln cn, .slice oa lo co] 25)) w1) => box7 hb)
  have HN : Hid (∀ w1, Below (w.alloc (.cells #[.int .i64 f, .slice na ln cn, .slice oa lo co] 25)).heap.size (w.alloc (.cells #[.int .i64 f, .slice na ln cn, .slice oa lo co] 25)) w1 → Hid (Tr7 w1 na oa ln lo N U)) := Lib.hid fun w1 h => Lib.hid (H.out.below (below_al h))
  have hb : Below (w.alloc (.cells #[.int .i64 f, .slice na ln cn, .slice oa lo co] 25)).heap.size (w.alloc (.cells #[.int .i64 f, .slice na ln cn, .slice oa lo co] 25)) (w.alloc (.cells #[.int .i64 f, .slice na ln cn, .slice oa lo co] 25)) := Below.refl _ _
  obtain ⟨x1, x2, x3, x4⟩ := BX.out _ hb
  clear H
  go_enter Tryz.func6, Tryz.ntmps6
  go_wp2_with (first
    | (go_at_call 13; refine (short_w _ _ _ _ _ _ _ _ (by unfold maxLen; omega) (by unfold maxLen; omega)).mono ?_; rw [hsh]; rintro e wl ⟨rfl, hv⟩; (try replace hbs := hbs.trans (hv.mono hbs.size)); (try replace hba := hba.trans (hv.mono hba.size)); (try replace hbc := hbc.trans (hv.mono hbc.size)); (try replace hbd := hbd.trans (hv.mono hbd.size)); replace hb := hb.trans (hv.mono hb.size); clear x1 x2 x3 x4; obtain ⟨x1, x2, x3, x4⟩ := BX.out _ hb)
    | (go_at_call 26; (refine (cut_w f na oa ln cn lo co N U t _ HR (HN.out _ hb) (Lib.hid HX.out.own)).mono ?_; rintro e wl ⟨⟨v, m1, rfl, hm1, how⟩, hv⟩; (try replace hbs := hbs.trans (hv.mono hbs.size)); (try replace hba := hba.trans (hv.mono hba.size)); (try replace hbc := hbc.trans (hv.mono hbc.size)); (try replace hbd := hbd.trans (hv.mono hbd.size)); replace hb := hb.trans (hv.mono hb.size); clear x1 x2 x3 x4; obtain ⟨x1, x2, x3, x4⟩ := BX.out _ hb; obtain ⟨pc, cc, rfl, hcs⟩ := cutSl how; have hbs := Below.refl wl.heap.size wl; have HM1 := Lib.hid hm1; have HCS : Hid (∀ w2, Below wl.heap.size wl w2 → IntSl w2 pc m1 (fun i => (((CL f lo N U t (ln + 1)).getD i 0 : Nat) : Int))) := Lib.hid fun w2 h => (by have h3 := hcs.below h; exact h3); clear how hcs hm1))
    | (go_at_call 31; refine (widens_bad2 f na oa ln cn lo co N U z _ hls hlt (HN.out _ hb) HR HO).mono ?_; rintro e wl ⟨rfl, hv⟩; (try replace hbs := hbs.trans (hv.mono hbs.size)); (try replace hba := hba.trans (hv.mono hba.size)); (try replace hbc := hbc.trans (hv.mono hbc.size)); (try replace hbd := hbd.trans (hv.mono hbd.size)); replace hb := hb.trans (hv.mono hb.size); clear x1 x2 x3 x4; obtain ⟨x1, x2, x3, x4⟩ := BX.out _ hb)
    | (go_at_call 17; refine (tree_w _ _ _ _ _ _ _ N U _ hls hlt (HN.out _ hb)).mono ?_; rintro e wl ⟨⟨rb, rfl, hrb⟩, hv⟩; obtain rfl : rb = true := hrb.2 HR.out; clear hrb; (try replace hbs := hbs.trans (hv.mono hbs.size)); (try replace hba := hba.trans (hv.mono hba.size)); (try replace hbc := hbc.trans (hv.mono hbc.size)); (try replace hbd := hbd.trans (hv.mono hbd.size)); replace hb := hb.trans (hv.mono hb.size); clear x1 x2 x3 x4; obtain ⟨x1, x2, x3, x4⟩ := BX.out _ hb)
    | (go_at_call 32; refine (rcut_w f na oa ln cn lo co N U t _ (Lib.hid HR.out.w) (HN.out _ hb) (Lib.hid HX.out.own)).mono ?_; rintro e wl ⟨⟨v, m2, rfl, hm2, how⟩, hv⟩; (try replace hbs := hbs.trans (hv.mono hbs.size)); (try replace hba := hba.trans (hv.mono hba.size)); (try replace hbc := hbc.trans (hv.mono hbc.size)); (try replace hbd := hbd.trans (hv.mono hbd.size)); replace hb := hb.trans (hv.mono hb.size); clear x1 x2 x3 x4; obtain ⟨x1, x2, x3, x4⟩ := BX.out _ hb; obtain ⟨pr, cr, rfl, hcs⟩ := cutSl how; obtain rfl : m2 = m1 := hm2.trans HM1.out.symm; have HRS := Lib.hid hcs; clear how hcs hm2)
    | (go_at_call_of 22 pc; refine (lsame_w _ _ _ _ _ _ _ (by have := CL_len (f := f) (lo := lo) (N := N) (U := U) (t := t) (ln + 1); have := HM1.out; unfold maxLen; omega) (Lib.hid (HCS.out _ hbs)) HRS).mono ?_; rintro e wl ⟨rfl, hv⟩; (try replace hbs := hbs.trans (hv.mono hbs.size)); (try replace hba := hba.trans (hv.mono hba.size)); (try replace hbc := hbc.trans (hv.mono hbc.size)); (try replace hbd := hbd.trans (hv.mono hbd.size)); replace hb := hb.trans (hv.mono hb.size); clear x1 x2 x3 x4; obtain ⟨x1, x2, x3, x4⟩ := BX.out _ hb)
    | (go_at_call 33; refine (outlet_w _ _ _ _ _ _ _ _ _ hlt).mono ?_; rw [HO.out]; rintro e wl ⟨rfl, hv⟩; (try replace hbs := hbs.trans (hv.mono hbs.size)); (try replace hba := hba.trans (hv.mono hba.size)); (try replace hbc := hbc.trans (hv.mono hbc.size)); (try replace hbd := hbd.trans (hv.mono hbd.size)); replace hb := hb.trans (hv.mono hb.size); clear x1 x2 x3 x4; obtain ⟨x1, x2, x3, x4⟩ := BX.out _ hb)
    | (go_at_call 14; refine (K.out _).mono ?_; rintro e wl ⟨rfl, hv⟩; (try replace hbs := hbs.trans (hv.mono hbs.size)); (try replace hba := hba.trans (hv.mono hba.size)); (try replace hbc := hbc.trans (hv.mono hbc.size)); (try replace hbd := hbd.trans (hv.mono hbd.size)); replace hb := hb.trans (hv.mono hb.size); clear x1 x2 x3 x4; obtain ⟨x1, x2, x3, x4⟩ := BX.out _ hb))
  go_ret
  exact ⟨rfl, below_al hb⟩

set_option maxRecDepth 100000 in
set_option maxHeartbeats 4000000 in
theorem lawcu_d (f : Int) (na oa : Option Addr) (ln cn lo co : Nat) (N : Nat → N2) (U : Nat → O3) (i : Nat) (w : World) (hls : ln ≤ 1000000) (hlt : lo ≤ 1000000) (H : Hid (Tr7 w na oa ln lo N U)) (K : Hid KnownOk) (hq : ln ≤ 8 ∧ lo ≤ 10) (HR : Hid (TreeS f ln lo N U)) (hi : i < lo) (t : Nat → Int) (X : Nat → Nat → Int) (HX : Hid (WS f ln lo N U t X))  :
    Calls Tryz.prog 6 #[.agg #[.int .i64 f, .slice na ln cn, .slice oa lo co], .int .i64 (i : Int)] w
      fun e w' => e = .returned (.bool true) ∧ Below w.heap.size w w' := by
  have hsh : decide (ln ≤ 8 ∧ lo ≤ 10) = true := decide_eq_true hq
  have hoz : fromB 0 ((lo : Int) - 1) (i : Int) = true := by simp only [fromB, decide_eq_true_eq]; omega
  have HO := Lib.hid hoz
  clear hoz
  have BX := Lib.hid (fun (w1 : World) (hb : Below (w.alloc (.cells #[.int .i64 f, .slice na ln cn, .slice oa lo co] 25)).heap.size (w.alloc (.cells #[.int .i64 f, .slice na ln cn, .slice oa lo co] 25)) w1) => box7 hb)
  have HN : Hid (∀ w1, Below (w.alloc (.cells #[.int .i64 f, .slice na ln cn, .slice oa lo co] 25)).heap.size (w.alloc (.cells #[.int .i64 f, .slice na ln cn, .slice oa lo co] 25)) w1 → Hid (Tr7 w1 na oa ln lo N U)) := Lib.hid fun w1 h => Lib.hid (H.out.below (below_al h))
  have hb : Below (w.alloc (.cells #[.int .i64 f, .slice na ln cn, .slice oa lo co] 25)).heap.size (w.alloc (.cells #[.int .i64 f, .slice na ln cn, .slice oa lo co] 25)) (w.alloc (.cells #[.int .i64 f, .slice na ln cn, .slice oa lo co] 25)) := Below.refl _ _
  obtain ⟨x1, x2, x3, x4⟩ := BX.out _ hb
  clear H
  go_enter Tryz.func6, Tryz.ntmps6
  go_wp2_with (first
    | (go_at_call 13; refine (short_w _ _ _ _ _ _ _ _ (by unfold maxLen; omega) (by unfold maxLen; omega)).mono ?_; rw [hsh]; rintro e wl ⟨rfl, hv⟩; (try replace hbs := hbs.trans (hv.mono hbs.size)); (try replace hba := hba.trans (hv.mono hba.size)); (try replace hbc := hbc.trans (hv.mono hbc.size)); (try replace hbd := hbd.trans (hv.mono hbd.size)); replace hb := hb.trans (hv.mono hb.size); clear x1 x2 x3 x4; obtain ⟨x1, x2, x3, x4⟩ := BX.out _ hb)
    | (go_at_call 26; (refine (cut_w f na oa ln cn lo co N U t _ HR (HN.out _ hb) (Lib.hid HX.out.own)).mono ?_; rintro e wl ⟨⟨v, m1, rfl, hm1, how⟩, hv⟩; (try replace hbs := hbs.trans (hv.mono hbs.size)); (try replace hba := hba.trans (hv.mono hba.size)); (try replace hbc := hbc.trans (hv.mono hbc.size)); (try replace hbd := hbd.trans (hv.mono hbd.size)); replace hb := hb.trans (hv.mono hb.size); clear x1 x2 x3 x4; obtain ⟨x1, x2, x3, x4⟩ := BX.out _ hb; obtain ⟨pc, cc, rfl, hcs⟩ := cutSl how; have hbs := Below.refl wl.heap.size wl; have HM1 := Lib.hid hm1; have HCS : Hid (∀ w2, Below wl.heap.size wl w2 → IntSl w2 pc m1 (fun i => (((CL f lo N U t (ln + 1)).getD i 0 : Nat) : Int))) := Lib.hid fun w2 h => (by have h3 := hcs.below h; exact h3); clear how hcs hm1))
    | (go_at_call 31; refine (widens_w f na oa ln cn lo co i N U t X _ hi HR (HN.out _ hb) HX).mono ?_; rintro e wl ⟨⟨v, m3, rfl, hm3, how⟩, hv⟩; (try replace hbs := hbs.trans (hv.mono hbs.size)); (try replace hba := hba.trans (hv.mono hba.size)); (try replace hbc := hbc.trans (hv.mono hbc.size)); (try replace hbd := hbd.trans (hv.mono hbd.size)); replace hb := hb.trans (hv.mono hb.size); clear x1 x2 x3 x4; obtain ⟨x1, x2, x3, x4⟩ := BX.out _ hb; obtain ⟨pw, cw, rfl, hcs⟩ := cutSl how; have hba := Below.refl wl.heap.size wl; have HM3 := Lib.hid hm3; have HWS : Hid (∀ w2, Below wl.heap.size wl w2 → IntSl w2 pw m3 (fun j => (((WL i t X (ln + 1)).getD j 0 : Nat) : Int))) := Lib.hid fun w2 h => (by have h3 := hcs.below h; exact h3); clear how hcs hm3)
    | (go_at_call 17; refine (tree_w _ _ _ _ _ _ _ N U _ hls hlt (HN.out _ hb)).mono ?_; rintro e wl ⟨⟨rb, rfl, hrb⟩, hv⟩; obtain rfl : rb = true := hrb.2 HR.out; clear hrb; (try replace hbs := hbs.trans (hv.mono hbs.size)); (try replace hba := hba.trans (hv.mono hba.size)); (try replace hbc := hbc.trans (hv.mono hbc.size)); (try replace hbd := hbd.trans (hv.mono hbd.size)); replace hb := hb.trans (hv.mono hb.size); clear x1 x2 x3 x4; obtain ⟨x1, x2, x3, x4⟩ := BX.out _ hb)
    | (go_at_call 32; refine (rcut_w f na oa ln cn lo co N U t _ (Lib.hid HR.out.w) (HN.out _ hb) (Lib.hid HX.out.own)).mono ?_; rintro e wl ⟨⟨v, m2, rfl, hm2, how⟩, hv⟩; (try replace hbs := hbs.trans (hv.mono hbs.size)); (try replace hba := hba.trans (hv.mono hba.size)); (try replace hbc := hbc.trans (hv.mono hbc.size)); (try replace hbd := hbd.trans (hv.mono hbd.size)); replace hb := hb.trans (hv.mono hb.size); clear x1 x2 x3 x4; obtain ⟨x1, x2, x3, x4⟩ := BX.out _ hb; obtain ⟨pr, cr, rfl, hcs⟩ := cutSl how; obtain rfl : m2 = m1 := hm2.trans HM1.out.symm; have HRS := Lib.hid hcs; clear how hcs hm2)
    | (go_at_call_of 22 pc; refine (lsame_w _ _ _ _ _ _ _ (by have := CL_len (f := f) (lo := lo) (N := N) (U := U) (t := t) (ln + 1); have := HM1.out; unfold maxLen; omega) (Lib.hid (HCS.out _ hbs)) HRS).mono ?_; rintro e wl ⟨rfl, hv⟩; (try replace hbs := hbs.trans (hv.mono hbs.size)); (try replace hba := hba.trans (hv.mono hba.size)); (try replace hbc := hbc.trans (hv.mono hbc.size)); (try replace hbd := hbd.trans (hv.mono hbd.size)); replace hb := hb.trans (hv.mono hb.size); clear x1 x2 x3 x4; obtain ⟨x1, x2, x3, x4⟩ := BX.out _ hb)
    | (go_at_call 33; refine (outlet_w _ _ _ _ _ _ _ _ _ hlt).mono ?_; rw [HO.out]; rintro e wl ⟨rfl, hv⟩; (try replace hbs := hbs.trans (hv.mono hbs.size)); (try replace hba := hba.trans (hv.mono hba.size)); (try replace hbc := hbc.trans (hv.mono hbc.size)); (try replace hbd := hbd.trans (hv.mono hbd.size)); replace hb := hb.trans (hv.mono hb.size); clear x1 x2 x3 x4; obtain ⟨x1, x2, x3, x4⟩ := BX.out _ hb)
    | (go_at_call 34; refine (rwidens_w f na oa ln cn lo co i N U t X _ hi HR (HN.out _ hb) HX).mono ?_; rintro e wl ⟨⟨v, m4, rfl, hm4, how⟩, hv⟩; (try replace hbs := hbs.trans (hv.mono hbs.size)); (try replace hba := hba.trans (hv.mono hba.size)); (try replace hbc := hbc.trans (hv.mono hbc.size)); (try replace hbd := hbd.trans (hv.mono hbd.size)); replace hb := hb.trans (hv.mono hb.size); clear x1 x2 x3 x4; obtain ⟨x1, x2, x3, x4⟩ := BX.out _ hb; obtain ⟨px, cx, rfl, hcs⟩ := cutSl how; obtain rfl : m4 = m3 := hm4.trans HM3.out.symm; have HXS := Lib.hid hcs; clear how hcs hm4)
    | (go_at_call_of 22 pw; refine (lsame_w _ _ _ _ _ _ _ (by have := WL_len (i := i) (t := t) (X := X) (ln + 1); have := HM3.out; unfold maxLen; omega) (Lib.hid (HWS.out _ hba)) HXS).mono ?_; rintro e wl ⟨rfl, hv⟩; (try replace hbs := hbs.trans (hv.mono hbs.size)); (try replace hba := hba.trans (hv.mono hba.size)); (try replace hbc := hbc.trans (hv.mono hbc.size)); (try replace hbd := hbd.trans (hv.mono hbd.size)); replace hb := hb.trans (hv.mono hb.size); clear x1 x2 x3 x4; obtain ⟨x1, x2, x3, x4⟩ := BX.out _ hb)
    | (go_at_call 14; refine (K.out _).mono ?_; rintro e wl ⟨rfl, hv⟩; (try replace hbs := hbs.trans (hv.mono hbs.size)); (try replace hba := hba.trans (hv.mono hba.size)); (try replace hbc := hbc.trans (hv.mono hbc.size)); (try replace hbd := hbd.trans (hv.mono hbd.size)); replace hb := hb.trans (hv.mono hb.size); clear x1 x2 x3 x4; obtain ⟨x1, x2, x3, x4⟩ := BX.out _ hb))
  go_ret
  exact ⟨rfl, below_al hb⟩

set_option maxHeartbeats 1000000 in
theorem lawcu_w (f : Int) (na oa : Option Addr) (ln cn lo co : Nat) (N : Nat → N2) (U : Nat → O3) (z : Int) (w : World) (hls : ln ≤ maxLen) (hlt : lo ≤ maxLen) (H : Tr7 w na oa ln lo N U) (K : KnownOk) :
    Calls Tryz.prog 6 #[.agg #[.int .i64 f, .slice na ln cn, .slice oa lo co], .int .i64 z] w
      fun e w' => e = .returned (.bool true) ∧ Below w.heap.size w w' := by
  by_cases hq : ln ≤ 8 ∧ lo ≤ 10
  case neg => exact lawcu_a f na oa ln cn lo co N U z w hls hlt (Lib.hid H) (Lib.hid K) hq
  by_cases HR : TreeS f ln lo N U
  case neg => exact lawcu_b f na oa ln cn lo co N U z w (by omega) (by omega) (Lib.hid H) (Lib.hid K) hq (Lib.hid HR)
  have l1 : ln ≤ 1000000 := by omega
  have l2 : lo ≤ 1000000 := by omega
  obtain ⟨t, X, hx⟩ := ws_ex HR
  cases ho : fromB 0 ((lo : Int) - 1) z with
  | false => exact lawcu_c f na oa ln cn lo co N U z w l1 l2 (Lib.hid H) (Lib.hid K) hq (Lib.hid HR) (Lib.hid ho) t X (Lib.hid hx)
  | true =>
    simp only [fromB, decide_eq_true_eq] at ho
    obtain ⟨i, rfl⟩ : ∃ i : Nat, z = (i : Int) := ⟨z.toNat, by omega⟩
    exact lawcu_d f na oa ln cn lo co N U i w l1 l2 (Lib.hid H) (Lib.hid K) hq (Lib.hid HR) (by omega) t X (Lib.hid hx)
end Go.Kn
