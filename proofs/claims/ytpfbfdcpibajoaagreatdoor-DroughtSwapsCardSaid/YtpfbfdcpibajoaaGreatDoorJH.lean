/- Contracts of functions that the laws of this seat call, or the evaluator of closed calls and its runs. Conditions: as each theorem states them. -/
import Derived.Test.YtpfbfdcpibajoaaGreatDoorJE
import Derived.Test.YtpfbfdcpibajoaaGreatDoorJG
set_option linter.unusedVariables false
set_option linter.unusedSimpArgs false
namespace Go.Kn
open Go Go.Proofs Go.RowKit

set_option maxRecDepth 100000 in
set_option maxHeartbeats 2000000 in
theorem swaps_b1 (f : Int) (na oa pa : Option Addr) (ln cn lo co lp cp : Nat) (N : Nat → N2) (U : Nat → O3) (D : Nat → Dy) (zo zt : Int) (w : World) (hls : ln ≤ 1000000) (hlt : lo ≤ 1000000) (H : Hid (Tr7 w na oa ln lo N U)) (HP : Hid (PlSl w pa lp D)) (HN10 : Hid (∀ d, d < lp → (D d).n ≤ 10)) (hlp : lp ≤ 12) (HR : Hid (¬ TreeS f ln lo N U)) :
    Calls Tryz.prog 50 #[.agg #[.int .i64 f, .slice na ln cn, .slice oa lo co], .slice pa lp cp, .int .i64 zo, .int .i64 zt] w fun e w' => e = .returned (.tuple #[.int .i64 0, .int .i64 0, .int .i64 2]) ∧ Below w.heap.size w w' := by
  have BX := Lib.hid (fun (w1 : World) (hb : Below (w.alloc (.cells #[.int .i64 f, .slice na ln cn, .slice oa lo co] 25)).heap.size (w.alloc (.cells #[.int .i64 f, .slice na ln cn, .slice oa lo co] 25)) w1) => box7 hb)
  have HN : Hid (∀ w1, Below (w.alloc (.cells #[.int .i64 f, .slice na ln cn, .slice oa lo co] 25)).heap.size (w.alloc (.cells #[.int .i64 f, .slice na ln cn, .slice oa lo co] 25)) w1 → Hid (Tr7 w1 na oa ln lo N U)) := Lib.hid fun w1 h => Lib.hid (H.out.below (below_al h))
  have hb : Below (w.alloc (.cells #[.int .i64 f, .slice na ln cn, .slice oa lo co] 25)).heap.size (w.alloc (.cells #[.int .i64 f, .slice na ln cn, .slice oa lo co] 25)) (w.alloc (.cells #[.int .i64 f, .slice na ln cn, .slice oa lo co] 25)) := Below.refl _ _
  obtain ⟨x1, x2, x3, x4⟩ := BX.out _ hb
  have HPP : Hid (∀ w1, Below (w.alloc (.cells #[.int .i64 f, .slice na ln cn, .slice oa lo co] 25)).heap.size (w.alloc (.cells #[.int .i64 f, .slice na ln cn, .slice oa lo co] 25)) w1 → Hid (PlSl w1 pa lp D)) := Lib.hid fun w1 h => Lib.hid (HP.out.below (below_al h))
  clear H HP
  go_enter Tryz.func50, Tryz.ntmps50
  go_wp2_with (first
    | (go_at_call 62; refine (isTree_w f na oa ln cn lo co N U _ hls hlt (HN.out _ hb)).mono ?_; rintro e wl ⟨⟨rb, rfl, hrb⟩, hv⟩; obtain rfl : rb = false := (by cases rb <;> first | rfl | exact (HR.out (hrb.1 rfl)).elim); clear hrb; (try replace hbs := hbs.trans (hv.mono hbs.size)); (try replace hba := hba.trans (hv.mono hba.size)); (try replace hbc := hbc.trans (hv.mono hbc.size)); (try replace hbd := hbd.trans (hv.mono hbd.size)); replace hb := hb.trans (hv.mono hb.size); clear x1 x2 x3 x4; obtain ⟨x1, x2, x3, x4⟩ := BX.out _ hb))
  exact bodyPost_ret (v := .tuple #[.int .i64 0, .int .i64 0, .int .i64 2]) (by simp [results, Tryz.results50, go_sem]) rfl ⟨rfl, below_al hb⟩

set_option maxRecDepth 100000 in
set_option maxHeartbeats 2000000 in
theorem swaps_b2 (f : Int) (na oa pa : Option Addr) (ln cn lo co lp cp : Nat) (N : Nat → N2) (U : Nat → O3) (D : Nat → Dy) (zo zt : Int) (w : World) (hls : ln ≤ 1000000) (hlt : lo ≤ 1000000) (H : Hid (Tr7 w na oa ln lo N U)) (HP : Hid (PlSl w pa lp D)) (HN10 : Hid (∀ d, d < lp → (D d).n ≤ 10)) (hlp : lp ≤ 12) (HR : Hid (TreeS f ln lo N U)) (HPB : Hid ((decide (lp ≤ 10) && allN (fun d => dayB lo (D d).s (D d).n) lp) = false)) :
    Calls Tryz.prog 50 #[.agg #[.int .i64 f, .slice na ln cn, .slice oa lo co], .slice pa lp cp, .int .i64 zo, .int .i64 zt] w fun e w' => e = .returned (.tuple #[.int .i64 0, .int .i64 0, .int .i64 2]) ∧ Below w.heap.size w w' := by
  have BX := Lib.hid (fun (w1 : World) (hb : Below (w.alloc (.cells #[.int .i64 f, .slice na ln cn, .slice oa lo co] 25)).heap.size (w.alloc (.cells #[.int .i64 f, .slice na ln cn, .slice oa lo co] 25)) w1) => box7 hb)
  have HN : Hid (∀ w1, Below (w.alloc (.cells #[.int .i64 f, .slice na ln cn, .slice oa lo co] 25)).heap.size (w.alloc (.cells #[.int .i64 f, .slice na ln cn, .slice oa lo co] 25)) w1 → Hid (Tr7 w1 na oa ln lo N U)) := Lib.hid fun w1 h => Lib.hid (H.out.below (below_al h))
  have hb : Below (w.alloc (.cells #[.int .i64 f, .slice na ln cn, .slice oa lo co] 25)).heap.size (w.alloc (.cells #[.int .i64 f, .slice na ln cn, .slice oa lo co] 25)) (w.alloc (.cells #[.int .i64 f, .slice na ln cn, .slice oa lo co] 25)) := Below.refl _ _
  obtain ⟨x1, x2, x3, x4⟩ := BX.out _ hb
  have HPP : Hid (∀ w1, Below (w.alloc (.cells #[.int .i64 f, .slice na ln cn, .slice oa lo co] 25)).heap.size (w.alloc (.cells #[.int .i64 f, .slice na ln cn, .slice oa lo co] 25)) w1 → Hid (PlSl w1 pa lp D)) := Lib.hid fun w1 h => Lib.hid (HP.out.below (below_al h))
  clear H HP
  go_enter Tryz.func50, Tryz.ntmps50
  go_wp2_with (first
    | (go_at_call 62; refine (isTree_w f na oa ln cn lo co N U _ hls hlt (HN.out _ hb)).mono ?_; rintro e wl ⟨⟨rb, rfl, hrb⟩, hv⟩; obtain rfl : rb = true := hrb.2 HR.out; clear hrb; (try replace hbs := hbs.trans (hv.mono hbs.size)); (try replace hba := hba.trans (hv.mono hba.size)); (try replace hbc := hbc.trans (hv.mono hbc.size)); (try replace hbd := hbd.trans (hv.mono hbd.size)); replace hb := hb.trans (hv.mono hb.size); clear x1 x2 x3 x4; obtain ⟨x1, x2, x3, x4⟩ := BX.out _ hb)
    | (go_at_call 93; refine (isPlan_w f na oa pa ln cn lo co lp cp D _ hlt (by omega) (Lib.hid fun d hd => by have := HN10.out d hd; unfold maxLen; omega) (HPP.out _ hb)).mono ?_; rw [HPB.out]; rintro e wl ⟨rfl, hv⟩; (try replace hbs := hbs.trans (hv.mono hbs.size)); (try replace hba := hba.trans (hv.mono hba.size)); (try replace hbc := hbc.trans (hv.mono hbc.size)); (try replace hbd := hbd.trans (hv.mono hbd.size)); replace hb := hb.trans (hv.mono hb.size); clear x1 x2 x3 x4; obtain ⟨x1, x2, x3, x4⟩ := BX.out _ hb))
  exact bodyPost_ret (v := .tuple #[.int .i64 0, .int .i64 0, .int .i64 2]) (by simp [results, Tryz.results50, go_sem]) rfl ⟨rfl, below_al hb⟩

set_option maxRecDepth 100000 in
set_option maxHeartbeats 2000000 in
theorem swaps_b3 (f : Int) (na oa pa : Option Addr) (ln cn lo co lp cp : Nat) (N : Nat → N2) (U : Nat → O3) (D : Nat → Dy) (zo zt : Int) (w : World) (hls : ln ≤ 1000000) (hlt : lo ≤ 1000000) (H : Hid (Tr7 w na oa ln lo N U)) (HP : Hid (PlSl w pa lp D)) (HN10 : Hid (∀ d, d < lp → (D d).n ≤ 10)) (hlp : lp ≤ 12) (HR : Hid (TreeS f ln lo N U)) (HPB : Hid ((decide (lp ≤ 10) && allN (fun d => dayB lo (D d).s (D d).n) lp) = true)) (HO : Hid (fromB 0 ((lo : Int) - 1) zo = false)) :
    Calls Tryz.prog 50 #[.agg #[.int .i64 f, .slice na ln cn, .slice oa lo co], .slice pa lp cp, .int .i64 zo, .int .i64 zt] w fun e w' => e = .returned (.tuple #[.int .i64 0, .int .i64 0, .int .i64 2]) ∧ Below w.heap.size w w' := by
  have BX := Lib.hid (fun (w1 : World) (hb : Below (w.alloc (.cells #[.int .i64 f, .slice na ln cn, .slice oa lo co] 25)).heap.size (w.alloc (.cells #[.int .i64 f, .slice na ln cn, .slice oa lo co] 25)) w1) => box7 hb)
  have HN : Hid (∀ w1, Below (w.alloc (.cells #[.int .i64 f, .slice na ln cn, .slice oa lo co] 25)).heap.size (w.alloc (.cells #[.int .i64 f, .slice na ln cn, .slice oa lo co] 25)) w1 → Hid (Tr7 w1 na oa ln lo N U)) := Lib.hid fun w1 h => Lib.hid (H.out.below (below_al h))
  have hb : Below (w.alloc (.cells #[.int .i64 f, .slice na ln cn, .slice oa lo co] 25)).heap.size (w.alloc (.cells #[.int .i64 f, .slice na ln cn, .slice oa lo co] 25)) (w.alloc (.cells #[.int .i64 f, .slice na ln cn, .slice oa lo co] 25)) := Below.refl _ _
  obtain ⟨x1, x2, x3, x4⟩ := BX.out _ hb
  have HPP : Hid (∀ w1, Below (w.alloc (.cells #[.int .i64 f, .slice na ln cn, .slice oa lo co] 25)).heap.size (w.alloc (.cells #[.int .i64 f, .slice na ln cn, .slice oa lo co] 25)) w1 → Hid (PlSl w1 pa lp D)) := Lib.hid fun w1 h => Lib.hid (HP.out.below (below_al h))
  clear H HP
  go_enter Tryz.func50, Tryz.ntmps50
  go_wp2_with (first
    | (go_at_call 62; refine (isTree_w f na oa ln cn lo co N U _ hls hlt (HN.out _ hb)).mono ?_; rintro e wl ⟨⟨rb, rfl, hrb⟩, hv⟩; obtain rfl : rb = true := hrb.2 HR.out; clear hrb; (try replace hbs := hbs.trans (hv.mono hbs.size)); (try replace hba := hba.trans (hv.mono hba.size)); (try replace hbc := hbc.trans (hv.mono hbc.size)); (try replace hbd := hbd.trans (hv.mono hbd.size)); replace hb := hb.trans (hv.mono hb.size); clear x1 x2 x3 x4; obtain ⟨x1, x2, x3, x4⟩ := BX.out _ hb)
    | (go_at_call 93; refine (isPlan_w f na oa pa ln cn lo co lp cp D _ hlt (by omega) (Lib.hid fun d hd => by have := HN10.out d hd; unfold maxLen; omega) (HPP.out _ hb)).mono ?_; rw [HPB.out]; rintro e wl ⟨rfl, hv⟩; (try replace hbs := hbs.trans (hv.mono hbs.size)); (try replace hba := hba.trans (hv.mono hba.size)); (try replace hbc := hbc.trans (hv.mono hbc.size)); (try replace hbd := hbd.trans (hv.mono hbd.size)); replace hb := hb.trans (hv.mono hb.size); clear x1 x2 x3 x4; obtain ⟨x1, x2, x3, x4⟩ := BX.out _ hb)
    | (go_at_call_of 79 zo; refine (isOutlet_w f zo na oa ln cn lo co _ hlt).mono ?_; rw [HO.out]; rintro e wl ⟨rfl, hv⟩; (try replace hbs := hbs.trans (hv.mono hbs.size)); (try replace hba := hba.trans (hv.mono hba.size)); (try replace hbc := hbc.trans (hv.mono hbc.size)); (try replace hbd := hbd.trans (hv.mono hbd.size)); replace hb := hb.trans (hv.mono hb.size); clear x1 x2 x3 x4; obtain ⟨x1, x2, x3, x4⟩ := BX.out _ hb))
  exact bodyPost_ret (v := .tuple #[.int .i64 0, .int .i64 0, .int .i64 2]) (by simp [results, Tryz.results50, go_sem]) rfl ⟨rfl, below_al hb⟩

set_option maxRecDepth 100000 in
set_option maxHeartbeats 2000000 in
theorem swaps_b4 (f : Int) (na oa pa : Option Addr) (ln cn lo co lp cp : Nat) (N : Nat → N2) (U : Nat → O3) (D : Nat → Dy) (zo zt : Int) (w : World) (hls : ln ≤ 1000000) (hlt : lo ≤ 1000000) (H : Hid (Tr7 w na oa ln lo N U)) (HP : Hid (PlSl w pa lp D)) (HN10 : Hid (∀ d, d < lp → (D d).n ≤ 10)) (hlp : lp ≤ 12) (HR : Hid (TreeS f ln lo N U)) (HPB : Hid ((decide (lp ≤ 10) && allN (fun d => dayB lo (D d).s (D d).n) lp) = true)) (HO : Hid (fromB 0 ((lo : Int) - 1) zo = true)) (HT : Hid (fromB 0 ((lo : Int) - 1) zt = false)) :
    Calls Tryz.prog 50 #[.agg #[.int .i64 f, .slice na ln cn, .slice oa lo co], .slice pa lp cp, .int .i64 zo, .int .i64 zt] w fun e w' => e = .returned (.tuple #[.int .i64 0, .int .i64 0, .int .i64 2]) ∧ Below w.heap.size w w' := by
  have BX := Lib.hid (fun (w1 : World) (hb : Below (w.alloc (.cells #[.int .i64 f, .slice na ln cn, .slice oa lo co] 25)).heap.size (w.alloc (.cells #[.int .i64 f, .slice na ln cn, .slice oa lo co] 25)) w1) => box7 hb)
  have HN : Hid (∀ w1, Below (w.alloc (.cells #[.int .i64 f, .slice na ln cn, .slice oa lo co] 25)).heap.size (w.alloc (.cells #[.int .i64 f, .slice na ln cn, .slice oa lo co] 25)) w1 → Hid (Tr7 w1 na oa ln lo N U)) := Lib.hid fun w1 h => Lib.hid (H.out.below (below_al h))
  have hb : Below (w.alloc (.cells #[.int .i64 f, .slice na ln cn, .slice oa lo co] 25)).heap.size (w.alloc (.cells #[.int .i64 f, .slice na ln cn, .slice oa lo co] 25)) (w.alloc (.cells #[.int .i64 f, .slice na ln cn, .slice oa lo co] 25)) := Below.refl _ _
  obtain ⟨x1, x2, x3, x4⟩ := BX.out _ hb
  have HPP : Hid (∀ w1, Below (w.alloc (.cells #[.int .i64 f, .slice na ln cn, .slice oa lo co] 25)).heap.size (w.alloc (.cells #[.int .i64 f, .slice na ln cn, .slice oa lo co] 25)) w1 → Hid (PlSl w1 pa lp D)) := Lib.hid fun w1 h => Lib.hid (HP.out.below (below_al h))
  clear H HP
  go_enter Tryz.func50, Tryz.ntmps50
  go_wp2_with (first
    | (go_at_call 62; refine (isTree_w f na oa ln cn lo co N U _ hls hlt (HN.out _ hb)).mono ?_; rintro e wl ⟨⟨rb, rfl, hrb⟩, hv⟩; obtain rfl : rb = true := hrb.2 HR.out; clear hrb; (try replace hbs := hbs.trans (hv.mono hbs.size)); (try replace hba := hba.trans (hv.mono hba.size)); (try replace hbc := hbc.trans (hv.mono hbc.size)); (try replace hbd := hbd.trans (hv.mono hbd.size)); replace hb := hb.trans (hv.mono hb.size); clear x1 x2 x3 x4; obtain ⟨x1, x2, x3, x4⟩ := BX.out _ hb)
    | (go_at_call 93; refine (isPlan_w f na oa pa ln cn lo co lp cp D _ hlt (by omega) (Lib.hid fun d hd => by have := HN10.out d hd; unfold maxLen; omega) (HPP.out _ hb)).mono ?_; rw [HPB.out]; rintro e wl ⟨rfl, hv⟩; (try replace hbs := hbs.trans (hv.mono hbs.size)); (try replace hba := hba.trans (hv.mono hba.size)); (try replace hbc := hbc.trans (hv.mono hbc.size)); (try replace hbd := hbd.trans (hv.mono hbd.size)); replace hb := hb.trans (hv.mono hb.size); clear x1 x2 x3 x4; obtain ⟨x1, x2, x3, x4⟩ := BX.out _ hb)
    | (go_at_call_of 79 zo; refine (isOutlet_w f zo na oa ln cn lo co _ hlt).mono ?_; rw [HO.out]; rintro e wl ⟨rfl, hv⟩; (try replace hbs := hbs.trans (hv.mono hbs.size)); (try replace hba := hba.trans (hv.mono hba.size)); (try replace hbc := hbc.trans (hv.mono hbc.size)); (try replace hbd := hbd.trans (hv.mono hbd.size)); replace hb := hb.trans (hv.mono hb.size); clear x1 x2 x3 x4; obtain ⟨x1, x2, x3, x4⟩ := BX.out _ hb)
    | (go_at_call_of 79 zt; refine (isOutlet_w f zt na oa ln cn lo co _ hlt).mono ?_; rw [HT.out]; rintro e wl ⟨rfl, hv⟩; (try replace hbs := hbs.trans (hv.mono hbs.size)); (try replace hba := hba.trans (hv.mono hba.size)); (try replace hbc := hbc.trans (hv.mono hbc.size)); (try replace hbd := hbd.trans (hv.mono hbd.size)); replace hb := hb.trans (hv.mono hb.size); clear x1 x2 x3 x4; obtain ⟨x1, x2, x3, x4⟩ := BX.out _ hb))
  exact bodyPost_ret (v := .tuple #[.int .i64 0, .int .i64 0, .int .i64 2]) (by simp [results, Tryz.results50, go_sem]) rfl ⟨rfl, below_al hb⟩

set_option maxRecDepth 100000 in
set_option maxHeartbeats 2000000 in
theorem swaps_b5 (f : Int) (na oa pa : Option Addr) (ln cn lo co lp cp : Nat) (N : Nat → N2) (U : Nat → O3) (D : Nat → Dy) (zo zt : Int) (w : World) (hls : ln ≤ 1000000) (hlt : lo ≤ 1000000) (H : Hid (Tr7 w na oa ln lo N U)) (HP : Hid (PlSl w pa lp D)) (HN10 : Hid (∀ d, d < lp → (D d).n ≤ 10)) (hlp : lp ≤ 12) (HR : Hid (TreeS f ln lo N U)) (HPB : Hid ((decide (lp ≤ 10) && allN (fun d => dayB lo (D d).s (D d).n) lp) = true)) (HO : Hid (fromB 0 ((lo : Int) - 1) zo = true)) (HT : Hid (fromB 0 ((lo : Int) - 1) zt = true)) (heq : zo = zt) :
    Calls Tryz.prog 50 #[.agg #[.int .i64 f, .slice na ln cn, .slice oa lo co], .slice pa lp cp, .int .i64 zo, .int .i64 zt] w fun e w' => e = .returned (.tuple #[.int .i64 0, .int .i64 0, .int .i64 2]) ∧ Below w.heap.size w w' := by
  have q0 : (zo == zt) = true := by rw [beq_iff_eq]; exact heq
  have HEQ := Lib.hid heq
  clear heq
  have BX := Lib.hid (fun (w1 : World) (hb : Below (w.alloc (.cells #[.int .i64 f, .slice na ln cn, .slice oa lo co] 25)).heap.size (w.alloc (.cells #[.int .i64 f, .slice na ln cn, .slice oa lo co] 25)) w1) => box7 hb)
  have HN : Hid (∀ w1, Below (w.alloc (.cells #[.int .i64 f, .slice na ln cn, .slice oa lo co] 25)).heap.size (w.alloc (.cells #[.int .i64 f, .slice na ln cn, .slice oa lo co] 25)) w1 → Hid (Tr7 w1 na oa ln lo N U)) := Lib.hid fun w1 h => Lib.hid (H.out.below (below_al h))
  have hb : Below (w.alloc (.cells #[.int .i64 f, .slice na ln cn, .slice oa lo co] 25)).heap.size (w.alloc (.cells #[.int .i64 f, .slice na ln cn, .slice oa lo co] 25)) (w.alloc (.cells #[.int .i64 f, .slice na ln cn, .slice oa lo co] 25)) := Below.refl _ _
  obtain ⟨x1, x2, x3, x4⟩ := BX.out _ hb
  have HPP : Hid (∀ w1, Below (w.alloc (.cells #[.int .i64 f, .slice na ln cn, .slice oa lo co] 25)).heap.size (w.alloc (.cells #[.int .i64 f, .slice na ln cn, .slice oa lo co] 25)) w1 → Hid (PlSl w1 pa lp D)) := Lib.hid fun w1 h => Lib.hid (HP.out.below (below_al h))
  clear H HP
  go_enter Tryz.func50, Tryz.ntmps50
  go_wp2_with (first
    | (go_at_call 62; refine (isTree_w f na oa ln cn lo co N U _ hls hlt (HN.out _ hb)).mono ?_; rintro e wl ⟨⟨rb, rfl, hrb⟩, hv⟩; obtain rfl : rb = true := hrb.2 HR.out; clear hrb; (try replace hbs := hbs.trans (hv.mono hbs.size)); (try replace hba := hba.trans (hv.mono hba.size)); (try replace hbc := hbc.trans (hv.mono hbc.size)); (try replace hbd := hbd.trans (hv.mono hbd.size)); replace hb := hb.trans (hv.mono hb.size); clear x1 x2 x3 x4; obtain ⟨x1, x2, x3, x4⟩ := BX.out _ hb)
    | (go_at_call 93; refine (isPlan_w f na oa pa ln cn lo co lp cp D _ hlt (by omega) (Lib.hid fun d hd => by have := HN10.out d hd; unfold maxLen; omega) (HPP.out _ hb)).mono ?_; rw [HPB.out]; rintro e wl ⟨rfl, hv⟩; (try replace hbs := hbs.trans (hv.mono hbs.size)); (try replace hba := hba.trans (hv.mono hba.size)); (try replace hbc := hbc.trans (hv.mono hbc.size)); (try replace hbd := hbd.trans (hv.mono hbd.size)); replace hb := hb.trans (hv.mono hb.size); clear x1 x2 x3 x4; obtain ⟨x1, x2, x3, x4⟩ := BX.out _ hb)
    | (go_at_call_of 79 zo; refine (isOutlet_w f zo na oa ln cn lo co _ hlt).mono ?_; rw [HO.out]; rintro e wl ⟨rfl, hv⟩; (try replace hbs := hbs.trans (hv.mono hbs.size)); (try replace hba := hba.trans (hv.mono hba.size)); (try replace hbc := hbc.trans (hv.mono hbc.size)); (try replace hbd := hbd.trans (hv.mono hbd.size)); replace hb := hb.trans (hv.mono hb.size); clear x1 x2 x3 x4; obtain ⟨x1, x2, x3, x4⟩ := BX.out _ hb)
    | (go_at_call_of 79 zt; refine (isOutlet_w f zt na oa ln cn lo co _ hlt).mono ?_; rw [HT.out]; rintro e wl ⟨rfl, hv⟩; (try replace hbs := hbs.trans (hv.mono hbs.size)); (try replace hba := hba.trans (hv.mono hba.size)); (try replace hbc := hbc.trans (hv.mono hbc.size)); (try replace hbd := hbd.trans (hv.mono hbd.size)); replace hb := hb.trans (hv.mono hb.size); clear x1 x2 x3 x4; obtain ⟨x1, x2, x3, x4⟩ := BX.out _ hb))
  exact bodyPost_ret (v := .tuple #[.int .i64 0, .int .i64 0, .int .i64 2]) (by simp [results, Tryz.results50, go_sem]) rfl ⟨rfl, below_al hb⟩

set_option maxRecDepth 100000 in
set_option maxHeartbeats 2000000 in
theorem swaps_b6 (f : Int) (na oa pa : Option Addr) (ln cn lo co lp cp : Nat) (N : Nat → N2) (U : Nat → O3) (D : Nat → Dy) (zo zt : Int) (w : World) (hls : ln ≤ 1000000) (hlt : lo ≤ 1000000) (H : Hid (Tr7 w na oa ln lo N U)) (HP : Hid (PlSl w pa lp D)) (HN10 : Hid (∀ d, d < lp → (D d).n ≤ 10)) (hlp : lp ≤ 12) (HR : Hid (TreeS f ln lo N U)) (HPB : Hid ((decide (lp ≤ 10) && allN (fun d => dayB lo (D d).s (D d).n) lp) = true)) (HO : Hid (fromB 0 ((lo : Int) - 1) zo = true)) (HT : Hid (fromB 0 ((lo : Int) - 1) zt = true)) (heq : zo ≠ zt) (HRB : Hid (allN (fun d => runD f ln lo N U (D d)) lp = false)) :
    Calls Tryz.prog 50 #[.agg #[.int .i64 f, .slice na ln cn, .slice oa lo co], .slice pa lp cp, .int .i64 zo, .int .i64 zt] w fun e w' => e = .returned (.tuple #[.int .i64 0, .int .i64 0, .int .i64 2]) ∧ Below w.heap.size w w' := by
  have q0 : (zo == zt) = false := by rw [beq_eq_false_iff_ne]; exact heq
  have HEQ := Lib.hid heq
  clear heq
  have HLS : Hid (∀ d, d < lp → (D d).n ≤ 1000000 ∧ LsP lo (D d).n (D d).s) := Lib.hid fun d hd => by
    have h := HPB.out
    simp only [Bool.and_eq_true] at h
    exact ⟨by have := HN10.out d hd; omega, dayB_ls ((allN_iff lp).1 h.2 d hd)⟩
  have BX := Lib.hid (fun (w1 : World) (hb : Below (w.alloc (.cells #[.int .i64 f, .slice na ln cn, .slice oa lo co] 25)).heap.size (w.alloc (.cells #[.int .i64 f, .slice na ln cn, .slice oa lo co] 25)) w1) => box7 hb)
  have HN : Hid (∀ w1, Below (w.alloc (.cells #[.int .i64 f, .slice na ln cn, .slice oa lo co] 25)).heap.size (w.alloc (.cells #[.int .i64 f, .slice na ln cn, .slice oa lo co] 25)) w1 → Hid (Tr7 w1 na oa ln lo N U)) := Lib.hid fun w1 h => Lib.hid (H.out.below (below_al h))
  have hb : Below (w.alloc (.cells #[.int .i64 f, .slice na ln cn, .slice oa lo co] 25)).heap.size (w.alloc (.cells #[.int .i64 f, .slice na ln cn, .slice oa lo co] 25)) (w.alloc (.cells #[.int .i64 f, .slice na ln cn, .slice oa lo co] 25)) := Below.refl _ _
  obtain ⟨x1, x2, x3, x4⟩ := BX.out _ hb
  have HPP : Hid (∀ w1, Below (w.alloc (.cells #[.int .i64 f, .slice na ln cn, .slice oa lo co] 25)).heap.size (w.alloc (.cells #[.int .i64 f, .slice na ln cn, .slice oa lo co] 25)) w1 → Hid (PlSl w1 pa lp D)) := Lib.hid fun w1 h => Lib.hid (HP.out.below (below_al h))
  clear H HP
  go_enter Tryz.func50, Tryz.ntmps50
  go_wp2_with (first
    | (go_at_call 62; refine (isTree_w f na oa ln cn lo co N U _ hls hlt (HN.out _ hb)).mono ?_; rintro e wl ⟨⟨rb, rfl, hrb⟩, hv⟩; obtain rfl : rb = true := hrb.2 HR.out; clear hrb; (try replace hbs := hbs.trans (hv.mono hbs.size)); (try replace hba := hba.trans (hv.mono hba.size)); (try replace hbc := hbc.trans (hv.mono hbc.size)); (try replace hbd := hbd.trans (hv.mono hbd.size)); replace hb := hb.trans (hv.mono hb.size); clear x1 x2 x3 x4; obtain ⟨x1, x2, x3, x4⟩ := BX.out _ hb)
    | (go_at_call 93; refine (isPlan_w f na oa pa ln cn lo co lp cp D _ hlt (by omega) (Lib.hid fun d hd => by have := HN10.out d hd; unfold maxLen; omega) (HPP.out _ hb)).mono ?_; rw [HPB.out]; rintro e wl ⟨rfl, hv⟩; (try replace hbs := hbs.trans (hv.mono hbs.size)); (try replace hba := hba.trans (hv.mono hba.size)); (try replace hbc := hbc.trans (hv.mono hbc.size)); (try replace hbd := hbd.trans (hv.mono hbd.size)); replace hb := hb.trans (hv.mono hb.size); clear x1 x2 x3 x4; obtain ⟨x1, x2, x3, x4⟩ := BX.out _ hb)
    | (go_at_call_of 79 zo; refine (isOutlet_w f zo na oa ln cn lo co _ hlt).mono ?_; rw [HO.out]; rintro e wl ⟨rfl, hv⟩; (try replace hbs := hbs.trans (hv.mono hbs.size)); (try replace hba := hba.trans (hv.mono hba.size)); (try replace hbc := hbc.trans (hv.mono hbc.size)); (try replace hbd := hbd.trans (hv.mono hbd.size)); replace hb := hb.trans (hv.mono hb.size); clear x1 x2 x3 x4; obtain ⟨x1, x2, x3, x4⟩ := BX.out _ hb)
    | (go_at_call_of 79 zt; refine (isOutlet_w f zt na oa ln cn lo co _ hlt).mono ?_; rw [HT.out]; rintro e wl ⟨rfl, hv⟩; (try replace hbs := hbs.trans (hv.mono hbs.size)); (try replace hba := hba.trans (hv.mono hba.size)); (try replace hbc := hbc.trans (hv.mono hbc.size)); (try replace hbd := hbd.trans (hv.mono hbd.size)); replace hb := hb.trans (hv.mono hb.size); clear x1 x2 x3 x4; obtain ⟨x1, x2, x3, x4⟩ := BX.out _ hb)
    | (go_at_call 94; refine (canBe_w f na oa pa ln cn lo co lp cp N U D _ (by omega) HLS (HPP.out _ hb) (Lib.hid HR.out.w) (HN.out _ hb)).mono ?_; rw [HRB.out]; rintro e wl ⟨rfl, hv⟩; (try replace hbs := hbs.trans (hv.mono hbs.size)); (try replace hba := hba.trans (hv.mono hba.size)); (try replace hbc := hbc.trans (hv.mono hbc.size)); (try replace hbd := hbd.trans (hv.mono hbd.size)); replace hb := hb.trans (hv.mono hb.size); clear x1 x2 x3 x4; obtain ⟨x1, x2, x3, x4⟩ := BX.out _ hb))
  exact bodyPost_ret (v := .tuple #[.int .i64 0, .int .i64 0, .int .i64 2]) (by simp [results, Tryz.results50, go_sem]) rfl ⟨rfl, below_al hb⟩

/-- whatever is not as defined, Swaps says so -/
theorem swaps_bad (f : Int) (na oa pa : Option Addr) (ln cn lo co lp cp : Nat) (N : Nat → N2) (U : Nat → O3) (D : Nat → Dy) (zo zt : Int) (w : World) (hls : ln ≤ 1000000) (hlt : lo ≤ 1000000) (H : Hid (Tr7 w na oa ln lo N U)) (HP : Hid (PlSl w pa lp D)) (HN10 : Hid (∀ d, d < lp → (D d).n ≤ 10)) (hlp : lp ≤ 12) (hb : ¬ TreeS f ln lo N U ∨ (decide (lp ≤ 10) && allN (fun d => dayB lo (D d).s (D d).n) lp) = false ∨ allN (fun d => runD f ln lo N U (D d)) lp = false ∨ fromB 0 ((lo : Int) - 1) zo = false ∨ fromB 0 ((lo : Int) - 1) zt = false ∨ zo = zt) :
    Calls Tryz.prog 50 #[.agg #[.int .i64 f, .slice na ln cn, .slice oa lo co], .slice pa lp cp, .int .i64 zo, .int .i64 zt] w fun e w' => e = .returned (.tuple #[.int .i64 0, .int .i64 0, .int .i64 2]) ∧ Below w.heap.size w w' := by
  by_cases HR : TreeS f ln lo N U
  case neg => exact swaps_b1 f na oa pa ln cn lo co lp cp N U D zo zt w hls hlt H HP HN10 hlp (Lib.hid HR)
  cases hP : (decide (lp ≤ 10) && allN (fun d => dayB lo (D d).s (D d).n) lp) with
  | false => exact swaps_b2 f na oa pa ln cn lo co lp cp N U D zo zt w hls hlt H HP HN10 hlp (Lib.hid HR) (Lib.hid hP)
  | true =>
  cases ho : fromB 0 ((lo : Int) - 1) zo with
  | false => exact swaps_b3 f na oa pa ln cn lo co lp cp N U D zo zt w hls hlt H HP HN10 hlp (Lib.hid HR) (Lib.hid hP) (Lib.hid ho)
  | true =>
  cases ht : fromB 0 ((lo : Int) - 1) zt with
  | false => exact swaps_b4 f na oa pa ln cn lo co lp cp N U D zo zt w hls hlt H HP HN10 hlp (Lib.hid HR) (Lib.hid hP) (Lib.hid ho) (Lib.hid ht)
  | true =>
  by_cases he : zo = zt
  · exact swaps_b5 f na oa pa ln cn lo co lp cp N U D zo zt w hls hlt H HP HN10 hlp (Lib.hid HR) (Lib.hid hP) (Lib.hid ho) (Lib.hid ht) he
  cases hr : allN (fun d => runD f ln lo N U (D d)) lp with
  | false => exact swaps_b6 f na oa pa ln cn lo co lp cp N U D zo zt w hls hlt H HP HN10 hlp (Lib.hid HR) (Lib.hid hP) (Lib.hid ho) (Lib.hid ht) he (Lib.hid hr)
  | true =>
    rcases hb with h | h | h | h | h | h
    · exact (h HR).elim
    · rw [hP] at h; cases h
    · rw [hr] at h; cases h
    · rw [ho] at h; cases h
    · rw [ht] at h; cases h
    · exact (he h).elim

set_option maxRecDepth 100000 in
set_option maxHeartbeats 4000000 in
theorem lawsw_a (f : Int) (na oa pa : Option Addr) (ln cn lo co lp cp : Nat) (N : Nat → N2) (U : Nat → O3) (D : Nat → Dy) (zo zt : Int) (w : World) (hls : ln ≤ maxLen) (hlt : lo ≤ maxLen) (H : Hid (Tr7 w na oa ln lo N U)) (K : Hid KnownOk) (HP : Hid (PlSl w pa lp D)) (hq : ¬ (ln ≤ 8 ∧ lo ≤ 10)) :
    Calls Tryz.prog 11 #[.agg #[.int .i64 f, .slice na ln cn, .slice oa lo co], .slice pa lp cp, .int .i64 zo, .int .i64 zt] w
      fun e w' => e = .returned (.bool true) ∧ Below w.heap.size w w' := by
  have hsh : decide (ln ≤ 8 ∧ lo ≤ 10) = false := decide_eq_false hq
  have BX := Lib.hid (fun (w1 : World) (hb : Below (w.alloc (.cells #[.int .i64 f, .slice na ln cn, .slice oa lo co] 25)).heap.size (w.alloc (.cells #[.int .i64 f, .slice na ln cn, .slice oa lo co] 25)) w1) => box7 hb)
  have HN : Hid (∀ w1, Below (w.alloc (.cells #[.int .i64 f, .slice na ln cn, .slice oa lo co] 25)).heap.size (w.alloc (.cells #[.int .i64 f, .slice na ln cn, .slice oa lo co] 25)) w1 → Hid (Tr7 w1 na oa ln lo N U)) := Lib.hid fun w1 h => Lib.hid (H.out.below (below_al h))
  have hb : Below (w.alloc (.cells #[.int .i64 f, .slice na ln cn, .slice oa lo co] 25)).heap.size (w.alloc (.cells #[.int .i64 f, .slice na ln cn, .slice oa lo co] 25)) (w.alloc (.cells #[.int .i64 f, .slice na ln cn, .slice oa lo co] 25)) := Below.refl _ _
  obtain ⟨x1, x2, x3, x4⟩ := BX.out _ hb
  have HPP : Hid (∀ w1, Below (w.alloc (.cells #[.int .i64 f, .slice na ln cn, .slice oa lo co] 25)).heap.size (w.alloc (.cells #[.int .i64 f, .slice na ln cn, .slice oa lo co] 25)) w1 → Hid (PlSl w1 pa lp D)) := Lib.hid fun w1 h => Lib.hid (HP.out.below (below_al h))
  clear H HP
  go_enter Tryz.func11, Tryz.ntmps11
  go_wp2_with (first
    | (go_at_call 13; refine (short_w _ _ _ _ _ _ _ _ hls hlt).mono ?_; rw [hsh]; rintro e wl ⟨rfl, hv⟩; (try replace hbs := hbs.trans (hv.mono hbs.size)); (try replace hba := hba.trans (hv.mono hba.size)); (try replace hbc := hbc.trans (hv.mono hbc.size)); (try replace hbd := hbd.trans (hv.mono hbd.size)); replace hb := hb.trans (hv.mono hb.size); clear x1 x2 x3 x4; obtain ⟨x1, x2, x3, x4⟩ := BX.out _ hb)
    | (go_at_call 14; refine (K.out _).mono ?_; rintro e wl ⟨rfl, hv⟩; (try replace hbs := hbs.trans (hv.mono hbs.size)); (try replace hba := hba.trans (hv.mono hba.size)); (try replace hbc := hbc.trans (hv.mono hbc.size)); (try replace hbd := hbd.trans (hv.mono hbd.size)); replace hb := hb.trans (hv.mono hb.size); clear x1 x2 x3 x4; obtain ⟨x1, x2, x3, x4⟩ := BX.out _ hb))
  go_ret
  exact ⟨rfl, below_al hb⟩

set_option maxRecDepth 100000 in
set_option maxHeartbeats 4000000 in
theorem lawsw_b (f : Int) (na oa pa : Option Addr) (ln cn lo co lp cp : Nat) (N : Nat → N2) (U : Nat → O3) (D : Nat → Dy) (zo zt : Int) (w : World) (hls : ln ≤ 1000000) (hlt : lo ≤ 1000000) (H : Hid (Tr7 w na oa ln lo N U)) (K : Hid KnownOk) (HP : Hid (PlSl w pa lp D)) (hq : ln ≤ 8 ∧ lo ≤ 10) (hlm : lp ≤ maxLen) (HSL : Hid ((decide (lp ≤ 12) && allN (fun d => decide ((D d).n ≤ 10)) lp) = false)) :
    Calls Tryz.prog 11 #[.agg #[.int .i64 f, .slice na ln cn, .slice oa lo co], .slice pa lp cp, .int .i64 zo, .int .i64 zt] w
      fun e w' => e = .returned (.bool true) ∧ Below w.heap.size w w' := by
  have hsh : decide (ln ≤ 8 ∧ lo ≤ 10) = true := decide_eq_true hq
  have BX := Lib.hid (fun (w1 : World) (hb : Below (w.alloc (.cells #[.int .i64 f, .slice na ln cn, .slice oa lo co] 25)).heap.size (w.alloc (.cells #[.int .i64 f, .slice na ln cn, .slice oa lo co] 25)) w1) => box7 hb)
  have HN : Hid (∀ w1, Below (w.alloc (.cells #[.int .i64 f, .slice na ln cn, .slice oa lo co] 25)).heap.size (w.alloc (.cells #[.int .i64 f, .slice na ln cn, .slice oa lo co] 25)) w1 → Hid (Tr7 w1 na oa ln lo N U)) := Lib.hid fun w1 h => Lib.hid (H.out.below (below_al h))
  have hb : Below (w.alloc (.cells #[.int .i64 f, .slice na ln cn, .slice oa lo co] 25)).heap.size (w.alloc (.cells #[.int .i64 f, .slice na ln cn, .slice oa lo co] 25)) (w.alloc (.cells #[.int .i64 f, .slice na ln cn, .slice oa lo co] 25)) := Below.refl _ _
  obtain ⟨x1, x2, x3, x4⟩ := BX.out _ hb
  have HPP : Hid (∀ w1, Below (w.alloc (.cells #[.int .i64 f, .slice na ln cn, .slice oa lo co] 25)).heap.size (w.alloc (.cells #[.int .i64 f, .slice na ln cn, .slice oa lo co] 25)) w1 → Hid (PlSl w1 pa lp D)) := Lib.hid fun w1 h => Lib.hid (HP.out.below (below_al h))
  clear H HP
  go_enter Tryz.func11, Tryz.ntmps11
  go_wp2_with (first
    | (go_at_call 13; refine (short_w _ _ _ _ _ _ _ _ (by unfold maxLen; omega) (by unfold maxLen; omega)).mono ?_; rw [hsh]; rintro e wl ⟨rfl, hv⟩; (try replace hbs := hbs.trans (hv.mono hbs.size)); (try replace hba := hba.trans (hv.mono hba.size)); (try replace hbc := hbc.trans (hv.mono hbc.size)); (try replace hbd := hbd.trans (hv.mono hbd.size)); replace hb := hb.trans (hv.mono hb.size); clear x1 x2 x3 x4; obtain ⟨x1, x2, x3, x4⟩ := BX.out _ hb)
    | (go_at_call 41; refine (slim_w pa lp cp D _ hlm (HPP.out _ hb)).mono ?_; rw [HSL.out]; rintro e wl ⟨rfl, rfl⟩)
    | (go_at_call 14; refine (K.out _).mono ?_; rintro e wl ⟨rfl, hv⟩; (try replace hbs := hbs.trans (hv.mono hbs.size)); (try replace hba := hba.trans (hv.mono hba.size)); (try replace hbc := hbc.trans (hv.mono hbc.size)); (try replace hbd := hbd.trans (hv.mono hbd.size)); replace hb := hb.trans (hv.mono hb.size); clear x1 x2 x3 x4; obtain ⟨x1, x2, x3, x4⟩ := BX.out _ hb))
  go_ret
  exact ⟨rfl, below_al hb⟩

set_option maxRecDepth 100000 in
set_option maxHeartbeats 4000000 in
theorem lawsw_c1 (f : Int) (na oa pa : Option Addr) (ln cn lo co lp cp : Nat) (N : Nat → N2) (U : Nat → O3) (D : Nat → Dy) (zo zt : Int) (w : World) (hls : ln ≤ 1000000) (hlt : lo ≤ 1000000) (H : Hid (Tr7 w na oa ln lo N U)) (K : Hid KnownOk) (HP : Hid (PlSl w pa lp D)) (HN10 : Hid (∀ d, d < lp → (D d).n ≤ 10)) (hlp : lp ≤ 12) (hq : ln ≤ 8 ∧ lo ≤ 10) (HR : Hid (¬ TreeS f ln lo N U))  :
    Calls Tryz.prog 11 #[.agg #[.int .i64 f, .slice na ln cn, .slice oa lo co], .slice pa lp cp, .int .i64 zo, .int .i64 zt] w
      fun e w' => e = .returned (.bool true) ∧ Below w.heap.size w w' := by
  have hsh : decide (ln ≤ 8 ∧ lo ≤ 10) = true := decide_eq_true hq
  have HSL : Hid ((decide (lp ≤ 12) && allN (fun d => decide ((D d).n ≤ 10)) lp) = true) := Lib.hid (by rw [decide_eq_true hlp, Bool.true_and, allN_iff]; exact fun i hi => decide_eq_true (HN10.out i hi))
  have BX := Lib.hid (fun (w1 : World) (hb : Below (w.alloc (.cells #[.int .i64 f, .slice na ln cn, .slice oa lo co] 25)).heap.size (w.alloc (.cells #[.int .i64 f, .slice na ln cn, .slice oa lo co] 25)) w1) => box7 hb)
  have HN : Hid (∀ w1, Below (w.alloc (.cells #[.int .i64 f, .slice na ln cn, .slice oa lo co] 25)).heap.size (w.alloc (.cells #[.int .i64 f, .slice na ln cn, .slice oa lo co] 25)) w1 → Hid (Tr7 w1 na oa ln lo N U)) := Lib.hid fun w1 h => Lib.hid (H.out.below (below_al h))
  have hb : Below (w.alloc (.cells #[.int .i64 f, .slice na ln cn, .slice oa lo co] 25)).heap.size (w.alloc (.cells #[.int .i64 f, .slice na ln cn, .slice oa lo co] 25)) (w.alloc (.cells #[.int .i64 f, .slice na ln cn, .slice oa lo co] 25)) := Below.refl _ _
  obtain ⟨x1, x2, x3, x4⟩ := BX.out _ hb
  have HPP : Hid (∀ w1, Below (w.alloc (.cells #[.int .i64 f, .slice na ln cn, .slice oa lo co] 25)).heap.size (w.alloc (.cells #[.int .i64 f, .slice na ln cn, .slice oa lo co] 25)) w1 → Hid (PlSl w1 pa lp D)) := Lib.hid fun w1 h => Lib.hid (HP.out.below (below_al h))
  clear H HP
  go_enter Tryz.func11, Tryz.ntmps11
  go_wp2_with (first
    | (go_at_call 13; refine (short_w _ _ _ _ _ _ _ _ (by unfold maxLen; omega) (by unfold maxLen; omega)).mono ?_; rw [hsh]; rintro e wl ⟨rfl, hv⟩; (try replace hbs := hbs.trans (hv.mono hbs.size)); (try replace hba := hba.trans (hv.mono hba.size)); (try replace hbc := hbc.trans (hv.mono hbc.size)); (try replace hbd := hbd.trans (hv.mono hbd.size)); replace hb := hb.trans (hv.mono hb.size); clear x1 x2 x3 x4; obtain ⟨x1, x2, x3, x4⟩ := BX.out _ hb)
    | (go_at_call 41; refine (slim_w pa lp cp D _ (by unfold maxLen; omega) (HPP.out _ hb)).mono ?_; rw [HSL.out]; rintro e wl ⟨rfl, rfl⟩)
    | (go_at_call 50; refine (swaps_bad f na oa pa ln cn lo co lp cp N U D zo zt _ hls hlt (HN.out _ hb) (HPP.out _ hb) HN10 hlp (.inl HR.out)).mono ?_; rintro e wl ⟨rfl, hv⟩; (try replace hbs := hbs.trans (hv.mono hbs.size)); (try replace hba := hba.trans (hv.mono hba.size)); (try replace hbc := hbc.trans (hv.mono hbc.size)); (try replace hbd := hbd.trans (hv.mono hbd.size)); replace hb := hb.trans (hv.mono hb.size); clear x1 x2 x3 x4; obtain ⟨x1, x2, x3, x4⟩ := BX.out _ hb)
    | (go_at_call 17; refine (tree_w _ _ _ _ _ _ _ N U _ hls hlt (HN.out _ hb)).mono ?_; rintro e wl ⟨⟨rb, rfl, hrb⟩, hv⟩; obtain rfl : rb = false := (by cases rb <;> first | rfl | exact (HR.out (hrb.1 rfl)).elim); clear hrb; (try replace hbs := hbs.trans (hv.mono hbs.size)); (try replace hba := hba.trans (hv.mono hba.size)); (try replace hbc := hbc.trans (hv.mono hbc.size)); (try replace hbd := hbd.trans (hv.mono hbd.size)); replace hb := hb.trans (hv.mono hb.size); clear x1 x2 x3 x4; obtain ⟨x1, x2, x3, x4⟩ := BX.out _ hb)
    | (go_at_call 14; refine (K.out _).mono ?_; rintro e wl ⟨rfl, hv⟩; (try replace hbs := hbs.trans (hv.mono hbs.size)); (try replace hba := hba.trans (hv.mono hba.size)); (try replace hbc := hbc.trans (hv.mono hbc.size)); (try replace hbd := hbd.trans (hv.mono hbd.size)); replace hb := hb.trans (hv.mono hb.size); clear x1 x2 x3 x4; obtain ⟨x1, x2, x3, x4⟩ := BX.out _ hb))
  go_ret
  exact ⟨rfl, below_al hb⟩

set_option maxRecDepth 100000 in
set_option maxHeartbeats 4000000 in
theorem lawsw_c2 (f : Int) (na oa pa : Option Addr) (ln cn lo co lp cp : Nat) (N : Nat → N2) (U : Nat → O3) (D : Nat → Dy) (zo zt : Int) (w : World) (hls : ln ≤ 1000000) (hlt : lo ≤ 1000000) (H : Hid (Tr7 w na oa ln lo N U)) (K : Hid KnownOk) (HP : Hid (PlSl w pa lp D)) (HN10 : Hid (∀ d, d < lp → (D d).n ≤ 10)) (hlp : lp ≤ 12) (hq : ln ≤ 8 ∧ lo ≤ 10) (HR : Hid (TreeS f ln lo N U)) (HPB : Hid ((decide (lp ≤ 10) && allN (fun d => dayB lo (D d).s (D d).n) lp) = false))  :
    Calls Tryz.prog 11 #[.agg #[.int .i64 f, .slice na ln cn, .slice oa lo co], .slice pa lp cp, .int .i64 zo, .int .i64 zt] w
      fun e w' => e = .returned (.bool true) ∧ Below w.heap.size w w' := by
  have hsh : decide (ln ≤ 8 ∧ lo ≤ 10) = true := decide_eq_true hq
  have HSL : Hid ((decide (lp ≤ 12) && allN (fun d => decide ((D d).n ≤ 10)) lp) = true) := Lib.hid (by rw [decide_eq_true hlp, Bool.true_and, allN_iff]; exact fun i hi => decide_eq_true (HN10.out i hi))
  have BX := Lib.hid (fun (w1 : World) (hb : Below (w.alloc (.cells #[.int .i64 f, .slice na ln cn, .slice oa lo co] 25)).heap.size (w.alloc (.cells #[.int .i64 f, .slice na ln cn, .slice oa lo co] 25)) w1) => box7 hb)
  have HN : Hid (∀ w1, Below (w.alloc (.cells #[.int .i64 f, .slice na ln cn, .slice oa lo co] 25)).heap.size (w.alloc (.cells #[.int .i64 f, .slice na ln cn, .slice oa lo co] 25)) w1 → Hid (Tr7 w1 na oa ln lo N U)) := Lib.hid fun w1 h => Lib.hid (H.out.below (below_al h))
  have hb : Below (w.alloc (.cells #[.int .i64 f, .slice na ln cn, .slice oa lo co] 25)).heap.size (w.alloc (.cells #[.int .i64 f, .slice na ln cn, .slice oa lo co] 25)) (w.alloc (.cells #[.int .i64 f, .slice na ln cn, .slice oa lo co] 25)) := Below.refl _ _
  obtain ⟨x1, x2, x3, x4⟩ := BX.out _ hb
  have HPP : Hid (∀ w1, Below (w.alloc (.cells #[.int .i64 f, .slice na ln cn, .slice oa lo co] 25)).heap.size (w.alloc (.cells #[.int .i64 f, .slice na ln cn, .slice oa lo co] 25)) w1 → Hid (PlSl w1 pa lp D)) := Lib.hid fun w1 h => Lib.hid (HP.out.below (below_al h))
  clear H HP
  go_enter Tryz.func11, Tryz.ntmps11
  go_wp2_with (first
    | (go_at_call 13; refine (short_w _ _ _ _ _ _ _ _ (by unfold maxLen; omega) (by unfold maxLen; omega)).mono ?_; rw [hsh]; rintro e wl ⟨rfl, hv⟩; (try replace hbs := hbs.trans (hv.mono hbs.size)); (try replace hba := hba.trans (hv.mono hba.size)); (try replace hbc := hbc.trans (hv.mono hbc.size)); (try replace hbd := hbd.trans (hv.mono hbd.size)); replace hb := hb.trans (hv.mono hb.size); clear x1 x2 x3 x4; obtain ⟨x1, x2, x3, x4⟩ := BX.out _ hb)
    | (go_at_call 41; refine (slim_w pa lp cp D _ (by unfold maxLen; omega) (HPP.out _ hb)).mono ?_; rw [HSL.out]; rintro e wl ⟨rfl, rfl⟩)
    | (go_at_call 50; refine (swaps_bad f na oa pa ln cn lo co lp cp N U D zo zt _ hls hlt (HN.out _ hb) (HPP.out _ hb) HN10 hlp (.inr (.inl HPB.out))).mono ?_; rintro e wl ⟨rfl, hv⟩; (try replace hbs := hbs.trans (hv.mono hbs.size)); (try replace hba := hba.trans (hv.mono hba.size)); (try replace hbc := hbc.trans (hv.mono hbc.size)); (try replace hbd := hbd.trans (hv.mono hbd.size)); replace hb := hb.trans (hv.mono hb.size); clear x1 x2 x3 x4; obtain ⟨x1, x2, x3, x4⟩ := BX.out _ hb)
    | (go_at_call 17; refine (tree_w _ _ _ _ _ _ _ N U _ hls hlt (HN.out _ hb)).mono ?_; rintro e wl ⟨⟨rb, rfl, hrb⟩, hv⟩; obtain rfl : rb = true := hrb.2 HR.out; clear hrb; (try replace hbs := hbs.trans (hv.mono hbs.size)); (try replace hba := hba.trans (hv.mono hba.size)); (try replace hbc := hbc.trans (hv.mono hbc.size)); (try replace hbd := hbd.trans (hv.mono hbd.size)); replace hb := hb.trans (hv.mono hb.size); clear x1 x2 x3 x4; obtain ⟨x1, x2, x3, x4⟩ := BX.out _ hb)
    | (go_at_call 46; refine (rplan_w f na oa pa ln cn lo co lp cp D _ hlt (by omega) (Lib.hid fun d hd => by have := HN10.out d hd; omega) (HPP.out _ hb)).mono ?_; rw [HPB.out]; rintro e wl ⟨rfl, hv⟩; (try replace hbs := hbs.trans (hv.mono hbs.size)); (try replace hba := hba.trans (hv.mono hba.size)); (try replace hbc := hbc.trans (hv.mono hbc.size)); (try replace hbd := hbd.trans (hv.mono hbd.size)); replace hb := hb.trans (hv.mono hb.size); clear x1 x2 x3 x4; obtain ⟨x1, x2, x3, x4⟩ := BX.out _ hb)
    | (go_at_call 14; refine (K.out _).mono ?_; rintro e wl ⟨rfl, hv⟩; (try replace hbs := hbs.trans (hv.mono hbs.size)); (try replace hba := hba.trans (hv.mono hba.size)); (try replace hbc := hbc.trans (hv.mono hbc.size)); (try replace hbd := hbd.trans (hv.mono hbd.size)); replace hb := hb.trans (hv.mono hb.size); clear x1 x2 x3 x4; obtain ⟨x1, x2, x3, x4⟩ := BX.out _ hb))
  go_ret
  exact ⟨rfl, below_al hb⟩

set_option maxRecDepth 100000 in
set_option maxHeartbeats 4000000 in
theorem lawsw_c3 (f : Int) (na oa pa : Option Addr) (ln cn lo co lp cp : Nat) (N : Nat → N2) (U : Nat → O3) (D : Nat → Dy) (zo zt : Int) (w : World) (hls : ln ≤ 1000000) (hlt : lo ≤ 1000000) (H : Hid (Tr7 w na oa ln lo N U)) (K : Hid KnownOk) (HP : Hid (PlSl w pa lp D)) (HN10 : Hid (∀ d, d < lp → (D d).n ≤ 10)) (hlp : lp ≤ 12) (hq : ln ≤ 8 ∧ lo ≤ 10) (HR : Hid (TreeS f ln lo N U)) (HPB : Hid ((decide (lp ≤ 10) && allN (fun d => dayB lo (D d).s (D d).n) lp) = true)) (HRB : Hid (allN (fun d => runD f ln lo N U (D d)) lp = false))  :
    Calls Tryz.prog 11 #[.agg #[.int .i64 f, .slice na ln cn, .slice oa lo co], .slice pa lp cp, .int .i64 zo, .int .i64 zt] w
      fun e w' => e = .returned (.bool true) ∧ Below w.heap.size w w' := by
  have hsh : decide (ln ≤ 8 ∧ lo ≤ 10) = true := decide_eq_true hq
  have HSL : Hid ((decide (lp ≤ 12) && allN (fun d => decide ((D d).n ≤ 10)) lp) = true) := Lib.hid (by rw [decide_eq_true hlp, Bool.true_and, allN_iff]; exact fun i hi => decide_eq_true (HN10.out i hi))
  have HLS : Hid (∀ d, d < lp → (D d).n ≤ 1000000 ∧ LsP lo (D d).n (D d).s) := Lib.hid fun d hd => by
    have h := HPB.out
    simp only [Bool.and_eq_true] at h
    exact ⟨by have := HN10.out d hd; omega, dayB_ls ((allN_iff lp).1 h.2 d hd)⟩
  have BX := Lib.hid (fun (w1 : World) (hb : Below (w.alloc (.cells #[.int .i64 f, .slice na ln cn, .slice oa lo co] 25)).heap.size (w.alloc (.cells #[.int .i64 f, .slice na ln cn, .slice oa lo co] 25)) w1) => box7 hb)
  have HN : Hid (∀ w1, Below (w.alloc (.cells #[.int .i64 f, .slice na ln cn, .slice oa lo co] 25)).heap.size (w.alloc (.cells #[.int .i64 f, .slice na ln cn, .slice oa lo co] 25)) w1 → Hid (Tr7 w1 na oa ln lo N U)) := Lib.hid fun w1 h => Lib.hid (H.out.below (below_al h))
  have hb : Below (w.alloc (.cells #[.int .i64 f, .slice na ln cn, .slice oa lo co] 25)).heap.size (w.alloc (.cells #[.int .i64 f, .slice na ln cn, .slice oa lo co] 25)) (w.alloc (.cells #[.int .i64 f, .slice na ln cn, .slice oa lo co] 25)) := Below.refl _ _
  obtain ⟨x1, x2, x3, x4⟩ := BX.out _ hb
  have HPP : Hid (∀ w1, Below (w.alloc (.cells #[.int .i64 f, .slice na ln cn, .slice oa lo co] 25)).heap.size (w.alloc (.cells #[.int .i64 f, .slice na ln cn, .slice oa lo co] 25)) w1 → Hid (PlSl w1 pa lp D)) := Lib.hid fun w1 h => Lib.hid (HP.out.below (below_al h))
  clear H HP
  go_enter Tryz.func11, Tryz.ntmps11
  go_wp2_with (first
    | (go_at_call 13; refine (short_w _ _ _ _ _ _ _ _ (by unfold maxLen; omega) (by unfold maxLen; omega)).mono ?_; rw [hsh]; rintro e wl ⟨rfl, hv⟩; (try replace hbs := hbs.trans (hv.mono hbs.size)); (try replace hba := hba.trans (hv.mono hba.size)); (try replace hbc := hbc.trans (hv.mono hbc.size)); (try replace hbd := hbd.trans (hv.mono hbd.size)); replace hb := hb.trans (hv.mono hb.size); clear x1 x2 x3 x4; obtain ⟨x1, x2, x3, x4⟩ := BX.out _ hb)
    | (go_at_call 41; refine (slim_w pa lp cp D _ (by unfold maxLen; omega) (HPP.out _ hb)).mono ?_; rw [HSL.out]; rintro e wl ⟨rfl, rfl⟩)
    | (go_at_call 50; refine (swaps_bad f na oa pa ln cn lo co lp cp N U D zo zt _ hls hlt (HN.out _ hb) (HPP.out _ hb) HN10 hlp (.inr (.inr (.inl HRB.out)))).mono ?_; rintro e wl ⟨rfl, hv⟩; (try replace hbs := hbs.trans (hv.mono hbs.size)); (try replace hba := hba.trans (hv.mono hba.size)); (try replace hbc := hbc.trans (hv.mono hbc.size)); (try replace hbd := hbd.trans (hv.mono hbd.size)); replace hb := hb.trans (hv.mono hb.size); clear x1 x2 x3 x4; obtain ⟨x1, x2, x3, x4⟩ := BX.out _ hb)
    | (go_at_call 17; refine (tree_w _ _ _ _ _ _ _ N U _ hls hlt (HN.out _ hb)).mono ?_; rintro e wl ⟨⟨rb, rfl, hrb⟩, hv⟩; obtain rfl : rb = true := hrb.2 HR.out; clear hrb; (try replace hbs := hbs.trans (hv.mono hbs.size)); (try replace hba := hba.trans (hv.mono hba.size)); (try replace hbc := hbc.trans (hv.mono hbc.size)); (try replace hbd := hbd.trans (hv.mono hbd.size)); replace hb := hb.trans (hv.mono hb.size); clear x1 x2 x3 x4; obtain ⟨x1, x2, x3, x4⟩ := BX.out _ hb)
    | (go_at_call 46; refine (rplan_w f na oa pa ln cn lo co lp cp D _ hlt (by omega) (Lib.hid fun d hd => by have := HN10.out d hd; omega) (HPP.out _ hb)).mono ?_; rw [HPB.out]; rintro e wl ⟨rfl, hv⟩; (try replace hbs := hbs.trans (hv.mono hbs.size)); (try replace hba := hba.trans (hv.mono hba.size)); (try replace hbc := hbc.trans (hv.mono hbc.size)); (try replace hbd := hbd.trans (hv.mono hbd.size)); replace hb := hb.trans (hv.mono hb.size); clear x1 x2 x3 x4; obtain ⟨x1, x2, x3, x4⟩ := BX.out _ hb)
    | (go_at_call 47; refine (rruns_w f na oa pa ln cn lo co lp cp N U D _ (by omega) HLS (HPP.out _ hb) (Lib.hid HR.out.w) (HN.out _ hb)).mono ?_; rw [HRB.out]; rintro e wl ⟨rfl, hv⟩; (try replace hbs := hbs.trans (hv.mono hbs.size)); (try replace hba := hba.trans (hv.mono hba.size)); (try replace hbc := hbc.trans (hv.mono hbc.size)); (try replace hbd := hbd.trans (hv.mono hbd.size)); replace hb := hb.trans (hv.mono hb.size); clear x1 x2 x3 x4; obtain ⟨x1, x2, x3, x4⟩ := BX.out _ hb)
    | (go_at_call 14; refine (K.out _).mono ?_; rintro e wl ⟨rfl, hv⟩; (try replace hbs := hbs.trans (hv.mono hbs.size)); (try replace hba := hba.trans (hv.mono hba.size)); (try replace hbc := hbc.trans (hv.mono hbc.size)); (try replace hbd := hbd.trans (hv.mono hbd.size)); replace hb := hb.trans (hv.mono hb.size); clear x1 x2 x3 x4; obtain ⟨x1, x2, x3, x4⟩ := BX.out _ hb))
  go_ret
  exact ⟨rfl, below_al hb⟩

set_option maxRecDepth 100000 in
set_option maxHeartbeats 4000000 in
theorem lawsw_c4 (f : Int) (na oa pa : Option Addr) (ln cn lo co lp cp : Nat) (N : Nat → N2) (U : Nat → O3) (D : Nat → Dy) (zo zt : Int) (w : World) (hls : ln ≤ 1000000) (hlt : lo ≤ 1000000) (H : Hid (Tr7 w na oa ln lo N U)) (K : Hid KnownOk) (HP : Hid (PlSl w pa lp D)) (HN10 : Hid (∀ d, d < lp → (D d).n ≤ 10)) (hlp : lp ≤ 12) (hq : ln ≤ 8 ∧ lo ≤ 10) (HR : Hid (TreeS f ln lo N U)) (HPB : Hid ((decide (lp ≤ 10) && allN (fun d => dayB lo (D d).s (D d).n) lp) = true)) (HRB : Hid (allN (fun d => runD f ln lo N U (D d)) lp = true)) (HO : Hid (fromB 0 ((lo : Int) - 1) zo = false))  :
    Calls Tryz.prog 11 #[.agg #[.int .i64 f, .slice na ln cn, .slice oa lo co], .slice pa lp cp, .int .i64 zo, .int .i64 zt] w
      fun e w' => e = .returned (.bool true) ∧ Below w.heap.size w w' := by
  have hsh : decide (ln ≤ 8 ∧ lo ≤ 10) = true := decide_eq_true hq
  have HSL : Hid ((decide (lp ≤ 12) && allN (fun d => decide ((D d).n ≤ 10)) lp) = true) := Lib.hid (by rw [decide_eq_true hlp, Bool.true_and, allN_iff]; exact fun i hi => decide_eq_true (HN10.out i hi))
  have HLS : Hid (∀ d, d < lp → (D d).n ≤ 1000000 ∧ LsP lo (D d).n (D d).s) := Lib.hid fun d hd => by
    have h := HPB.out
    simp only [Bool.and_eq_true] at h
    exact ⟨by have := HN10.out d hd; omega, dayB_ls ((allN_iff lp).1 h.2 d hd)⟩
  have BX := Lib.hid (fun (w1 : World) (hb : Below (w.alloc (.cells #[.int .i64 f, .slice na ln cn, .slice oa lo co] 25)).heap.size (w.alloc (.cells #[.int .i64 f, .slice na ln cn, .slice oa lo co] 25)) w1) => box7 hb)
  have HN : Hid (∀ w1, Below (w.alloc (.cells #[.int .i64 f, .slice na ln cn, .slice oa lo co] 25)).heap.size (w.alloc (.cells #[.int .i64 f, .slice na ln cn, .slice oa lo co] 25)) w1 → Hid (Tr7 w1 na oa ln lo N U)) := Lib.hid fun w1 h => Lib.hid (H.out.below (below_al h))
  have hb : Below (w.alloc (.cells #[.int .i64 f, .slice na ln cn, .slice oa lo co] 25)).heap.size (w.alloc (.cells #[.int .i64 f, .slice na ln cn, .slice oa lo co] 25)) (w.alloc (.cells #[.int .i64 f, .slice na ln cn, .slice oa lo co] 25)) := Below.refl _ _
  obtain ⟨x1, x2, x3, x4⟩ := BX.out _ hb
  have HPP : Hid (∀ w1, Below (w.alloc (.cells #[.int .i64 f, .slice na ln cn, .slice oa lo co] 25)).heap.size (w.alloc (.cells #[.int .i64 f, .slice na ln cn, .slice oa lo co] 25)) w1 → Hid (PlSl w1 pa lp D)) := Lib.hid fun w1 h => Lib.hid (HP.out.below (below_al h))
  clear H HP
  go_enter Tryz.func11, Tryz.ntmps11
  go_wp2_with (first
    | (go_at_call 13; refine (short_w _ _ _ _ _ _ _ _ (by unfold maxLen; omega) (by unfold maxLen; omega)).mono ?_; rw [hsh]; rintro e wl ⟨rfl, hv⟩; (try replace hbs := hbs.trans (hv.mono hbs.size)); (try replace hba := hba.trans (hv.mono hba.size)); (try replace hbc := hbc.trans (hv.mono hbc.size)); (try replace hbd := hbd.trans (hv.mono hbd.size)); replace hb := hb.trans (hv.mono hb.size); clear x1 x2 x3 x4; obtain ⟨x1, x2, x3, x4⟩ := BX.out _ hb)
    | (go_at_call 41; refine (slim_w pa lp cp D _ (by unfold maxLen; omega) (HPP.out _ hb)).mono ?_; rw [HSL.out]; rintro e wl ⟨rfl, rfl⟩)
    | (go_at_call 50; refine (swaps_bad f na oa pa ln cn lo co lp cp N U D zo zt _ hls hlt (HN.out _ hb) (HPP.out _ hb) HN10 hlp (.inr (.inr (.inr (.inl HO.out))))).mono ?_; rintro e wl ⟨rfl, hv⟩; (try replace hbs := hbs.trans (hv.mono hbs.size)); (try replace hba := hba.trans (hv.mono hba.size)); (try replace hbc := hbc.trans (hv.mono hbc.size)); (try replace hbd := hbd.trans (hv.mono hbd.size)); replace hb := hb.trans (hv.mono hb.size); clear x1 x2 x3 x4; obtain ⟨x1, x2, x3, x4⟩ := BX.out _ hb)
    | (go_at_call 17; refine (tree_w _ _ _ _ _ _ _ N U _ hls hlt (HN.out _ hb)).mono ?_; rintro e wl ⟨⟨rb, rfl, hrb⟩, hv⟩; obtain rfl : rb = true := hrb.2 HR.out; clear hrb; (try replace hbs := hbs.trans (hv.mono hbs.size)); (try replace hba := hba.trans (hv.mono hba.size)); (try replace hbc := hbc.trans (hv.mono hbc.size)); (try replace hbd := hbd.trans (hv.mono hbd.size)); replace hb := hb.trans (hv.mono hb.size); clear x1 x2 x3 x4; obtain ⟨x1, x2, x3, x4⟩ := BX.out _ hb)
    | (go_at_call 46; refine (rplan_w f na oa pa ln cn lo co lp cp D _ hlt (by omega) (Lib.hid fun d hd => by have := HN10.out d hd; omega) (HPP.out _ hb)).mono ?_; rw [HPB.out]; rintro e wl ⟨rfl, hv⟩; (try replace hbs := hbs.trans (hv.mono hbs.size)); (try replace hba := hba.trans (hv.mono hba.size)); (try replace hbc := hbc.trans (hv.mono hbc.size)); (try replace hbd := hbd.trans (hv.mono hbd.size)); replace hb := hb.trans (hv.mono hb.size); clear x1 x2 x3 x4; obtain ⟨x1, x2, x3, x4⟩ := BX.out _ hb)
    | (go_at_call 47; refine (rruns_w f na oa pa ln cn lo co lp cp N U D _ (by omega) HLS (HPP.out _ hb) (Lib.hid HR.out.w) (HN.out _ hb)).mono ?_; rw [HRB.out]; rintro e wl ⟨rfl, hv⟩; (try replace hbs := hbs.trans (hv.mono hbs.size)); (try replace hba := hba.trans (hv.mono hba.size)); (try replace hbc := hbc.trans (hv.mono hbc.size)); (try replace hbd := hbd.trans (hv.mono hbd.size)); replace hb := hb.trans (hv.mono hb.size); clear x1 x2 x3 x4; obtain ⟨x1, x2, x3, x4⟩ := BX.out _ hb)
    | (go_at_call_of 33 zo; refine (outlet_w f zo na oa ln cn lo co _ hlt).mono ?_; rw [HO.out]; rintro e wl ⟨rfl, hv⟩; (try replace hbs := hbs.trans (hv.mono hbs.size)); (try replace hba := hba.trans (hv.mono hba.size)); (try replace hbc := hbc.trans (hv.mono hbc.size)); (try replace hbd := hbd.trans (hv.mono hbd.size)); replace hb := hb.trans (hv.mono hb.size); clear x1 x2 x3 x4; obtain ⟨x1, x2, x3, x4⟩ := BX.out _ hb)
    | (go_at_call 14; refine (K.out _).mono ?_; rintro e wl ⟨rfl, hv⟩; (try replace hbs := hbs.trans (hv.mono hbs.size)); (try replace hba := hba.trans (hv.mono hba.size)); (try replace hbc := hbc.trans (hv.mono hbc.size)); (try replace hbd := hbd.trans (hv.mono hbd.size)); replace hb := hb.trans (hv.mono hb.size); clear x1 x2 x3 x4; obtain ⟨x1, x2, x3, x4⟩ := BX.out _ hb))
  go_ret
  exact ⟨rfl, below_al hb⟩

set_option maxRecDepth 100000 in
set_option maxHeartbeats 4000000 in
theorem lawsw_c5 (f : Int) (na oa pa : Option Addr) (ln cn lo co lp cp : Nat) (N : Nat → N2) (U : Nat → O3) (D : Nat → Dy) (zo zt : Int) (w : World) (hls : ln ≤ 1000000) (hlt : lo ≤ 1000000) (H : Hid (Tr7 w na oa ln lo N U)) (K : Hid KnownOk) (HP : Hid (PlSl w pa lp D)) (HN10 : Hid (∀ d, d < lp → (D d).n ≤ 10)) (hlp : lp ≤ 12) (hq : ln ≤ 8 ∧ lo ≤ 10) (HR : Hid (TreeS f ln lo N U)) (HPB : Hid ((decide (lp ≤ 10) && allN (fun d => dayB lo (D d).s (D d).n) lp) = true)) (HRB : Hid (allN (fun d => runD f ln lo N U (D d)) lp = true)) (HO : Hid (fromB 0 ((lo : Int) - 1) zo = true)) (HT : Hid (fromB 0 ((lo : Int) - 1) zt = false))  :
    Calls Tryz.prog 11 #[.agg #[.int .i64 f, .slice na ln cn, .slice oa lo co], .slice pa lp cp, .int .i64 zo, .int .i64 zt] w
      fun e w' => e = .returned (.bool true) ∧ Below w.heap.size w w' := by
  have hsh : decide (ln ≤ 8 ∧ lo ≤ 10) = true := decide_eq_true hq
  have HSL : Hid ((decide (lp ≤ 12) && allN (fun d => decide ((D d).n ≤ 10)) lp) = true) := Lib.hid (by rw [decide_eq_true hlp, Bool.true_and, allN_iff]; exact fun i hi => decide_eq_true (HN10.out i hi))
  have HLS : Hid (∀ d, d < lp → (D d).n ≤ 1000000 ∧ LsP lo (D d).n (D d).s) := Lib.hid fun d hd => by
    have h := HPB.out
    simp only [Bool.and_eq_true] at h
    exact ⟨by have := HN10.out d hd; omega, dayB_ls ((allN_iff lp).1 h.2 d hd)⟩
  have BX := Lib.hid (fun (w1 : World) (hb : Below (w.alloc (.cells #[.int .i64 f, .slice na ln cn, .slice oa lo co] 25)).heap.size (w.alloc (.cells #[.int .i64 f, .slice na ln cn, .slice oa lo co] 25)) w1) => box7 hb)
  have HN : Hid (∀ w1, Below (w.alloc (.cells #[.int .i64 f, .slice na ln cn, .slice oa lo co] 25)).heap.size (w.alloc (.cells #[.int .i64 f, .slice na ln cn, .slice oa lo co] 25)) w1 → Hid (Tr7 w1 na oa ln lo N U)) := Lib.hid fun w1 h => Lib.hid (H.out.below (below_al h))
  have hb : Below (w.alloc (.cells #[.int .i64 f, .slice na ln cn, .slice oa lo co] 25)).heap.size (w.alloc (.cells #[.int .i64 f, .slice na ln cn, .slice oa lo co] 25)) (w.alloc (.cells #[.int .i64 f, .slice na ln cn, .slice oa lo co] 25)) := Below.refl _ _
  obtain ⟨x1, x2, x3, x4⟩ := BX.out _ hb
  have HPP : Hid (∀ w1, Below (w.alloc (.cells #[.int .i64 f, .slice na ln cn, .slice oa lo co] 25)).heap.size (w.alloc (.cells #[.int .i64 f, .slice na ln cn, .slice oa lo co] 25)) w1 → Hid (PlSl w1 pa lp D)) := Lib.hid fun w1 h => Lib.hid (HP.out.below (below_al h))
  clear H HP
  go_enter Tryz.func11, Tryz.ntmps11
  go_wp2_with (first
    | (go_at_call 13; refine (short_w _ _ _ _ _ _ _ _ (by unfold maxLen; omega) (by unfold maxLen; omega)).mono ?_; rw [hsh]; rintro e wl ⟨rfl, hv⟩; (try replace hbs := hbs.trans (hv.mono hbs.size)); (try replace hba := hba.trans (hv.mono hba.size)); (try replace hbc := hbc.trans (hv.mono hbc.size)); (try replace hbd := hbd.trans (hv.mono hbd.size)); replace hb := hb.trans (hv.mono hb.size); clear x1 x2 x3 x4; obtain ⟨x1, x2, x3, x4⟩ := BX.out _ hb)
    | (go_at_call 41; refine (slim_w pa lp cp D _ (by unfold maxLen; omega) (HPP.out _ hb)).mono ?_; rw [HSL.out]; rintro e wl ⟨rfl, rfl⟩)
    | (go_at_call 50; refine (swaps_bad f na oa pa ln cn lo co lp cp N U D zo zt _ hls hlt (HN.out _ hb) (HPP.out _ hb) HN10 hlp (.inr (.inr (.inr (.inr (.inl HT.out)))))).mono ?_; rintro e wl ⟨rfl, hv⟩; (try replace hbs := hbs.trans (hv.mono hbs.size)); (try replace hba := hba.trans (hv.mono hba.size)); (try replace hbc := hbc.trans (hv.mono hbc.size)); (try replace hbd := hbd.trans (hv.mono hbd.size)); replace hb := hb.trans (hv.mono hb.size); clear x1 x2 x3 x4; obtain ⟨x1, x2, x3, x4⟩ := BX.out _ hb)
    | (go_at_call 17; refine (tree_w _ _ _ _ _ _ _ N U _ hls hlt (HN.out _ hb)).mono ?_; rintro e wl ⟨⟨rb, rfl, hrb⟩, hv⟩; obtain rfl : rb = true := hrb.2 HR.out; clear hrb; (try replace hbs := hbs.trans (hv.mono hbs.size)); (try replace hba := hba.trans (hv.mono hba.size)); (try replace hbc := hbc.trans (hv.mono hbc.size)); (try replace hbd := hbd.trans (hv.mono hbd.size)); replace hb := hb.trans (hv.mono hb.size); clear x1 x2 x3 x4; obtain ⟨x1, x2, x3, x4⟩ := BX.out _ hb)
    | (go_at_call 46; refine (rplan_w f na oa pa ln cn lo co lp cp D _ hlt (by omega) (Lib.hid fun d hd => by have := HN10.out d hd; omega) (HPP.out _ hb)).mono ?_; rw [HPB.out]; rintro e wl ⟨rfl, hv⟩; (try replace hbs := hbs.trans (hv.mono hbs.size)); (try replace hba := hba.trans (hv.mono hba.size)); (try replace hbc := hbc.trans (hv.mono hbc.size)); (try replace hbd := hbd.trans (hv.mono hbd.size)); replace hb := hb.trans (hv.mono hb.size); clear x1 x2 x3 x4; obtain ⟨x1, x2, x3, x4⟩ := BX.out _ hb)
    | (go_at_call 47; refine (rruns_w f na oa pa ln cn lo co lp cp N U D _ (by omega) HLS (HPP.out _ hb) (Lib.hid HR.out.w) (HN.out _ hb)).mono ?_; rw [HRB.out]; rintro e wl ⟨rfl, hv⟩; (try replace hbs := hbs.trans (hv.mono hbs.size)); (try replace hba := hba.trans (hv.mono hba.size)); (try replace hbc := hbc.trans (hv.mono hbc.size)); (try replace hbd := hbd.trans (hv.mono hbd.size)); replace hb := hb.trans (hv.mono hb.size); clear x1 x2 x3 x4; obtain ⟨x1, x2, x3, x4⟩ := BX.out _ hb)
    | (go_at_call_of 33 zo; refine (outlet_w f zo na oa ln cn lo co _ hlt).mono ?_; rw [HO.out]; rintro e wl ⟨rfl, hv⟩; (try replace hbs := hbs.trans (hv.mono hbs.size)); (try replace hba := hba.trans (hv.mono hba.size)); (try replace hbc := hbc.trans (hv.mono hbc.size)); (try replace hbd := hbd.trans (hv.mono hbd.size)); replace hb := hb.trans (hv.mono hb.size); clear x1 x2 x3 x4; obtain ⟨x1, x2, x3, x4⟩ := BX.out _ hb)
    | (go_at_call_of 33 zt; refine (outlet_w f zt na oa ln cn lo co _ hlt).mono ?_; rw [HT.out]; rintro e wl ⟨rfl, hv⟩; (try replace hbs := hbs.trans (hv.mono hbs.size)); (try replace hba := hba.trans (hv.mono hba.size)); (try replace hbc := hbc.trans (hv.mono hbc.size)); (try replace hbd := hbd.trans (hv.mono hbd.size)); replace hb := hb.trans (hv.mono hb.size); clear x1 x2 x3 x4; obtain ⟨x1, x2, x3, x4⟩ := BX.out _ hb)
    | (go_at_call 14; refine (K.out _).mono ?_; rintro e wl ⟨rfl, hv⟩; (try replace hbs := hbs.trans (hv.mono hbs.size)); (try replace hba := hba.trans (hv.mono hba.size)); (try replace hbc := hbc.trans (hv.mono hbc.size)); (try replace hbd := hbd.trans (hv.mono hbd.size)); replace hb := hb.trans (hv.mono hb.size); clear x1 x2 x3 x4; obtain ⟨x1, x2, x3, x4⟩ := BX.out _ hb))
  go_ret
  exact ⟨rfl, below_al hb⟩

set_option maxRecDepth 100000 in
set_option maxHeartbeats 4000000 in
theorem lawsw_c6 (f : Int) (na oa pa : Option Addr) (ln cn lo co lp cp : Nat) (N : Nat → N2) (U : Nat → O3) (D : Nat → Dy) (zo zt : Int) (w : World) (hls : ln ≤ 1000000) (hlt : lo ≤ 1000000) (H : Hid (Tr7 w na oa ln lo N U)) (K : Hid KnownOk) (HP : Hid (PlSl w pa lp D)) (HN10 : Hid (∀ d, d < lp → (D d).n ≤ 10)) (hlp : lp ≤ 12) (hq : ln ≤ 8 ∧ lo ≤ 10) (HR : Hid (TreeS f ln lo N U)) (HPB : Hid ((decide (lp ≤ 10) && allN (fun d => dayB lo (D d).s (D d).n) lp) = true)) (HRB : Hid (allN (fun d => runD f ln lo N U (D d)) lp = true)) (HO : Hid (fromB 0 ((lo : Int) - 1) zo = true)) (HT : Hid (fromB 0 ((lo : Int) - 1) zt = true)) (heq : zo = zt)  :
    Calls Tryz.prog 11 #[.agg #[.int .i64 f, .slice na ln cn, .slice oa lo co], .slice pa lp cp, .int .i64 zo, .int .i64 zt] w
      fun e w' => e = .returned (.bool true) ∧ Below w.heap.size w w' := by
  have hsh : decide (ln ≤ 8 ∧ lo ≤ 10) = true := decide_eq_true hq
  have HSL : Hid ((decide (lp ≤ 12) && allN (fun d => decide ((D d).n ≤ 10)) lp) = true) := Lib.hid (by rw [decide_eq_true hlp, Bool.true_and, allN_iff]; exact fun i hi => decide_eq_true (HN10.out i hi))
  have HLS : Hid (∀ d, d < lp → (D d).n ≤ 1000000 ∧ LsP lo (D d).n (D d).s) := Lib.hid fun d hd => by
    have h := HPB.out
    simp only [Bool.and_eq_true] at h
    exact ⟨by have := HN10.out d hd; omega, dayB_ls ((allN_iff lp).1 h.2 d hd)⟩
  have q0 : (zo == zt) = true := by rw [beq_iff_eq]; exact heq
  have HEQ := Lib.hid heq
  clear heq
  have BX := Lib.hid (fun (w1 : World) (hb : Below (w.alloc (.cells #[.int .i64 f, .slice na ln cn, .slice oa lo co] 25)).heap.size (w.alloc (.cells #[.int .i64 f, .slice na ln cn, .slice oa lo co] 25)) w1) => box7 hb)
  have HN : Hid (∀ w1, Below (w.alloc (.cells #[.int .i64 f, .slice na ln cn, .slice oa lo co] 25)).heap.size (w.alloc (.cells #[.int .i64 f, .slice na ln cn, .slice oa lo co] 25)) w1 → Hid (Tr7 w1 na oa ln lo N U)) := Lib.hid fun w1 h => Lib.hid (H.out.below (below_al h))
  have hb : Below (w.alloc (.cells #[.int .i64 f, .slice na ln cn, .slice oa lo co] 25)).heap.size (w.alloc (.cells #[.int .i64 f, .slice na ln cn, .slice oa lo co] 25)) (w.alloc (.cells #[.int .i64 f, .slice na ln cn, .slice oa lo co] 25)) := Below.refl _ _
  obtain ⟨x1, x2, x3, x4⟩ := BX.out _ hb
  have HPP : Hid (∀ w1, Below (w.alloc (.cells #[.int .i64 f, .slice na ln cn, .slice oa lo co] 25)).heap.size (w.alloc (.cells #[.int .i64 f, .slice na ln cn, .slice oa lo co] 25)) w1 → Hid (PlSl w1 pa lp D)) := Lib.hid fun w1 h => Lib.hid (HP.out.below (below_al h))
  clear H HP
  go_enter Tryz.func11, Tryz.ntmps11
  go_wp2_with (first
    | (go_at_call 13; refine (short_w _ _ _ _ _ _ _ _ (by unfold maxLen; omega) (by unfold maxLen; omega)).mono ?_; rw [hsh]; rintro e wl ⟨rfl, hv⟩; (try replace hbs := hbs.trans (hv.mono hbs.size)); (try replace hba := hba.trans (hv.mono hba.size)); (try replace hbc := hbc.trans (hv.mono hbc.size)); (try replace hbd := hbd.trans (hv.mono hbd.size)); replace hb := hb.trans (hv.mono hb.size); clear x1 x2 x3 x4; obtain ⟨x1, x2, x3, x4⟩ := BX.out _ hb)
    | (go_at_call 41; refine (slim_w pa lp cp D _ (by unfold maxLen; omega) (HPP.out _ hb)).mono ?_; rw [HSL.out]; rintro e wl ⟨rfl, rfl⟩)
    | (go_at_call 50; refine (swaps_bad f na oa pa ln cn lo co lp cp N U D zo zt _ hls hlt (HN.out _ hb) (HPP.out _ hb) HN10 hlp (.inr (.inr (.inr (.inr (.inr HEQ.out)))))).mono ?_; rintro e wl ⟨rfl, hv⟩; (try replace hbs := hbs.trans (hv.mono hbs.size)); (try replace hba := hba.trans (hv.mono hba.size)); (try replace hbc := hbc.trans (hv.mono hbc.size)); (try replace hbd := hbd.trans (hv.mono hbd.size)); replace hb := hb.trans (hv.mono hb.size); clear x1 x2 x3 x4; obtain ⟨x1, x2, x3, x4⟩ := BX.out _ hb)
    | (go_at_call 17; refine (tree_w _ _ _ _ _ _ _ N U _ hls hlt (HN.out _ hb)).mono ?_; rintro e wl ⟨⟨rb, rfl, hrb⟩, hv⟩; obtain rfl : rb = true := hrb.2 HR.out; clear hrb; (try replace hbs := hbs.trans (hv.mono hbs.size)); (try replace hba := hba.trans (hv.mono hba.size)); (try replace hbc := hbc.trans (hv.mono hbc.size)); (try replace hbd := hbd.trans (hv.mono hbd.size)); replace hb := hb.trans (hv.mono hb.size); clear x1 x2 x3 x4; obtain ⟨x1, x2, x3, x4⟩ := BX.out _ hb)
    | (go_at_call 46; refine (rplan_w f na oa pa ln cn lo co lp cp D _ hlt (by omega) (Lib.hid fun d hd => by have := HN10.out d hd; omega) (HPP.out _ hb)).mono ?_; rw [HPB.out]; rintro e wl ⟨rfl, hv⟩; (try replace hbs := hbs.trans (hv.mono hbs.size)); (try replace hba := hba.trans (hv.mono hba.size)); (try replace hbc := hbc.trans (hv.mono hbc.size)); (try replace hbd := hbd.trans (hv.mono hbd.size)); replace hb := hb.trans (hv.mono hb.size); clear x1 x2 x3 x4; obtain ⟨x1, x2, x3, x4⟩ := BX.out _ hb)
    | (go_at_call 47; refine (rruns_w f na oa pa ln cn lo co lp cp N U D _ (by omega) HLS (HPP.out _ hb) (Lib.hid HR.out.w) (HN.out _ hb)).mono ?_; rw [HRB.out]; rintro e wl ⟨rfl, hv⟩; (try replace hbs := hbs.trans (hv.mono hbs.size)); (try replace hba := hba.trans (hv.mono hba.size)); (try replace hbc := hbc.trans (hv.mono hbc.size)); (try replace hbd := hbd.trans (hv.mono hbd.size)); replace hb := hb.trans (hv.mono hb.size); clear x1 x2 x3 x4; obtain ⟨x1, x2, x3, x4⟩ := BX.out _ hb)
    | (go_at_call_of 33 zo; refine (outlet_w f zo na oa ln cn lo co _ hlt).mono ?_; rw [HO.out]; rintro e wl ⟨rfl, hv⟩; (try replace hbs := hbs.trans (hv.mono hbs.size)); (try replace hba := hba.trans (hv.mono hba.size)); (try replace hbc := hbc.trans (hv.mono hbc.size)); (try replace hbd := hbd.trans (hv.mono hbd.size)); replace hb := hb.trans (hv.mono hb.size); clear x1 x2 x3 x4; obtain ⟨x1, x2, x3, x4⟩ := BX.out _ hb)
    | (go_at_call_of 33 zt; refine (outlet_w f zt na oa ln cn lo co _ hlt).mono ?_; rw [HT.out]; rintro e wl ⟨rfl, hv⟩; (try replace hbs := hbs.trans (hv.mono hbs.size)); (try replace hba := hba.trans (hv.mono hba.size)); (try replace hbc := hbc.trans (hv.mono hbc.size)); (try replace hbd := hbd.trans (hv.mono hbd.size)); replace hb := hb.trans (hv.mono hb.size); clear x1 x2 x3 x4; obtain ⟨x1, x2, x3, x4⟩ := BX.out _ hb)
    | (go_at_call 14; refine (K.out _).mono ?_; rintro e wl ⟨rfl, hv⟩; (try replace hbs := hbs.trans (hv.mono hbs.size)); (try replace hba := hba.trans (hv.mono hba.size)); (try replace hbc := hbc.trans (hv.mono hbc.size)); (try replace hbd := hbd.trans (hv.mono hbd.size)); replace hb := hb.trans (hv.mono hb.size); clear x1 x2 x3 x4; obtain ⟨x1, x2, x3, x4⟩ := BX.out _ hb))
  go_ret
  exact ⟨rfl, below_al hb⟩

set_option maxRecDepth 100000 in
set_option maxHeartbeats 4000000 in
theorem lawsw_d (f : Int) (na oa pa : Option Addr) (ln cn lo co lp cp : Nat) (N : Nat → N2) (U : Nat → O3) (D : Nat → Dy) (zo zt : Int) (w : World) (hls : ln ≤ 1000000) (hlt : lo ≤ 1000000) (H : Hid (Tr7 w na oa ln lo N U)) (K : Hid KnownOk) (HP : Hid (PlSl w pa lp D)) (HN10 : Hid (∀ d, d < lp → (D d).n ≤ 10)) (hlp : lp ≤ 12) (hq : ln ≤ 8 ∧ lo ≤ 10) (HR : Hid (TreeS f ln lo N U)) (HPB : Hid ((decide (lp ≤ 10) && allN (fun d => dayB lo (D d).s (D d).n) lp) = true)) (HRB : Hid (allN (fun d => runD f ln lo N U (D d)) lp = true)) (HO : Hid (fromB 0 ((lo : Int) - 1) zo = true)) (HT : Hid (fromB 0 ((lo : Int) - 1) zt = true)) (heq : zo ≠ zt) (hno : ∀ a' b', a' < lp → b' < lp → SwB f ln lo N U D zo zt a' b' = false) :
    Calls Tryz.prog 11 #[.agg #[.int .i64 f, .slice na ln cn, .slice oa lo co], .slice pa lp cp, .int .i64 zo, .int .i64 zt] w
      fun e w' => e = .returned (.bool true) ∧ Below w.heap.size w w' := by
  have hsh : decide (ln ≤ 8 ∧ lo ≤ 10) = true := decide_eq_true hq
  have HSL : Hid ((decide (lp ≤ 12) && allN (fun d => decide ((D d).n ≤ 10)) lp) = true) := Lib.hid (by rw [decide_eq_true hlp, Bool.true_and, allN_iff]; exact fun i hi => decide_eq_true (HN10.out i hi))
  have HLS : Hid (∀ d, d < lp → (D d).n ≤ 1000000 ∧ LsP lo (D d).n (D d).s) := Lib.hid fun d hd => by
    have h := HPB.out
    simp only [Bool.and_eq_true] at h
    exact ⟨by have := HN10.out d hd; omega, dayB_ls ((allN_iff lp).1 h.2 d hd)⟩
  have q0 : (zo == zt) = false := by rw [beq_eq_false_iff_ne]; exact heq
  have HEQ := Lib.hid heq
  clear heq
  have HDY : Hid (∀ d, d < lp → dayB lo (D d).s (D d).n = true ∧ (D d).n ≤ 1000000) := Lib.hid fun d hd => by
    have h := HPB.out
    simp only [Bool.and_eq_true] at h
    exact ⟨(allN_iff lp).1 h.2 d hd, by have := HN10.out d hd; omega⟩
  have hl10 : lp ≤ 10 := by have h := HPB.out; simp only [Bool.and_eq_true, decide_eq_true_eq] at h; exact h.1
  have HNO := Lib.hid hno
  clear hno
  have BX := Lib.hid (fun (w1 : World) (hb : Below (w.alloc (.cells #[.int .i64 f, .slice na ln cn, .slice oa lo co] 25)).heap.size (w.alloc (.cells #[.int .i64 f, .slice na ln cn, .slice oa lo co] 25)) w1) => box7 hb)
  have HN : Hid (∀ w1, Below (w.alloc (.cells #[.int .i64 f, .slice na ln cn, .slice oa lo co] 25)).heap.size (w.alloc (.cells #[.int .i64 f, .slice na ln cn, .slice oa lo co] 25)) w1 → Hid (Tr7 w1 na oa ln lo N U)) := Lib.hid fun w1 h => Lib.hid (H.out.below (below_al h))
  have hb : Below (w.alloc (.cells #[.int .i64 f, .slice na ln cn, .slice oa lo co] 25)).heap.size (w.alloc (.cells #[.int .i64 f, .slice na ln cn, .slice oa lo co] 25)) (w.alloc (.cells #[.int .i64 f, .slice na ln cn, .slice oa lo co] 25)) := Below.refl _ _
  obtain ⟨x1, x2, x3, x4⟩ := BX.out _ hb
  have HPP : Hid (∀ w1, Below (w.alloc (.cells #[.int .i64 f, .slice na ln cn, .slice oa lo co] 25)).heap.size (w.alloc (.cells #[.int .i64 f, .slice na ln cn, .slice oa lo co] 25)) w1 → Hid (PlSl w1 pa lp D)) := Lib.hid fun w1 h => Lib.hid (HP.out.below (below_al h))
  clear H HP
  go_enter Tryz.func11, Tryz.ntmps11
  go_wp2_with (first
    | (go_at_call 13; refine (short_w _ _ _ _ _ _ _ _ (by unfold maxLen; omega) (by unfold maxLen; omega)).mono ?_; rw [hsh]; rintro e wl ⟨rfl, hv⟩; (try replace hbs := hbs.trans (hv.mono hbs.size)); (try replace hba := hba.trans (hv.mono hba.size)); (try replace hbc := hbc.trans (hv.mono hbc.size)); (try replace hbd := hbd.trans (hv.mono hbd.size)); replace hb := hb.trans (hv.mono hb.size); clear x1 x2 x3 x4; obtain ⟨x1, x2, x3, x4⟩ := BX.out _ hb)
    | (go_at_call 41; refine (slim_w pa lp cp D _ (by unfold maxLen; omega) (HPP.out _ hb)).mono ?_; rw [HSL.out]; rintro e wl ⟨rfl, rfl⟩)
    | (go_at_call 50; refine (swaps_w f zo zt na oa pa ln cn lo co lp cp N U D _ hl10 HR (HN.out _ hb) (HPP.out _ hb) HDY HRB HO.out HT.out HEQ.out).mono ?_; rintro e wl ⟨⟨r1, r2, re, rfl, hsr⟩, hv⟩; (try replace hbs := hbs.trans (hv.mono hbs.size)); (try replace hba := hba.trans (hv.mono hba.size)); (try replace hbc := hbc.trans (hv.mono hbc.size)); (try replace hbd := hbd.trans (hv.mono hbd.size)); replace hb := hb.trans (hv.mono hb.size); clear x1 x2 x3 x4; obtain ⟨x1, x2, x3, x4⟩ := BX.out _ hb; obtain ⟨rfl, rfl, rfl⟩ := hsr.none HNO.out; clear hsr)
    | (go_at_call 17; refine (tree_w _ _ _ _ _ _ _ N U _ hls hlt (HN.out _ hb)).mono ?_; rintro e wl ⟨⟨rb, rfl, hrb⟩, hv⟩; obtain rfl : rb = true := hrb.2 HR.out; clear hrb; (try replace hbs := hbs.trans (hv.mono hbs.size)); (try replace hba := hba.trans (hv.mono hba.size)); (try replace hbc := hbc.trans (hv.mono hbc.size)); (try replace hbd := hbd.trans (hv.mono hbd.size)); replace hb := hb.trans (hv.mono hb.size); clear x1 x2 x3 x4; obtain ⟨x1, x2, x3, x4⟩ := BX.out _ hb)
    | (go_at_call 46; refine (rplan_w f na oa pa ln cn lo co lp cp D _ hlt (by omega) (Lib.hid fun d hd => by have := HN10.out d hd; omega) (HPP.out _ hb)).mono ?_; rw [HPB.out]; rintro e wl ⟨rfl, hv⟩; (try replace hbs := hbs.trans (hv.mono hbs.size)); (try replace hba := hba.trans (hv.mono hba.size)); (try replace hbc := hbc.trans (hv.mono hbc.size)); (try replace hbd := hbd.trans (hv.mono hbd.size)); replace hb := hb.trans (hv.mono hb.size); clear x1 x2 x3 x4; obtain ⟨x1, x2, x3, x4⟩ := BX.out _ hb)
    | (go_at_call 47; refine (rruns_w f na oa pa ln cn lo co lp cp N U D _ (by omega) HLS (HPP.out _ hb) (Lib.hid HR.out.w) (HN.out _ hb)).mono ?_; rw [HRB.out]; rintro e wl ⟨rfl, hv⟩; (try replace hbs := hbs.trans (hv.mono hbs.size)); (try replace hba := hba.trans (hv.mono hba.size)); (try replace hbc := hbc.trans (hv.mono hbc.size)); (try replace hbd := hbd.trans (hv.mono hbd.size)); replace hb := hb.trans (hv.mono hb.size); clear x1 x2 x3 x4; obtain ⟨x1, x2, x3, x4⟩ := BX.out _ hb)
    | (go_at_call_of 33 zo; refine (outlet_w f zo na oa ln cn lo co _ hlt).mono ?_; rw [HO.out]; rintro e wl ⟨rfl, hv⟩; (try replace hbs := hbs.trans (hv.mono hbs.size)); (try replace hba := hba.trans (hv.mono hba.size)); (try replace hbc := hbc.trans (hv.mono hbc.size)); (try replace hbd := hbd.trans (hv.mono hbd.size)); replace hb := hb.trans (hv.mono hb.size); clear x1 x2 x3 x4; obtain ⟨x1, x2, x3, x4⟩ := BX.out _ hb)
    | (go_at_call_of 33 zt; refine (outlet_w f zt na oa ln cn lo co _ hlt).mono ?_; rw [HT.out]; rintro e wl ⟨rfl, hv⟩; (try replace hbs := hbs.trans (hv.mono hbs.size)); (try replace hba := hba.trans (hv.mono hba.size)); (try replace hbc := hbc.trans (hv.mono hbc.size)); (try replace hbd := hbd.trans (hv.mono hbd.size)); replace hb := hb.trans (hv.mono hb.size); clear x1 x2 x3 x4; obtain ⟨x1, x2, x3, x4⟩ := BX.out _ hb)
    | (go_at_call 51; refine (rswaps_w f zo zt na oa pa ln cn lo co lp cp N U D _ hl10 HR (HN.out _ hb) (HPP.out _ hb) (Lib.hid fun d hd => (HDY.out d hd).1) HRB).mono ?_; rintro e wl ⟨⟨r3, r4, rB, rfl, hsr⟩, hv⟩; (try replace hbs := hbs.trans (hv.mono hbs.size)); (try replace hba := hba.trans (hv.mono hba.size)); (try replace hbc := hbc.trans (hv.mono hbc.size)); (try replace hbd := hbd.trans (hv.mono hbd.size)); replace hb := hb.trans (hv.mono hb.size); clear x1 x2 x3 x4; obtain ⟨x1, x2, x3, x4⟩ := BX.out _ hb; obtain ⟨hre, rfl, rfl⟩ := hsr.none HNO.out; obtain rfl : rB = false := (by cases rB; rfl; cases hre); clear hre; clear hsr)
    | (go_at_call 14; refine (K.out _).mono ?_; rintro e wl ⟨rfl, hv⟩; (try replace hbs := hbs.trans (hv.mono hbs.size)); (try replace hba := hba.trans (hv.mono hba.size)); (try replace hbc := hbc.trans (hv.mono hbc.size)); (try replace hbd := hbd.trans (hv.mono hbd.size)); replace hb := hb.trans (hv.mono hb.size); clear x1 x2 x3 x4; obtain ⟨x1, x2, x3, x4⟩ := BX.out _ hb))
  go_ret
  exact ⟨rfl, below_al hb⟩

set_option maxRecDepth 100000 in
set_option maxHeartbeats 4000000 in
theorem lawsw_e (f : Int) (na oa pa : Option Addr) (ln cn lo co lp cp : Nat) (N : Nat → N2) (U : Nat → O3) (D : Nat → Dy) (zo zt : Int) (w : World) (hls : ln ≤ 1000000) (hlt : lo ≤ 1000000) (H : Hid (Tr7 w na oa ln lo N U)) (K : Hid KnownOk) (HP : Hid (PlSl w pa lp D)) (HN10 : Hid (∀ d, d < lp → (D d).n ≤ 10)) (hlp : lp ≤ 12) (hq : ln ≤ 8 ∧ lo ≤ 10) (HR : Hid (TreeS f ln lo N U)) (HPB : Hid ((decide (lp ≤ 10) && allN (fun d => dayB lo (D d).s (D d).n) lp) = true)) (HRB : Hid (allN (fun d => runD f ln lo N U (D d)) lp = true)) (HO : Hid (fromB 0 ((lo : Int) - 1) zo = true)) (HT : Hid (fromB 0 ((lo : Int) - 1) zt = true)) (heq : zo ≠ zt) (a b : Nat) (ha : a < lp) (hbb : b < lp) (hp : SwB f ln lo N U D zo zt a b = true) (h1 : ∀ b', b' < b → SwB f ln lo N U D zo zt a b' = false) (h2 : ∀ a' b', a' < a → b' < lp → SwB f ln lo N U D zo zt a' b' = false) :
    Calls Tryz.prog 11 #[.agg #[.int .i64 f, .slice na ln cn, .slice oa lo co], .slice pa lp cp, .int .i64 zo, .int .i64 zt] w
      fun e w' => e = .returned (.bool true) ∧ Below w.heap.size w w' := by
  have hsh : decide (ln ≤ 8 ∧ lo ≤ 10) = true := decide_eq_true hq
  have HSL : Hid ((decide (lp ≤ 12) && allN (fun d => decide ((D d).n ≤ 10)) lp) = true) := Lib.hid (by rw [decide_eq_true hlp, Bool.true_and, allN_iff]; exact fun i hi => decide_eq_true (HN10.out i hi))
  have HLS : Hid (∀ d, d < lp → (D d).n ≤ 1000000 ∧ LsP lo (D d).n (D d).s) := Lib.hid fun d hd => by
    have h := HPB.out
    simp only [Bool.and_eq_true] at h
    exact ⟨by have := HN10.out d hd; omega, dayB_ls ((allN_iff lp).1 h.2 d hd)⟩
  have q0 : (zo == zt) = false := by rw [beq_eq_false_iff_ne]; exact heq
  have HEQ := Lib.hid heq
  clear heq
  have HDY : Hid (∀ d, d < lp → dayB lo (D d).s (D d).n = true ∧ (D d).n ≤ 1000000) := Lib.hid fun d hd => by
    have h := HPB.out
    simp only [Bool.and_eq_true] at h
    exact ⟨(allN_iff lp).1 h.2 d hd, by have := HN10.out d hd; omega⟩
  have hl10 : lp ≤ 10 := by have h := HPB.out; simp only [Bool.and_eq_true, decide_eq_true_eq] at h; exact h.1
  have HP1 := Lib.hid hp
  have H1 := Lib.hid h1
  have H2 := Lib.hid h2
  clear hp h1 h2
  have BX := Lib.hid (fun (w1 : World) (hb : Below (w.alloc (.cells #[.int .i64 f, .slice na ln cn, .slice oa lo co] 25)).heap.size (w.alloc (.cells #[.int .i64 f, .slice na ln cn, .slice oa lo co] 25)) w1) => box7 hb)
  have HN : Hid (∀ w1, Below (w.alloc (.cells #[.int .i64 f, .slice na ln cn, .slice oa lo co] 25)).heap.size (w.alloc (.cells #[.int .i64 f, .slice na ln cn, .slice oa lo co] 25)) w1 → Hid (Tr7 w1 na oa ln lo N U)) := Lib.hid fun w1 h => Lib.hid (H.out.below (below_al h))
  have hb : Below (w.alloc (.cells #[.int .i64 f, .slice na ln cn, .slice oa lo co] 25)).heap.size (w.alloc (.cells #[.int .i64 f, .slice na ln cn, .slice oa lo co] 25)) (w.alloc (.cells #[.int .i64 f, .slice na ln cn, .slice oa lo co] 25)) := Below.refl _ _
  obtain ⟨x1, x2, x3, x4⟩ := BX.out _ hb
  have HPP : Hid (∀ w1, Below (w.alloc (.cells #[.int .i64 f, .slice na ln cn, .slice oa lo co] 25)).heap.size (w.alloc (.cells #[.int .i64 f, .slice na ln cn, .slice oa lo co] 25)) w1 → Hid (PlSl w1 pa lp D)) := Lib.hid fun w1 h => Lib.hid (HP.out.below (below_al h))
  clear H HP
  go_enter Tryz.func11, Tryz.ntmps11
  go_wp2_with (first
    | (go_at_call 13; refine (short_w _ _ _ _ _ _ _ _ (by unfold maxLen; omega) (by unfold maxLen; omega)).mono ?_; rw [hsh]; rintro e wl ⟨rfl, hv⟩; (try replace hbs := hbs.trans (hv.mono hbs.size)); (try replace hba := hba.trans (hv.mono hba.size)); (try replace hbc := hbc.trans (hv.mono hbc.size)); (try replace hbd := hbd.trans (hv.mono hbd.size)); replace hb := hb.trans (hv.mono hb.size); clear x1 x2 x3 x4; obtain ⟨x1, x2, x3, x4⟩ := BX.out _ hb)
    | (go_at_call 41; refine (slim_w pa lp cp D _ (by unfold maxLen; omega) (HPP.out _ hb)).mono ?_; rw [HSL.out]; rintro e wl ⟨rfl, rfl⟩)
    | (go_at_call 50; refine (swaps_w f zo zt na oa pa ln cn lo co lp cp N U D _ hl10 HR (HN.out _ hb) (HPP.out _ hb) HDY HRB HO.out HT.out HEQ.out).mono ?_; rintro e wl ⟨⟨r1, r2, re, rfl, hsr⟩, hv⟩; (try replace hbs := hbs.trans (hv.mono hbs.size)); (try replace hba := hba.trans (hv.mono hba.size)); (try replace hbc := hbc.trans (hv.mono hbc.size)); (try replace hbd := hbd.trans (hv.mono hbd.size)); replace hb := hb.trans (hv.mono hb.size); clear x1 x2 x3 x4; obtain ⟨x1, x2, x3, x4⟩ := BX.out _ hb; obtain ⟨rfl, rfl, rfl⟩ := hsr.some ha hbb HP1.out H1.out H2.out; clear hsr)
    | (go_at_call 17; refine (tree_w _ _ _ _ _ _ _ N U _ hls hlt (HN.out _ hb)).mono ?_; rintro e wl ⟨⟨rb, rfl, hrb⟩, hv⟩; obtain rfl : rb = true := hrb.2 HR.out; clear hrb; (try replace hbs := hbs.trans (hv.mono hbs.size)); (try replace hba := hba.trans (hv.mono hba.size)); (try replace hbc := hbc.trans (hv.mono hbc.size)); (try replace hbd := hbd.trans (hv.mono hbd.size)); replace hb := hb.trans (hv.mono hb.size); clear x1 x2 x3 x4; obtain ⟨x1, x2, x3, x4⟩ := BX.out _ hb)
    | (go_at_call 46; refine (rplan_w f na oa pa ln cn lo co lp cp D _ hlt (by omega) (Lib.hid fun d hd => by have := HN10.out d hd; omega) (HPP.out _ hb)).mono ?_; rw [HPB.out]; rintro e wl ⟨rfl, hv⟩; (try replace hbs := hbs.trans (hv.mono hbs.size)); (try replace hba := hba.trans (hv.mono hba.size)); (try replace hbc := hbc.trans (hv.mono hbc.size)); (try replace hbd := hbd.trans (hv.mono hbd.size)); replace hb := hb.trans (hv.mono hb.size); clear x1 x2 x3 x4; obtain ⟨x1, x2, x3, x4⟩ := BX.out _ hb)
    | (go_at_call 47; refine (rruns_w f na oa pa ln cn lo co lp cp N U D _ (by omega) HLS (HPP.out _ hb) (Lib.hid HR.out.w) (HN.out _ hb)).mono ?_; rw [HRB.out]; rintro e wl ⟨rfl, hv⟩; (try replace hbs := hbs.trans (hv.mono hbs.size)); (try replace hba := hba.trans (hv.mono hba.size)); (try replace hbc := hbc.trans (hv.mono hbc.size)); (try replace hbd := hbd.trans (hv.mono hbd.size)); replace hb := hb.trans (hv.mono hb.size); clear x1 x2 x3 x4; obtain ⟨x1, x2, x3, x4⟩ := BX.out _ hb)
    | (go_at_call_of 33 zo; refine (outlet_w f zo na oa ln cn lo co _ hlt).mono ?_; rw [HO.out]; rintro e wl ⟨rfl, hv⟩; (try replace hbs := hbs.trans (hv.mono hbs.size)); (try replace hba := hba.trans (hv.mono hba.size)); (try replace hbc := hbc.trans (hv.mono hbc.size)); (try replace hbd := hbd.trans (hv.mono hbd.size)); replace hb := hb.trans (hv.mono hb.size); clear x1 x2 x3 x4; obtain ⟨x1, x2, x3, x4⟩ := BX.out _ hb)
    | (go_at_call_of 33 zt; refine (outlet_w f zt na oa ln cn lo co _ hlt).mono ?_; rw [HT.out]; rintro e wl ⟨rfl, hv⟩; (try replace hbs := hbs.trans (hv.mono hbs.size)); (try replace hba := hba.trans (hv.mono hba.size)); (try replace hbc := hbc.trans (hv.mono hbc.size)); (try replace hbd := hbd.trans (hv.mono hbd.size)); replace hb := hb.trans (hv.mono hb.size); clear x1 x2 x3 x4; obtain ⟨x1, x2, x3, x4⟩ := BX.out _ hb)
    | (go_at_call 51; refine (rswaps_w f zo zt na oa pa ln cn lo co lp cp N U D _ hl10 HR (HN.out _ hb) (HPP.out _ hb) (Lib.hid fun d hd => (HDY.out d hd).1) HRB).mono ?_; rintro e wl ⟨⟨r3, r4, rB, rfl, hsr⟩, hv⟩; (try replace hbs := hbs.trans (hv.mono hbs.size)); (try replace hba := hba.trans (hv.mono hba.size)); (try replace hbc := hbc.trans (hv.mono hbc.size)); (try replace hbd := hbd.trans (hv.mono hbd.size)); replace hb := hb.trans (hv.mono hb.size); clear x1 x2 x3 x4; obtain ⟨x1, x2, x3, x4⟩ := BX.out _ hb; obtain ⟨hre, rfl, rfl⟩ := hsr.some ha hbb HP1.out H1.out H2.out; obtain rfl : rB = true := (by cases rB; cases hre; rfl); clear hre; clear hsr)
    | (go_at_call 14; refine (K.out _).mono ?_; rintro e wl ⟨rfl, hv⟩; (try replace hbs := hbs.trans (hv.mono hbs.size)); (try replace hba := hba.trans (hv.mono hba.size)); (try replace hbc := hbc.trans (hv.mono hbc.size)); (try replace hbd := hbd.trans (hv.mono hbd.size)); replace hb := hb.trans (hv.mono hb.size); clear x1 x2 x3 x4; obtain ⟨x1, x2, x3, x4⟩ := BX.out _ hb))
  go_ret
  exact ⟨rfl, below_al hb⟩

set_option maxHeartbeats 1000000 in
theorem lawsw_w (f : Int) (na oa pa : Option Addr) (ln cn lo co lp cp : Nat) (N : Nat → N2) (U : Nat → O3) (D : Nat → Dy) (zo zt : Int) (w : World) (hls : ln ≤ maxLen) (hlt : lo ≤ maxLen) (hlm : lp ≤ maxLen) (H : Tr7 w na oa ln lo N U) (HP : PlSl w pa lp D) (K : KnownOk) :
    Calls Tryz.prog 11 #[.agg #[.int .i64 f, .slice na ln cn, .slice oa lo co], .slice pa lp cp, .int .i64 zo, .int .i64 zt] w
      fun e w' => e = .returned (.bool true) ∧ Below w.heap.size w w' := by
  by_cases hq : ln ≤ 8 ∧ lo ≤ 10
  case neg => exact lawsw_a f na oa pa ln cn lo co lp cp N U D zo zt w hls hlt (Lib.hid H) (Lib.hid K) (Lib.hid HP) hq
  have l1 : ln ≤ 1000000 := by omega
  have l2 : lo ≤ 1000000 := by omega
  cases hsl : (decide (lp ≤ 12) && allN (fun d => decide ((D d).n ≤ 10)) lp) with
  | false => exact lawsw_b f na oa pa ln cn lo co lp cp N U D zo zt w l1 l2 (Lib.hid H) (Lib.hid K) (Lib.hid HP) hq hlm (Lib.hid hsl)
  | true =>
  simp only [Bool.and_eq_true, decide_eq_true_eq] at hsl
  have hlp := hsl.1
  have HN10 : Hid (∀ d, d < lp → (D d).n ≤ 10) := Lib.hid fun d hd => of_decide_eq_true ((allN_iff lp).1 hsl.2 d hd)
  by_cases HR : TreeS f ln lo N U
  case neg => exact lawsw_c1 f na oa pa ln cn lo co lp cp N U D zo zt w l1 l2 (Lib.hid H) (Lib.hid K) (Lib.hid HP) HN10 hlp hq (Lib.hid HR)
  cases hP : (decide (lp ≤ 10) && allN (fun d => dayB lo (D d).s (D d).n) lp) with
  | false => exact lawsw_c2 f na oa pa ln cn lo co lp cp N U D zo zt w l1 l2 (Lib.hid H) (Lib.hid K) (Lib.hid HP) HN10 hlp hq (Lib.hid HR) (Lib.hid hP)
  | true =>
  cases hr : allN (fun d => runD f ln lo N U (D d)) lp with
  | false => exact lawsw_c3 f na oa pa ln cn lo co lp cp N U D zo zt w l1 l2 (Lib.hid H) (Lib.hid K) (Lib.hid HP) HN10 hlp hq (Lib.hid HR) (Lib.hid hP) (Lib.hid hr)
  | true =>
  cases ho : fromB 0 ((lo : Int) - 1) zo with
  | false => exact lawsw_c4 f na oa pa ln cn lo co lp cp N U D zo zt w l1 l2 (Lib.hid H) (Lib.hid K) (Lib.hid HP) HN10 hlp hq (Lib.hid HR) (Lib.hid hP) (Lib.hid hr) (Lib.hid ho)
  | true =>
  cases ht : fromB 0 ((lo : Int) - 1) zt with
  | false => exact lawsw_c5 f na oa pa ln cn lo co lp cp N U D zo zt w l1 l2 (Lib.hid H) (Lib.hid K) (Lib.hid HP) HN10 hlp hq (Lib.hid HR) (Lib.hid hP) (Lib.hid hr) (Lib.hid ho) (Lib.hid ht)
  | true =>
  by_cases he : zo = zt
  · exact lawsw_c6 f na oa pa ln cn lo co lp cp N U D zo zt w l1 l2 (Lib.hid H) (Lib.hid K) (Lib.hid HP) HN10 hlp hq (Lib.hid HR) (Lib.hid hP) (Lib.hid hr) (Lib.hid ho) (Lib.hid ht) he
  rcases sw_cases (SwB f ln lo N U D zo zt) lp with ⟨a, b, h1, h2, h3, h4, h5⟩ | h
  · exact lawsw_e f na oa pa ln cn lo co lp cp N U D zo zt w l1 l2 (Lib.hid H) (Lib.hid K) (Lib.hid HP) HN10 hlp hq (Lib.hid HR) (Lib.hid hP) (Lib.hid hr) (Lib.hid ho) (Lib.hid ht) he a b h1 h2 h3 h4 h5
  · exact lawsw_d f na oa pa ln cn lo co lp cp N U D zo zt w l1 l2 (Lib.hid H) (Lib.hid K) (Lib.hid HP) HN10 hlp hq (Lib.hid HR) (Lib.hid hP) (Lib.hid hr) (Lib.hid ho) (Lib.hid ht) he h
end Go.Kn
