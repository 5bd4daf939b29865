/- Contracts of functions that the laws of this seat call, or the evaluator of closed calls and its runs. Conditions: as each theorem states them. -/
import Derived.Test.YtpfbfdcpibajoaaGreatDoorJI
set_option linter.unusedVariables false
set_option linter.unusedSimpArgs false
namespace Go.Kn
open Go Go.Proofs Go.RowKit

set_option maxRecDepth 100000 in
set_option maxHeartbeats 4000000 in
theorem lawsz_e1 (f : Int) (na oa pa : Option Addr) (ln cn lo co lp cp : Nat) (N : Nat → N2) (U : Nat → O3) (D : Nat → Dy) (zo zt : Int) (i j : Nat) (w : World) (hls : ln ≤ 1000000) (hlt : lo ≤ 1000000) (H : Hid (Tr7 w na oa ln lo N U)) (K : Hid KnownOk) (HP : Hid (PlSl w pa lp D)) (HN10 : Hid (∀ d, d < lp → (D d).n ≤ 10)) (hlp : lp ≤ 12) (hq : ln ≤ 8 ∧ lo ≤ 10) (HR : Hid (TreeS f ln lo N U)) (HPB : Hid ((decide (lp ≤ 10) && allN (fun d => dayB lo (D d).s (D d).n) lp) = true)) (HRB : Hid (allN (fun d => runD f ln lo N U (D d)) lp = true)) (HO : Hid (fromB 0 ((lo : Int) - 1) zo = true)) (HT : Hid (fromB 0 ((lo : Int) - 1) zt = true)) (heq : zo ≠ zt) (hi : i < lp) (hj : j < lp) (a b : Nat) (ha : a < lp) (hbb : b < lp) (hp : SwB f ln lo N U D zo zt a b = true) (h1 : ∀ b', b' < b → SwB f ln lo N U D zo zt a b' = false) (h2 : ∀ a' b', a' < a → b' < lp → SwB f ln lo N U D zo zt a' b' = false) (HSB : Hid (SwB f ln lo N U D zo zt i j = false)) :
    Calls Tryz.prog 12 #[.agg #[.int .i64 f, .slice na ln cn, .slice oa lo co], .slice pa lp cp, .int .i64 zo, .int .i64 zt, .int .i64 (i : Int), .int .i64 (j : Int)] w
      fun e w' => e = .returned (.bool true) ∧ Below w.heap.size w w' := by
  have hsh : decide (ln ≤ 8 ∧ lo ≤ 10) = true := decide_eq_true hq
  have HSL : Hid ((decide (lp ≤ 12) && allN (fun d => decide ((D d).n ≤ 10)) lp) = true) := Lib.hid (by rw [decide_eq_true hlp, Bool.true_and, allN_iff]; exact fun i hi => decide_eq_true (HN10.out i hi))
  have HLS : Hid (∀ d, d < lp → (D d).n ≤ 1000000 ∧ LsP lo (D d).n (D d).s) := Lib.hid fun d hd => by
    have h := HPB.out
    simp only [Bool.and_eq_true] at h
    exact ⟨by have := HN10.out d hd; omega, dayB_ls ((allN_iff lp).1 h.2 d hd)⟩
  have q0 : (zo == zt) = false := by rw [beq_eq_false_iff_ne]; exact heq
  have HEQ := Lib.hid heq
  clear heq
  have HDY : Hid (∀ d, d < lp → dayB lo (D d).s (D d).n = true ∧ (D d).n ≤ 1000000) := Lib.hid fun d hd => by
    have h := HPB.out
    simp only [Bool.and_eq_true] at h
    exact ⟨(allN_iff lp).1 h.2 d hd, by have := HN10.out d hd; omega⟩
  have HDB : Hid (∀ d, d < lp → dayB lo (D d).s (D d).n = true) := Lib.hid fun d hd => (HDY.out d hd).1
  have hl10 : lp ≤ 10 := by have h := HPB.out; simp only [Bool.and_eq_true, decide_eq_true_eq] at h; exact h.1
  have m1 : (0 : Int) ≤ (i : Int) := by omega
  have m2 : (i : Int) < (lp : Int) := by omega
  have m3 : (0 : Int) ≤ (j : Int) := by omega
  have m4 : (j : Int) < (lp : Int) := by omega
  have HI := Lib.hid hi
  have HJ := Lib.hid hj
  clear hi hj
  have k1 : (0 : Int) ≤ (a : Int) := by omega
  have k2 : (a : Int) < (lp : Int) := by omega
  have k3 : (0 : Int) ≤ (b : Int) := by omega
  have k4 : (b : Int) < (lp : Int) := by omega
  have HA := Lib.hid ha
  have HB := Lib.hid hbb
  have HP1 := Lib.hid hp
  have H1 := Lib.hid h1
  have H2 := Lib.hid h2
  clear hp h1 h2 ha hbb
  have HZO : Hid (0 ≤ zo ∧ zo < (lo : Int)) := Lib.hid (by have := HO.out; simp only [fromB, decide_eq_true_eq] at this; omega)
  have HZT : Hid (0 ≤ zt ∧ zt < (lo : Int)) := Lib.hid (by have := HT.out; simp only [fromB, decide_eq_true_eq] at this; omega)
  have HBK : Hid (∀ {E : Nat → Dy}, SwE lo lp D E zo zt a b → SwB f ln lo N U E zt zo a b = true) := Lib.hid fun hE => swE_back hE HA.out HB.out HEQ.out HZO.out HZT.out HP1.out HRB.out
  have BX := Lib.hid (fun (w1 : World) (hb : Below (w.alloc (.cells #[.int .i64 f, .slice na ln cn, .slice oa lo co] 25)).heap.size (w.alloc (.cells #[.int .i64 f, .slice na ln cn, .slice oa lo co] 25)) w1) => box7 hb)
  have HN : Hid (∀ w1, Below (w.alloc (.cells #[.int .i64 f, .slice na ln cn, .slice oa lo co] 25)).heap.size (w.alloc (.cells #[.int .i64 f, .slice na ln cn, .slice oa lo co] 25)) w1 → Hid (Tr7 w1 na oa ln lo N U)) := Lib.hid fun w1 h => Lib.hid (H.out.below (below_al h))
  have hb : Below (w.alloc (.cells #[.int .i64 f, .slice na ln cn, .slice oa lo co] 25)).heap.size (w.alloc (.cells #[.int .i64 f, .slice na ln cn, .slice oa lo co] 25)) (w.alloc (.cells #[.int .i64 f, .slice na ln cn, .slice oa lo co] 25)) := Below.refl _ _
  obtain ⟨x1, x2, x3, x4⟩ := BX.out _ hb
  have HPP : Hid (∀ w1, Below (w.alloc (.cells #[.int .i64 f, .slice na ln cn, .slice oa lo co] 25)).heap.size (w.alloc (.cells #[.int .i64 f, .slice na ln cn, .slice oa lo co] 25)) w1 → Hid (PlSl w1 pa lp D)) := Lib.hid fun w1 h => Lib.hid (HP.out.below (below_al h))
  clear H HP
  go_enter Tryz.func12, Tryz.ntmps12
  go_wp2_with (first
    | (go_at_call 13; refine (short_w _ _ _ _ _ _ _ _ (by unfold maxLen; omega) (by unfold maxLen; omega)).mono ?_; rw [hsh]; rintro e wl ⟨rfl, hv⟩; (try replace hbs := hbs.trans (hv.mono hbs.size)); replace hb := hb.trans (hv.mono hb.size); clear x1 x2 x3 x4; obtain ⟨x1, x2, x3, x4⟩ := BX.out _ hb)
    | (go_at_call 41; refine (slim_w pa lp cp D _ (by unfold maxLen; omega) (HPP.out _ hb)).mono ?_; rw [HSL.out]; rintro e wl ⟨rfl, rfl⟩)
    | (go_at_call 17; refine (tree_w _ _ _ _ _ _ _ N U _ hls hlt (HN.out _ hb)).mono ?_; rintro e wl ⟨⟨rb, rfl, hrb⟩, hv⟩; obtain rfl : rb = true := hrb.2 HR.out; clear hrb; (try replace hbs := hbs.trans (hv.mono hbs.size)); replace hb := hb.trans (hv.mono hb.size); clear x1 x2 x3 x4; obtain ⟨x1, x2, x3, x4⟩ := BX.out _ hb)
    | (go_at_call 46; refine (rplan_w f na oa pa ln cn lo co lp cp D _ hlt (by omega) (Lib.hid fun d hd => by have := HN10.out d hd; omega) (HPP.out _ hb)).mono ?_; rw [HPB.out]; rintro e wl ⟨rfl, hv⟩; (try replace hbs := hbs.trans (hv.mono hbs.size)); replace hb := hb.trans (hv.mono hb.size); clear x1 x2 x3 x4; obtain ⟨x1, x2, x3, x4⟩ := BX.out _ hb)
    | (go_at_call 47; refine (rruns_w f na oa pa ln cn lo co lp cp N U D _ (by omega) HLS (HPP.out _ hb) (Lib.hid HR.out.w) (HN.out _ hb)).mono ?_; rw [HRB.out]; rintro e wl ⟨rfl, hv⟩; (try replace hbs := hbs.trans (hv.mono hbs.size)); replace hb := hb.trans (hv.mono hb.size); clear x1 x2 x3 x4; obtain ⟨x1, x2, x3, x4⟩ := BX.out _ hb)
    | (go_at_call_of 33 zo; refine (outlet_w f zo na oa ln cn lo co _ hlt).mono ?_; rw [HO.out]; rintro e wl ⟨rfl, hv⟩; (try replace hbs := hbs.trans (hv.mono hbs.size)); replace hb := hb.trans (hv.mono hb.size); clear x1 x2 x3 x4; obtain ⟨x1, x2, x3, x4⟩ := BX.out _ hb)
    | (go_at_call_of 33 zt; refine (outlet_w f zt na oa ln cn lo co _ hlt).mono ?_; rw [HT.out]; rintro e wl ⟨rfl, hv⟩; (try replace hbs := hbs.trans (hv.mono hbs.size)); replace hb := hb.trans (hv.mono hb.size); clear x1 x2 x3 x4; obtain ⟨x1, x2, x3, x4⟩ := BX.out _ hb)
    | (go_at_call_of 50 pa; refine (swaps_w f zo zt na oa pa ln cn lo co lp cp N U D _ hl10 HR (HN.out _ hb) (HPP.out _ hb) HDY HRB HO.out HT.out HEQ.out).mono ?_; rintro e wl ⟨⟨r1, r2, re, rfl, hsr⟩, hv⟩; (try replace hbs := hbs.trans (hv.mono hbs.size)); replace hb := hb.trans (hv.mono hb.size); clear x1 x2 x3 x4; obtain ⟨x1, x2, x3, x4⟩ := BX.out _ hb; obtain ⟨rfl, rfl, rfl⟩ := hsr.some HA.out HB.out HP1.out H1.out H2.out; clear hsr)
    | (go_at_call_of 52 i; refine (rswapped_w f zo zt na oa pa ln cn lo co lp cp i j N U D _ hl10 HI.out HJ.out HR (HN.out _ hb) (HPP.out _ hb) HDB HRB).mono ?_; rintro e wl ⟨⟨oi, li, ci, B1, rfl, hB1, hE1⟩, hv⟩; clear hE1; (try replace hbs := hbs.trans (hv.mono hbs.size)); replace hb := hb.trans (hv.mono hb.size); clear x1 x2 x3 x4; obtain ⟨x1, x2, x3, x4⟩ := BX.out _ hb; rw [HSB.out] at hB1; subst B1)
    | (go_at_call_of 52 a; refine (rswapped_w f zo zt na oa pa ln cn lo co lp cp a b N U D _ hl10 HA.out HB.out HR (HN.out _ hb) (HPP.out _ hb) HDB HRB).mono ?_; rintro e wl ⟨⟨oo, lq, cc, B2, rfl, hB2, hE2⟩, hv⟩; (try replace hbs := hbs.trans (hv.mono hbs.size)); replace hb := hb.trans (hv.mono hb.size); clear x1 x2 x3 x4; obtain ⟨x1, x2, x3, x4⟩ := BX.out _ hb; rw [HP1.out] at hB2; subst B2; obtain ⟨hlq, E, hPE, hSE⟩ := hE2 rfl; clear hE2; subst lq; have HPE := Lib.hid hPE; have HSE := Lib.hid hSE; clear hPE hSE; have hbs : Below wl.heap.size wl wl := Below.refl _ _; have HRE : Hid (allN (fun d => runD f ln lo N U (E d)) lp = true) := Lib.hid (swE_allrun HSE.out HA.out HB.out HP1.out HRB.out); have HEB : Hid (∀ d, d < lp → dayB lo (E d).s (E d).n = true) := Lib.hid HSE.out.ok; have HEY : Hid (∀ d, d < lp → dayB lo (E d).s (E d).n = true ∧ (E d).n ≤ 1000000) := Lib.hid fun d hd => ⟨HEB.out d hd, by have := (dayB_len _ (HEB.out d hd)).1; omega⟩)
    | (go_at_call 43; refine (druns_w f na oa oo ln cn lo co lp cc N U E _ hl10 HR (HN.out _ hb) (Lib.hid (HPE.out.below hbs)) HEB).mono ?_; rw [HRE.out]; rintro e wm ⟨rfl, hv⟩; (try replace hbs := hbs.trans (hv.mono hbs.size)); replace hb := hb.trans (hv.mono hb.size); clear x1 x2 x3 x4; obtain ⟨x1, x2, x3, x4⟩ := BX.out _ hb)
    | (go_at_call_of 50 oo; refine (swaps_w f zt zo na oa oo ln cn lo co lp cc N U E _ hl10 HR (HN.out _ hb) (Lib.hid (HPE.out.below hbs)) HEY HRE HT.out HO.out (fun e => HEQ.out e.symm)).mono ?_; rintro e wn ⟨⟨r5, r6, rg, rfl, hsr⟩, hv⟩; (try replace hbs := hbs.trans (hv.mono hbs.size)); replace hb := hb.trans (hv.mono hb.size); clear x1 x2 x3 x4; obtain ⟨x1, x2, x3, x4⟩ := BX.out _ hb; obtain rfl : rg = 0 := (by rcases hsr with ⟨h, _⟩ | ⟨_, _, _, h⟩; exact h; exact absurd (HBK.out HSE.out) (by rw [h a b HA.out HB.out]; exact fun h => by cases h)); clear hsr))
  have HB0 := Lib.hid hb
  have HBS := Lib.hid hbs
  clear hb hbs x1 x2 x3 x4
  go_loopw [25] (fun ii wr => ∃ k : Nat, k ≤ lo ∧ ii = .int .i64 (k : Int) ∧ Below wn.heap.size wn wr) (fun ii _ => lo - (Go.RowKit.intOf ii).toNat)
  case atStart => exact ⟨0, Nat.zero_le _, rfl, Below.refl _ _⟩
  case round =>
    obtain ⟨k, hk, rfl, hbr⟩ := hrel
    have hbq := HB0.out.trans (hbr.mono HB0.out.size)
    have hbt := HBS.out.trans (hbr.mono HBS.out.size)
    obtain ⟨x1, x2, x3, x4⟩ := BX.out _ hbq
    have HBR := Lib.hid hbr
    clear hbr
    by_cases hlt2 : k < lo
    · have n1 : (0 : Int) ≤ (k : Int) := by omega
      have n2 : (k : Int) < (lo : Int) := by omega
      have HEN : Hid (∀ d, d < lp → (E d).n ≤ 1000000) := Lib.hid fun d hd => (HEY.out d hd).2
      have HDN : Hid (∀ d, d < lp → (D d).n ≤ 1000000) := Lib.hid fun d hd => (HDY.out d hd).2
      have HDE : Hid (cntB (dys E (k : Int)) lp = cntB (dys D (k : Int)) lp) := Lib.hid (swE_days HSE.out HA.out HB.out HEQ.out HP1.out hlt2)
      obtain ⟨c, hc⟩ : ∃ c, cntB (dys D (k : Int)) lp = c := ⟨_, rfl⟩
      have HC1 := Lib.hid hc
      have HC2 : Hid (cntB (dys E (k : Int)) lp = c) := Lib.hid (HDE.out.trans hc)
      clear hc
      go_wp2_with (first
        | (go_at_call_of 49 oo; refine (days_w oo lp cc E k _ (by omega) HEN (Lib.hid (HPE.out.below hbt))).mono ?_; rw [HC2.out]; rintro e wp ⟨rfl, hv⟩; replace hbt := hbt.trans (hv.mono hbt.size); replace hbq := hbq.trans (hv.mono hbq.size); replace HBR := Lib.hid (HBR.out.trans (hv.mono HBR.out.size)))
        | (go_at_call_of 49 pa; refine (days_w pa lp cp D k _ (by omega) HDN (HPP.out _ hbq)).mono ?_; rw [HC1.out]; rintro e wp ⟨rfl, hv⟩; replace hbt := hbt.trans (hv.mono hbt.size); replace hbq := hbq.trans (hv.mono hbq.size); replace HBR := Lib.hid (HBR.out.trans (hv.mono HBR.out.size))))
      go_roundw
      case rel => exact ⟨k + 1, by omega, by go_num, HBR.out⟩
      case measure => simp [Go.RowKit.intOf]; omega
    · obtain rfl : k = lo := by omega
      go_wp2_with (go_at_call 14; refine (K.out _).mono ?_; rintro e wp ⟨rfl, hv⟩; replace hbq := hbq.trans (hv.mono hbq.size))
      go_ret
      exact ⟨rfl, below_al hbq⟩

set_option maxRecDepth 100000 in
set_option maxHeartbeats 4000000 in
theorem lawsz_e2 (f : Int) (na oa pa : Option Addr) (ln cn lo co lp cp : Nat) (N : Nat → N2) (U : Nat → O3) (D : Nat → Dy) (zo zt : Int) (i j : Nat) (w : World) (hls : ln ≤ 1000000) (hlt : lo ≤ 1000000) (H : Hid (Tr7 w na oa ln lo N U)) (K : Hid KnownOk) (HP : Hid (PlSl w pa lp D)) (HN10 : Hid (∀ d, d < lp → (D d).n ≤ 10)) (hlp : lp ≤ 12) (hq : ln ≤ 8 ∧ lo ≤ 10) (HR : Hid (TreeS f ln lo N U)) (HPB : Hid ((decide (lp ≤ 10) && allN (fun d => dayB lo (D d).s (D d).n) lp) = true)) (HRB : Hid (allN (fun d => runD f ln lo N U (D d)) lp = true)) (HO : Hid (fromB 0 ((lo : Int) - 1) zo = true)) (HT : Hid (fromB 0 ((lo : Int) - 1) zt = true)) (heq : zo ≠ zt) (hi : i < lp) (hj : j < lp) (a b : Nat) (ha : a < lp) (hbb : b < lp) (hp : SwB f ln lo N U D zo zt a b = true) (h1 : ∀ b', b' < b → SwB f ln lo N U D zo zt a b' = false) (h2 : ∀ a' b', a' < a → b' < lp → SwB f ln lo N U D zo zt a' b' = false) (HSB : Hid (SwB f ln lo N U D zo zt i j = true)) (hia : a < i) :
    Calls Tryz.prog 12 #[.agg #[.int .i64 f, .slice na ln cn, .slice oa lo co], .slice pa lp cp, .int .i64 zo, .int .i64 zt, .int .i64 (i : Int), .int .i64 (j : Int)] w
      fun e w' => e = .returned (.bool true) ∧ Below w.heap.size w w' := by
  have hsh : decide (ln ≤ 8 ∧ lo ≤ 10) = true := decide_eq_true hq
  have HSL : Hid ((decide (lp ≤ 12) && allN (fun d => decide ((D d).n ≤ 10)) lp) = true) := Lib.hid (by rw [decide_eq_true hlp, Bool.true_and, allN_iff]; exact fun i hi => decide_eq_true (HN10.out i hi))
  have HLS : Hid (∀ d, d < lp → (D d).n ≤ 1000000 ∧ LsP lo (D d).n (D d).s) := Lib.hid fun d hd => by
    have h := HPB.out
    simp only [Bool.and_eq_true] at h
    exact ⟨by have := HN10.out d hd; omega, dayB_ls ((allN_iff lp).1 h.2 d hd)⟩
  have q0 : (zo == zt) = false := by rw [beq_eq_false_iff_ne]; exact heq
  have HEQ := Lib.hid heq
  clear heq
  have HDY : Hid (∀ d, d < lp → dayB lo (D d).s (D d).n = true ∧ (D d).n ≤ 1000000) := Lib.hid fun d hd => by
    have h := HPB.out
    simp only [Bool.and_eq_true] at h
    exact ⟨(allN_iff lp).1 h.2 d hd, by have := HN10.out d hd; omega⟩
  have HDB : Hid (∀ d, d < lp → dayB lo (D d).s (D d).n = true) := Lib.hid fun d hd => (HDY.out d hd).1
  have hl10 : lp ≤ 10 := by have h := HPB.out; simp only [Bool.and_eq_true, decide_eq_true_eq] at h; exact h.1
  have m1 : (0 : Int) ≤ (i : Int) := by omega
  have m2 : (i : Int) < (lp : Int) := by omega
  have m3 : (0 : Int) ≤ (j : Int) := by omega
  have m4 : (j : Int) < (lp : Int) := by omega
  have HI := Lib.hid hi
  have HJ := Lib.hid hj
  clear hi hj
  have k1 : (0 : Int) ≤ (a : Int) := by omega
  have k2 : (a : Int) < (lp : Int) := by omega
  have k3 : (0 : Int) ≤ (b : Int) := by omega
  have k4 : (b : Int) < (lp : Int) := by omega
  have HA := Lib.hid ha
  have HB := Lib.hid hbb
  have HP1 := Lib.hid hp
  have H1 := Lib.hid h1
  have H2 := Lib.hid h2
  clear hp h1 h2 ha hbb
  have HZO : Hid (0 ≤ zo ∧ zo < (lo : Int)) := Lib.hid (by have := HO.out; simp only [fromB, decide_eq_true_eq] at this; omega)
  have HZT : Hid (0 ≤ zt ∧ zt < (lo : Int)) := Lib.hid (by have := HT.out; simp only [fromB, decide_eq_true_eq] at this; omega)
  have HBK : Hid (∀ {E : Nat → Dy}, SwE lo lp D E zo zt a b → SwB f ln lo N U E zt zo a b = true) := Lib.hid fun hE => swE_back hE HA.out HB.out HEQ.out HZO.out HZT.out HP1.out HRB.out
  have m5 : (a : Int) < (i : Int) := by omega
  have m6 : ¬ (i : Int) < (a : Int) := by omega
  have m7 : ((i : Int) == (a : Int)) = false := by rw [beq_eq_false_iff_ne]; omega
  clear hia
  have BX := Lib.hid (fun (w1 : World) (hb : Below (w.alloc (.cells #[.int .i64 f, .slice na ln cn, .slice oa lo co] 25)).heap.size (w.alloc (.cells #[.int .i64 f, .slice na ln cn, .slice oa lo co] 25)) w1) => box7 hb)
  have HN : Hid (∀ w1, Below (w.alloc (.cells #[.int .i64 f, .slice na ln cn, .slice oa lo co] 25)).heap.size (w.alloc (.cells #[.int .i64 f, .slice na ln cn, .slice oa lo co] 25)) w1 → Hid (Tr7 w1 na oa ln lo N U)) := Lib.hid fun w1 h => Lib.hid (H.out.below (below_al h))
  have hb : Below (w.alloc (.cells #[.int .i64 f, .slice na ln cn, .slice oa lo co] 25)).heap.size (w.alloc (.cells #[.int .i64 f, .slice na ln cn, .slice oa lo co] 25)) (w.alloc (.cells #[.int .i64 f, .slice na ln cn, .slice oa lo co] 25)) := Below.refl _ _
  obtain ⟨x1, x2, x3, x4⟩ := BX.out _ hb
  have HPP : Hid (∀ w1, Below (w.alloc (.cells #[.int .i64 f, .slice na ln cn, .slice oa lo co] 25)).heap.size (w.alloc (.cells #[.int .i64 f, .slice na ln cn, .slice oa lo co] 25)) w1 → Hid (PlSl w1 pa lp D)) := Lib.hid fun w1 h => Lib.hid (HP.out.below (below_al h))
  clear H HP
  go_enter Tryz.func12, Tryz.ntmps12
  go_wp2_with (first
    | (go_at_call 13; refine (short_w _ _ _ _ _ _ _ _ (by unfold maxLen; omega) (by unfold maxLen; omega)).mono ?_; rw [hsh]; rintro e wl ⟨rfl, hv⟩; (try replace hbs := hbs.trans (hv.mono hbs.size)); replace hb := hb.trans (hv.mono hb.size); clear x1 x2 x3 x4; obtain ⟨x1, x2, x3, x4⟩ := BX.out _ hb)
    | (go_at_call 41; refine (slim_w pa lp cp D _ (by unfold maxLen; omega) (HPP.out _ hb)).mono ?_; rw [HSL.out]; rintro e wl ⟨rfl, rfl⟩)
    | (go_at_call 17; refine (tree_w _ _ _ _ _ _ _ N U _ hls hlt (HN.out _ hb)).mono ?_; rintro e wl ⟨⟨rb, rfl, hrb⟩, hv⟩; obtain rfl : rb = true := hrb.2 HR.out; clear hrb; (try replace hbs := hbs.trans (hv.mono hbs.size)); replace hb := hb.trans (hv.mono hb.size); clear x1 x2 x3 x4; obtain ⟨x1, x2, x3, x4⟩ := BX.out _ hb)
    | (go_at_call 46; refine (rplan_w f na oa pa ln cn lo co lp cp D _ hlt (by omega) (Lib.hid fun d hd => by have := HN10.out d hd; omega) (HPP.out _ hb)).mono ?_; rw [HPB.out]; rintro e wl ⟨rfl, hv⟩; (try replace hbs := hbs.trans (hv.mono hbs.size)); replace hb := hb.trans (hv.mono hb.size); clear x1 x2 x3 x4; obtain ⟨x1, x2, x3, x4⟩ := BX.out _ hb)
    | (go_at_call 47; refine (rruns_w f na oa pa ln cn lo co lp cp N U D _ (by omega) HLS (HPP.out _ hb) (Lib.hid HR.out.w) (HN.out _ hb)).mono ?_; rw [HRB.out]; rintro e wl ⟨rfl, hv⟩; (try replace hbs := hbs.trans (hv.mono hbs.size)); replace hb := hb.trans (hv.mono hb.size); clear x1 x2 x3 x4; obtain ⟨x1, x2, x3, x4⟩ := BX.out _ hb)
    | (go_at_call_of 33 zo; refine (outlet_w f zo na oa ln cn lo co _ hlt).mono ?_; rw [HO.out]; rintro e wl ⟨rfl, hv⟩; (try replace hbs := hbs.trans (hv.mono hbs.size)); replace hb := hb.trans (hv.mono hb.size); clear x1 x2 x3 x4; obtain ⟨x1, x2, x3, x4⟩ := BX.out _ hb)
    | (go_at_call_of 33 zt; refine (outlet_w f zt na oa ln cn lo co _ hlt).mono ?_; rw [HT.out]; rintro e wl ⟨rfl, hv⟩; (try replace hbs := hbs.trans (hv.mono hbs.size)); replace hb := hb.trans (hv.mono hb.size); clear x1 x2 x3 x4; obtain ⟨x1, x2, x3, x4⟩ := BX.out _ hb)
    | (go_at_call_of 50 pa; refine (swaps_w f zo zt na oa pa ln cn lo co lp cp N U D _ hl10 HR (HN.out _ hb) (HPP.out _ hb) HDY HRB HO.out HT.out HEQ.out).mono ?_; rintro e wl ⟨⟨r1, r2, re, rfl, hsr⟩, hv⟩; (try replace hbs := hbs.trans (hv.mono hbs.size)); replace hb := hb.trans (hv.mono hb.size); clear x1 x2 x3 x4; obtain ⟨x1, x2, x3, x4⟩ := BX.out _ hb; obtain ⟨rfl, rfl, rfl⟩ := hsr.some HA.out HB.out HP1.out H1.out H2.out; clear hsr)
    | (go_at_call_of 52 i; refine (rswapped_w f zo zt na oa pa ln cn lo co lp cp i j N U D _ hl10 HI.out HJ.out HR (HN.out _ hb) (HPP.out _ hb) HDB HRB).mono ?_; rintro e wl ⟨⟨oi, li, ci, B1, rfl, hB1, hE1⟩, hv⟩; clear hE1; (try replace hbs := hbs.trans (hv.mono hbs.size)); replace hb := hb.trans (hv.mono hb.size); clear x1 x2 x3 x4; obtain ⟨x1, x2, x3, x4⟩ := BX.out _ hb; rw [HSB.out] at hB1; subst B1)
    | (go_at_call_of 52 a; refine (rswapped_w f zo zt na oa pa ln cn lo co lp cp a b N U D _ hl10 HA.out HB.out HR (HN.out _ hb) (HPP.out _ hb) HDB HRB).mono ?_; rintro e wl ⟨⟨oo, lq, cc, B2, rfl, hB2, hE2⟩, hv⟩; (try replace hbs := hbs.trans (hv.mono hbs.size)); replace hb := hb.trans (hv.mono hb.size); clear x1 x2 x3 x4; obtain ⟨x1, x2, x3, x4⟩ := BX.out _ hb; rw [HP1.out] at hB2; subst B2; obtain ⟨hlq, E, hPE, hSE⟩ := hE2 rfl; clear hE2; subst lq; have HPE := Lib.hid hPE; have HSE := Lib.hid hSE; clear hPE hSE; have hbs : Below wl.heap.size wl wl := Below.refl _ _; have HRE : Hid (allN (fun d => runD f ln lo N U (E d)) lp = true) := Lib.hid (swE_allrun HSE.out HA.out HB.out HP1.out HRB.out); have HEB : Hid (∀ d, d < lp → dayB lo (E d).s (E d).n = true) := Lib.hid HSE.out.ok; have HEY : Hid (∀ d, d < lp → dayB lo (E d).s (E d).n = true ∧ (E d).n ≤ 1000000) := Lib.hid fun d hd => ⟨HEB.out d hd, by have := (dayB_len _ (HEB.out d hd)).1; omega⟩)
    | (go_at_call 43; refine (druns_w f na oa oo ln cn lo co lp cc N U E _ hl10 HR (HN.out _ hb) (Lib.hid (HPE.out.below hbs)) HEB).mono ?_; rw [HRE.out]; rintro e wm ⟨rfl, hv⟩; (try replace hbs := hbs.trans (hv.mono hbs.size)); replace hb := hb.trans (hv.mono hb.size); clear x1 x2 x3 x4; obtain ⟨x1, x2, x3, x4⟩ := BX.out _ hb)
    | (go_at_call_of 50 oo; refine (swaps_w f zt zo na oa oo ln cn lo co lp cc N U E _ hl10 HR (HN.out _ hb) (Lib.hid (HPE.out.below hbs)) HEY HRE HT.out HO.out (fun e => HEQ.out e.symm)).mono ?_; rintro e wn ⟨⟨r5, r6, rg, rfl, hsr⟩, hv⟩; (try replace hbs := hbs.trans (hv.mono hbs.size)); replace hb := hb.trans (hv.mono hb.size); clear x1 x2 x3 x4; obtain ⟨x1, x2, x3, x4⟩ := BX.out _ hb; obtain rfl : rg = 0 := (by rcases hsr with ⟨h, _⟩ | ⟨_, _, _, h⟩; exact h; exact absurd (HBK.out HSE.out) (by rw [h a b HA.out HB.out]; exact fun h => by cases h)); clear hsr))
  have HB0 := Lib.hid hb
  have HBS := Lib.hid hbs
  clear hb hbs x1 x2 x3 x4
  go_loopw [25] (fun ii wr => ∃ k : Nat, k ≤ lo ∧ ii = .int .i64 (k : Int) ∧ Below wn.heap.size wn wr) (fun ii _ => lo - (Go.RowKit.intOf ii).toNat)
  case atStart => exact ⟨0, Nat.zero_le _, rfl, Below.refl _ _⟩
  case round =>
    obtain ⟨k, hk, rfl, hbr⟩ := hrel
    have hbq := HB0.out.trans (hbr.mono HB0.out.size)
    have hbt := HBS.out.trans (hbr.mono HBS.out.size)
    obtain ⟨x1, x2, x3, x4⟩ := BX.out _ hbq
    have HBR := Lib.hid hbr
    clear hbr
    by_cases hlt2 : k < lo
    · have n1 : (0 : Int) ≤ (k : Int) := by omega
      have n2 : (k : Int) < (lo : Int) := by omega
      have HEN : Hid (∀ d, d < lp → (E d).n ≤ 1000000) := Lib.hid fun d hd => (HEY.out d hd).2
      have HDN : Hid (∀ d, d < lp → (D d).n ≤ 1000000) := Lib.hid fun d hd => (HDY.out d hd).2
      have HDE : Hid (cntB (dys E (k : Int)) lp = cntB (dys D (k : Int)) lp) := Lib.hid (swE_days HSE.out HA.out HB.out HEQ.out HP1.out hlt2)
      obtain ⟨c, hc⟩ : ∃ c, cntB (dys D (k : Int)) lp = c := ⟨_, rfl⟩
      have HC1 := Lib.hid hc
      have HC2 : Hid (cntB (dys E (k : Int)) lp = c) := Lib.hid (HDE.out.trans hc)
      clear hc
      go_wp2_with (first
        | (go_at_call_of 49 oo; refine (days_w oo lp cc E k _ (by omega) HEN (Lib.hid (HPE.out.below hbt))).mono ?_; rw [HC2.out]; rintro e wp ⟨rfl, hv⟩; replace hbt := hbt.trans (hv.mono hbt.size); replace hbq := hbq.trans (hv.mono hbq.size); replace HBR := Lib.hid (HBR.out.trans (hv.mono HBR.out.size)))
        | (go_at_call_of 49 pa; refine (days_w pa lp cp D k _ (by omega) HDN (HPP.out _ hbq)).mono ?_; rw [HC1.out]; rintro e wp ⟨rfl, hv⟩; replace hbt := hbt.trans (hv.mono hbt.size); replace hbq := hbq.trans (hv.mono hbq.size); replace HBR := Lib.hid (HBR.out.trans (hv.mono HBR.out.size))))
      go_roundw
      case rel => exact ⟨k + 1, by omega, by go_num, HBR.out⟩
      case measure => simp [Go.RowKit.intOf]; omega
    · obtain rfl : k = lo := by omega
      go_wp2_with (go_at_call 14; refine (K.out _).mono ?_; rintro e wp ⟨rfl, hv⟩; replace hbq := hbq.trans (hv.mono hbq.size))
      go_ret
      exact ⟨rfl, below_al hbq⟩

set_option maxRecDepth 100000 in
set_option maxHeartbeats 4000000 in
theorem lawsz_e3 (f : Int) (na oa pa : Option Addr) (ln cn lo co lp cp : Nat) (N : Nat → N2) (U : Nat → O3) (D : Nat → Dy) (zo zt : Int) (i j : Nat) (w : World) (hls : ln ≤ 1000000) (hlt : lo ≤ 1000000) (H : Hid (Tr7 w na oa ln lo N U)) (K : Hid KnownOk) (HP : Hid (PlSl w pa lp D)) (HN10 : Hid (∀ d, d < lp → (D d).n ≤ 10)) (hlp : lp ≤ 12) (hq : ln ≤ 8 ∧ lo ≤ 10) (HR : Hid (TreeS f ln lo N U)) (HPB : Hid ((decide (lp ≤ 10) && allN (fun d => dayB lo (D d).s (D d).n) lp) = true)) (HRB : Hid (allN (fun d => runD f ln lo N U (D d)) lp = true)) (HO : Hid (fromB 0 ((lo : Int) - 1) zo = true)) (HT : Hid (fromB 0 ((lo : Int) - 1) zt = true)) (heq : zo ≠ zt) (hi : i < lp) (hj : j < lp) (a b : Nat) (ha : a < lp) (hbb : b < lp) (hp : SwB f ln lo N U D zo zt a b = true) (h1 : ∀ b', b' < b → SwB f ln lo N U D zo zt a b' = false) (h2 : ∀ a' b', a' < a → b' < lp → SwB f ln lo N U D zo zt a' b' = false) (HSB : Hid (SwB f ln lo N U D zo zt i j = true)) (hia : i = a) (hjb : b ≤ j) :
    Calls Tryz.prog 12 #[.agg #[.int .i64 f, .slice na ln cn, .slice oa lo co], .slice pa lp cp, .int .i64 zo, .int .i64 zt, .int .i64 (i : Int), .int .i64 (j : Int)] w
      fun e w' => e = .returned (.bool true) ∧ Below w.heap.size w w' := by
  have hsh : decide (ln ≤ 8 ∧ lo ≤ 10) = true := decide_eq_true hq
  have HSL : Hid ((decide (lp ≤ 12) && allN (fun d => decide ((D d).n ≤ 10)) lp) = true) := Lib.hid (by rw [decide_eq_true hlp, Bool.true_and, allN_iff]; exact fun i hi => decide_eq_true (HN10.out i hi))
  have HLS : Hid (∀ d, d < lp → (D d).n ≤ 1000000 ∧ LsP lo (D d).n (D d).s) := Lib.hid fun d hd => by
    have h := HPB.out
    simp only [Bool.and_eq_true] at h
    exact ⟨by have := HN10.out d hd; omega, dayB_ls ((allN_iff lp).1 h.2 d hd)⟩
  have q0 : (zo == zt) = false := by rw [beq_eq_false_iff_ne]; exact heq
  have HEQ := Lib.hid heq
  clear heq
  have HDY : Hid (∀ d, d < lp → dayB lo (D d).s (D d).n = true ∧ (D d).n ≤ 1000000) := Lib.hid fun d hd => by
    have h := HPB.out
    simp only [Bool.and_eq_true] at h
    exact ⟨(allN_iff lp).1 h.2 d hd, by have := HN10.out d hd; omega⟩
  have HDB : Hid (∀ d, d < lp → dayB lo (D d).s (D d).n = true) := Lib.hid fun d hd => (HDY.out d hd).1
  have hl10 : lp ≤ 10 := by have h := HPB.out; simp only [Bool.and_eq_true, decide_eq_true_eq] at h; exact h.1
  have m1 : (0 : Int) ≤ (i : Int) := by omega
  have m2 : (i : Int) < (lp : Int) := by omega
  have m3 : (0 : Int) ≤ (j : Int) := by omega
  have m4 : (j : Int) < (lp : Int) := by omega
  have HI := Lib.hid hi
  have HJ := Lib.hid hj
  clear hi hj
  have k1 : (0 : Int) ≤ (a : Int) := by omega
  have k2 : (a : Int) < (lp : Int) := by omega
  have k3 : (0 : Int) ≤ (b : Int) := by omega
  have k4 : (b : Int) < (lp : Int) := by omega
  have HA := Lib.hid ha
  have HB := Lib.hid hbb
  have HP1 := Lib.hid hp
  have H1 := Lib.hid h1
  have H2 := Lib.hid h2
  clear hp h1 h2 ha hbb
  have HZO : Hid (0 ≤ zo ∧ zo < (lo : Int)) := Lib.hid (by have := HO.out; simp only [fromB, decide_eq_true_eq] at this; omega)
  have HZT : Hid (0 ≤ zt ∧ zt < (lo : Int)) := Lib.hid (by have := HT.out; simp only [fromB, decide_eq_true_eq] at this; omega)
  have HBK : Hid (∀ {E : Nat → Dy}, SwE lo lp D E zo zt a b → SwB f ln lo N U E zt zo a b = true) := Lib.hid fun hE => swE_back hE HA.out HB.out HEQ.out HZO.out HZT.out HP1.out HRB.out
  have m5 : (i : Int) = (a : Int) := by omega
  have m6 : ¬ (i : Int) < (a : Int) := by omega
  have m7 : ((i : Int) == (a : Int)) = true := by rw [beq_iff_eq]; omega
  have m8 : (b : Int) ≤ (j : Int) := by omega
  have m9 : ¬ (j : Int) < (b : Int) := by omega
  clear hia hjb m5
  have BX := Lib.hid (fun (w1 : World) (hb : Below (w.alloc (.cells #[.int .i64 f, .slice na ln cn, .slice oa lo co] 25)).heap.size (w.alloc (.cells #[.int .i64 f, .slice na ln cn, .slice oa lo co] 25)) w1) => box7 hb)
  have HN : Hid (∀ w1, Below (w.alloc (.cells #[.int .i64 f, .slice na ln cn, .slice oa lo co] 25)).heap.size (w.alloc (.cells #[.int .i64 f, .slice na ln cn, .slice oa lo co] 25)) w1 → Hid (Tr7 w1 na oa ln lo N U)) := Lib.hid fun w1 h => Lib.hid (H.out.below (below_al h))
  have hb : Below (w.alloc (.cells #[.int .i64 f, .slice na ln cn, .slice oa lo co] 25)).heap.size (w.alloc (.cells #[.int .i64 f, .slice na ln cn, .slice oa lo co] 25)) (w.alloc (.cells #[.int .i64 f, .slice na ln cn, .slice oa lo co] 25)) := Below.refl _ _
  obtain ⟨x1, x2, x3, x4⟩ := BX.out _ hb
  have HPP : Hid (∀ w1, Below (w.alloc (.cells #[.int .i64 f, .slice na ln cn, .slice oa lo co] 25)).heap.size (w.alloc (.cells #[.int .i64 f, .slice na ln cn, .slice oa lo co] 25)) w1 → Hid (PlSl w1 pa lp D)) := Lib.hid fun w1 h => Lib.hid (HP.out.below (below_al h))
  clear H HP
  go_enter Tryz.func12, Tryz.ntmps12
  go_wp2_with (first
    | (go_at_call 13; refine (short_w _ _ _ _ _ _ _ _ (by unfold maxLen; omega) (by unfold maxLen; omega)).mono ?_; rw [hsh]; rintro e wl ⟨rfl, hv⟩; (try replace hbs := hbs.trans (hv.mono hbs.size)); replace hb := hb.trans (hv.mono hb.size); clear x1 x2 x3 x4; obtain ⟨x1, x2, x3, x4⟩ := BX.out _ hb)
    | (go_at_call 41; refine (slim_w pa lp cp D _ (by unfold maxLen; omega) (HPP.out _ hb)).mono ?_; rw [HSL.out]; rintro e wl ⟨rfl, rfl⟩)
    | (go_at_call 17; refine (tree_w _ _ _ _ _ _ _ N U _ hls hlt (HN.out _ hb)).mono ?_; rintro e wl ⟨⟨rb, rfl, hrb⟩, hv⟩; obtain rfl : rb = true := hrb.2 HR.out; clear hrb; (try replace hbs := hbs.trans (hv.mono hbs.size)); replace hb := hb.trans (hv.mono hb.size); clear x1 x2 x3 x4; obtain ⟨x1, x2, x3, x4⟩ := BX.out _ hb)
    | (go_at_call 46; refine (rplan_w f na oa pa ln cn lo co lp cp D _ hlt (by omega) (Lib.hid fun d hd => by have := HN10.out d hd; omega) (HPP.out _ hb)).mono ?_; rw [HPB.out]; rintro e wl ⟨rfl, hv⟩; (try replace hbs := hbs.trans (hv.mono hbs.size)); replace hb := hb.trans (hv.mono hb.size); clear x1 x2 x3 x4; obtain ⟨x1, x2, x3, x4⟩ := BX.out _ hb)
    | (go_at_call 47; refine (rruns_w f na oa pa ln cn lo co lp cp N U D _ (by omega) HLS (HPP.out _ hb) (Lib.hid HR.out.w) (HN.out _ hb)).mono ?_; rw [HRB.out]; rintro e wl ⟨rfl, hv⟩; (try replace hbs := hbs.trans (hv.mono hbs.size)); replace hb := hb.trans (hv.mono hb.size); clear x1 x2 x3 x4; obtain ⟨x1, x2, x3, x4⟩ := BX.out _ hb)
    | (go_at_call_of 33 zo; refine (outlet_w f zo na oa ln cn lo co _ hlt).mono ?_; rw [HO.out]; rintro e wl ⟨rfl, hv⟩; (try replace hbs := hbs.trans (hv.mono hbs.size)); replace hb := hb.trans (hv.mono hb.size); clear x1 x2 x3 x4; obtain ⟨x1, x2, x3, x4⟩ := BX.out _ hb)
    | (go_at_call_of 33 zt; refine (outlet_w f zt na oa ln cn lo co _ hlt).mono ?_; rw [HT.out]; rintro e wl ⟨rfl, hv⟩; (try replace hbs := hbs.trans (hv.mono hbs.size)); replace hb := hb.trans (hv.mono hb.size); clear x1 x2 x3 x4; obtain ⟨x1, x2, x3, x4⟩ := BX.out _ hb)
    | (go_at_call_of 50 pa; refine (swaps_w f zo zt na oa pa ln cn lo co lp cp N U D _ hl10 HR (HN.out _ hb) (HPP.out _ hb) HDY HRB HO.out HT.out HEQ.out).mono ?_; rintro e wl ⟨⟨r1, r2, re, rfl, hsr⟩, hv⟩; (try replace hbs := hbs.trans (hv.mono hbs.size)); replace hb := hb.trans (hv.mono hb.size); clear x1 x2 x3 x4; obtain ⟨x1, x2, x3, x4⟩ := BX.out _ hb; obtain ⟨rfl, rfl, rfl⟩ := hsr.some HA.out HB.out HP1.out H1.out H2.out; clear hsr)
    | (go_at_call_of 52 i; refine (rswapped_w f zo zt na oa pa ln cn lo co lp cp i j N U D _ hl10 HI.out HJ.out HR (HN.out _ hb) (HPP.out _ hb) HDB HRB).mono ?_; rintro e wl ⟨⟨oi, li, ci, B1, rfl, hB1, hE1⟩, hv⟩; clear hE1; (try replace hbs := hbs.trans (hv.mono hbs.size)); replace hb := hb.trans (hv.mono hb.size); clear x1 x2 x3 x4; obtain ⟨x1, x2, x3, x4⟩ := BX.out _ hb; rw [HSB.out] at hB1; subst B1)
    | (go_at_call_of 52 a; refine (rswapped_w f zo zt na oa pa ln cn lo co lp cp a b N U D _ hl10 HA.out HB.out HR (HN.out _ hb) (HPP.out _ hb) HDB HRB).mono ?_; rintro e wl ⟨⟨oo, lq, cc, B2, rfl, hB2, hE2⟩, hv⟩; (try replace hbs := hbs.trans (hv.mono hbs.size)); replace hb := hb.trans (hv.mono hb.size); clear x1 x2 x3 x4; obtain ⟨x1, x2, x3, x4⟩ := BX.out _ hb; rw [HP1.out] at hB2; subst B2; obtain ⟨hlq, E, hPE, hSE⟩ := hE2 rfl; clear hE2; subst lq; have HPE := Lib.hid hPE; have HSE := Lib.hid hSE; clear hPE hSE; have hbs : Below wl.heap.size wl wl := Below.refl _ _; have HRE : Hid (allN (fun d => runD f ln lo N U (E d)) lp = true) := Lib.hid (swE_allrun HSE.out HA.out HB.out HP1.out HRB.out); have HEB : Hid (∀ d, d < lp → dayB lo (E d).s (E d).n = true) := Lib.hid HSE.out.ok; have HEY : Hid (∀ d, d < lp → dayB lo (E d).s (E d).n = true ∧ (E d).n ≤ 1000000) := Lib.hid fun d hd => ⟨HEB.out d hd, by have := (dayB_len _ (HEB.out d hd)).1; omega⟩)
    | (go_at_call 43; refine (druns_w f na oa oo ln cn lo co lp cc N U E _ hl10 HR (HN.out _ hb) (Lib.hid (HPE.out.below hbs)) HEB).mono ?_; rw [HRE.out]; rintro e wm ⟨rfl, hv⟩; (try replace hbs := hbs.trans (hv.mono hbs.size)); replace hb := hb.trans (hv.mono hb.size); clear x1 x2 x3 x4; obtain ⟨x1, x2, x3, x4⟩ := BX.out _ hb)
    | (go_at_call_of 50 oo; refine (swaps_w f zt zo na oa oo ln cn lo co lp cc N U E _ hl10 HR (HN.out _ hb) (Lib.hid (HPE.out.below hbs)) HEY HRE HT.out HO.out (fun e => HEQ.out e.symm)).mono ?_; rintro e wn ⟨⟨r5, r6, rg, rfl, hsr⟩, hv⟩; (try replace hbs := hbs.trans (hv.mono hbs.size)); replace hb := hb.trans (hv.mono hb.size); clear x1 x2 x3 x4; obtain ⟨x1, x2, x3, x4⟩ := BX.out _ hb; obtain rfl : rg = 0 := (by rcases hsr with ⟨h, _⟩ | ⟨_, _, _, h⟩; exact h; exact absurd (HBK.out HSE.out) (by rw [h a b HA.out HB.out]; exact fun h => by cases h)); clear hsr))
  have HB0 := Lib.hid hb
  have HBS := Lib.hid hbs
  clear hb hbs x1 x2 x3 x4
  go_loopw [25] (fun ii wr => ∃ k : Nat, k ≤ lo ∧ ii = .int .i64 (k : Int) ∧ Below wn.heap.size wn wr) (fun ii _ => lo - (Go.RowKit.intOf ii).toNat)
  case atStart => exact ⟨0, Nat.zero_le _, rfl, Below.refl _ _⟩
  case round =>
    obtain ⟨k, hk, rfl, hbr⟩ := hrel
    have hbq := HB0.out.trans (hbr.mono HB0.out.size)
    have hbt := HBS.out.trans (hbr.mono HBS.out.size)
    obtain ⟨x1, x2, x3, x4⟩ := BX.out _ hbq
    have HBR := Lib.hid hbr
    clear hbr
    by_cases hlt2 : k < lo
    · have n1 : (0 : Int) ≤ (k : Int) := by omega
      have n2 : (k : Int) < (lo : Int) := by omega
      have HEN : Hid (∀ d, d < lp → (E d).n ≤ 1000000) := Lib.hid fun d hd => (HEY.out d hd).2
      have HDN : Hid (∀ d, d < lp → (D d).n ≤ 1000000) := Lib.hid fun d hd => (HDY.out d hd).2
      have HDE : Hid (cntB (dys E (k : Int)) lp = cntB (dys D (k : Int)) lp) := Lib.hid (swE_days HSE.out HA.out HB.out HEQ.out HP1.out hlt2)
      obtain ⟨c, hc⟩ : ∃ c, cntB (dys D (k : Int)) lp = c := ⟨_, rfl⟩
      have HC1 := Lib.hid hc
      have HC2 : Hid (cntB (dys E (k : Int)) lp = c) := Lib.hid (HDE.out.trans hc)
      clear hc
      go_wp2_with (first
        | (go_at_call_of 49 oo; refine (days_w oo lp cc E k _ (by omega) HEN (Lib.hid (HPE.out.below hbt))).mono ?_; rw [HC2.out]; rintro e wp ⟨rfl, hv⟩; replace hbt := hbt.trans (hv.mono hbt.size); replace hbq := hbq.trans (hv.mono hbq.size); replace HBR := Lib.hid (HBR.out.trans (hv.mono HBR.out.size)))
        | (go_at_call_of 49 pa; refine (days_w pa lp cp D k _ (by omega) HDN (HPP.out _ hbq)).mono ?_; rw [HC1.out]; rintro e wp ⟨rfl, hv⟩; replace hbt := hbt.trans (hv.mono hbt.size); replace hbq := hbq.trans (hv.mono hbq.size); replace HBR := Lib.hid (HBR.out.trans (hv.mono HBR.out.size))))
      go_roundw
      case rel => exact ⟨k + 1, by omega, by go_num, HBR.out⟩
      case measure => simp [Go.RowKit.intOf]; omega
    · obtain rfl : k = lo := by omega
      go_wp2_with (go_at_call 14; refine (K.out _).mono ?_; rintro e wp ⟨rfl, hv⟩; replace hbq := hbq.trans (hv.mono hbq.size))
      go_ret
      exact ⟨rfl, below_al hbq⟩
end Go.Kn

namespace Go.Kn
open Go Go.Proofs Go.RowKit

set_option maxHeartbeats 1000000 in
theorem lawsz_w (f : Int) (na oa pa : Option Addr) (ln cn lo co lp cp : Nat) (N : Nat → N2) (U : Nat → O3) (D : Nat → Dy) (zo zt fi se : Int) (w : World) (hls : ln ≤ maxLen) (hlt : lo ≤ maxLen) (hlm : lp ≤ maxLen) (H : Tr7 w na oa ln lo N U) (HP : PlSl w pa lp D) (K : KnownOk) :
    Calls Tryz.prog 12 #[.agg #[.int .i64 f, .slice na ln cn, .slice oa lo co], .slice pa lp cp, .int .i64 zo, .int .i64 zt, .int .i64 fi, .int .i64 se] w
      fun e w' => e = .returned (.bool true) ∧ Below w.heap.size w w' := by
  by_cases hq : ln ≤ 8 ∧ lo ≤ 10
  case neg => exact lawsz_a f na oa pa ln cn lo co lp cp N U D zo zt fi se w hls hlt (Lib.hid H) (Lib.hid K) (Lib.hid HP) hq
  have l1 : ln ≤ 1000000 := by omega
  have l2 : lo ≤ 1000000 := by omega
  cases hsl : (decide (lp ≤ 12) && allN (fun d => decide ((D d).n ≤ 10)) lp) with
  | false => exact lawsz_b f na oa pa ln cn lo co lp cp N U D zo zt fi se w l1 l2 (Lib.hid H) (Lib.hid K) (Lib.hid HP) hq hlm (Lib.hid hsl)
  | true =>
  simp only [Bool.and_eq_true, decide_eq_true_eq] at hsl
  have hlp := hsl.1
  have HN10 : Hid (∀ d, d < lp → (D d).n ≤ 10) := Lib.hid fun d hd => of_decide_eq_true ((allN_iff lp).1 hsl.2 d hd)
  by_cases HR : TreeS f ln lo N U
  case neg => exact lawsz_c1 f na oa pa ln cn lo co lp cp N U D zo zt fi se w l1 l2 (Lib.hid H) (Lib.hid K) (Lib.hid HP) HN10 hlp hq (Lib.hid HR)
  cases hP : (decide (lp ≤ 10) && allN (fun d => dayB lo (D d).s (D d).n) lp) with
  | false => exact lawsz_c2 f na oa pa ln cn lo co lp cp N U D zo zt fi se w l1 l2 (Lib.hid H) (Lib.hid K) (Lib.hid HP) HN10 hlp hq (Lib.hid HR) (Lib.hid hP)
  | true =>
  cases hr : allN (fun d => runD f ln lo N U (D d)) lp with
  | false => exact lawsz_c3 f na oa pa ln cn lo co lp cp N U D zo zt fi se w l1 l2 (Lib.hid H) (Lib.hid K) (Lib.hid HP) HN10 hlp hq (Lib.hid HR) (Lib.hid hP) (Lib.hid hr)
  | true =>
  cases ho : fromB 0 ((lo : Int) - 1) zo with
  | false => exact lawsz_c4 f na oa pa ln cn lo co lp cp N U D zo zt fi se w l1 l2 (Lib.hid H) (Lib.hid K) (Lib.hid HP) HN10 hlp hq (Lib.hid HR) (Lib.hid hP) (Lib.hid hr) (Lib.hid ho)
  | true =>
  cases ht : fromB 0 ((lo : Int) - 1) zt with
  | false => exact lawsz_c5 f na oa pa ln cn lo co lp cp N U D zo zt fi se w l1 l2 (Lib.hid H) (Lib.hid K) (Lib.hid HP) HN10 hlp hq (Lib.hid HR) (Lib.hid hP) (Lib.hid hr) (Lib.hid ho) (Lib.hid ht)
  | true =>
  by_cases he : zo = zt
  · exact lawsz_c6 f na oa pa ln cn lo co lp cp N U D zo zt fi se w l1 l2 (Lib.hid H) (Lib.hid K) (Lib.hid HP) HN10 hlp hq (Lib.hid HR) (Lib.hid hP) (Lib.hid hr) (Lib.hid ho) (Lib.hid ht) he
  by_cases f1 : fi < 0
  · exact lawsz_c7 f na oa pa ln cn lo co lp cp N U D zo zt fi se w l1 l2 (Lib.hid H) (Lib.hid K) (Lib.hid HP) HN10 hlp hq (Lib.hid HR) (Lib.hid hP) (Lib.hid hr) (Lib.hid ho) (Lib.hid ht) he f1
  by_cases f2 : (lp : Int) ≤ fi
  · exact lawsz_c8 f na oa pa ln cn lo co lp cp N U D zo zt fi se w l1 l2 (Lib.hid H) (Lib.hid K) (Lib.hid HP) HN10 hlp hq (Lib.hid HR) (Lib.hid hP) (Lib.hid hr) (Lib.hid ho) (Lib.hid ht) he (by omega) f2
  by_cases f3 : se < 0
  · exact lawsz_c9 f na oa pa ln cn lo co lp cp N U D zo zt fi se w l1 l2 (Lib.hid H) (Lib.hid K) (Lib.hid HP) HN10 hlp hq (Lib.hid HR) (Lib.hid hP) (Lib.hid hr) (Lib.hid ho) (Lib.hid ht) he (by omega) (by omega) f3
  by_cases f4 : (lp : Int) ≤ se
  · exact lawsz_c10 f na oa pa ln cn lo co lp cp N U D zo zt fi se w l1 l2 (Lib.hid H) (Lib.hid K) (Lib.hid HP) HN10 hlp hq (Lib.hid HR) (Lib.hid hP) (Lib.hid hr) (Lib.hid ho) (Lib.hid ht) he (by omega) (by omega) (by omega) f4
  obtain ⟨i, rfl⟩ : ∃ i : Nat, fi = (i : Int) := ⟨fi.toNat, by omega⟩
  obtain ⟨j, rfl⟩ : ∃ j : Nat, se = (j : Int) := ⟨se.toNat, by omega⟩
  have hi : i < lp := by omega
  have hj : j < lp := by omega
  rcases sw_cases (SwB f ln lo N U D zo zt) lp with ⟨a, b, h1, h2, h3, h4, h5⟩ | h
  · cases hs : SwB f ln lo N U D zo zt i j with
    | false => exact lawsz_e1 f na oa pa ln cn lo co lp cp N U D zo zt i j w l1 l2 (Lib.hid H) (Lib.hid K) (Lib.hid HP) HN10 hlp hq (Lib.hid HR) (Lib.hid hP) (Lib.hid hr) (Lib.hid ho) (Lib.hid ht) he hi hj a b h1 h2 h3 h4 h5 (Lib.hid hs)
    | true =>
      rcases Nat.lt_trichotomy i a with g | g | g
      · rw [h5 i j g hj] at hs; cases hs
      · by_cases hjb : b ≤ j
        · exact lawsz_e3 f na oa pa ln cn lo co lp cp N U D zo zt i j w l1 l2 (Lib.hid H) (Lib.hid K) (Lib.hid HP) HN10 hlp hq (Lib.hid HR) (Lib.hid hP) (Lib.hid hr) (Lib.hid ho) (Lib.hid ht) he hi hj a b h1 h2 h3 h4 h5 (Lib.hid hs) g hjb
        · rw [g, h4 j (by omega)] at hs; cases hs
      · exact lawsz_e2 f na oa pa ln cn lo co lp cp N U D zo zt i j w l1 l2 (Lib.hid H) (Lib.hid K) (Lib.hid HP) HN10 hlp hq (Lib.hid HR) (Lib.hid hP) (Lib.hid hr) (Lib.hid ho) (Lib.hid ht) he hi hj a b h1 h2 h3 h4 h5 (Lib.hid hs) g
  · exact lawsz_d f na oa pa ln cn lo co lp cp N U D zo zt i j w l1 l2 (Lib.hid H) (Lib.hid K) (Lib.hid HP) HN10 hlp hq (Lib.hid HR) (Lib.hid hP) (Lib.hid hr) (Lib.hid ho) (Lib.hid ht) he hi hj (Lib.hid (h i j hi hj)) h
end Go.Kn
