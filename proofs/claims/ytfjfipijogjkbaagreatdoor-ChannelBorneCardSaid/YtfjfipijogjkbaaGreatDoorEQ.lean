/- Walks of functions of layer 2 (contracts that the laws of this seat use). Conditions: as each theorem states them. -/
import Derived.Test.YtfjfipijogjkbaaGreatDoorEZ
set_option linter.unusedVariables false
set_option linter.unusedSimpArgs false
namespace Go.Kn
open Go Go.Proofs Go.RowKit

set_option maxRecDepth 100000 in
set_option maxHeartbeats 4000000 in
theorem lawbo_d1 (il ih : Int) (C P cp A O ll cl : Nat) (p : Nat → Sp2) (l : Nat → Int) (C2 P2 lk ck : Nat) (c : Nat → Cl3) (D F cq : Nat) (s : Nat → Int) (n : Int) (ra : Option Addr) (lr cr : Nat) (r : Nat → Int) (y : List Nat × Int) (w : World) (H : Hid (SipAt w C P (ll + 1) A O ll il ih p l)) (hC2 : C2 < w.heap.size) (HC : Hid (ClAt w C2 P2 lk c)) (HK : Hid (ClsP lk c)) (hD : D < w.heap.size) (HD : Hid (NumAt w D F ll s)) (HQ : Hid (ChoP lk ll ll s)) (hlr : lr ≤ maxLen) (HZ : Hid (IntSl w ra lr r)) (K : Hid KnownOk') (HQZ : Hid (HeiP il ih (ll + 1) p n lr r)) (HCH : Hid (cheap (sufL lk (cBu c (prOf il ih p)) l (cSt c) (cPr c) ll) = some y)) (HY1 : Hid (y.1.length = ll)) (HCY : Hid (ChoP lk ll ll fun i => ((y.1.getD i 0 : Nat) : Int))) (HYB : Hid (∀ i, i < ll → (prOf il ih p i).hi ≤ (c (y.1.getD i 0)).be)) :
    Calls Tryz.prog 4 #[.agg #[.int .i64 il, .int .i64 ih, .slice (some ⟨C, P, none⟩) (ll + 1) cp, .slice (some ⟨A, O, none⟩) ll cl], .slice (some ⟨C2, P2, none⟩) lk ck, .slice (some ⟨D, F, none⟩) ll cq, .int .i64 n, .slice ra lr cr] w
      fun e w' => e = .returned (.bool true) ∧ Below w.heap.size w w' := by
  have BX := Lib.hid (fun (w1 : World) (hb : Below (w.alloc (.cells #[.int .i64 il, .int .i64 ih, .slice (some ⟨C, P, none⟩) (ll + 1) cp, .slice (some ⟨A, O, none⟩) ll cl] 40)).heap.size (w.alloc (.cells #[.int .i64 il, .int .i64 ih, .slice (some ⟨C, P, none⟩) (ll + 1) cp, .slice (some ⟨A, O, none⟩) ll cl] 40)) w1) => bcell4 hb)
  have HL : Hid (∀ w1, Below (w.alloc (.cells #[.int .i64 il, .int .i64 ih, .slice (some ⟨C, P, none⟩) (ll + 1) cp, .slice (some ⟨A, O, none⟩) ll cl] 40)).heap.size (w.alloc (.cells #[.int .i64 il, .int .i64 ih, .slice (some ⟨C, P, none⟩) (ll + 1) cp, .slice (some ⟨A, O, none⟩) ll cl] 40)) w1 → SipAt w1 C P (ll + 1) A O ll il ih p l ∧ ClAt w1 C2 P2 lk c ∧ NumAt w1 D F ll s ∧ C2 < w1.heap.size ∧ D < w1.heap.size ∧ IntSl w1 ra lr r) := Lib.hid fun w1 h => ⟨H.out.below (below_al h), HC.out.below hC2 (below_al h), HD.out.below hD (below_al h), Nat.lt_of_lt_of_le hC2 (below_al h).size, Nat.lt_of_lt_of_le hD (below_al h).size, HZ.out.below (below_al h)⟩
  have q1 := H.out.lp1
  have q2 := H.out.lp2
  have g1 := HK.out.n1
  have g2 := HK.out.n2
  have hlp : ll + 1 ≤ maxLen := by unfold maxLen; omega
  have hll : ll ≤ maxLen := by unfold maxLen; omega
  have hlk : lk ≤ maxLen := by unfold maxLen; omega
  have hsh : decide (ll + 1 ≤ 10 ∧ ll ≤ 10 ∧ lk ≤ 6) = true := decide_eq_true ⟨by omega, by omega, by omega⟩
  have HR : Hid (SipP il ih (ll + 1) ll p l) := Lib.hid H.out.ok
  have hf1 : fstV none = .slice none 0 0 := rfl
  have hf2 : ∀ y : Yd, fstV (some y) = .slice (some ⟨y.g, 0, none⟩) y.c.length y.cap := fun _ => rfl
  have hf3 : fstQ none = 0 := rfl
  have hf4 : ∀ y : Yd, fstQ (some y) = y.q := fun _ => rfl
  have hq5 : ¬ (10 : Int) < (ll : Int) := by omega
  obtain ⟨i0, hi, hz0, hz1, hz2⟩ := info_parts info4M
  have hll1 : 1 ≤ ll := by omega
  have HIH : Hid (hOk il ∧ hOk ih ∧ il ≤ ih) := Lib.hid (spanB_h H.out.iok)
  have HPK : Hid (∀ i, i < ll + 1 → hOk (p i).lo ∧ hOk (p i).hi ∧ (p i).lo ≤ (p i).hi) := Lib.hid fun i hi => spanB_h (H.out.pok i hi)
  have HNO : Hid (hOk n ∧ n ≤ ih) := Lib.hid (by have h1 := HIH.out; have h2 := HQZ.out.n1; have h3 := HQZ.out.n2; obtain ⟨⟨_, _⟩, ⟨_, _⟩, _⟩ := h1; exact ⟨⟨by omega, by omega⟩, h3⟩)
  have HRO : Hid (∀ i, i < ll + 1 → hOk (r i) ∧ (p i).lo ≤ r i) := Lib.hid fun i hi => by
    obtain ⟨⟨_, _⟩, ⟨_, _⟩, _⟩ := HPK.out i hi
    have := HQZ.out.at_ i hi
    exact ⟨⟨by omega, by omega⟩, this.1⟩
  have HLR := Lib.hid HQZ.out.lq
  go_enter Tryz.func4, Tryz.ntmps4
  go_wp2_with (first
    | (go_at_call 16; refine (slim_w _ _ _ _ _ _ _ _ _ _ _ _ hlp hll hlk).mono ?_; rw [hsh]; rintro e w1 ⟨rfl, hb1⟩; obtain ⟨x0, x1, x2, x3, x4⟩ := BX.out _ hb1)
    | (go_at_call 17; refine (rsiph_w _ _ _ _ _ _ _ _ p l _ (by omega) (by omega) (Lib.hid (HL.out _ hb1).1.any)).mono ?_; rintro e w2 ⟨⟨rb, rfl, hrb⟩, hb2⟩; obtain rfl : rb = true := hrb.2 HR.out; clear hrb; have chb2 := hb1.trans (hb2.mono hb1.size); clear x0 x1 x2 x3 x4; obtain ⟨x0, x1, x2, x3, x4⟩ := BX.out _ chb2)
    | (go_at_call 18; refine (rcls_w _ _ _ c _ (by omega) (Lib.hid (.inr ⟨C2, P2, rfl, (HL.out _ chb2).2.2.2.1, (HL.out _ chb2).2.1⟩))).mono ?_; rintro e w3 ⟨⟨rb, rfl, hrb⟩, rfl⟩; obtain rfl : rb = true := hrb.2 HK.out; clear hrb)
    | (go_at_call_of 19 (some (Addr.mk D F none)); refine (rchosen_w _ _ _ _ _ _ _ _ _ _ _ _ s _ (by omega) (by omega) hll (Lib.hid (.inr ⟨D, F, rfl, (HL.out _ chb2).2.2.2.2.1, (HL.out _ chb2).2.2.1⟩))).mono ?_; rintro e w4 ⟨⟨rb, rfl, hrb⟩, hb4⟩; obtain rfl : rb = true := hrb.2 HQ.out; clear hrb; have chb4 := chb2.trans (hb4.mono chb2.size); clear x0 x1 x2 x3 x4; obtain ⟨x0, x1, x2, x3, x4⟩ := BX.out _ chb4)
    | (go_at_call 20; refine (heights_w _ _ _ _ _ _ _ _ _ _ p l _ _ _ _ r _ hlr (Lib.hid (HL.out _ chb4).1) (Lib.hid (HL.out _ chb4).2.2.2.2.2)).mono ?_; rintro e w41 ⟨⟨rb, rfl, hrb⟩, hb41⟩; obtain rfl : rb = true := hrb.2 HQZ.out; clear hrb; have chb41 := chb4.trans (hb41.mono chb4.size); clear x0 x1 x2 x3 x4; obtain ⟨x0, x1, x2, x3, x4⟩ := BX.out _ chb41)
    | (go_at_call 21; refine (pbursts_w _ _ _ _ _ _ _ _ _ p l _ _ _ _ c _ _ _ s _ (Lib.hid (HL.out _ chb41).1) (HL.out _ chb41).2.2.2.1 (Lib.hid (HL.out _ chb41).2.1) HK.out (HL.out _ chb41).2.2.2.2.1 (Lib.hid (HL.out _ chb41).2.2.1) HQ).mono ?_; rintro e w42 ⟨⟨v, n2, rfl, hv⟩, hb42⟩; obtain ⟨va, vc, rfl, hn2, hvs⟩ := intSl_of_owns hv; have HV := Lib.hid hvs; have HN2 := Lib.hid hn2; have hn3 := (by have := pick_len (burB (prOf il ih p) c s) ll; omega : n2 ≤ ll); clear hvs hv hn2; have chb42 := chb41.trans (hb42.mono chb41.size); clear x0 x1 x2 x3 x4; obtain ⟨x0, x1, x2, x3, x4⟩ := BX.out _ chb42)
    | (go_at_call 22; refine (ppipes_w _ _ _ _ _ _ _ _ _ p l _ _ _ _ c _ (Lib.hid (HL.out _ chb42).1) (HL.out _ chb42).2.2.2.1 (Lib.hid (HL.out _ chb42).2.1) HK).mono ?_; rintro e w5 ⟨hb5, o, ho, rfl, hy⟩; obtain ⟨yd, rfl⟩ : ∃ yd, o = some yd := (by rw [HCH.out] at ho; cases o <;> first | exact ⟨_, rfl⟩ | cases ho); have hpr : yd.pr = y := (by rw [HCH.out] at ho; simpa using ho); obtain ⟨hyc, hyq⟩ : yd.c = y.1 ∧ yd.q = y.2 := ⟨congrArg Prod.fst hpr, congrArg Prod.snd hpr⟩; have hlen : yd.c.length = ll := (by rw [hyc]; exact HY1.out); have HNY := Lib.hid (atY_num (hy yd rfl).2); have HGY := Lib.hid (hy yd rfl).2.1; rw [hyc, HY1.out] at HNY; clear ho hy hpr hyc hyq; have HV5 := Lib.hid (HV.out.below hb5); have chb5 := chb42.trans (hb5.mono chb42.size); clear x0 x1 x2 x3 x4; obtain ⟨x0, x1, x2, x3, x4⟩ := BX.out _ chb5)
    | (go_at_call_of 19 (some (Addr.mk yd.g 0 none)); refine (rchosen_w _ _ _ _ _ _ _ _ _ _ _ _ (fun i => ((y.1.getD i 0 : Nat) : Int)) _ (by omega) (by omega) hll (Lib.hid (.inr ⟨yd.g, 0, rfl, HGY.out, HNY.out⟩))).mono ?_; rintro e w7 ⟨⟨rb, rfl, hrb⟩, hb7⟩; obtain rfl : rb = true := hrb.2 HCY.out; clear hrb; have HV7 := Lib.hid (HV5.out.below hb7); have HNY7 := Lib.hid (HNY.out.below HGY.out hb7); have HGY7 := Lib.hid (Nat.lt_of_lt_of_le HGY.out hb7.size); have chb7 := chb5.trans (hb7.mono chb5.size); clear x0 x1 x2 x3 x4; obtain ⟨x0, x1, x2, x3, x4⟩ := BX.out _ chb7)
    | (at_make; refine wpList_make_full _ rfl _ _ 51 rfl w7.heap.size 4 i0 _ 1 Tryz.underlying51 hi hz0 hz1 _ _ _ _ ll rfl rfl rfl rfl (by rw [hz2]; omega) (by unfold maxLen; omega) (by simp) ?_; intro w9 hown hgrow))
  have hXb := chb7
  have hB9 : Below w7.heap.size w7 w9 := (Below.refl _ _).grown hgrow (Nat.le_refl _) (fun k h => by cases h)
  have hM := boolAt_of_make hown hll1
  obtain ⟨E, U, hrae, hE, hrn⟩ := ((HL.out _ chb7).2.2.2.2.2).resolve_left (by have := HLR.out; omega)
  have hlr1 := HLR.out
  subst hrae
  subst hlr1
  have HE := Lib.hid hrn
  clear hrn
  obtain ⟨x0, x1, x2, x3, x4⟩ := BX.out _ chb7
  have FX : Hid (∀ w', Below w7.heap.size w7 w' → (NumAt w' D F ll s ∧ ClAt w' C2 P2 lk c ∧ NumAt w' E U (ll + 1) r ∧ SpAt w' C P (ll + 1) p) ∧ (w'.cell? ⟨w.heap.size, 1, none⟩ = some (.int .i64 ih) ∧ w'.cell? ⟨w.heap.size, 2, none⟩ = some (.slice (some ⟨C, P, none⟩) (ll + 1) cp)) ∧ IntSl w' va n2 (fun i => (pick (burB (prOf il ih p) c s) ll).getD i 0) ∧ NumAt w' yd.g 0 ll (fun i => ((y.1.getD i 0 : Nat) : Int))) := Lib.hid fun w' h => by
    have hh := chb7.trans (h.mono chb7.size)
    obtain ⟨z0, z1, z2, z3, z4⟩ := BX.out _ hh
    exact ⟨⟨(HL.out _ hh).2.2.1, (HL.out _ hh).2.1, HE.out.below hE h, (HL.out _ hh).1.sp⟩, ⟨z1, z2⟩, HV7.out.below h, HNY7.out.below HGY7.out h⟩
  have HB0 : Hid (Below w.heap.size w w7) := Lib.hid (below_al chb7)
  have HM := Lib.hid hM
  have HB9 := Lib.hid hB9
  obtain ⟨M, hMe⟩ : ∃ M, M = w7.heap.size := ⟨_, rfl⟩
  rw [← hMe] at HM ⊢
  have HME := Lib.hid hMe
  clear hM hB9 hown hgrow hMe x0 x1 x2 x3 x4 hXb
  go_loopw [17] (fun kk wr => ∃ m : Nat, m ≤ n2 ∧ kk = .int .i64 m ∧ Below w7.heap.size w7 wr ∧ BoolAt wr M ll (metB (pick (burB (prOf il ih p) c s) ll) m)) (fun kk _ => n2 - (intOf kk).toNat)
  case atStart => exact ⟨0, Nat.zero_le _, rfl, HB9.out, HM.out.congr fun j _ => (metB_zero _ _).symm⟩
  case round =>
    obtain ⟨m, hm, rfl, hbw, hbo⟩ := hrel
    have HBO := Lib.hid hbo
    have HBW := Lib.hid hbw
    clear hbo hbw
    have hMw : M < wr.heap.size := HBO.out.1
    by_cases hlt : m < n2
    · obtain ⟨Av, Ov, rfl, hAv, hnum⟩ := (FX.out _ HBW.out).2.2.1.resolve_left (by omega)
      obtain ⟨j, hj, hjl, _⟩ := pick_get (b := burB (prOf il ih p) c s) (n := ll) (k := m) (by have := HN2.out; omega)
      have HST := Lib.hid (metB_succ (L := pick (burB (prOf il ih p) c s) ll) (k := m) (by have := HN2.out; omega))
      have HJ := Lib.hid hj
      have y0 := hnum m hlt
      simp only [hj] at y0
      have n1 : (0 : Int) ≤ (m : Int) := by omega
      have nn2 : (m : Int) < (n2 : Int) := by omega
      have n3 : (0 : Int) ≤ (j : Int) := by omega
      have n3' : ¬ (j : Int) < 0 := by omega
      have n4 : (j : Int) < (ll : Int) := by omega
      have n4' : ¬ (ll : Int) ≤ (j : Int) := by omega
      have n5 : ¬ ll ≤ j := by omega
      have n6 : decide (ll ≤ j) = false := decide_eq_false n5
      have n7 : decide ((ll : Int) ≤ (j : Int)) = false := decide_eq_false n4'
      by_cases h0 : m = 0
      · subst h0
        simp only [Nat.add_zero] at y0
        have FY : Hid (∀ w', Below wr.heap.size wr w' → w'.cell? ⟨Av, Ov, none⟩ = some (.int .i64 (j : Int)) ∧ True) := Lib.hid fun w' h => ⟨(h.cell (p := ⟨Av, Ov, none⟩) hAv).trans y0, trivial⟩
        go_wp2
        refine wp_region_calm (W := wr) (by kernel_rfl) (by kernel_rfl) (Below.refl _ _) ?_
        repeat (first
          | (refine calm_no (by rfl) ?_
             (try simp only [Act.put, List.setIfInBounds_toArray, List.set_cons_zero, List.set_cons_succ]))
          | (apply calm_yes
             focus rfl
             focus
               intro w' hw'
               obtain ⟨y1, _⟩ := FY.out w' hw'
               go_simp
               first
                 | done
                 | with_reducible rfl
                 | fail
             (try simp only [Act.put, List.setIfInBounds_toArray, List.set_cons_zero, List.set_cons_succ])))
        refine calm_nil ?_
        intro w20 hb20
        have HBO2 := HBO.out.below hMw hb20
        obtain ⟨c1, c2⟩ := HBO2.2 j hjl
        have y2 := (FY.out _ hb20).1
        have HBO3 := Lib.hid (HBO2.set hjl true)
        have HB20 := Lib.hid hb20
        clear HBO2
        go_wp2
        go_roundw
        case rel => exact ⟨0 + 1, by omega, by go_num, (HBW.out.trans (HB20.out.mono HBW.out.size)).setCell (by have := HME.out; simp only []; omega) _, HBO3.out.congr fun i hi => by (rw [HST.out, HJ.out]; by_cases e : i = j; (subst e; simp); (rw [if_neg e, if_neg (by omega)]))⟩
        case measure => simp [intOf]; omega
      · obtain ⟨m, rfl⟩ : ∃ m', m = m' + 1 := ⟨m - 1, by omega⟩
        obtain ⟨j2, hj2, _, _⟩ := pick_get (b := burB (prOf il ih p) c s) (n := ll) (k := m) (by have := HN2.out; omega)
        have hlt2 := pick_lt (b := burB (prOf il ih p) c s) (n := ll) (k := m) (by have := HN2.out; omega)
        rw [hj2, hj] at hlt2
        have y9 := hnum m (by omega)
        simp only [hj2] at y9
        have h0' : (0 : Int) < (m : Int) + 1 := by omega
        have e1 : IntKind.i64.wrap (m : Int) = (m : Int) := IntWalk.i64_in _ (by omega)
        have e2 : (0 : Int) ≤ (m : Int) := by omega
        have e3 : (m : Int) < (n2 : Int) := by omega
        have e3' : (m : Int) + 1 < (n2 : Int) := by omega
        have e2' : (0 : Int) ≤ (m : Int) + 1 := by omega
        have e4 : ((m : Int) + 1).toNat = m + 1 := by omega
        have e5 : ¬ (j : Int) ≤ (j2 : Int) := by omega
        have e6 : ¬ j ≤ j2 := by omega
        have e7 : decide (j ≤ j2) = false := decide_eq_false e6
        have e8 : decide ((j : Int) ≤ (j2 : Int)) = false := decide_eq_false e5
        have h0e : decide ((0 : Int) < (m : Int) + 1) = true := decide_eq_true h0'
        have FY : Hid (∀ w', Below wr.heap.size wr w' → w'.cell? ⟨Av, Ov + (m + 1), none⟩ = some (.int .i64 (j : Int)) ∧ w'.cell? ⟨Av, Ov + m, none⟩ = some (.int .i64 (j2 : Int))) := Lib.hid fun w' h => ⟨(h.cell (p := ⟨Av, Ov + (m + 1), none⟩) hAv).trans y0, (h.cell (p := ⟨Av, Ov + m, none⟩) hAv).trans y9⟩
        go_wp2
        refine wp_region_calm (W := wr) (by kernel_rfl) (by kernel_rfl) (Below.refl _ _) ?_
        repeat (first
          | (refine calm_no (by rfl) ?_
             (try simp only [Act.put, List.setIfInBounds_toArray, List.set_cons_zero, List.set_cons_succ]))
          | (apply calm_yes
             focus rfl
             focus
               intro w' hw'
               obtain ⟨y1, y3⟩ := FY.out w' hw'
               go_simp
               first
                 | done
                 | with_reducible rfl
                 | fail
             (try simp only [Act.put, List.setIfInBounds_toArray, List.set_cons_zero, List.set_cons_succ])))
        refine calm_nil ?_
        intro w20 hb20
        have HBO2 := HBO.out.below hMw hb20
        obtain ⟨c1, c2⟩ := HBO2.2 j hjl
        have y2 := (FY.out _ hb20).1
        have HBO3 := Lib.hid (HBO2.set hjl true)
        have HB20 := Lib.hid hb20
        clear HBO2
        go_wp2
        go_roundw
        case rel => exact ⟨m + 1 + 1, by omega, by go_num, (HBW.out.trans (HB20.out.mono HBW.out.size)).setCell (by have := HME.out; simp only []; omega) _, HBO3.out.congr fun i hi => by (rw [HST.out, HJ.out]; by_cases e : i = j; (subst e; simp); (rw [if_neg e, if_neg (by omega)]))⟩
        case measure => simp [intOf]; omega
    · obtain rfl : m = n2 := by omega
      obtain ⟨wm, rfl⟩ : ∃ wm, wm = wr := ⟨_, rfl⟩
      have HBE : Hid (BoolAt wm M ll (burB (prOf il ih p) c s)) := Lib.hid (HBO.out.congr fun j hj => by have := HN2.out; rw [this]; exact metB_end hj)
      go_wp2
      go_loopw [18] (fun kk w2 => ∃ k : Nat, k ≤ ll ∧ kk = .int .i64 k ∧ Below wm.heap.size wm w2) (fun kk _ => ll - (intOf kk).toNat)
      case atStart => exact ⟨0, Nat.zero_le _, rfl, Below.refl _ _⟩
      case round =>
        obtain ⟨k, hk, rfl, hb2⟩ := hrel
        have HB2 := Lib.hid hb2
        clear hb2
        by_cases hk1 : k < ll
        · have hMw2 : M < wr.heap.size := Nat.lt_of_lt_of_le hMw HB2.out.size
          have hFB := Lib.hid (HBW.out.trans (HB2.out.mono HBW.out.size))
          obtain ⟨⟨f1, f2, f3, f4⟩, ⟨f5, f6⟩, f7, f8⟩ := FX.out _ hFB.out
          clear f7
          have hq := HQ.out.ok k hk1
          simp only [fromB, decide_eq_true_eq] at hq
          obtain ⟨j, hj⟩ : ∃ j : Nat, s k = (j : Int) := ⟨(s k).toNat, by omega⟩
          have hjn : (s k).toNat = j := by omega
          have y0 := f1 k hk1
          rw [hj] at y0
          obtain ⟨y3, _, _⟩ := f2 j (by omega)
          have y1 := f3 k (by omega)
          have y2 := f3 (k + 1) (by omega)
          obtain ⟨y4, _⟩ := f4 k (by omega)
          obtain ⟨y5, _⟩ := f4 (k + 1) (by omega)
          obtain ⟨c1, _⟩ := (HBE.out.below hMw HB2.out).2 k hk1
          have n1 : (0 : Int) ≤ (k : Int) := by omega
          have n2' : (k : Int) < (ll : Int) := by omega
          have n3 : (0 : Int) ≤ (j : Int) := by omega
          have n4 : (j : Int) < (lk : Int) := by omega
          have n5 : IntKind.i64.wrap ((k : Int) + 1) = (k : Int) + 1 := IntWalk.i64_in _ (by omega)
          have n6 : (0 : Int) ≤ (k : Int) + 1 := by omega
          have n7 : (k : Int) + 1 < (ll : Int) + 1 := by omega
          have n7' : (k : Int) + 1 < ((ll + 1 : Nat) : Int) := by omega
          have n8 : ((k : Int) + 1).toNat = k + 1 := by omega
          have n9 : (k : Int) < (ll : Int) + 1 := by omega
          have n9' : (k : Int) < ((ll + 1 : Nat) : Int) := by omega
          obtain ⟨jy, hjy0⟩ : ∃ jy, y.1.getD k 0 = jy := ⟨_, rfl⟩
          have hcy := HCY.out.ok k hk1
          simp only [fromB, decide_eq_true_eq] at hcy
          rw [hjy0] at hcy
          have hjy : jy < lk := by omega
          have HJY := Lib.hid hjy0
          have HJYN := Lib.hid hjy0
          clear hjy0 hcy
          have n3y : (0 : Int) ≤ (jy : Int) := by omega
          have n4y : (jy : Int) < (lk : Int) := by omega
          have FA : Hid (∀ w', Below wr.heap.size wr w' → w'.cell? ⟨E, U + k, none⟩ = some (.int .i64 (r k)) ∧ w'.cell? ⟨E, U + (k + 1), none⟩ = some (.int .i64 (r (k + 1))) ∧ w'.cell? ⟨D, F + k, none⟩ = some (.int .i64 (j : Int)) ∧ w'.cell? ⟨C2, P2 + j * 3, none⟩ = some (.int .i64 (c j).be) ∧ w'.cell? ⟨C, P + k * 2, none⟩ = some (.int .i64 (p k).lo) ∧ w'.cell? ⟨C, P + (k + 1) * 2, none⟩ = some (.int .i64 (p (k + 1)).lo) ∧ w'.cell? ⟨w.heap.size, 1, none⟩ = some (.int .i64 ih) ∧ w'.cell? ⟨w.heap.size, 2, none⟩ = some (.slice (some ⟨C, P, none⟩) (ll + 1) cp) ∧ w'.cell? ⟨M, k, none⟩ = some (.bool (burB (prOf il ih p) c s k)) ∧ w'.cell? ⟨yd.g, k, none⟩ = some (.int .i64 (jy : Int)) ∧ w'.cell? ⟨C2, P2 + jy * 3, none⟩ = some (.int .i64 (c jy).be)) := Lib.hid fun w' h => by
            obtain ⟨⟨f1, f2, f3, f4⟩, ⟨f5, f6⟩, f7, f8⟩ := FX.out _ (hFB.out.trans (h.mono hFB.out.size))
            have y0 := f1 k hk1
            rw [hj] at y0
            exact ⟨f3 k (by omega), f3 (k + 1) (by omega), y0, (f2 j (by omega)).1, (f4 k (by omega)).1, (f4 (k + 1) (by omega)).1, f5, f6, ((HBE.out.below hMw HB2.out).below hMw2 h).2 k hk1 |>.1, by have := f8 k hk1; simp only [Nat.zero_add, HJY.out] at this; exact this, (f2 jy hjy).1⟩
          clear f1 f2 f3 f4 f5 f6 y0 y1 y2 y3 y4 y5 c1
          obtain ⟨hr1, hr2⟩ := HRO.out k (by omega)
          obtain ⟨hr3, hr4⟩ := HRO.out (k + 1) (by omega)
          obtain ⟨hp1, _, _⟩ := HPK.out k (by omega)
          obtain ⟨hp2, _, _⟩ := HPK.out (k + 1) (by omega)
          have HN := HNO.out
          have hih := HIH.out.2.1
          have HW : Hid (presV ih (p k).lo (p (k + 1)).lo = (prOf il ih p k).hi) := Lib.hid (by simp only [presV, prOf, prHi]; omega)
          have hle : presV n (r k) (r (k + 1)) ≤ (prOf il ih p k).hi := by rw [← HW.out]; simp only [presV]; have := HN.2; omega
          have HBU : Hid (burB (prOf il ih p) c s k = decide ((c j).be < (prOf il ih p k).hi)) := Lib.hid (by simp only [burB, hjn])
          have hyb := HYB.out k hk1
          rw [HJYN.out] at hyb
          obtain ⟨By, hBy⟩ : ∃ By, (c jy).be = By := ⟨_, rfl⟩
          rw [hBy] at hyb FA
          obtain ⟨N, hN⟩ : ∃ N, presV n (r k) (r (k + 1)) = N := ⟨_, rfl⟩
          have HNN := Lib.hid hN
          rw [hN] at hle
          obtain ⟨Wt, hWt⟩ : ∃ Wt, (prOf il ih p k).hi = Wt := ⟨_, rfl⟩
          have HWT := Lib.hid hWt
          rw [hWt] at hle hyb
          have hny : ¬ By < N := by omega
          obtain ⟨Be, hBe⟩ : ∃ Be, (c j).be = Be := ⟨_, rfl⟩
          have HBEE := Lib.hid hBe
          obtain ⟨bu, hbu⟩ : ∃ bu, burB (prOf il ih p) c s k = bu := ⟨_, rfl⟩
          have HBUE := Lib.hid hbu
          have hbv : bu = decide (Be < Wt) := by rw [← hbu, HBU.out, hBe, hWt]
          have HBV := Lib.hid hbv
          have hNH := Lib.hid HN.1
          clear hN hWt hBe hbu hbv hr2 hr4 HN hq
          go_wp2
          refine wp_region_calm (W := wr) (by kernel_rfl) (by kernel_rfl) (Below.refl _ _) ?_
          repeat (first
            | (refine calm_no (by rfl) ?_
               (try simp only [Act.put, List.setIfInBounds_toArray, List.set_cons_zero, List.set_cons_succ]))
            | (apply calm_yes
               focus rfl
               focus
                 intro w' hw'
                 obtain ⟨g1, g2, g3, g4, g5, g6, g7, g8, g9, g10, g11⟩ := FA.out w' hw'
                 go_simp
                 first
                   | done
                   | with_reducible rfl
                   | (go_at_call 23; refine (pressure_w _ _ _ _ hNH.out hr1 hr3).mono ?_; rintro e w8 ⟨rfl, rfl⟩; rw [HNN.out]; exact ⟨rfl, hw'⟩)
               (try simp only [Act.put, List.setIfInBounds_toArray, List.set_cons_zero, List.set_cons_succ])))
          refine calm_nil ?_
          intro w21 hb21
          have hb21s := hb21.size
          have FB : Hid (∀ w', Below w21.heap.size w21 w' → w'.cell? ⟨D, F + k, none⟩ = some (.int .i64 (j : Int)) ∧ w'.cell? ⟨C2, P2 + j * 3, none⟩ = some (.int .i64 Be) ∧ w'.cell? ⟨C, P + k * 2, none⟩ = some (.int .i64 (p k).lo) ∧ w'.cell? ⟨C, P + (k + 1) * 2, none⟩ = some (.int .i64 (p (k + 1)).lo) ∧ w'.cell? ⟨w.heap.size, 1, none⟩ = some (.int .i64 ih) ∧ w'.cell? ⟨w.heap.size, 2, none⟩ = some (.slice (some ⟨C, P, none⟩) (ll + 1) cp) ∧ w'.cell? ⟨M, k, none⟩ = some (.bool bu) ∧ w'.cell? ⟨yd.g, k, none⟩ = some (.int .i64 (jy : Int)) ∧ w'.cell? ⟨C2, P2 + jy * 3, none⟩ = some (.int .i64 By)) := Lib.hid fun w' h => by
            obtain ⟨_, _, g3, g4, g5, g6, g7, g8, g9, g10, g11⟩ := FA.out _ (hb21.trans (h.mono hb21s))
            rw [HBEE.out] at g4
            rw [HBUE.out] at g9
            exact ⟨g3, g4, g5, g6, g7, g8, g9, g10, g11⟩
          have HB21 := Lib.hid hb21
          clear hb21
          go_wp2
          refine wp_region_calm (W := w21) (by kernel_rfl) (by kernel_rfl) (Below.refl _ _) ?_
          repeat (first
            | (refine calm_no (by rfl) ?_
               (try simp only [Act.put, List.setIfInBounds_toArray, List.set_cons_zero, List.set_cons_succ]))
            | (apply calm_yes
               focus rfl
               focus
                 intro w' hw'
                 obtain ⟨g3, g4, g5, g6, g7, g8, g9, g10, g11⟩ := FB.out w' hw'
                 go_simp
                 first
                   | done
                   | with_reducible rfl
                   | (go_at_call 23; refine (pressure_w _ _ _ _ hih hp1 hp2).mono ?_; rintro e w8 ⟨rfl, rfl⟩; rw [HW.out, HWT.out]; exact ⟨rfl, hw'⟩)
               (try simp only [Act.put, List.setIfInBounds_toArray, List.set_cons_zero, List.set_cons_succ])))
          refine calm_nil ?_
          intro w22 hb22
          obtain ⟨k3, k4, _, _, _, _, k9, k10, k11⟩ := FB.out _ hb22
          have HBX := Lib.hid ((HB21.out.trans (hb22.mono hb21s)))
          clear hb22
          have hbx := HBX.out.size
          by_cases hc : Be < Wt
          · have hb1 : bu = true := by rw [HBV.out]; exact decide_eq_true hc
            subst hb1
            have hc' : ¬ Wt ≤ Be := by omega
            by_cases hd : Be < N
            · go_wp2
              go_roundw
              case rel => exact ⟨k + 1, by omega, by go_num, HB2.out.trans (HBX.out.mono HB2.out.size)⟩
              case measure => simp [intOf]; omega
            · go_wp2
              go_roundw
              case rel => exact ⟨k + 1, by omega, by go_num, HB2.out.trans (HBX.out.mono HB2.out.size)⟩
              case measure => simp [intOf]; omega
          · have hb1 : bu = false := by rw [HBV.out]; exact decide_eq_false hc
            subst hb1
            have hd : ¬ Be < N := by omega
            go_wp2
            go_roundw
            case rel => exact ⟨k + 1, by omega, by go_num, HB2.out.trans (HBX.out.mono HB2.out.size)⟩
            case measure => simp [intOf]; omega
        · go_wp2_with (go_at_call 9; refine (K.out _).mono ?_; rintro e w11 ⟨rfl, hb11⟩)
          go_ret
          have hbb := HBW.out.trans (HB2.out.mono HBW.out.size)
          exact ⟨rfl, HB0.out.trans ((hbb.trans (hb11.mono hbb.size)).mono HB0.out.size)⟩

end Go.Kn

namespace Go.Kn
open Go Go.Proofs Go.RowKit

/-- no pipe of the choice that is returned bursts -/
theorem best_bears {lk ll : Nat} {il ih : Int} {p : Nat → Sp2} {l : Nat → Int} {c : Nat → Cl3} {y : List Nat × Int} (hl : ∀ i, i < ll → 1 ≤ l i ∧ l i ≤ 100) (hc : ∀ j, j < lk → 0 ≤ (c j).st) (hch : cheap (sufL lk (cBu c (prOf il ih p)) l (cSt c) (cPr c) ll) = some y) :
    ∀ i, i < ll → (prOf il ih p i).hi ≤ (c (y.1.getD i 0)).be := by
  obtain ⟨h1, h2, h3, _, _⟩ := best_of hch
  have h4 := (okT_chL hl (fun i hi => by
    have := h2.ok i hi
    simp only [fromB, decide_eq_true_eq] at this
    exact ⟨this.1, by omega⟩) hc).1 h3
  intro i hi
  have h5 := (pick_nil ll).1 h4.2 i hi
  simp only [burB, decide_eq_false_iff_not, Int.toNat_natCast] at h5
  omega

theorem lawbo_w (il ih : Int) (pa la ka sq : Option Addr) (lp cp ll cl lk ck lq cq : Nat) (p : Nat → Sp2) (l : Nat → Int) (c : Nat → Cl3) (s : Nat → Int) (n : Int) (ra : Option Addr) (lr cr : Nat) (r : Nat → Int) (w : World) (hlp : lp ≤ maxLen) (hll : ll ≤ maxLen) (hlk : lk ≤ maxLen) (hlq : lq ≤ maxLen) (hlr : lr ≤ maxLen) (H : AnySip w pa la lp ll p l) (HC : ClSl w ka lk c) (HS : IntSl w sq lq s) (HZ : IntSl w ra lr r) (K : Hid KnownOk') :
    Calls Tryz.prog 4 #[.agg #[.int .i64 il, .int .i64 ih, .slice pa lp cp, .slice la ll cl], .slice ka lk ck, .slice sq lq cq, .int .i64 n, .slice ra lr cr] w
      fun e w' => e = .returned (.bool true) ∧ Below w.heap.size w w' := by
  by_cases hq : lp ≤ 10 ∧ ll ≤ 10 ∧ lk ≤ 6
  case neg => exact lawbo_a il ih pa la ka sq lp cp ll cl lk ck lq cq p l c s n ra lr cr r w hlp hll hlk hlq (Lib.hid H) (Lib.hid HC) (Lib.hid HS) K hq
  by_cases hq4 : lq ≤ 10
  case neg => exact lawbo_a2 il ih pa la ka sq lp cp ll cl lk ck lq cq p l c s n ra lr cr r w hlp hll hlk hlq (Lib.hid H) (Lib.hid HC) (Lib.hid HS) K hq hq4
  by_cases hR : SipP il ih lp ll p l
  case neg => exact lawbo_b1 il ih pa la ka sq lp cp ll cl lk ck lq cq p l c s n ra lr cr r w hlp hll hlk hlq (Lib.hid H) (Lib.hid HC) (Lib.hid HS) K hq hq4 (Lib.hid hR)
  by_cases hK : ClsP lk c
  case neg => exact lawbo_b2 il ih pa la ka sq lp cp ll cl lk ck lq cq p l c s n ra lr cr r w hlp hll hlk hlq (Lib.hid H) (Lib.hid HC) (Lib.hid HS) K hq hq4 (Lib.hid hR) (Lib.hid hK)
  by_cases hQ : ChoP lk ll lq s
  case neg => exact lawbo_b3 il ih pa la ka sq lp cp ll cl lk ck lq cq p l c s n ra lr cr r w hlp hll hlk hlq (Lib.hid H) (Lib.hid HC) (Lib.hid HS) K hq hq4 (Lib.hid hR) (Lib.hid hK) (Lib.hid hQ)
  obtain rfl := hR.lpe
  obtain rfl := hQ.eq
  obtain ⟨C, P, rfl, hC, hsp⟩ := H.hp.resolve_left (by have := hR.lp1; omega)
  obtain ⟨A, O, rfl, hA, hln⟩ := H.hl.resolve_left (by have := hR.lp1; omega)
  obtain ⟨C2, P2, rfl, hC2, hcl⟩ := HC.resolve_left (by have := hK.n1; omega)
  obtain ⟨D, F, rfl, hD, hss⟩ := HS.resolve_left (by have := hR.lp1; omega)
  have HSA : Hid (SipAt w C P (lq + 1) A O lq il ih p l) := Lib.hid ⟨hC, hA, hsp, hln, hR.lp1, hR.lp2, rfl, hR.iok, hR.pok, hR.lok⟩
  by_cases hZ : HeiP il ih (lq + 1) p n lr r
  case neg => exact lawbo_b4 il ih C P cp A O lq cl p l C2 P2 lk ck c D F cq s n ra lr cr r w HSA hC2 (Lib.hid hcl) (Lib.hid hK) hD (Lib.hid hss) (Lib.hid hQ) hlr (Lib.hid HZ) K (by omega) (Lib.hid hZ)
  cases hch : cheap (sufL lk (cBu c (prOf il ih p)) l (cSt c) (cPr c) lq) with
  | none => exact lawbo_d0 il ih C P cp A O lq cl p l C2 P2 lk ck c D F cq s n ra lr cr r w HSA hC2 (Lib.hid hcl) (Lib.hid hK) hD (Lib.hid hss) (Lib.hid hQ) hlr (Lib.hid HZ) K (Lib.hid hZ) (Lib.hid hch)
  | some y =>
    obtain ⟨h1, h2, h3, h4, _⟩ := best_of hch
    refine lawbo_d1 il ih C P cp A O lq cl p l C2 P2 lk ck c D F cq s n ra lr cr r y w HSA hC2 (Lib.hid hcl) (Lib.hid hK) hD (Lib.hid hss) (Lib.hid hQ) hlr (Lib.hid HZ) K (Lib.hid hZ) (Lib.hid hch) (Lib.hid h1) (Lib.hid h2) (Lib.hid (best_bears (fun i hi => ?_) (fun j hj => ?_) hch))
    · have := hR.lok i hi; simp only [fromB, decide_eq_true_eq] at this; exact this
    · have := hK.ok j hj; simp only [clB, decide_eq_true_eq] at this; omega
end Go.Kn
