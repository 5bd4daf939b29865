/- Contracts of functions that the laws of this seat call, or the evaluator of closed calls and its runs. Conditions: as each theorem states them. -/
import Derived.Test.YtpfbfdcpibajoaaGreatDoorJD
set_option linter.unusedVariables false
set_option linter.unusedSimpArgs false
namespace Go.Kn
open Go Go.Proofs Go.RowKit

theorem below_go7 {A B C : World} (h : Below A.heap.size A B) (k : Below B.heap.size B C) : Below A.heap.size A C := h.trans (k.mono h.size)
/-- what a round of Swaps finds in memory, in each later world -/
structure SwM (f : Int) (na oa a1 a2 : Option Addr) (ln cn lo co p n1 c1 n2 c2 : Nat) (N : Nat → N2) (U : Nat → O3) (s1 s2 : Nat → Int) (w : World) : Prop where
  y1 : w.cell? ⟨p, 0, none⟩ = some (.int .i64 f)
  y2 : w.cell? ⟨p, 1, none⟩ = some (.slice na ln cn)
  y3 : w.cell? ⟨p, 2, none⟩ = some (.slice oa lo co)
  tr : Tr7 w na oa ln lo N U
  i1 : IntSl w a1 n1 s1
  i2 : IntSl w a2 n2 s2

set_option maxRecDepth 100000 in
set_option maxHeartbeats 2000000 in
/-- a day with an outlet instead of another one, and whether it can be -/
theorem insRun_w (f : Int) (na oa : Option Addr) (ln cn lo co n c A O : Nat) (N : Nat → N2) (U : Nat → O3) (s : Nat → Int) (gone come : Int) (w : World) (hn : n ≤ 1000000) (HR : Hid (TreeP f ln lo N U)) (HT : Hid (∀ w2, Below w.heap.size w w2 → Tr7 w2 na oa ln lo N U)) (hA : A < w.heap.size) (HN : Hid (NumAt w A O n s)) (HL : Hid (LsP lo n s)) (hx : hasB s gone n = true) (hc : hasB s come n = false) (h0 : 0 ≤ come ∧ come < (lo : Int)) :
    Calls Tryz.prog 98 #[.slice (some ⟨A, O, none⟩) n c, .int .i64 gone, .int .i64 come] w fun e w' => (∃ g cap, e = .returned (.slice (some ⟨g, 0, none⟩) n cap) ∧ ∀ w2, Below w'.heap.size w' w2 → Calls Tryz.prog 97 #[.agg #[.int .i64 f, .slice na ln cn, .slice oa lo co], .slice (some ⟨g, 0, none⟩) n cap] w2 fun e w3 => e = .returned (.bool (runE f ln lo N U (insB (dB ⟨some ⟨A, O, none⟩, n, c, s⟩) gone come))) ∧ Below w2.heap.size w2 w3) ∧ Below w.heap.size w w' := by
  refine (instead_w A O n c s gone come w hn hA HN hx).mono ?_
  rintro e w' ⟨⟨g, cap, i, rfl, hi, hs, h1, h2, h3⟩, hv⟩
  refine ⟨⟨g, cap, rfl, fun w2 h => ?_⟩, hv⟩
  have hb := hv.trans (h.mono hv.size)
  refine (canRun_w f na oa (some ⟨g, 0, none⟩) ln cn lo co n cap N U (updI s i come) w2 hn (Lib.hid (HT.out _ hb)) (Lib.hid (.inr ⟨g, 0, rfl, Nat.lt_of_lt_of_le h2 h.size, h3.below h2 h⟩)) HR (Lib.hid (ls_upd HL.out hi hc h0))).mono ?_
  rintro e w3 ⟨rfl, hb3⟩
  have := runD_upd (f := f) (ln := ln) (N := N) (U := U) (a := some ⟨g, 0, none⟩) (a2 := some ⟨A, O, none⟩) (c := cap) (c2 := c) HL.out hi hs hc
  exact ⟨by rw [← this]; rfl, hb3⟩

set_option maxRecDepth 100000 in
set_option maxHeartbeats 8000000 in
theorem swaps_w (f zo zt : Int) (na oa pa : Option Addr) (ln cn lo co lp cp : Nat) (N : Nat → N2) (U : Nat → O3) (D : Nat → Dy) (w : World) (hlp : lp ≤ 10) (HR : Hid (TreeS f ln lo N U)) (H : Hid (Tr7 w na oa ln lo N U)) (HP : Hid (PlSl w pa lp D)) (HDY : Hid (∀ d, d < lp → dayB lo (D d).s (D d).n = true ∧ (D d).n ≤ 1000000)) (HRU : Hid (allN (fun d => runD f ln lo N U (D d)) lp = true)) (ho : fromB 0 ((lo : Int) - 1) zo = true) (ht : fromB 0 ((lo : Int) - 1) zt = true) (hne : zo ≠ zt) :
    Calls Tryz.prog 50 #[.agg #[.int .i64 f, .slice na ln cn, .slice oa lo co], .slice pa lp cp, .int .i64 zo, .int .i64 zt] w fun e w' => (∃ r1 r2 re : Int, e = .returned (.tuple #[.int .i64 r1, .int .i64 r2, .int .i64 re]) ∧ SwR (SwB f ln lo N U D zo zt) lp r1 r2 re 5) ∧ Below w.heap.size w w' := by
  have q1 := HR.out.l6
  have q2 := HR.out.lo2
  have hmx : Tryz.prog.follows .mixedOrders = true := by kernel_rfl
  have BX := Lib.hid (fun (w1 : World) (hb : Below (w.alloc (.cells #[.int .i64 f, .slice na ln cn, .slice oa lo co] 25)).heap.size (w.alloc (.cells #[.int .i64 f, .slice na ln cn, .slice oa lo co] 25)) w1) => box7 hb)
  have HN : Hid (∀ w1, Below (w.alloc (.cells #[.int .i64 f, .slice na ln cn, .slice oa lo co] 25)).heap.size (w.alloc (.cells #[.int .i64 f, .slice na ln cn, .slice oa lo co] 25)) w1 → Hid (Tr7 w1 na oa ln lo N U) ∧ Hid (PlSl w1 pa lp D)) := Lib.hid fun w1 h => ⟨Lib.hid (H.out.below (below_al h)), Lib.hid (HP.out.below (below_al h))⟩
  have hb : Below (w.alloc (.cells #[.int .i64 f, .slice na ln cn, .slice oa lo co] 25)).heap.size (w.alloc (.cells #[.int .i64 f, .slice na ln cn, .slice oa lo co] 25)) (w.alloc (.cells #[.int .i64 f, .slice na ln cn, .slice oa lo co] 25)) := Below.refl _ _
  obtain ⟨x1, x2, x3, x4⟩ := BX.out _ hb
  have HO := Lib.hid ho
  have HTT := Lib.hid ht
  have HPL : Hid (allN (fun d => dayB lo (D d).s (D d).n) lp = true) := Lib.hid ((allN_iff lp).2 fun d hd => (HDY.out d hd).1)
  have HLS : Hid (∀ d, d < lp → (D d).n ≤ 1000000 ∧ LsP lo (D d).n (D d).s) := Lib.hid fun d hd => ⟨(HDY.out d hd).2, dayB_ls (HDY.out d hd).1⟩
  have hzo : 0 ≤ zo ∧ zo < (lo : Int) := by simp only [fromB, decide_eq_true_eq] at ho; omega
  have hzt : 0 ≤ zt ∧ zt < (lo : Int) := by simp only [fromB, decide_eq_true_eq] at ht; omega
  have hp10 : decide (lp ≤ 10) = true := decide_eq_true hlp
  have HZ := Lib.hid (And.intro hzo hzt)
  have q0 : (zo == zt) = false := by rw [beq_eq_false_iff_ne]; exact hne
  clear H HP ho ht hzo hzt hne
  go_enter Tryz.func50, Tryz.ntmps50
  go_wp2_with (first
    | (go_at_call 62; refine (isTree_w f na oa ln cn lo co N U _ (by omega) (by omega) (HN.out _ hb).1).mono ?_; rintro e wl ⟨⟨rb, rfl, hrb⟩, hv⟩; obtain rfl : rb = true := hrb.2 HR.out; clear hrb; replace hb := hb.trans (hv.mono hb.size); clear x1 x2 x3 x4; obtain ⟨x1, x2, x3, x4⟩ := BX.out _ hb)
    | (go_at_call 93; refine (isPlan_w f na oa pa ln cn lo co lp cp D _ (by omega) (by omega) (Lib.hid fun d hd => by have := (HDY.out d hd).2; unfold maxLen; omega) (HN.out _ hb).2).mono ?_; rw [hp10, HPL.out]; rintro e wl ⟨rfl, hv⟩; replace hb := hb.trans (hv.mono hb.size); clear x1 x2 x3 x4; obtain ⟨x1, x2, x3, x4⟩ := BX.out _ hb)
    | (go_at_call_of 79 zo; refine (isOutlet_w f zo na oa ln cn lo co _ (by omega)).mono ?_; rw [HO.out]; rintro e wl ⟨rfl, hv⟩; replace hb := hb.trans (hv.mono hb.size); clear x1 x2 x3 x4; obtain ⟨x1, x2, x3, x4⟩ := BX.out _ hb)
    | (go_at_call_of 79 zt; refine (isOutlet_w f zt na oa ln cn lo co _ (by omega)).mono ?_; rw [HTT.out]; rintro e wl ⟨rfl, hv⟩; replace hb := hb.trans (hv.mono hb.size); clear x1 x2 x3 x4; obtain ⟨x1, x2, x3, x4⟩ := BX.out _ hb)
    | (go_at_call 94; refine (canBe_w f na oa pa ln cn lo co lp cp N U D _ (by omega) HLS (HN.out _ hb).2 (Lib.hid HR.out.w) (HN.out _ hb).1).mono ?_; rw [HRU.out]; rintro e wl ⟨rfl, hv⟩; replace hb := hb.trans (hv.mono hb.size); clear x1 x2 x3 x4; obtain ⟨x1, x2, x3, x4⟩ := BX.out _ hb))
  have HBL := Lib.hid hb
  clear hb x1 x2 x3 x4
  go_loopw [49] (fun ii wr => ∃ i : Nat, i ≤ lp ∧ ii = .int .i64 (i : Int) ∧ (∀ a' b', a' < i → b' < lp → SwB f ln lo N U D zo zt a' b' = false) ∧ Below wl.heap.size wl wr) (fun ii _ => lp - (Go.RowKit.intOf ii).toNat)
  case atStart => exact ⟨0, Nat.zero_le _, rfl, fun _ _ h _ => by omega, Below.refl _ _⟩
  case round =>
    obtain ⟨i, hi, rfl, hno, hbr⟩ := hrel
    have HNO := Lib.hid hno
    have HBR := Lib.hid hbr
    clear hno hbr
    by_cases hlt : i < lp
    case neg =>
      obtain rfl : i = lp := by omega
      go_wp2
      exact bodyPost_ret (v := .tuple #[.int .i64 0, .int .i64 0, .int .i64 5]) (by simp [results, Tryz.results50, go_sem]) rfl ⟨⟨0, 0, 5, rfl, .inr ⟨rfl, rfl, rfl, HNO.out⟩⟩, below_al (HBL.out.trans (HBR.out.mono HBL.out.size))⟩
    case pos =>
    have HPA : Hid (∀ w2, Below wl.heap.size wl w2 → (∃ A O, pa = some ⟨A, O, none⟩ ∧ PlAt w2 A O lp D)) := Lib.hid fun w2 h => by
      obtain ⟨A, O, e, _, hp⟩ := (HN.out _ (HBL.out.trans (h.mono HBL.out.size))).2.out.resolve_left (by omega)
      exact ⟨A, O, e, hp⟩
    obtain ⟨A, O, rfl, _⟩ := HPA.out _ HBR.out
    have HPB : Hid (∀ w2, Below wl.heap.size wl w2 → PlAt w2 A O lp D) := Lib.hid fun w2 h => by
      obtain ⟨A', O', e, hp⟩ := HPA.out w2 h
      cases e
      exact hp
    clear HPA
    obtain ⟨⟨a1, n1, c1, s1⟩, hdi⟩ : ∃ dy, D i = dy := ⟨_, rfl⟩
    have HDI := Lib.hid hdi
    have hin1 : (D i).n ≤ 1000000 := (HDY.out i hlt).2
    have z0 := (HPB.out _ HBR.out i hlt).1
    rw [hdi] at z0 hin1
    dsimp only at z0 hin1
    have m1 : (0 : Int) ≤ (i : Int) := by omega
    have m2 : (i : Int) < (lp : Int) := by omega
    clear hdi
    obtain ⟨w0, hw0⟩ : ∃ w0, w0 = wr := ⟨_, rfl⟩
    subst hw0
    go_wp2
    clear z0
    go_loopw [56] (fun jj wr => ∃ j : Nat, j ≤ lp ∧ jj = .int .i64 (j : Int) ∧ (∀ b', b' < j → SwB f ln lo N U D zo zt i b' = false) ∧ Below w0.heap.size w0 wr) (fun jj _ => lp - (Go.RowKit.intOf jj).toNat)
    case atStart => exact ⟨0, Nat.zero_le _, rfl, fun _ h => by omega, Below.refl _ _⟩
    case round =>
      obtain ⟨j, hj, rfl, hnj, hbr2⟩ := hrel
      have HNJ := Lib.hid hnj
      have HB2 := Lib.hid hbr2
      clear hnj hbr2
      have HBW := Lib.hid (HBR.out.trans (HB2.out.mono HBR.out.size))
      by_cases hlj : j < lp
      case neg =>
        obtain rfl : j = lp := by omega
        go_wp2
        refine ⟨⟨i + 1, by omega, by go_num, fun a' b' h1 h2 => ?_, HBW.out⟩, by simp [Go.RowKit.intOf]; omega⟩
        by_cases e : a' = i
        · subst e; exact HNJ.out b' h2
        · exact HNO.out a' b' (by omega) h2
      case pos =>
      obtain ⟨⟨a2, n2, c2, s2⟩, hdj⟩ : ∃ dy, D j = dy := ⟨_, rfl⟩
      have HDJ := Lib.hid hdj
      have hin2 : (D j).n ≤ 1000000 := (HDY.out j hlj).2
      have z0 := (HPB.out _ HBW.out j hlj).1
      rw [hdj] at z0 hin2
      dsimp only at z0 hin2
      have m3 : (0 : Int) ≤ (j : Int) := by omega
      have m4 : (j : Int) < (lp : Int) := by omega
      have hl1 : LsP lo n1 s1 := by have h := (HLS.out i hlt).2; rw [HDI.out] at h; exact h
      have hl2 : LsP lo n2 s2 := by have h := (HLS.out j hlj).2; rw [HDJ.out] at h; exact h
      have HL1 := Lib.hid hl1
      have HL2 := Lib.hid hl2
      have HM : Hid (∀ w2, Below wr.heap.size wr w2 → SwM f na oa a1 a2 ln cn lo co w.heap.size n1 c1 n2 c2 N U s1 s2 w2) := Lib.hid fun w2 h => by
        have h2 := HBW.out.trans (h.mono HBW.out.size)
        have h3 := HBL.out.trans (h2.mono HBL.out.size)
        obtain ⟨y1, y2, y3, _⟩ := BX.out _ h3
        have k1 := (HPB.out _ h2 i hlt).2
        have k2 := (HPB.out _ h2 j hlj).2
        rw [HDI.out] at k1
        rw [HDJ.out] at k2
        exact ⟨y1, y2, y3, (HN.out _ h3).1.out, k1, k2⟩
      have hsw : SwB f ln lo N U D zo zt i j = (((hasB s1 zo n1 && !hasB s2 zo n2) && (hasB s2 zt n2 && !hasB s1 zt n1)) && (runE f ln lo N U (insB (dB ⟨a1, n1, c1, s1⟩) zo zt) && runE f ln lo N U (insB (dB ⟨a2, n2, c2, s2⟩) zt zo))) := by
        unfold SwB; rw [HDI.out, HDJ.out]
      have HSW := Lib.hid hsw
      have HI1 : Hid (∀ w2, Below wr.heap.size wr w2 → Calls Tryz.prog 96 #[.slice a1 n1 c1, .slice a2 n2 c2, .int .i64 zo] w2 fun e w' => e = .returned (.bool (hasB s1 zo n1 && !hasB s2 zo n2)) ∧ w' = w2) := Lib.hid fun w2 h => isIn_w a1 a2 n1 c1 n2 c2 s1 s2 zo w2 hin1 hin2 (Lib.hid (HM.out w2 h).i1) (Lib.hid (HM.out w2 h).i2)
      have HI2 : Hid (∀ w2, Below wr.heap.size wr w2 → Calls Tryz.prog 96 #[.slice a2 n2 c2, .slice a1 n1 c1, .int .i64 zt] w2 fun e w' => e = .returned (.bool (hasB s2 zt n2 && !hasB s1 zt n1)) ∧ w' = w2) := Lib.hid fun w2 h => isIn_w a2 a1 n2 c2 n1 c1 s2 s1 zt w2 hin2 hin1 (Lib.hid (HM.out w2 h).i2) (Lib.hid (HM.out w2 h).i1)
      clear hdj hl1 hl2 hsw
      cases h1 : (hasB s1 zo n1 && !hasB s2 zo n2) with
      | false =>
        have HNX : Hid (SwB f ln lo N U D zo zt i j = false) := Lib.hid (by rw [HSW.out, h1]; rfl)
        rw [h1] at HI1
        clear h1
        go_wp2
        clear z0
        refine wp_region_calm (W := wr) hmx (by kernel_rfl) (Below.refl _ _) ?_
        repeat (first
          | (refine calm_no (by rfl) ?_
             (try simp only [Act.put, List.setIfInBounds_toArray, List.set_cons_zero, List.set_cons_succ]))
          | (apply calm_yes
             focus rfl
             focus
               intro w' hw'
               obtain ⟨z1, z2, z3, _, _, _⟩ := HM.out w' hw'
               go_simp
               first
                 | done
                 | with_reducible rfl
                 | (go_at_call_of 96 zo; refine (HI1.out w' hw').mono ?_; rintro e w2 ⟨he, hw2⟩; exact ⟨he, by rw [hw2]; exact hw'⟩)
                 | fail
             (try simp only [Act.put, List.setIfInBounds_toArray, List.set_cons_zero, List.set_cons_succ])))
        refine calm_nil ?_
        intro w7 hqw7
        have HB7 := Lib.hid hqw7
        clear hqw7
        go_wp2
        go_roundw
        case rel => exact ⟨j + 1, by omega, by go_num, fun b' h => by (by_cases e : b' = j; (subst e; exact HNX.out); exact HNJ.out b' (by omega)), HB2.out.trans (HB7.out.mono HB2.out.size)⟩
        case measure => simp [Go.RowKit.intOf]; omega
      | true =>
        have HH1 := Lib.hid h1
        rw [h1] at HI1
        clear h1
        cases h2 : (hasB s2 zt n2 && !hasB s1 zt n1) with
        | false =>
          have HNX : Hid (SwB f ln lo N U D zo zt i j = false) := Lib.hid (by rw [HSW.out, HH1.out, h2]; rfl)
          rw [h2] at HI2
          clear h2
          go_wp2
          clear z0
          refine wp_region_calm (W := wr) hmx (by kernel_rfl) (Below.refl _ _) ?_
          repeat (first
            | (refine calm_no (by rfl) ?_
               (try simp only [Act.put, List.setIfInBounds_toArray, List.set_cons_zero, List.set_cons_succ]))
            | (apply calm_yes
               focus rfl
               focus
                 intro w' hw'
                 obtain ⟨z1, z2, z3, _, _, _⟩ := HM.out w' hw'
                 go_simp
                 first
                   | done
                   | with_reducible rfl
                   | (go_at_call_of 96 zo; refine (HI1.out w' hw').mono ?_; rintro e w2 ⟨he, hw2⟩; exact ⟨he, by rw [hw2]; exact hw'⟩)
                   | (go_at_call_of 96 zt; refine (HI2.out w' hw').mono ?_; rintro e w2 ⟨he, hw2⟩; exact ⟨he, by rw [hw2]; exact hw'⟩)
                   | fail
               (try simp only [Act.put, List.setIfInBounds_toArray, List.set_cons_zero, List.set_cons_succ])))
          refine calm_nil ?_
          intro w7 hqw7
          have HB7 := Lib.hid hqw7
          clear hqw7
          go_wp2
          go_roundw
          case rel => exact ⟨j + 1, by omega, by go_num, fun b' h => by (by_cases e : b' = j; (subst e; exact HNX.out); exact HNJ.out b' (by omega)), HB2.out.trans (HB7.out.mono HB2.out.size)⟩
          case measure => simp [Go.RowKit.intOf]; omega
        | true =>
          have HH2 := Lib.hid h2
          rw [h2] at HI2
          clear h2
          have b11 : hasB s1 zo n1 = true := by have h := HH1.out; simp only [Bool.and_eq_true] at h; exact h.1
          have b12 : hasB s2 zo n2 = false := by have h := HH1.out; simp only [Bool.and_eq_true, Bool.not_eq_true'] at h; exact h.2
          have b21 : hasB s2 zt n2 = true := by have h := HH2.out; simp only [Bool.and_eq_true] at h; exact h.1
          have b22 : hasB s1 zt n1 = false := by have h := HH2.out; simp only [Bool.and_eq_true, Bool.not_eq_true'] at h; exact h.2
          obtain ⟨A1, O1, rfl, hA1, hN1⟩ := (HM.out wr (Below.refl _ _)).i1.resolve_left (by intro h; subst h; cases b11)
          obtain ⟨A2, O2, rfl, hA2, hN2⟩ := (HM.out wr (Below.refl _ _)).i2.resolve_left (by intro h; subst h; cases b21)
          have HS1 : Hid (∀ w2, Below wr.heap.size wr w2 → Calls Tryz.prog 98 #[.slice (some ⟨A1, O1, none⟩) n1 c1, .int .i64 zo, .int .i64 zt] w2 fun e w' => (∃ g cap, e = .returned (.slice (some ⟨g, 0, none⟩) n1 cap) ∧ ∀ w3, Below w'.heap.size w' w3 → Calls Tryz.prog 97 #[.agg #[.int .i64 f, .slice na ln cn, .slice oa lo co], .slice (some ⟨g, 0, none⟩) n1 cap] w3 fun e w4 => e = .returned (.bool (runE f ln lo N U (insB (dB ⟨some ⟨A1, O1, none⟩, n1, c1, s1⟩) zo zt))) ∧ Below w3.heap.size w3 w4) ∧ Below w2.heap.size w2 w') := Lib.hid fun w2 h => insRun_w f na oa ln cn lo co n1 c1 A1 O1 N U s1 zo zt w2 hin1 (Lib.hid HR.out.w) (Lib.hid fun w3 h3 => (HM.out w3 (h.trans (h3.mono h.size))).tr) (Nat.lt_of_lt_of_le hA1 h.size) (Lib.hid (hN1.below hA1 h)) HL1 b11 b22 HZ.out.2
          have HS2 : Hid (∀ w2, Below wr.heap.size wr w2 → Calls Tryz.prog 98 #[.slice (some ⟨A2, O2, none⟩) n2 c2, .int .i64 zt, .int .i64 zo] w2 fun e w' => (∃ g cap, e = .returned (.slice (some ⟨g, 0, none⟩) n2 cap) ∧ ∀ w3, Below w'.heap.size w' w3 → Calls Tryz.prog 97 #[.agg #[.int .i64 f, .slice na ln cn, .slice oa lo co], .slice (some ⟨g, 0, none⟩) n2 cap] w3 fun e w4 => e = .returned (.bool (runE f ln lo N U (insB (dB ⟨some ⟨A2, O2, none⟩, n2, c2, s2⟩) zt zo))) ∧ Below w3.heap.size w3 w4) ∧ Below w2.heap.size w2 w') := Lib.hid fun w2 h => insRun_w f na oa ln cn lo co n2 c2 A2 O2 N U s2 zt zo w2 hin2 (Lib.hid HR.out.w) (Lib.hid fun w3 h3 => (HM.out w3 (h.trans (h3.mono h.size))).tr) (Nat.lt_of_lt_of_le hA2 h.size) (Lib.hid (hN2.below hA2 h)) HL2 b21 b12 HZ.out.1
          clear hN1 hN2 b11 b12 b21 b22
          obtain ⟨R1, hR1⟩ : ∃ R, runE f ln lo N U (insB (dB ⟨some ⟨A1, O1, none⟩, n1, c1, s1⟩) zo zt) = R := ⟨_, rfl⟩
          obtain ⟨R2, hR2⟩ : ∃ R, runE f ln lo N U (insB (dB ⟨some ⟨A2, O2, none⟩, n2, c2, s2⟩) zt zo) = R := ⟨_, rfl⟩
          have HVAL : Hid (SwB f ln lo N U D zo zt i j = (R1 && R2)) := Lib.hid (by rw [HSW.out, HH1.out, HH2.out, hR1, hR2]; rfl)
          rw [hR1] at HS1
          rw [hR2] at HS2
          clear hR1 hR2 HSW
          cases R1 with
          | false =>
            have hbb : Below wr.heap.size wr wr := Below.refl _ _
            obtain ⟨x1, x2, x3, _, _, _⟩ := HM.out wr hbb
            go_wp2
            clear z0
            refine wp_region_held_drew (S := (fun w' => w'.cell? ⟨w.heap.size, 0, none⟩ = some (.int .i64 f) ∧ w'.cell? ⟨w.heap.size, 1, none⟩ = some (.slice na ln cn) ∧ w'.cell? ⟨w.heap.size, 2, none⟩ = some (.slice oa lo co))) (by kernel_rfl) ⟨x1, x2, x3⟩ (fun hHeld => ?_)
            refine wpAnyH_take (i := 0) (oi := ({ dst := some 61, op := Go.Op.move (Go.Operand.tmp 12), type := 26, pos := "turns.go:103", after := #[], guard := none } : Go.Oper)) (v := ?_) rfl (by kernel_rfl) (by kernel_rfl) (by kernel_rfl) (fun _ _ _ h => h) (Or.inl ⟨by rfl, ?_⟩) (by assumption) ?_
            rotate_left
            focus (intro w hSw; (try dsimp only at hSw); go_simp; first | done | with_reducible rfl)
            (try simp only [Act.put, List.setIfInBounds_toArray, List.set_cons_zero, List.set_cons_succ])
            refine wpAnyH_take (i := 1) (oi := ({ dst := some 62, op := Go.Op.move (Go.Operand.tmp 14), type := 26, pos := "turns.go:103", after := #[], guard := none } : Go.Oper)) (v := ?_) rfl (by kernel_rfl) (by kernel_rfl) (by kernel_rfl) (fun _ _ _ h => h) (Or.inl ⟨by rfl, ?_⟩) (by assumption) ?_
            rotate_left
            focus (intro w hSw; (try dsimp only at hSw); go_simp; first | done | with_reducible rfl)
            (try simp only [Act.put, List.setIfInBounds_toArray, List.set_cons_zero, List.set_cons_succ])
            refine wpAnyH_take (i := 2) (oi := ({ dst := some 63, op := Go.Op.move (Go.Operand.tmp 2), type := 3, pos := "turns.go:103", after := #[], guard := none } : Go.Oper)) (v := ?_) rfl (by kernel_rfl) (by kernel_rfl) (by kernel_rfl) (fun _ _ _ h => h) (Or.inl ⟨by rfl, ?_⟩) (by assumption) ?_
            rotate_left
            focus (intro w hSw; (try dsimp only at hSw); go_simp; first | done | with_reducible rfl)
            (try simp only [Act.put, List.setIfInBounds_toArray, List.set_cons_zero, List.set_cons_succ])
            refine wpAnyH_ready (rs := [3]) (by kernel_rfl) (by simp) ?_
            refine AllReadyH.cons (o := ({ dst := some 64, op := Go.Op.call { callee := Go.Callee.value (Go.Operand.func 96), args := #[Go.Operand.tmp 61, Go.Operand.tmp 62, Go.Operand.tmp 63], argTypes := #[26, 26, 3] }, type := 4, pos := "turns.go:103", after := #[{ on := 0, ground := Go.Ground.data }, { on := 1, ground := Go.Ground.data }, { on := 2, ground := Go.Ground.data }], guard := none } : Go.Oper)) rfl (fun K hK => ?_) AllReadyH.nil
            go_simp
            go_at_call_of 96 zo; refine (HI1.out _ (by first | exact hbb | exact below_drew hbb)).mono ?_; rintro e w1 ⟨rfl, rfl⟩; go_simp
            refine hK.out _ _ ⟨x1, x2, x3⟩ (fun hHeld => ?_)
            clear hK K
            (try simp only [Act.put, List.setIfInBounds_toArray, List.set_cons_zero, List.set_cons_succ])
            refine wpAnyH_take (i := 4) (oi := ({ dst := some 65, op := Go.Op.move (Go.Operand.tmp 64), type := 4, pos := "turns.go:103", after := #[{ on := 3, ground := Go.Ground.data }, { on := 3, ground := Go.Ground.chain }], guard := none } : Go.Oper)) (v := ?_) rfl (by kernel_rfl) (by kernel_rfl) (by kernel_rfl) (fun _ _ _ h => h) (Or.inl ⟨by rfl, ?_⟩) (by assumption) ?_
            rotate_left
            focus (intro w hSw; (try dsimp only at hSw); go_simp; first | done | with_reducible rfl)
            (try simp only [Act.put, List.setIfInBounds_toArray, List.set_cons_zero, List.set_cons_succ])
            refine wpAnyH_take (i := 5) (oi := ({ dst := some 66, op := Go.Op.move (Go.Operand.tmp 14), type := 26, pos := "turns.go:103", after := #[{ on := 4, ground := Go.Ground.guard }], guard := some (4, true) } : Go.Oper)) (v := ?_) rfl (by kernel_rfl) (by kernel_rfl) (by kernel_rfl) (fun _ _ _ h => h) (Or.inl ⟨by rfl, ?_⟩) (by assumption) ?_
            rotate_left
            focus (intro w hSw; (try dsimp only at hSw); go_simp; first | done | with_reducible rfl)
            (try simp only [Act.put, List.setIfInBounds_toArray, List.set_cons_zero, List.set_cons_succ])
            refine wpAnyH_take (i := 6) (oi := ({ dst := some 67, op := Go.Op.move (Go.Operand.tmp 12), type := 26, pos := "turns.go:103", after := #[{ on := 4, ground := Go.Ground.guard }], guard := some (4, true) } : Go.Oper)) (v := ?_) rfl (by kernel_rfl) (by kernel_rfl) (by kernel_rfl) (fun _ _ _ h => h) (Or.inl ⟨by rfl, ?_⟩) (by assumption) ?_
            rotate_left
            focus (intro w hSw; (try dsimp only at hSw); go_simp; first | done | with_reducible rfl)
            (try simp only [Act.put, List.setIfInBounds_toArray, List.set_cons_zero, List.set_cons_succ])
            refine wpAnyH_take (i := 7) (oi := ({ dst := some 68, op := Go.Op.move (Go.Operand.tmp 3), type := 3, pos := "turns.go:103", after := #[{ on := 4, ground := Go.Ground.guard }], guard := some (4, true) } : Go.Oper)) (v := ?_) rfl (by kernel_rfl) (by kernel_rfl) (by kernel_rfl) (fun _ _ _ h => h) (Or.inl ⟨by rfl, ?_⟩) (by assumption) ?_
            rotate_left
            focus (intro w hSw; (try dsimp only at hSw); go_simp; first | done | with_reducible rfl)
            (try simp only [Act.put, List.setIfInBounds_toArray, List.set_cons_zero, List.set_cons_succ])
            refine wpAnyH_ready (rs := [8]) (by kernel_rfl) (by simp) ?_
            refine AllReadyH.cons (o := ({ dst := some 69, op := Go.Op.call { callee := Go.Callee.value (Go.Operand.func 96), args := #[Go.Operand.tmp 66, Go.Operand.tmp 67, Go.Operand.tmp 68], argTypes := #[26, 26, 3] }, type := 4, pos := "turns.go:103", after := #[{ on := 5, ground := Go.Ground.data }, { on := 6, ground := Go.Ground.data }, { on := 7, ground := Go.Ground.data }, { on := 4, ground := Go.Ground.chain }, { on := 4, ground := Go.Ground.guard }], guard := some (4, true) } : Go.Oper)) rfl (fun K hK => ?_) AllReadyH.nil
            go_simp
            go_at_call_of 96 zt; refine (HI2.out _ (by first | exact hbb | exact below_drew hbb)).mono ?_; rintro e w1 ⟨rfl, rfl⟩; go_simp
            refine hK.out _ _ ⟨x1, x2, x3⟩ (fun hHeld => ?_)
            clear hK K
            (try simp only [Act.put, List.setIfInBounds_toArray, List.set_cons_zero, List.set_cons_succ])
            refine wpAnyH_take (i := 9) (oi := ({ dst := some 70, op := Go.Op.pick (Go.Operand.tmp 65) (Go.Operand.tmp 69) (Go.Operand.const (Go.Value.bool false)), type := 4, pos := "turns.go:103", after := #[{ on := 4, ground := Go.Ground.data }, { on := 8, ground := Go.Ground.data }], guard := none } : Go.Oper)) (v := ?_) rfl (by kernel_rfl) (by kernel_rfl) (by kernel_rfl) (fun _ _ _ h => h) (Or.inl ⟨by rfl, ?_⟩) (by assumption) ?_
            rotate_left
            focus (intro w hSw; (try dsimp only at hSw); go_simp; first | done | with_reducible rfl)
            (try simp only [Act.put, List.setIfInBounds_toArray, List.set_cons_zero, List.set_cons_succ])
            refine wpAnyH_take (i := 10) (oi := ({ dst := some 71, op := Go.Op.move (Go.Operand.tmp 70), type := 4, pos := "turns.go:103", after := #[{ on := 9, ground := Go.Ground.data }, { on := 8, ground := Go.Ground.chain }], guard := none } : Go.Oper)) (v := ?_) rfl (by kernel_rfl) (by kernel_rfl) (by kernel_rfl) (fun _ _ _ h => h) (Or.inl ⟨by rfl, ?_⟩) (by assumption) ?_
            rotate_left
            focus (intro w hSw; (try dsimp only at hSw); go_simp; first | done | with_reducible rfl)
            (try simp only [Act.put, List.setIfInBounds_toArray, List.set_cons_zero, List.set_cons_succ])
            refine wpAnyH_take (i := 11) (oi := ({ dst := some 72, op := Go.Op.load 25 (Go.Operand.tmp 4), type := 25, pos := "turns.go:103", after := #[{ on := 10, ground := Go.Ground.guard }], guard := some (10, true) } : Go.Oper)) (v := ?_) rfl (by kernel_rfl) (by kernel_rfl) (by kernel_rfl) (fun _ _ _ h => h) (Or.inl ⟨by rfl, ?_⟩) (by assumption) ?_
            rotate_left
            focus (intro w hSw; (try dsimp only at hSw); go_simp; first | done | with_reducible rfl)
            (try simp only [Act.put, List.setIfInBounds_toArray, List.set_cons_zero, List.set_cons_succ])
            refine wpAnyH_take (i := 12) (oi := ({ dst := some 73, op := Go.Op.move (Go.Operand.tmp 12), type := 26, pos := "turns.go:103", after := #[{ on := 10, ground := Go.Ground.guard }], guard := some (10, true) } : Go.Oper)) (v := ?_) rfl (by kernel_rfl) (by kernel_rfl) (by kernel_rfl) (fun _ _ _ h => h) (Or.inl ⟨by rfl, ?_⟩) (by assumption) ?_
            rotate_left
            focus (intro w hSw; (try dsimp only at hSw); go_simp; first | done | with_reducible rfl)
            (try simp only [Act.put, List.setIfInBounds_toArray, List.set_cons_zero, List.set_cons_succ])
            refine wpAnyH_take (i := 13) (oi := ({ dst := some 74, op := Go.Op.move (Go.Operand.tmp 2), type := 3, pos := "turns.go:103", after := #[{ on := 10, ground := Go.Ground.guard }], guard := some (10, true) } : Go.Oper)) (v := ?_) rfl (by kernel_rfl) (by kernel_rfl) (by kernel_rfl) (fun _ _ _ h => h) (Or.inl ⟨by rfl, ?_⟩) (by assumption) ?_
            rotate_left
            focus (intro w hSw; (try dsimp only at hSw); go_simp; first | done | with_reducible rfl)
            (try simp only [Act.put, List.setIfInBounds_toArray, List.set_cons_zero, List.set_cons_succ])
            refine wpAnyH_take (i := 14) (oi := ({ dst := some 75, op := Go.Op.move (Go.Operand.tmp 3), type := 3, pos := "turns.go:103", after := #[{ on := 10, ground := Go.Ground.guard }], guard := some (10, true) } : Go.Oper)) (v := ?_) rfl (by kernel_rfl) (by kernel_rfl) (by kernel_rfl) (fun _ _ _ h => h) (Or.inl ⟨by rfl, ?_⟩) (by assumption) ?_
            rotate_left
            focus (intro w hSw; (try dsimp only at hSw); go_simp; first | done | with_reducible rfl)
            (try simp only [Act.put, List.setIfInBounds_toArray, List.set_cons_zero, List.set_cons_succ])
            refine wpAnyH_ready (rs := [15]) (by kernel_rfl) (by simp) ?_
            refine AllReadyH.cons (o := ({ dst := some 76, op := Go.Op.call { callee := Go.Callee.value (Go.Operand.func 98), args := #[Go.Operand.tmp 73, Go.Operand.tmp 74, Go.Operand.tmp 75], argTypes := #[26, 3, 3] }, type := 26, pos := "turns.go:103", after := #[{ on := 12, ground := Go.Ground.data }, { on := 13, ground := Go.Ground.data }, { on := 14, ground := Go.Ground.data }, { on := 10, ground := Go.Ground.chain }, { on := 10, ground := Go.Ground.guard }], guard := some (10, true) } : Go.Oper)) rfl (fun K hK => ?_) AllReadyH.nil
            go_simp
            go_at_call_of 98 A1; refine (HS1.out _ (by first | exact hbb | exact below_drew hbb)).mono ?_; rintro e w3 ⟨⟨g1, k1, rfl, hrun⟩, hv⟩; replace hbb : Below wr.heap.size wr w3 := below_go7 (by first | exact hbb | exact below_drew hbb) hv; have HRUN := Lib.hid hrun; clear x1 x2 x3 hrun hv; obtain ⟨x1, x2, x3, _, _, _⟩ := HM.out w3 hbb; go_simp
            refine hK.out _ _ ⟨x1, x2, x3⟩ (fun hHeld => ?_)
            clear hK K
            (try simp only [Act.put, List.setIfInBounds_toArray, List.set_cons_zero, List.set_cons_succ])
            refine wpAnyH_ready (rs := [16]) (by kernel_rfl) (by simp) ?_
            refine AllReadyH.cons (o := ({ dst := some 77, op := Go.Op.call { callee := Go.Callee.value (Go.Operand.func 97), args := #[Go.Operand.tmp 72, Go.Operand.tmp 76], argTypes := #[25, 26] }, type := 4, pos := "turns.go:103", after := #[{ on := 11, ground := Go.Ground.data }, { on := 15, ground := Go.Ground.data }, { on := 15, ground := Go.Ground.chain }, { on := 10, ground := Go.Ground.guard }], guard := some (10, true) } : Go.Oper)) rfl (fun K hK => ?_) AllReadyH.nil
            go_simp
            go_at_call_of 97 g1; refine (HRUN.out _ (by first | exact Below.refl _ _ | exact below_drew (Below.refl _ _))).mono ?_; rintro e w4 ⟨rfl, hv⟩; replace hbb : Below wr.heap.size wr w4 := below_go7 (by first | exact hbb | exact below_drew hbb) hv; clear x1 x2 x3 hv; obtain ⟨x1, x2, x3, _, _, _⟩ := HM.out w4 hbb; go_simp
            refine hK.out _ _ ⟨x1, x2, x3⟩ (fun hHeld => ?_)
            clear hK K
            (try simp only [Act.put, List.setIfInBounds_toArray, List.set_cons_zero, List.set_cons_succ])
            refine wpAnyH_take (i := 17) (oi := ({ dst := some 78, op := Go.Op.pick (Go.Operand.tmp 71) (Go.Operand.tmp 77) (Go.Operand.const (Go.Value.bool false)), type := 4, pos := "turns.go:103", after := #[{ on := 10, ground := Go.Ground.data }, { on := 16, ground := Go.Ground.data }], guard := none } : Go.Oper)) (v := ?_) rfl (by kernel_rfl) (by kernel_rfl) (by kernel_rfl) (fun _ _ _ h => h) (Or.inl ⟨by rfl, ?_⟩) (by assumption) ?_
            rotate_left
            focus (intro w hSw; (try dsimp only at hSw); go_simp; first | done | with_reducible rfl)
            (try simp only [Act.put, List.setIfInBounds_toArray, List.set_cons_zero, List.set_cons_succ])
            refine wpAnyH_take (i := 18) (oi := ({ dst := some 79, op := Go.Op.move (Go.Operand.tmp 78), type := 4, pos := "turns.go:103", after := #[{ on := 17, ground := Go.Ground.data }, { on := 16, ground := Go.Ground.chain }], guard := none } : Go.Oper)) (v := ?_) rfl (by kernel_rfl) (by kernel_rfl) (by kernel_rfl) (fun _ _ _ h => h) (Or.inl ⟨by rfl, ?_⟩) (by assumption) ?_
            rotate_left
            focus (intro w hSw; (try dsimp only at hSw); go_simp; first | done | with_reducible rfl)
            (try simp only [Act.put, List.setIfInBounds_toArray, List.set_cons_zero, List.set_cons_succ])
            refine wpAnyH_take (i := 19) (oi := ({ dst := some 80, op := Go.Op.load 25 (Go.Operand.tmp 4), type := 25, pos := "turns.go:103", after := #[{ on := 18, ground := Go.Ground.guard }], guard := some (18, true) } : Go.Oper)) (v := undef) rfl (by kernel_rfl) (by kernel_rfl) (by kernel_rfl) (fun _ _ _ h => h) (Or.inr ⟨by rfl, rfl⟩) (by assumption) ?_
            (try simp only [Act.put, List.setIfInBounds_toArray, List.set_cons_zero, List.set_cons_succ])
            refine wpAnyH_take (i := 20) (oi := ({ dst := some 81, op := Go.Op.move (Go.Operand.tmp 14), type := 26, pos := "turns.go:103", after := #[{ on := 18, ground := Go.Ground.guard }], guard := some (18, true) } : Go.Oper)) (v := undef) rfl (by kernel_rfl) (by kernel_rfl) (by kernel_rfl) (fun _ _ _ h => h) (Or.inr ⟨by rfl, rfl⟩) (by assumption) ?_
            (try simp only [Act.put, List.setIfInBounds_toArray, List.set_cons_zero, List.set_cons_succ])
            refine wpAnyH_take (i := 21) (oi := ({ dst := some 82, op := Go.Op.move (Go.Operand.tmp 3), type := 3, pos := "turns.go:103", after := #[{ on := 18, ground := Go.Ground.guard }], guard := some (18, true) } : Go.Oper)) (v := undef) rfl (by kernel_rfl) (by kernel_rfl) (by kernel_rfl) (fun _ _ _ h => h) (Or.inr ⟨by rfl, rfl⟩) (by assumption) ?_
            (try simp only [Act.put, List.setIfInBounds_toArray, List.set_cons_zero, List.set_cons_succ])
            refine wpAnyH_take (i := 22) (oi := ({ dst := some 83, op := Go.Op.move (Go.Operand.tmp 2), type := 3, pos := "turns.go:103", after := #[{ on := 18, ground := Go.Ground.guard }], guard := some (18, true) } : Go.Oper)) (v := undef) rfl (by kernel_rfl) (by kernel_rfl) (by kernel_rfl) (fun _ _ _ h => h) (Or.inr ⟨by rfl, rfl⟩) (by assumption) ?_
            (try simp only [Act.put, List.setIfInBounds_toArray, List.set_cons_zero, List.set_cons_succ])
            refine wpAnyH_take (i := 23) (oi := ({ dst := some 84, op := Go.Op.call { callee := Go.Callee.value (Go.Operand.func 98), args := #[Go.Operand.tmp 81, Go.Operand.tmp 82, Go.Operand.tmp 83], argTypes := #[26, 3, 3] }, type := 26, pos := "turns.go:103", after := #[{ on := 20, ground := Go.Ground.data }, { on := 21, ground := Go.Ground.data }, { on := 22, ground := Go.Ground.data }, { on := 18, ground := Go.Ground.chain }, { on := 18, ground := Go.Ground.guard }], guard := some (18, true) } : Go.Oper)) (v := undef) rfl (by kernel_rfl) (by kernel_rfl) (by kernel_rfl) (fun _ _ _ h => h) (Or.inr ⟨by rfl, rfl⟩) (by assumption) ?_
            (try simp only [Act.put, List.setIfInBounds_toArray, List.set_cons_zero, List.set_cons_succ])
            refine wpAnyH_take (i := 24) (oi := ({ dst := some 85, op := Go.Op.call { callee := Go.Callee.value (Go.Operand.func 97), args := #[Go.Operand.tmp 80, Go.Operand.tmp 84], argTypes := #[25, 26] }, type := 4, pos := "turns.go:103", after := #[{ on := 19, ground := Go.Ground.data }, { on := 23, ground := Go.Ground.data }, { on := 23, ground := Go.Ground.chain }, { on := 18, ground := Go.Ground.guard }], guard := some (18, true) } : Go.Oper)) (v := undef) rfl (by kernel_rfl) (by kernel_rfl) (by kernel_rfl) (fun _ _ _ h => h) (Or.inr ⟨by rfl, rfl⟩) (by assumption) ?_
            (try simp only [Act.put, List.setIfInBounds_toArray, List.set_cons_zero, List.set_cons_succ])
            refine wpAnyH_take (i := 25) (oi := ({ dst := some 86, op := Go.Op.pick (Go.Operand.tmp 79) (Go.Operand.tmp 85) (Go.Operand.const (Go.Value.bool false)), type := 4, pos := "turns.go:103", after := #[{ on := 18, ground := Go.Ground.data }, { on := 24, ground := Go.Ground.data }], guard := none } : Go.Oper)) (v := ?_) rfl (by kernel_rfl) (by kernel_rfl) (by kernel_rfl) (fun _ _ _ h => h) (Or.inl ⟨by rfl, ?_⟩) (by assumption) ?_
            rotate_left
            focus (intro w hSw; (try dsimp only at hSw); go_simp; first | done | with_reducible rfl)
            (try simp only [Act.put, List.setIfInBounds_toArray, List.set_cons_zero, List.set_cons_succ])
            refine wpAnyH_done (by kernel_rfl) ?_ _
            all_goals
              go_wp2
              go_roundw
              case rel => exact ⟨j + 1, by omega, by go_num, fun b' h => by (by_cases e : b' = j; (subst e; rw [HVAL.out]; rfl); exact HNJ.out b' (by omega)), HB2.out.trans (hbb.mono HB2.out.size)⟩
              case measure => simp [Go.RowKit.intOf]; omega
          | true =>
            cases R2 with
            | false =>
              have hbb : Below wr.heap.size wr wr := Below.refl _ _; obtain ⟨x1, x2, x3, _, _, _⟩ := HM.out wr hbb
              go_wp2
              clear z0
              first | (go_region_held3 (fun w' => w'.cell? ⟨w.heap.size, 0, none⟩ = some (.int .i64 f) ∧ w'.cell? ⟨w.heap.size, 1, none⟩ = some (.slice na ln cn) ∧ w'.cell? ⟨w.heap.size, 2, none⟩ = some (.slice oa lo co)) (first | exact ⟨x1, x2, x3⟩ | (obtain ⟨z1, z2, z3, _, _, _⟩ := HM.out _ (by first | exact hbb | exact below_drew hbb); exact ⟨z1, z2, z3⟩) | go_keep) (first
                | (go_at_call_of 96 zo; refine (HI1.out _ (by first | exact hbb | exact below_drew hbb)).mono ?_; rintro e w1 ⟨rfl, rfl⟩)
                | (go_at_call_of 96 zt; refine (HI2.out _ (by first | exact hbb | exact below_drew hbb)).mono ?_; rintro e w1 ⟨rfl, rfl⟩)
                | (go_at_call_of 98 A1; refine (HS1.out _ (by first | exact hbb | exact below_drew hbb)).mono ?_; rintro e w3 ⟨⟨g1, k1, rfl, hrun⟩, hv⟩; replace hbb : Below wr.heap.size wr w3 := below_go7 (by first | exact hbb | exact below_drew hbb) hv; have HRUN := Lib.hid hrun; clear x1 x2 x3 hrun hv; obtain ⟨x1, x2, x3, _, _, _⟩ := HM.out w3 hbb)
                | (go_at_call_of 97 g1; refine (HRUN.out _ (by first | exact Below.refl _ _ | exact below_drew (Below.refl _ _))).mono ?_; rintro e w4 ⟨rfl, hv⟩; replace hbb : Below wr.heap.size wr w4 := below_go7 (by first | exact hbb | exact below_drew hbb) hv; clear x1 x2 x3 hv; obtain ⟨x1, x2, x3, _, _, _⟩ := HM.out w4 hbb)
                | (go_at_call_of 98 A2; refine (HS2.out _ (by first | exact hbb | exact below_drew hbb)).mono ?_; rintro e w5 ⟨⟨g2, k2, rfl, hrun⟩, hv⟩; replace hbb : Below wr.heap.size wr w5 := below_go7 (by first | exact hbb | exact below_drew hbb) hv; have HRUN2 := Lib.hid hrun; clear x1 x2 x3 hrun hv; obtain ⟨x1, x2, x3, _, _, _⟩ := HM.out w5 hbb)
                | (go_at_call_of 97 g2; refine (HRUN2.out _ (by first | exact Below.refl _ _ | exact below_drew (Below.refl _ _))).mono ?_; rintro e w6 ⟨rfl, hv⟩; replace hbb : Below wr.heap.size wr w6 := below_go7 (by first | exact hbb | exact below_drew hbb) hv; clear x1 x2 x3 hv; obtain ⟨x1, x2, x3, _, _, _⟩ := HM.out w6 hbb))) | fail
              all_goals
                go_wp2
                go_roundw
                case rel => exact ⟨j + 1, by omega, by go_num, fun b' h => by (by_cases e : b' = j; (subst e; rw [HVAL.out]; rfl); exact HNJ.out b' (by omega)), HB2.out.trans (hbb.mono HB2.out.size)⟩
                case measure => simp [Go.RowKit.intOf]; omega
            | true =>
              have hbb : Below wr.heap.size wr wr := Below.refl _ _; obtain ⟨x1, x2, x3, _, _, _⟩ := HM.out wr hbb
              go_wp2
              clear z0
              first | (go_region_held3 (fun w' => w'.cell? ⟨w.heap.size, 0, none⟩ = some (.int .i64 f) ∧ w'.cell? ⟨w.heap.size, 1, none⟩ = some (.slice na ln cn) ∧ w'.cell? ⟨w.heap.size, 2, none⟩ = some (.slice oa lo co)) (first | exact ⟨x1, x2, x3⟩ | (obtain ⟨z1, z2, z3, _, _, _⟩ := HM.out _ (by first | exact hbb | exact below_drew hbb); exact ⟨z1, z2, z3⟩) | go_keep) (first
                | (go_at_call_of 96 zo; refine (HI1.out _ (by first | exact hbb | exact below_drew hbb)).mono ?_; rintro e w1 ⟨rfl, rfl⟩)
                | (go_at_call_of 96 zt; refine (HI2.out _ (by first | exact hbb | exact below_drew hbb)).mono ?_; rintro e w1 ⟨rfl, rfl⟩)
                | (go_at_call_of 98 A1; refine (HS1.out _ (by first | exact hbb | exact below_drew hbb)).mono ?_; rintro e w3 ⟨⟨g1, k1, rfl, hrun⟩, hv⟩; replace hbb : Below wr.heap.size wr w3 := below_go7 (by first | exact hbb | exact below_drew hbb) hv; have HRUN := Lib.hid hrun; clear x1 x2 x3 hrun hv; obtain ⟨x1, x2, x3, _, _, _⟩ := HM.out w3 hbb)
                | (go_at_call_of 97 g1; refine (HRUN.out _ (by first | exact Below.refl _ _ | exact below_drew (Below.refl _ _))).mono ?_; rintro e w4 ⟨rfl, hv⟩; replace hbb : Below wr.heap.size wr w4 := below_go7 (by first | exact hbb | exact below_drew hbb) hv; clear x1 x2 x3 hv; obtain ⟨x1, x2, x3, _, _, _⟩ := HM.out w4 hbb)
                | (go_at_call_of 98 A2; refine (HS2.out _ (by first | exact hbb | exact below_drew hbb)).mono ?_; rintro e w5 ⟨⟨g2, k2, rfl, hrun⟩, hv⟩; replace hbb : Below wr.heap.size wr w5 := below_go7 (by first | exact hbb | exact below_drew hbb) hv; have HRUN2 := Lib.hid hrun; clear x1 x2 x3 hrun hv; obtain ⟨x1, x2, x3, _, _, _⟩ := HM.out w5 hbb)
                | (go_at_call_of 97 g2; refine (HRUN2.out _ (by first | exact Below.refl _ _ | exact below_drew (Below.refl _ _))).mono ?_; rintro e w6 ⟨rfl, hv⟩; replace hbb : Below wr.heap.size wr w6 := below_go7 (by first | exact hbb | exact below_drew hbb) hv; clear x1 x2 x3 hv; obtain ⟨x1, x2, x3, _, _, _⟩ := HM.out w6 hbb))) | fail
              all_goals
                go_wp2
                exact bodyPost_ret (v := .tuple #[.int .i64 (i : Int), .int .i64 (j : Int), .int .i64 0]) (by simp [results, Tryz.results50, go_sem]) rfl ⟨⟨(i : Int), (j : Int), 0, rfl, .inl ⟨rfl, i, j, rfl, rfl, hlt, hlj, by rw [HVAL.out]; rfl, HNJ.out, HNO.out⟩⟩, below_al (HBL.out.trans ((HBW.out.trans (hbb.mono HBW.out.size)).mono HBL.out.size))⟩
end Go.Kn
