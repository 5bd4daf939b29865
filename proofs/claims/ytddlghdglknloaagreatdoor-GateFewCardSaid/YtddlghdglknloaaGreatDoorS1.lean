/- Contracts of functions that the laws of this seat call, or the evaluator of closed calls and its runs. Conditions: as each theorem states them. -/
import Derived.Test.YtddlghdglknloaaGreatDoorS0
set_option linter.unusedVariables false
set_option linter.unusedSimpArgs false
namespace Go.Kn
open Go Go.Proofs Go.RowKit

set_option maxRecDepth 100000 in
set_option maxHeartbeats 12000000 in
theorem lawfew_U (pa ca : Option Addr) (lp cp lc cc : Nat) (P : Nat → P8) (C : Nat → C8) (sa ta oa ya : Option Addr) (m sc n tc q oc r yc : Nat) (s t u y : Nat → Int) (w : World) (H : Hid (Ne8 w pa ca lp lc P C)) (HO : Hid (IntSl w sa m s)) (HT : Hid (IntSl w ta n t)) (HU : Hid (IntSl w oa q u)) (HY : Hid (IntSl w ya r y)) (HP0 : NetP lp P lc C) (HG0 : gatsB lc C s m = true) (HG20 : gatsB lc C t n = true) (HG30 : gatsB lc C u q = true) (HG40 : gatsB lc C y r = true) (hm : m ≤ 10) (hn : n ≤ 10) (hq10 : q ≤ 10) (hr : r ≤ 10) (hrb : rgB lp P lc C s m = true) (hw : fedV lp P lc C (opnF u q) false = false) (K : Hid KnownOk) (hpw : Hid (Pw w)) :
    Calls Tryz.prog 10 #[.agg #[.slice pa lp cp, .slice ca lc cc], .slice sa m sc, .slice ta n tc, .slice oa q oc, .slice ya r yc] w fun e w' => e = .returned (.bool true) ∧ Below w.heap.size w w' := by
  have hml : m ≤ maxLen := by unfold maxLen; omega
  have HP := Lib.hid HP0
  have HG := Lib.hid HG0
  have HG2 := Lib.hid HG20
  have HG3 := Lib.hid HG30
  have HG4 := Lib.hid HG40
  have hc10 := HP0.c10
  have hl7 := HP0.l7
  obtain ⟨W0, hW0⟩ : ∃ W0, W0 = w.alloc (.cells #[.slice pa lp cp, .slice ca lc cc] 25) := ⟨_, rfl⟩
  have hA : Below w.heap.size w W0 := by rw [hW0]; exact (Below.refl _ _).alloc (Nat.le_refl _) _
  have HF : Hid (∀ w2, Below W0.heap.size W0 w2 → w2.cell? ⟨w.heap.size, 0, none⟩ = some (.slice pa lp cp) ∧ w2.cell? ⟨w.heap.size, 1, none⟩ = some (.slice ca lc cc)) := Lib.hid fun w2 h => by
    rw [hW0] at h
    exact ⟨(box_cells h).1, (box_cells h).2.1⟩
  have HN : Hid (∀ w2, Below W0.heap.size W0 w2 → Hid (Ne8 w2 pa ca lp lc P C)) := Lib.hid fun w2 h => Lib.hid (H.out.below (hA.trans (h.mono hA.size)))
  have HOS : Hid (∀ w2, Below W0.heap.size W0 w2 → Hid (IntSl w2 sa m s)) := Lib.hid fun w2 h => Lib.hid (HO.out.below (hA.trans (h.mono hA.size)))
  have HTS : Hid (∀ w2, Below W0.heap.size W0 w2 → Hid (IntSl w2 ta n t)) := Lib.hid fun w2 h => Lib.hid (HT.out.below (hA.trans (h.mono hA.size)))
  have HUS : Hid (∀ w2, Below W0.heap.size W0 w2 → Hid (IntSl w2 oa q u)) := Lib.hid fun w2 h => Lib.hid (HU.out.below (hA.trans (h.mono hA.size)))
  have HYS : Hid (∀ w2, Below W0.heap.size W0 w2 → Hid (IntSl w2 ya r y)) := Lib.hid fun w2 h => Lib.hid (HY.out.below (hA.trans (h.mono hA.size)))
  have HKN : Hid (∀ w2, Below W0.heap.size W0 w2 → Calls Tryz.prog 16 #[] w2 fun e w' => e = .returned (.bool true) ∧ Below w2.heap.size w2 w') := Lib.hid fun w2 h => K.out w2 (hpw.out.on (hA.trans (h.mono hA.size)))
  have HSH : Hid (∀ w2, Below W0.heap.size W0 w2 → Calls Tryz.prog 15 #[.agg #[.slice pa lp cp, .slice ca lc cc]] w2 fun e w' => e = .returned (.bool (decide (lp ≤ 9 ∧ lc ≤ 13))) ∧ Below w2.heap.size w2 w') := Lib.hid fun w2 h => short_w pa ca lp cp lc cc w2
  have HRI : Hid (∀ w2, Below W0.heap.size W0 w2 → Calls Tryz.prog 22 #[.agg #[.slice pa lp cp, .slice ca lc cc], .slice sa m sc] w2 fun e w' => e = .returned (.bool (rgB lp P lc C s m)) ∧ Below w2.heap.size w2 w') := Lib.hid fun w2 h => right_b pa ca sa lp cp lc cc m sc P C s w2 hml (HN.out _ h) (HOS.out _ h)
  have HA := Lib.hid hA
  have HV : Hid (Below W0.heap.size W0 W0) := Lib.hid (Below.refl _ _)
  obtain ⟨g0, g1⟩ := HF.out _ (Below.refl _ _)
  rw [hW0] at g0 g1
  clear hA H HO HT HU HY
  have H2 : Hid (∀ w2, Below W0.heap.size W0 w2 → Calls Tryz.prog 19 #[.agg #[.slice pa lp cp, .slice ca lc cc], .slice ta n tc] w2 fun e w' => e = .returned (.bool (gatsB lc C t n)) ∧ Below w2.heap.size w2 w') := Lib.hid fun w2 h => rsome_w pa ca ta lp cp lc cc n tc P C t w2 (by omega) (by omega) (HN.out _ h) (HTS.out _ h)
  have H3 : Hid (∀ w2, Below W0.heap.size W0 w2 → Calls Tryz.prog 19 #[.agg #[.slice pa lp cp, .slice ca lc cc], .slice oa q oc] w2 fun e w' => e = .returned (.bool (gatsB lc C u q)) ∧ Below w2.heap.size w2 w') := Lib.hid fun w2 h => rsome_w pa ca oa lp cp lc cc q oc P C u w2 (by omega) (by omega) (HN.out _ h) (HUS.out _ h)
  have H4 : Hid (∀ w2, Below W0.heap.size W0 w2 → Calls Tryz.prog 19 #[.agg #[.slice pa lp cp, .slice ca lc cc], .slice ya r yc] w2 fun e w' => e = .returned (.bool (gatsB lc C y r)) ∧ Below w2.heap.size w2 w') := Lib.hid fun w2 h => rsome_w pa ca ya lp cp lc cc r yc P C y w2 (by omega) (by omega) (HN.out _ h) (HYS.out _ h)
  rw [hrb] at HRI
  rw [HG20] at H2
  rw [HG30] at H3
  rw [HG40] at H4
  have n1 : ¬ (10 : Int) < (n : Int) := by omega
  have n2 : ¬ (10 : Int) < (q : Int) := by omega
  have n3 : ¬ (10 : Int) < (r : Int) := by omega
  have M1 := Lib.hid True.intro
  have M2 := Lib.hid True.intro
  have M3 := Lib.hid True.intro
  obtain ⟨FU, hFU⟩ : ∃ o, fewL lp P lc C = o := ⟨_, rfl⟩
  obtain ⟨MU, hMU⟩ : ∃ o, movM lp P lc C s m t n = o := ⟨_, rfl⟩
  obtain ⟨L, hL⟩ : ∃ L, FU.getD [] = L := ⟨_, rfl⟩
  obtain ⟨M, hM⟩ : ∃ M, MU.getD [] = M := ⟨_, rfl⟩
  obtain ⟨e0, he0⟩ : ∃ e : Int, (if FU.isSome then 0 else 5) = e := ⟨_, rfl⟩
  obtain ⟨f0, hf0⟩ : ∃ e : Int, (if MU.isSome then 0 else 5) = e := ⟨_, rfl⟩
  have HFW : Hid (∀ w2, Below W0.heap.size W0 w2 → Calls Tryz.prog 37 #[.agg #[.slice pa lp cp, .slice ca lc cc]] w2 fun e w' => (∃ la c1, e = .returned (.tuple #[.slice la L.length c1, .int .i64 e0]) ∧ IntSl w' la L.length (lgI L)) ∧ Below w2.heap.size w2 w') := Lib.hid fun w2 h => (fewest_ok pa ca lp cp lc cc P C w2 HP.out (HN.out _ h)).mono fun e w' ⟨⟨v, he, hc⟩, hv⟩ => by
    rw [hFU] at he hc
    obtain ⟨la, c1, rfl, hs⟩ := cut_uni hc
    rw [hL] at he hs
    exact ⟨⟨la, c1, by rw [he, ← he0], hs⟩, hv⟩
  have HMV : Hid (∀ w2, Below W0.heap.size W0 w2 → Calls Tryz.prog 38 #[.agg #[.slice pa lp cp, .slice ca lc cc], .slice sa m sc, .slice ta n tc] w2 fun e w' => (∃ ma c2, e = .returned (.tuple #[.slice ma M.length c2, .int .i64 f0]) ∧ IntSl w' ma M.length (lgI M)) ∧ Below w2.heap.size w2 w') := Lib.hid fun w2 h => (moves_ok pa ca sa ta lp cp lc cc m sc n tc P C s t w2 HP.out HG.out HG2.out (by omega) (by omega) (HN.out _ h) (HOS.out _ h) (HTS.out _ h)).mono fun e w' ⟨⟨v, he, hc⟩, hv⟩ => by
    rw [hMU] at he hc
    obtain ⟨ma, c2, rfl, hs⟩ := cut_uni hc
    rw [hM] at he hs
    exact ⟨⟨ma, c2, by rw [he, ← hf0], hs⟩, hv⟩
  have HFO : Hid (∀ w2, Below W0.heap.size W0 w2 → Calls Tryz.prog 23 #[.agg #[.slice pa lp cp, .slice ca lc cc], .slice oa q oc] w2 fun e w' => e = .returned (.tuple #[.int .i64 (wordV lp P lc C (opnF u q)), .int .i64 0]) ∧ Below w2.heap.size w2 w') := Lib.hid fun w2 h => fedq_w pa ca oa lp cp lc cc q oc P C u _ w2 HP.out HG3.out rfl (by omega) (HN.out _ h) (HUS.out _ h)
  have HMD : Hid (∀ w2, Below W0.heap.size W0 w2 → Calls Tryz.prog 39 #[.agg #[.slice pa lp cp, .slice ca lc cc], .slice sa m sc, .slice ya r yc] w2 fun e w' => (∃ ra rc, e = .returned (.slice ra (movL s m y r lc).length rc) ∧ IntSl w' ra (movL s m y r lc).length (lgI (movL s m y r lc))) ∧ Below w2.heap.size w2 w') := Lib.hid fun w2 h => rmoved_w pa ca sa ya lp cp lc cc m sc r yc s y w2 (by omega) (by omega) (by omega) (HOS.out _ h) (HYS.out _ h)
  have hLs : L.Sublist (gatL C lc) := by
    rw [← hL]
    cases FU with
    | none => exact List.nil_sublist _
    | some L' => exact (best_first gatL_inc hFU).2.1
  have hMs : M.Sublist (gatL C lc) := by
    rw [← hM]
    cases MU with
    | none => exact List.nil_sublist _
    | some L' => exact (best_first gatL_inc hMU).2.1
  have hg7 : (gatL C lc).length ≤ 7 := by rw [gatL_len]; exact HP.out.g7
  have hll : L.length ≤ 7 := by have := hLs.length_le; omega
  have hmm : M.length ≤ 7 := by have := hMs.length_le; omega
  have HFLX : Hid (e0 = 0 → Hid (∀ la c1 w2, IntSl w2 la L.length (lgI L) → Below W0.heap.size W0 w2 → Calls Tryz.prog 23 #[.agg #[.slice pa lp cp, .slice ca lc cc], .slice la L.length c1] w2 fun e w' => e = .returned (.tuple #[.int .i64 3, .int .i64 0]) ∧ Below w2.heap.size w2 w')) := Lib.hid fun h0 => Lib.hid fun la c1 w2 hs h => fedq_w pa ca la lp cp lc cc _ c1 P C _ _ w2 HP.out (sub_ok hLs) (wordV_three (by
    cases FU with
    | none => simp at he0; omega
    | some L' => rw [← hL]; exact (best_first gatL_inc hFU).1)) (by omega) (HN.out _ h) (Lib.hid hs)
  have HUL : Hid (∀ w2, Below W0.heap.size W0 w2 → IntSl w2 oa q (lgI (lstN u q))) := Lib.hid fun w2 h => intSl_lst (HUS.out w2 h).out fun i hi => (gatsB_inc HG3.out i hi).2.1
  have HB1 : Hid (∀ la c1 w2, IntSl w2 la L.length (lgI L) → Below W0.heap.size W0 w2 → Calls Tryz.prog 27 #[.slice oa q oc, .slice la L.length c1] w2 fun e w' => e = .returned (.bool (befL (lstN u q) L)) ∧ Below w2.heap.size w2 w') := Lib.hid fun la c1 w2 hs h => rbefore_w oa la q L.length oc c1 (lstN u q) L w2 lstN_len rfl (by omega) (by omega) (Lib.hid (HUL.out w2 h)) (Lib.hid hs)
  have HYL : Hid (∀ w2, Below W0.heap.size W0 w2 → IntSl w2 ya r (lgI (lstN y r))) := Lib.hid fun w2 h => intSl_lst (HYS.out w2 h).out fun i hi => (gatsB_inc HG4.out i hi).2.1
  have HB2 : Hid (∀ ma c2 w2, IntSl w2 ma M.length (lgI M) → Below W0.heap.size W0 w2 → Calls Tryz.prog 27 #[.slice ya r yc, .slice ma M.length c2] w2 fun e w' => e = .returned (.bool (befL (lstN y r) M)) ∧ Below w2.heap.size w2 w') := Lib.hid fun ma c2 w2 hs h => rbefore_w ya ma r M.length yc c2 (lstN y r) M w2 lstN_len rfl (by omega) (by omega) (Lib.hid (HYL.out w2 h)) (Lib.hid hs)
  have HFT : Hid (∀ ra rc w2, IntSl w2 ra (movL s m y r lc).length (lgI (movL s m y r lc)) → Below W0.heap.size W0 w2 → Calls Tryz.prog 23 #[.agg #[.slice pa lp cp, .slice ca lc cc], .slice ra (movL s m y r lc).length rc] w2 fun e w' => e = .returned (.tuple #[.int .i64 (wordV lp P lc C (opnF (lgI (movL s m y r lc)) (movL s m y r lc).length)), .int .i64 0]) ∧ Below w2.heap.size w2 w') := Lib.hid fun ra rc w2 hs h => fedq_w pa ca ra lp cp lc cc _ rc P C _ _ w2 HP.out (mov_ok HG.out HG4.out) rfl (by have := movL_le (s := s) (t := y) (m := m) (n := r) lc; omega) (HN.out _ h) (Lib.hid hs)
  have HLT0 : Hid (∀ ra rc (i : Nat) w2, IntSl w2 ra (movL s m y r lc).length (lgI (movL s m y r lc)) → Calls Tryz.prog 40 #[.slice ra (movL s m y r lc).length rc, .int .i64 (t i)] w2 fun e w' => e = .returned (.bool (anyB (lgI (movL s m y r lc)) (t i) (movL s m y r lc).length)) ∧ w2 = w') := Lib.hid fun ra rc i w2 hs => rlisted_w ra _ rc _ (t i) w2 (by have := movL_le (s := s) (t := y) (m := m) (n := r) lc; omega) (Lib.hid hs)
  have HRV : allN (fun i => !anyB (lgI (movL s m y r lc)) (t i) (movL s m y r lc).length) n = true → fedV lp P lc C (opnF (lgI (movL s m y r lc)) (movL s m y r lc).length) false = true → ∃ L, MU = some L ∧ L.length ≤ r ∧ (r = L.length → befL (lstN y r) L = false) := fun h1 h2 => by
    rw [← hMU]
    exact mov_rival HG.out HG2.out HG4.out (clsB_iff.2 fun i hi => by
      have hg := gatsB_inc HG2.out i hi
      rw [opnF_any (mov_ok HG.out HG4.out) _ _ (Nat.le_refl _), show (((t i).toNat : Nat) : Int) = t i by omega]
      have := (allN_iff n).1 h1 i hi
      simpa using this) h2
  have HTN : Hid (∀ w2, Below W0.heap.size W0 w2 → IntSl w2 ta n t) := Lib.hid fun w2 h => (HTS.out w2 h).out
  have HMX : Hid (f0 = 0 → Hid (∀ ma c2 w2, IntSl w2 ma M.length (lgI M) → Below W0.heap.size W0 w2 → Calls Tryz.prog 19 #[.agg #[.slice pa lp cp, .slice ca lc cc], .slice ma M.length c2] w2 fun e w' => e = .returned (.bool true) ∧ Below w2.heap.size w2 w') ∧ Hid (∀ ma c2 w2, IntSl w2 ma M.length (lgI M) → Below W0.heap.size W0 w2 → Calls Tryz.prog 39 #[.agg #[.slice pa lp cp, .slice ca lc cc], .slice sa m sc, .slice ma M.length c2] w2 fun e w' => (∃ ra rc, e = .returned (.slice ra (movL s m (lgI M) M.length lc).length rc) ∧ IntSl w' ra (movL s m (lgI M) M.length lc).length (lgI (movL s m (lgI M) M.length lc))) ∧ Below w2.heap.size w2 w') ∧ Hid (∀ ra rc w2, IntSl w2 ra (movL s m (lgI M) M.length lc).length (lgI (movL s m (lgI M) M.length lc)) → Below W0.heap.size W0 w2 → Calls Tryz.prog 23 #[.agg #[.slice pa lp cp, .slice ca lc cc], .slice ra (movL s m (lgI M) M.length lc).length rc] w2 fun e w' => e = .returned (.tuple #[.int .i64 3, .int .i64 0]) ∧ Below w2.heap.size w2 w') ∧ Hid (∀ ra rc (i : Nat) w2, i < n → IntSl w2 ra (movL s m (lgI M) M.length lc).length (lgI (movL s m (lgI M) M.length lc)) → Calls Tryz.prog 40 #[.slice ra (movL s m (lgI M) M.length lc).length rc, .int .i64 (t i)] w2 fun e w' => e = .returned (.bool false) ∧ w2 = w')) := Lib.hid fun h0 => by
    have mb1 : movB lp P lc C s m t n M = true := by
      cases MU with
      | none => simp at hf0; omega
      | some L' => rw [← hM]; exact (best_first gatL_inc hMU).1
    have hgm := sub_ok hMs
    have heo := mov_op HG.out hgm
    unfold movB at mb1
    rw [Bool.and_eq_true] at mb1
    have hol : (movL s m (lgI M) M.length lc).length ≤ 10 := by have := movL_le (s := s) (t := lgI M) (m := m) (n := M.length) lc; omega
    refine ⟨Lib.hid fun ma c2 w2 hs h => ?_, Lib.hid fun ma c2 w2 hs h => rmoved_w pa ca sa ma lp cp lc cc m sc M.length c2 s (lgI M) w2 (by omega) (by omega) (by omega) (HOS.out _ h) (Lib.hid hs), Lib.hid fun ra rc w2 hs h => fedq_w pa ca ra lp cp lc cc _ rc P C _ _ w2 HP.out (mov_ok HG.out hgm) (wordV_three (by rw [fedV_op heo]; exact mb1.2)) (by omega) (HN.out _ h) (Lib.hid hs), Lib.hid fun ra rc i w2 hi hs => ?_⟩
    · have h1 := rsome_w pa ca ma lp cp lc cc M.length c2 P C (lgI M) w2 (by omega) (by omega) (HN.out _ h) (Lib.hid hs)
      rw [hgm] at h1; exact h1
    · have h1 := rlisted_w ra _ rc _ (t i) w2 (by omega) (Lib.hid hs)
      have h2 : anyB (lgI (movL s m (lgI M) M.length lc)) (t i) (movL s m (lgI M) M.length lc).length = false := by
        have hg := gatsB_inc HG2.out i hi
        have h3 := clsB_iff.1 mb1.1 i hi
        rw [← heo _ (by omega) hg.2.2.2, opnF_any (mov_ok HG.out hgm) _ _ (Nat.le_refl _), show (((t i).toNat : Nat) : Int) = t i by omega] at h3
        exact h3
      rw [h2] at h1; exact h1
  obtain ⟨w1, hw1⟩ : ∃ v, wordV lp P lc C (opnF u q) = v := ⟨_, rfl⟩
  rw [hw1] at HFO
  have e1 : (w1 == 3) = false := by rw [← hw1]; exact wordV_else hw
  have hFE : e0 = 0 ∨ e0 = 5 := by cases FU <;> simp at he0 <;> omega
  obtain ⟨v1, hv1⟩ : ∃ v, wordV lp P lc C (opnF (lgI (movL s m y r lc)) (movL s m y r lc).length) = v := ⟨_, rfl⟩
  obtain ⟨fd, hfd⟩ : ∃ b, fedV lp P lc C (opnF (lgI (movL s m y r lc)) (movL s m y r lc).length) false = b := ⟨_, rfl⟩
  have hE1 : (fd = true ∧ v1 = 3) ∨ (fd = false ∧ (v1 == 3) = false) := by
    cases fd with
    | true => exact .inl ⟨rfl, by rw [← hv1]; exact wordV_three hfd⟩
    | false => exact .inr ⟨rfl, by rw [← hv1]; exact wordV_else hfd⟩
  rw [hv1] at HFT
  rw [hfd] at HRV
  obtain ⟨bl, hbl⟩ : ∃ b, befL (lstN u q) L = b := ⟨_, rfl⟩
  rw [hbl] at HB1
  have hmvl : (movL s m y r lc).length ≤ 10 := by have := movL_le (s := s) (t := y) (m := m) (n := r) lc; omega
  obtain ⟨ml, hml2⟩ : ∃ l, movL s m y r lc = l := ⟨_, rfl⟩
  rw [hml2] at HMD HFT HLT0 HRV hmvl
  obtain ⟨cls, hcls⟩ : ∃ f, f = allN (fun i => !anyB (lgI ml) (t i) ml.length) := ⟨_, rfl⟩
  have HC0 : Hid (cls 0 = true) := Lib.hid (by rw [hcls]; rfl)
  obtain ⟨an, han⟩ : ∃ f, f = fun i => anyB (lgI ml) (t i) ml.length := ⟨_, rfl⟩
  have HCN : Hid (∀ k b, cls k = true → an k = b → cls (k + 1) = !b) := Lib.hid fun k b h1 h2 => by rw [hcls] at h1 ⊢; rw [han] at h2; simp [allN, h1, ← h2]
  have HCF : Hid (∀ k, cls k = false → cls (k + 1) = false) := Lib.hid fun k h1 => by rw [hcls] at h1 ⊢; simp [allN, h1]
  rw [← hcls] at HRV
  have HLT : Hid (∀ ra rc (i : Nat) w2, IntSl w2 ra ml.length (lgI ml) → Calls Tryz.prog 40 #[.slice ra ml.length rc, .int .i64 (t i)] w2 fun e w' => e = .returned (.bool (an i)) ∧ w2 = w') := Lib.hid fun ra rc i w2 hs => by rw [han]; exact HLT0.out ra rc i w2 hs
  obtain ⟨bm, hbm⟩ : ∃ b, befL (lstN y r) M = b := ⟨_, rfl⟩
  rw [hbm] at HB2
  have HS5 : Hid (f0 = 5 → Hid (cls n = false ∨ (cls n = true ∧ (fd = false ∨ (fd = true ∧ (False ∨ (False ∧ False))))))) := Lib.hid fun h0 => Lib.hid (by
    cases hc : cls n with
    | false => exact .inl rfl
    | true =>
      refine .inr ⟨rfl, ?_⟩
      cases hd : fd with
      | false => exact .inl rfl
      | true =>
        exfalso
        obtain ⟨L', hL', _⟩ := HRV hc hd
        subst hL'
        simp at hf0; omega)
  have HS0 : Hid (f0 = 0 → Hid (cls n = false ∨ (cls n = true ∧ (fd = false ∨ (fd = true ∧ (M.length < r ∨ (r = M.length ∧ bm = false))))))) := Lib.hid fun h0 => Lib.hid (by
    cases hc : cls n with
    | false => exact .inl rfl
    | true =>
      refine .inr ⟨rfl, ?_⟩
      cases hd : fd with
      | false => exact .inl rfl
      | true =>
        refine .inr ⟨rfl, ?_⟩
        obtain ⟨L', hL', h3, h4⟩ := HRV hc hd
        subst hL'
        have hLL : L' = M := hM
        subst hLL
        by_cases h : L'.length < r
        · exact .inl h
        · have : r = L'.length := by omega
          exact .inr ⟨this, by rw [← hbm]; exact h4 this⟩)
  have hFM : f0 = 0 ∨ f0 = 5 := by cases MU <;> simp at hf0 <;> omega
  clear HLT0 HRV hcls han hv1 hfd hw1 hrb HP0 HG0 HG20 HG30 HG40 hw hbl hbm hLs hMs hL hM hFU hMU he0 hf0 hg7
  obtain ⟨mn, hmn⟩ : ∃ n, ml.length = n := ⟨_, rfl⟩
  rw [hmn] at HMD HFT HLT hmvl
  obtain ⟨mf, hmf⟩ : ∃ f, lgI ml = f := ⟨_, rfl⟩
  rw [hmf] at HMD HFT HLT
  obtain ⟨ow, how⟩ : ∃ l, movL s m (lgI M) M.length lc = l := ⟨_, rfl⟩
  rw [how] at HMX
  obtain ⟨on, hon⟩ : ∃ n, ow.length = n := ⟨_, rfl⟩
  rw [hon] at HMX
  obtain ⟨of_, hof⟩ : ∃ f, lgI ow = f := ⟨_, rfl⟩
  rw [hof] at HMX
  obtain ⟨lm, hlm⟩ : ∃ n, M.length = n := ⟨_, rfl⟩
  rw [hlm] at HMV HMX HB2 HS0 hmm
  obtain ⟨mg, hmg⟩ : ∃ f, lgI M = f := ⟨_, rfl⟩
  rw [hmg] at HMV HMX HB2
  obtain ⟨ll, hll2⟩ : ∃ n, L.length = n := ⟨_, rfl⟩
  rw [hll2] at HFW HFLX HB1 hll
  obtain ⟨lf, hlf⟩ : ∃ f, lgI L = f := ⟨_, rfl⟩
  rw [hlf] at HFW HFLX HB1
  clear hml2 hmn hmf how hon hof hlm hmg hll2 hlf
  have n16 : ¬ (7 : Int) < (lm : Int) := by omega
  rcases hFE with rfl | rfl <;> rcases hFM with rfl | rfl <;> rcases hE1 with ⟨rfl, rfl⟩ | ⟨rfl, e3⟩
  all_goals (try (have E3 := Lib.hid e3; clear e3))
  all_goals (try have HFL := HFLX.out rfl)
  all_goals first | (have HMY := HMX.out rfl; have HSP := HS0.out rfl; obtain ⟨HSM, HOW, HFW2, HLW⟩ := HMY; have T0 := Lib.hid True.intro; clear HS0 HS5) | (have HSP := HS5.out rfl; have T5 := Lib.hid True.intro; clear HS0 HS5)
  all_goals
    go_enter Tryz.func10, Tryz.ntmps10
    go_wp2_with (first
      | (go_at_call 22; (try rw [← hW0]); refine (HRI.out _ HV.out).mono ?_; rintro e w5 ⟨rfl, hv⟩; (try clear hW0); replace HV := Lib.hid (HV.out.trans (hv.mono HV.out.size)); clear hv g0 g1; obtain ⟨g0, g1⟩ := HF.out _ HV.out)
      | (go_at_call 19; have hB := M1.out; clear hB M1; refine (H2.out _ HV.out).mono ?_; rintro e w5 ⟨rfl, hv⟩; replace HV := Lib.hid (HV.out.trans (hv.mono HV.out.size)); clear hv g0 g1; obtain ⟨g0, g1⟩ := HF.out _ HV.out)
      | (go_at_call 19; have hB := M2.out; clear hB M2; refine (H3.out _ HV.out).mono ?_; rintro e w5 ⟨rfl, hv⟩; replace HV := Lib.hid (HV.out.trans (hv.mono HV.out.size)); clear hv g0 g1; obtain ⟨g0, g1⟩ := HF.out _ HV.out)
      | (go_at_call 19; refine (H4.out _ HV.out).mono ?_; rintro e w5 ⟨rfl, hv⟩; replace HV := Lib.hid (HV.out.trans (hv.mono HV.out.size)); clear hv g0 g1; obtain ⟨g0, g1⟩ := HF.out _ HV.out)
      | (go_at_call 37; refine (HFW.out _ HV.out).mono ?_; rintro e w5 ⟨⟨la, c1, rfl, hs⟩, hv⟩; have HC1 := Lib.hid hs; clear hs; replace HV := Lib.hid (HV.out.trans (hv.mono HV.out.size)); clear hv g0 g1; obtain ⟨g0, g1⟩ := HF.out _ HV.out)
      | (go_at_call 38; refine (HMV.out _ HV.out).mono ?_; rintro e w5 ⟨⟨ma, c2, rfl, hs⟩, hv⟩; replace HC1 := Lib.hid (HC1.out.below hv); have HC2 := Lib.hid hs; clear hs; replace HV := Lib.hid (HV.out.trans (hv.mono HV.out.size)); clear hv g0 g1; obtain ⟨g0, g1⟩ := HF.out _ HV.out)
      | (go_at_call 23; have hB := M3.out; clear hB M3; refine (HFO.out _ HV.out).mono ?_; rintro e w5 ⟨rfl, hv⟩; replace HC1 := Lib.hid (HC1.out.below hv); replace HC2 := Lib.hid (HC2.out.below hv); replace HV := Lib.hid (HV.out.trans (hv.mono HV.out.size)); clear hv g0 g1; obtain ⟨g0, g1⟩ := HF.out _ HV.out)
      | (go_at_call 39; refine (HMD.out _ HV.out).mono ?_; rintro e w5 ⟨⟨ra, rc, rfl, hs⟩, hv⟩; replace HC1 := Lib.hid (HC1.out.below hv); replace HC2 := Lib.hid (HC2.out.below hv); have HC3 := Lib.hid hs; clear hs; replace HV := Lib.hid (HV.out.trans (hv.mono HV.out.size)); clear hv g0 g1; obtain ⟨g0, g1⟩ := HF.out _ HV.out)
      | (go_at_call 23; refine (HFT.out ra rc _ HC3.out HV.out).mono ?_; rintro e w5 ⟨rfl, hv⟩; replace HC1 := Lib.hid (HC1.out.below hv); replace HC2 := Lib.hid (HC2.out.below hv); replace HC3 := Lib.hid (HC3.out.below hv); replace HV := Lib.hid (HV.out.trans (hv.mono HV.out.size)); clear hv g0 g1; obtain ⟨g0, g1⟩ := HF.out _ HV.out)
      | (go_at_call 27; refine (HB1.out la c1 _ HC1.out HV.out).mono ?_; rintro e w5 ⟨rfl, hv⟩; replace HC1 := Lib.hid (HC1.out.below hv); replace HC2 := Lib.hid (HC2.out.below hv); replace HC3 := Lib.hid (HC3.out.below hv); replace HV := Lib.hid (HV.out.trans (hv.mono HV.out.size)); clear hv g0 g1; obtain ⟨g0, g1⟩ := HF.out _ HV.out))
    (try (have E1 := Lib.hid e1; clear e1))
    (try (have E2 := Lib.hid e2; clear e2))
    clear g0 g1
    obtain ⟨W5, hW5⟩ : ∃ W5, W5 = w5 := ⟨_, rfl⟩
    rw [← hW5]
    rw [← hW5] at HC1 HC2 HC3 HV
    clear hW5
    go_loopw [20, 21] (fun cv ii wr => ∃ k : Nat, k ≤ n ∧ ii = .int .i64 (k : Int) ∧ cv = .bool (cls k) ∧ wr = W5) (fun _ ii _ => n - (Go.RowKit.intOf ii).toNat)
    case atStart => exact ⟨0, Nat.zero_le _, rfl, by rw [HC0.out], rfl⟩
    case round =>
      obtain ⟨k, hk, rfl, rfl, rfl⟩ := hrel
      by_cases hlt1 : k < n
      case pos =>
        have n14 : (0 : Int) ≤ (k : Int) := by omega
        have n15 : (k : Int) < (n : Int) := by omega
        obtain ⟨A, O, rfl, hA1, hN1⟩ := (HTN.out _ HV.out).resolve_left (by omega)
        have y1 := hN1 k hlt1
        have HLK := Lib.hid (HLT.out ra rc k _ HC3.out)
        have HNK := Lib.hid (HCN.out k)
        have HFK := Lib.hid (HCF.out k)
        obtain ⟨z, hz⟩ : ∃ z, t k = z := ⟨_, rfl⟩
        rw [hz] at y1 HLK
        obtain ⟨bb, hbb⟩ : ∃ b, an k = b := ⟨_, rfl⟩
        rw [hbb] at HLK HNK
        obtain ⟨ck, hck⟩ : ∃ b, cls k = b := ⟨_, rfl⟩
        rw [hck] at HNK HFK ⊢
        clear hN1 hz hbb hck
        cases ck with
        | false =>
          have HN2 := Lib.hid (HFK.out rfl)
          go_wp2
          go_roundw
          case rel => first | exact ⟨k + 1, by omega, by go_num, by rw [HN2.out], by first | rfl | trivial⟩ | exact ⟨_, _, _, _, _, _, _, _, _, _, _, _, _, _, ⟨k + 1, by omega, by go_num, by rw [HN2.out], by first | rfl | trivial⟩, rfl⟩
          case measure => simp [Go.RowKit.intOf]; omega
        | true =>
          have HN2 := Lib.hid (HNK.out _ rfl rfl)
          go_wp2_with (go_at_call 40; refine HLK.out.mono ?_; rintro e w6 ⟨rfl, rfl⟩)
          go_roundw
          case rel => first | exact ⟨k + 1, by omega, by go_num, by rw [HN2.out], by first | rfl | trivial⟩ | exact ⟨_, _, _, _, _, _, _, _, _, _, _, _, _, _, ⟨k + 1, by omega, by go_num, by rw [HN2.out], by first | rfl | trivial⟩, rfl⟩
          case measure => simp [Go.RowKit.intOf]; omega
      case neg =>
        obtain rfl : k = n := by omega
        obtain ⟨g0, g1⟩ := HF.out _ HV.out
        obtain ⟨ck, hck⟩ : ∃ b, cls k = b := ⟨_, rfl⟩
        rw [hck] at HSP ⊢
        clear hck
        have hsp := HSP.out
        clear HSP
        rcases hsp with hc | ⟨hc, hd | ⟨hd, hlr | ⟨hre, hbm⟩⟩⟩
        all_goals (subst hc)
        all_goals (first | exact False.elim hlr | exact False.elim hre | skip)
        all_goals (first | cases hd | skip)
        all_goals (first | (have e3 := E3.out) | skip)
        all_goals (first | (have hh := hlr; clear hlr; have n17 : ¬ (r : Int) < (lm : Int) := (by omega); have e4 : ((r : Int) == (lm : Int)) = false := (by rw [beq_eq_false_iff_ne]; omega); clear hh) | skip)
        all_goals (first | (subst hre; subst hbm) | skip)
        all_goals
          first
            | (have T := T5
               go_wp2_with (first
                 | (go_at_call 23; refine (HFL.out la c1 _ HC1.out HV.out).mono ?_; rintro e w5 ⟨rfl, hv⟩; replace HC2 := Lib.hid (HC2.out.below hv); replace HV := Lib.hid (HV.out.trans (hv.mono HV.out.size)); clear hv g0 g1; obtain ⟨g0, g1⟩ := HF.out _ HV.out)
                 | (go_at_call 16; refine (HKN.out _ HV.out).mono ?_; rintro e w5 ⟨rfl, hv⟩; replace HV := Lib.hid (HV.out.trans (hv.mono HV.out.size)); clear hv g0 g1; obtain ⟨g0, g1⟩ := HF.out _ HV.out))
               go_ret
               exact ⟨rfl, HA.out.trans (HV.out.mono HA.out.size)⟩)
            | (have T := T0
               go_wp2_with (first
                 | (go_at_call 27; refine (HB2.out ma c2 _ HC2.out HV.out).mono ?_; rintro e w5 ⟨rfl, hv⟩; replace HC1 := Lib.hid (HC1.out.below hv); replace HC2 := Lib.hid (HC2.out.below hv); replace HV := Lib.hid (HV.out.trans (hv.mono HV.out.size)); clear hv g0 g1; obtain ⟨g0, g1⟩ := HF.out _ HV.out)
                 | (go_at_call 23; refine (HFL.out la c1 _ HC1.out HV.out).mono ?_; rintro e w5 ⟨rfl, hv⟩; replace HC2 := Lib.hid (HC2.out.below hv); replace HV := Lib.hid (HV.out.trans (hv.mono HV.out.size)); clear hv g0 g1; obtain ⟨g0, g1⟩ := HF.out _ HV.out)
                 | (go_at_call 19; refine (HSM.out ma c2 _ HC2.out HV.out).mono ?_; rintro e w5 ⟨rfl, hv⟩; replace HC2 := Lib.hid (HC2.out.below hv); replace HV := Lib.hid (HV.out.trans (hv.mono HV.out.size)); clear hv g0 g1; obtain ⟨g0, g1⟩ := HF.out _ HV.out)
                 | (go_at_call 39; refine (HOW.out ma c2 _ HC2.out HV.out).mono ?_; rintro e w5 ⟨⟨ra2, rc2, rfl, hs⟩, hv⟩; have HC4 := Lib.hid hs; clear hs; replace HV := Lib.hid (HV.out.trans (hv.mono HV.out.size)); clear hv g0 g1; obtain ⟨g0, g1⟩ := HF.out _ HV.out))
               (try clear e3)
               (try clear e4)
               clear g0 g1
               obtain ⟨W6, hW6⟩ : ∃ W6, W6 = w5 := ⟨_, rfl⟩
               rw [← hW6]
               rw [← hW6] at HC4 HV
               clear hW6
               go_loopw [25] (fun ii wr => ∃ j : Nat, j ≤ k ∧ ii = .int .i64 (j : Int) ∧ wr = W6) (fun ii _ => k - (Go.RowKit.intOf ii).toNat)
               case atStart => exact ⟨0, Nat.zero_le _, rfl, rfl⟩
               case round =>
                 obtain ⟨j, hj, rfl, rfl⟩ := hrel
                 by_cases hlt2 : j < k
                 case pos =>
                   have n24 : (0 : Int) ≤ (j : Int) := by omega
                   have n25 : (j : Int) < (k : Int) := by omega
                   obtain ⟨A, O, rfl, hA1, hN1⟩ := (HTN.out _ HV.out).resolve_left (by omega)
                   have y1 := hN1 j hlt2
                   have HLK := Lib.hid (HLW.out ra2 rc2 j _ hlt2 HC4.out)
                   obtain ⟨z, hz⟩ : ∃ z, t j = z := ⟨_, rfl⟩
                   rw [hz] at y1 HLK
                   clear hN1 hz
                   go_wp2_with (go_at_call 40; refine HLK.out.mono ?_; rintro e w6 ⟨rfl, rfl⟩)
                   go_roundw
                   case rel => exact ⟨j + 1, by omega, by go_num, by first | rfl | trivial⟩
                   case measure => simp [Go.RowKit.intOf]; omega
                 case neg =>
                   obtain rfl : j = k := by omega
                   obtain ⟨g0, g1⟩ := HF.out _ HV.out
                   go_wp2_with (first
                     | (go_at_call 23; refine (HFW2.out ra2 rc2 _ HC4.out HV.out).mono ?_; rintro e w5 ⟨rfl, hv⟩; replace HV := Lib.hid (HV.out.trans (hv.mono HV.out.size)); clear hv g0 g1; obtain ⟨g0, g1⟩ := HF.out _ HV.out)
                     | (go_at_call 16; refine (HKN.out _ HV.out).mono ?_; rintro e w5 ⟨rfl, hv⟩; replace HV := Lib.hid (HV.out.trans (hv.mono HV.out.size)); clear hv g0 g1; obtain ⟨g0, g1⟩ := HF.out _ HV.out))
                   go_ret
                   exact ⟨rfl, HA.out.trans (HV.out.mono HA.out.size)⟩)
end Go.Kn
