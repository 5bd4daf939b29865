/- Contracts of functions that the laws of this seat call, or the evaluator of closed calls and its runs. Conditions: as each theorem states them. -/
import Derived.Test.YtddlghdglknloaaGreatDoorO1L
set_option linter.unusedVariables false
set_option linter.unusedSimpArgs false
namespace Go.Kn
open Go Go.Proofs Go.RowKit

set_option maxRecDepth 100000 in
set_option maxHeartbeats 60000000 in
theorem lawlem0_w (pa ca : Option Addr) (lp cp lc cc : Nat) (P : Nat → P8) (C : Nat → C8) (sa ta oa : Option Addr) (m sc n tc q oc : Nat) (s t u : Nat → Int) (x3 x5 : Int) (w : World) (hrb : rgB lp P lc C s m = true) (hn : n ≤ 10) (hq10 : q ≤ 10) (X p ch : Nat) (hX : X < lc) (hbx : anyB s (X : Int) m = false) (hxg : (C X).ga = true) (hp : p < lp) (hch : ch < lc) (hx3 : 0 ≤ x3 ∧ x3 ≤ 10000) (hx5 : 0 ≤ x5 ∧ x5 ≤ (P p).nd) (hq2 : gatsB lc C t n = true) (hq3 : gatsB lc C u q = true) (H : Hid (Ne8 w pa ca lp lc P C)) (HO : Hid (IntSl w sa m s)) (hml : m ≤ maxLen) (HT : Hid (IntSl w ta n t)) (hnl : n ≤ maxLen) (HU : Hid (IntSl w oa q u)) (hql : q ≤ maxLen) (K : Hid KnownOk) (hpw : Hid (Pw w)) :
    Calls Tryz.prog 14 #[.agg #[.slice pa lp cp, .slice ca lc cc], .slice sa m sc, .int .i64 (X : Int), .int .i64 (ch : Int), .int .i64 x3, .int .i64 (p : Int), .int .i64 x5, .slice ta n tc, .slice oa q oc] w fun e w' => e = .returned (.bool true) ∧ Below w.heap.size w w' := by
  obtain ⟨W0, hW0⟩ : ∃ W0, W0 = w.alloc (.cells #[.slice pa lp cp, .slice ca lc cc] 25) := ⟨_, rfl⟩
  have hA : Below w.heap.size w W0 := by rw [hW0]; exact (Below.refl _ _).alloc (Nat.le_refl _) _
  have HF : Hid (∀ w2, Below W0.heap.size W0 w2 → w2.cell? ⟨w.heap.size, 0, none⟩ = some (.slice pa lp cp) ∧ w2.cell? ⟨w.heap.size, 1, none⟩ = some (.slice ca lc cc)) := Lib.hid fun w2 h => by
    rw [hW0] at h
    exact ⟨(box_cells h).1, (box_cells h).2.1⟩
  have HN : Hid (∀ w2, Below W0.heap.size W0 w2 → Hid (Ne8 w2 pa ca lp lc P C)) := Lib.hid fun w2 h => Lib.hid (H.out.below (hA.trans (h.mono hA.size)))
  have HOS : Hid (∀ w2, Below W0.heap.size W0 w2 → Hid (IntSl w2 sa m s)) := Lib.hid fun w2 h => Lib.hid (HO.out.below (hA.trans (h.mono hA.size)))
  have HTS : Hid (∀ w2, Below W0.heap.size W0 w2 → Hid (IntSl w2 ta n t)) := Lib.hid fun w2 h => Lib.hid (HT.out.below (hA.trans (h.mono hA.size)))
  have HUS : Hid (∀ w2, Below W0.heap.size W0 w2 → Hid (IntSl w2 oa q u)) := Lib.hid fun w2 h => Lib.hid (HU.out.below (hA.trans (h.mono hA.size)))
  have HKN : Hid (∀ w2, Below W0.heap.size W0 w2 → Calls Tryz.prog 16 #[] w2 fun e w' => e = .returned (.bool true) ∧ Below w2.heap.size w2 w') := Lib.hid fun w2 h => K.out w2 (hpw.out.on (hA.trans (h.mono hA.size)))
  have HSH : Hid (∀ w2, Below W0.heap.size W0 w2 → Calls Tryz.prog 15 #[.agg #[.slice pa lp cp, .slice ca lc cc]] w2 fun e w' => e = .returned (.bool (decide (lp ≤ 9 ∧ lc ≤ 13))) ∧ Below w2.heap.size w2 w') := Lib.hid fun w2 h => short_w pa ca lp cp lc cc w2
  have HRI : Hid (∀ w2, Below W0.heap.size W0 w2 → Calls Tryz.prog 22 #[.agg #[.slice pa lp cp, .slice ca lc cc], .slice sa m sc] w2 fun e w' => e = .returned (.bool (rgB lp P lc C s m)) ∧ Below w2.heap.size w2 w') := Lib.hid fun w2 h => right_b pa ca sa lp cp lc cc m sc P C s w2 hml (HN.out _ h) (HOS.out _ h)
  have HA := Lib.hid hA
  have HV : Hid (Below W0.heap.size W0 W0) := Lib.hid (Below.refl _ _)
  obtain ⟨g0, g1⟩ := HF.out _ (Below.refl _ _)
  rw [hW0] at g0 g1
  clear hA H HO HT HU
  rw [hrb] at HRI
  obtain ⟨hs1, hs2, hm, hnv, hgs⟩ := rgB_t hrb
  have HG := Lib.hid hgs
  have HP := Lib.hid (netV_iff.1 hnv)
  clear hnv hgs hrb
  have M1 := Lib.hid True.intro
  have M2 := Lib.hid True.intro
  have M3 := Lib.hid True.intro
  have n1 : ¬ (10 : Int) < (n : Int) := by omega
  have n2 : ¬ (10 : Int) < (q : Int) := by omega
  have n5 : ¬ x3 < 0 := by omega
  have n6 : ¬ 10000 < x3 := by omega
  have n7 : (0 : Int) ≤ (p : Int) := by omega
  have n8 : (p : Int) < (lp : Int) := by omega
  have n9 : ¬ x5 < 0 := by omega
  have n10 : ¬ (P p).nd < x5 := by omega
  have n11 : ¬ (ch : Int) < 0 := by omega
  have n12 : ¬ (lc : Int) ≤ (ch : Int) := by omega
  have n13 : (0 : Int) ≤ (ch : Int) := by omega
  have n14 : (ch : Int) < (lc : Int) := by omega
  obtain ⟨PA, PO, rfl, hPA, hPN⟩ := (HN.out _ (Below.refl _ _)).out.hp.resolve_left (by omega)
  obtain ⟨CA, CO, rfl, hCA, hCN⟩ := (HN.out _ (Below.refl _ _)).out.hc.resolve_left (by omega)
  have HND : Hid (∀ w2, Below W0.heap.size W0 w2 → w2.cell? ⟨PA, PO + p * 3 + 2, none⟩ = some (.int .i64 (P p).nd)) := Lib.hid fun w2 h => (hPN.below hPA h p hp).2.2
  have H47 : Hid (∀ w2, Below W0.heap.size W0 w2 → Calls Tryz.prog 47 #[.agg #[.slice (some ⟨PA, PO, none⟩) lp cp, .slice (some ⟨CA, CO, none⟩) lc cc], .int .i64 (X : Int)] w2 fun e w' => e = .returned (.bool true) ∧ Below w2.heap.size w2 w') := Lib.hid fun w2 h => by
    have h1 := rgate_w _ _ lp cp lc cc P C (X : Int) w2 (by omega) (HN.out _ h)
    have h2 : gatB lc C (X : Int) = true := by
      have : fromB 0 ((lc : Int) - 1) (X : Int) = true := by simp [fromB]; omega
      simp [gatB, this, hxg]
    rw [h2] at h1; exact h1
  have H28 : Hid (∀ w2, Below W0.heap.size W0 w2 → Calls Tryz.prog 28 #[.agg #[.slice (some ⟨PA, PO, none⟩) lp cp, .slice (some ⟨CA, CO, none⟩) lc cc], .int .i64 (p : Int)] w2 fun e w' => e = .returned (.bool true) ∧ Below w2.heap.size w2 w') := Lib.hid fun w2 h => by
    have h1 := rpoint_w (some ⟨PA, PO, none⟩) (some ⟨CA, CO, none⟩) lp cp lc cc (p : Int) w2 (by omega)
    have h2 : fromB 0 ((lp : Int) - 1) (p : Int) = true := by simp [fromB]; omega
    rw [h2] at h1; exact h1
  have H2 : Hid (∀ w2, Below W0.heap.size W0 w2 → Calls Tryz.prog 19 #[.agg #[.slice (some ⟨PA, PO, none⟩) lp cp, .slice (some ⟨CA, CO, none⟩) lc cc], .slice ta n tc] w2 fun e w' => e = .returned (.bool true) ∧ Below w2.heap.size w2 w') := Lib.hid fun w2 h => by
    have h1 := rsome_w (some ⟨PA, PO, none⟩) (some ⟨CA, CO, none⟩) ta lp cp lc cc n tc P C t w2 (by omega) (by omega) (HN.out _ h) (HTS.out _ h)
    rw [hq2] at h1; exact h1
  have H3 : Hid (∀ w2, Below W0.heap.size W0 w2 → Calls Tryz.prog 19 #[.agg #[.slice (some ⟨PA, PO, none⟩) lp cp, .slice (some ⟨CA, CO, none⟩) lc cc], .slice oa q oc] w2 fun e w' => e = .returned (.bool true) ∧ Below w2.heap.size w2 w') := Lib.hid fun w2 h => by
    have h1 := rsome_w (some ⟨PA, PO, none⟩) (some ⟨CA, CO, none⟩) oa lp cp lc cc q oc P C u w2 (by omega) (by omega) (HN.out _ h) (HUS.out _ h)
    rw [hq3] at h1; exact h1
  have HG2 := Lib.hid hq2
  have HG3 := Lib.hid hq3
  clear hq2 hq3
  have hc10 := HP.out.c10
  have hl7 := HP.out.l7
  have HLI : Hid (∀ w2, Below W0.heap.size W0 w2 → Calls Tryz.prog 40 #[.slice sa m sc, .int .i64 (X : Int)] w2 fun e w' => e = .returned (.bool (anyB s (X : Int) m)) ∧ w2 = w') := Lib.hid fun w2 h => rlisted_w sa m sc s (X : Int) w2 (by omega) (HOS.out _ h)
  have HM1 : Hid (∀ (b : Nat) w2, Below W0.heap.size W0 w2 → b < w2.heap.size → w2.cell? ⟨b, 0, none⟩ = some (.int .i64 (X : Int)) → Calls Tryz.prog 39 #[.agg #[.slice (some ⟨PA, PO, none⟩) lp cp, .slice (some ⟨CA, CO, none⟩) lc cc], .slice sa m sc, .slice (some ⟨b, 0, none⟩) 1 1] w2 fun e w' => (∃ ra rc, e = .returned (.slice ra (movL s m (lgI [X]) 1 lc).length rc) ∧ IntSl w' ra (movL s m (lgI [X]) 1 lc).length (lgI (movL s m (lgI [X]) 1 lc))) ∧ Below w2.heap.size w2 w') := Lib.hid fun b w2 h hb hc =>
    rmoved_w _ _ sa (some ⟨b, 0, none⟩) lp cp lc cc m sc 1 1 s (lgI [X]) w2 (by omega) (by omega) (by omega) (HOS.out _ h) (Lib.hid (.inr ⟨b, 0, rfl, hb, fun i hi => by obtain rfl : i = 0 := (by omega); exact hc⟩))
  have HMO : Hid (anyB s (X : Int) m = false → wordV lp P lc C (opnF s m) ≤ wordV lp P lc C (opnF (lgI (movL s m (lgI [X]) 1 lc)) (movL s m (lgI [X]) 1 lc).length)) := Lib.hid fun h => word_le (fed_more HP.out (more_op HG.out hX hxg h)) (fed_more HP.out (more_op HG.out hX hxg h))
  have hmk := mov_ok HG.out (one_gate2 hX hxg)
  have hml10 : (movL s m (lgI [X]) 1 lc).length ≤ 10 := by have := movL_le (s := s) (t := lgI [X]) (m := m) (n := 1) lc; omega
  have HMK := Lib.hid hmk
  obtain ⟨ml, hml2⟩ : ∃ l, movL s m (lgI [X]) 1 lc = l := ⟨_, rfl⟩
  rw [hml2] at HM1 HMO HMK hml10
  obtain ⟨wA, hwA⟩ : ∃ v, wordV lp P lc C (opnF s m) = v := ⟨_, rfl⟩
  rw [hwA] at HMO
  have HPN := Lib.hid hPN
  have HCN := Lib.hid hCN
  clear hmk hml2 hPN hCN
  obtain ⟨i0, hi0, hz0, hz1, hz2⟩ := info_parts info37
  obtain ⟨k0, hk0, hy0, hy1, hy2⟩ := info_parts info68
  have HWA : Hid (wordV lp P lc C (opnF s m) = wA) := Lib.hid hwA
  clear hwA
  rw [hbx] at HLI HMO
  clear hbx
  all_goals
    go_enter Tryz.func14, Tryz.ntmps14
    go_wp2_with (first
      | (go_at_call 22; (try rw [← hW0]); refine (HRI.out _ HV.out).mono ?_; rintro e w5 ⟨rfl, hv⟩; (try clear hW0); replace HV := Lib.hid (HV.out.trans (hv.mono HV.out.size)); clear hv g0 g1; obtain ⟨g0, g1⟩ := HF.out _ HV.out)
      | (go_at_call 47; (try rw [← hW0]); refine (H47.out _ HV.out).mono ?_; rintro e w5 ⟨rfl, hv⟩; (try clear hW0); replace HV := Lib.hid (HV.out.trans (hv.mono HV.out.size)); clear hv g0 g1; obtain ⟨g0, g1⟩ := HF.out _ HV.out)
      | (go_at_call 28; (try rw [← hW0]); refine (H28.out _ HV.out).mono ?_; rintro e w5 ⟨rfl, hv⟩; (try clear hW0); replace HV := Lib.hid (HV.out.trans (hv.mono HV.out.size)); clear hv g0 g1; obtain ⟨g0, g1⟩ := HF.out _ HV.out; have r5 := HND.out _ HV.out)
      | (go_at_call 19; have hB := M1.out; clear hB M1; (try rw [← hW0]); refine (H2.out _ HV.out).mono ?_; rintro e w5 ⟨rfl, hv⟩; (try clear hW0); replace HV := Lib.hid (HV.out.trans (hv.mono HV.out.size)); clear hv g0 g1; obtain ⟨g0, g1⟩ := HF.out _ HV.out)
      | (go_at_call 19; (try rw [← hW0]); refine (H3.out _ HV.out).mono ?_; rintro e w5 ⟨rfl, hv⟩; (try clear hW0); replace HV := Lib.hid (HV.out.trans (hv.mono HV.out.size)); clear hv g0 g1; obtain ⟨g0, g1⟩ := HF.out _ HV.out)
      | (go_at_call 40; refine (HLI.out _ HV.out).mono ?_; rintro e w6 ⟨rfl, rfl⟩; have r6 := HF.out _ (HV.out.alloc HV.out.size (.cells #[.int .i64 (X : Int)] 3)); obtain ⟨r6, r7⟩ := r6)
      | (go_at_call 39; (try rw [← hW0]); refine (HM1.out w5.heap.size _ (HV.out.alloc HV.out.size _) (by simp) (al_top rfl _ _)).mono ?_; rintro e w5 ⟨⟨ra, rc, rfl, hsx⟩, hv⟩; (try clear hW0); replace HV := Lib.hid ((HV.out.alloc HV.out.size _).trans (hv.mono (HV.out.alloc HV.out.size _).size)); clear hv g0 g1 r6 r7; obtain ⟨g0, g1⟩ := HF.out _ HV.out; have HX := Lib.hid hsx; clear hsx))
    have HLW := Lib.hid (cell_lt g0)
    have HPT : Hid (∀ w2, Below w5.heap.size w5 w2 → PtAt w2 PA PO lp P) := Lib.hid fun w2 h => HPN.out.below hPA (HV.out.trans (h.mono HV.out.size))
    have HCT : Hid (∀ w2, Below w5.heap.size w5 w2 → ChAt w2 CA CO lc C) := Lib.hid fun w2 h => HCN.out.below hCA (HV.out.trans (h.mono HV.out.size))
    have HB0 : Hid (Below w5.heap.size w5 w5.drew) := Lib.hid (below_drew (Below.refl _ _))
    have HBZ : Hid (Below w5.heap.size w5 ((w5.alloc (.cells #[.slice none 0 0, .slice none 0 0] 25)).drew)) := Lib.hid (below_drew (below_alz _ _))
    have HLNP : Hid ((ptCells P lp).length = lp * 3) := Lib.hid (by simp [ptCells])
    have HLNC : Hid ((chCells C lc).length = lc * 4) := Lib.hid (by simp [chCells])
    have HLP : Hid (0 < lp) := Lib.hid (by omega)
    have HLC : Hid (0 < lc) := Lib.hid (by omega)
    have a50 : ∀ o, (w5.alloc o).cell? ⟨w.heap.size, 0, none⟩ = some (.slice (some ⟨PA, PO, none⟩) lp cp) := fun o => (World.cell?_alloc_lt _ _ ⟨w.heap.size, 0, none⟩ HLW.out).trans g0
    have a51 : ∀ o, (w5.alloc o).cell? ⟨w.heap.size, 1, none⟩ = some (.slice (some ⟨CA, CO, none⟩) lc cc) := fun o => (World.cell?_alloc_lt _ _ ⟨w.heap.size, 1, none⟩ HLW.out).trans g1
    apply cut_two (F := fun g1 c1 g2 c2 B W3 => Cpy w5.heap.size P lp C lc W3 g1 c1 g2 c2 B ∧ B < W3.heap.size ∧ Below w5.heap.size w5 W3)
    case hr =>
      intro CONT
      have HCONT := Lib.hid CONT
      clear CONT
      go_region_law ((first
        | (refine step_append_lies _ rfl (.const (.slice none 0 0)) (.tmp 116) 22 rfl w5.heap.size 37 i0 _ 3 24 Tryz.underlying22 hi0 hz0 hz1 hz2 rfl (by decide) _ 0 [] rfl (World.ownsRow_nil _ _ _ _) ⟨PA, PO, none⟩ lp cp (ptCells P lp) rfl HLNP.out (pt_lies (HPT.out _ HB0.out)) pt_one HLP.out (by unfold maxLen; omega) (by omega) (HB0.out).size _ rfl ?_; intro g6 c6 w6 hown6 hgrow6 hat6 hlt6; have HG6 := Lib.hid (grown_nil hgrow6); have HT6 := Lib.hid (hatr hat6); have HB6 := Lib.hid ((HB0.out).trans (HG6.out.mono (HB0.out).size)); have HI6 := Lib.hid (pIn_of hown6 HLP.out); have HL6 := Lib.hid hlt6; clear hown6 hgrow6 hat6 hlt6; have m60 := ((bcell HB6.out).1 _ _ HLW.out).trans g0; have m61 := ((bcell HB6.out).1 _ _ HLW.out).trans g1; have a60 : ∀ o, (w6.alloc o).cell? ⟨w.heap.size, 0, none⟩ = some (.slice (some ⟨PA, PO, none⟩) lp cp) := (fun o => (World.cell?_alloc_lt _ _ ⟨w.heap.size, 0, none⟩ (Nat.lt_of_lt_of_le HLW.out HB6.out.size)).trans m60); have a61 : ∀ o, (w6.alloc o).cell? ⟨w.heap.size, 1, none⟩ = some (.slice (some ⟨CA, CO, none⟩) lc cc) := (fun o => (World.cell?_alloc_lt _ _ ⟨w.heap.size, 1, none⟩ (Nat.lt_of_lt_of_le HLW.out HB6.out.size)).trans m61))
        | (refine step_append_lies _ rfl (.const (.slice none 0 0)) (.tmp 116) 22 rfl w5.heap.size 37 i0 _ 3 24 Tryz.underlying22 hi0 hz0 hz1 hz2 rfl (by decide) _ 0 [] rfl (World.ownsRow_nil _ _ _ _) ⟨PA, PO, none⟩ lp cp (ptCells P lp) rfl HLNP.out (pt_lies (HPT.out _ HBZ.out)) pt_one HLP.out (by unfold maxLen; omega) (by omega) (HBZ.out).size _ rfl ?_; intro g6 c6 w6 hown6 hgrow6 hat6 hlt6; have HG6 := Lib.hid (grown_nil hgrow6); have HT6 := Lib.hid (hatr hat6); have HB6 := Lib.hid ((HBZ.out).trans (HG6.out.mono (HBZ.out).size)); have HI6 := Lib.hid (pIn_of hown6 HLP.out); have HL6 := Lib.hid hlt6; clear hown6 hgrow6 hat6 hlt6; have m60 := ((bcell HB6.out).1 _ _ HLW.out).trans g0; have m61 := ((bcell HB6.out).1 _ _ HLW.out).trans g1; have a60 : ∀ o, (w6.alloc o).cell? ⟨w.heap.size, 0, none⟩ = some (.slice (some ⟨PA, PO, none⟩) lp cp) := (fun o => (World.cell?_alloc_lt _ _ ⟨w.heap.size, 0, none⟩ (Nat.lt_of_lt_of_le HLW.out HB6.out.size)).trans m60); have a61 : ∀ o, (w6.alloc o).cell? ⟨w.heap.size, 1, none⟩ = some (.slice (some ⟨CA, CO, none⟩) lc cc) := (fun o => (World.cell?_alloc_lt _ _ ⟨w.heap.size, 1, none⟩ (Nat.lt_of_lt_of_le HLW.out HB6.out.size)).trans m61); have HZ := Lib.hid ((zIn_new w5 (Nat.le_refl _)).below ((below_drew (Below.refl _ _)).trans HG6.out)); have z0 := HZ.out.2.2.1.1; have z1 := HZ.out.2.2.1.2; have z2 := HZ.out.2.2.2.1; have z3 := HZ.out.2.2.2.2)
        | (refine step_append_lies _ rfl (.const (.slice none 0 0)) (.tmp 116) 22 rfl w5.heap.size 37 i0 _ 3 24 Tryz.underlying22 hi0 hz0 hz1 hz2 rfl (by decide) _ 0 [] rfl (World.ownsRow_nil _ _ _ _) ⟨PA, PO, none⟩ lp cp (ptCells P lp) rfl HLNP.out (pt_lies (HPT.out _ HB7.out)) pt_one HLP.out (by unfold maxLen; omega) (by omega) (HB7.out).size _ rfl ?_; intro g6 c6 w6 hown6 hgrow6 hat6 hlt6; have HG6 := Lib.hid (grown_nil hgrow6); have HT6 := Lib.hid (hatr hat6); have HB6 := Lib.hid ((HB7.out).trans (HG6.out.mono (HB7.out).size)); have HI6 := Lib.hid (pIn_of hown6 HLP.out); have HL6 := Lib.hid hlt6; clear hown6 hgrow6 hat6 hlt6; have m60 := ((bcell HB6.out).1 _ _ HLW.out).trans g0; have m61 := ((bcell HB6.out).1 _ _ HLW.out).trans g1; have a60 : ∀ o, (w6.alloc o).cell? ⟨w.heap.size, 0, none⟩ = some (.slice (some ⟨PA, PO, none⟩) lp cp) := (fun o => (World.cell?_alloc_lt _ _ ⟨w.heap.size, 0, none⟩ (Nat.lt_of_lt_of_le HLW.out HB6.out.size)).trans m60); have a61 : ∀ o, (w6.alloc o).cell? ⟨w.heap.size, 1, none⟩ = some (.slice (some ⟨CA, CO, none⟩) lc cc) := (fun o => (World.cell?_alloc_lt _ _ ⟨w.heap.size, 1, none⟩ (Nat.lt_of_lt_of_le HLW.out HB6.out.size)).trans m61); replace HI7 := Lib.hid (HI7.out.below HG6.out); (first | (have HZ2 := Lib.hid (HZ.out.below HG6.out); clear z0 z1 z2 z3; have z0 := HZ2.out.2.2.1.1; have z1 := HZ2.out.2.2.1.2; have z2 := HZ2.out.2.2.2.1; have z3 := HZ2.out.2.2.2.2) | skip))
        | (refine step_append_lies _ rfl (.const (.slice none 0 0)) (.tmp 116) 22 rfl w5.heap.size 37 i0 _ 3 24 Tryz.underlying22 hi0 hz0 hz1 hz2 rfl (by decide) _ 0 [] rfl (World.ownsRow_nil _ _ _ _) ⟨PA, PO, none⟩ lp cp (ptCells P lp) rfl HLNP.out (pt_lies (HPT.out _ (HB7.out.alloc HB7.out.size (.cells #[.slice none 0 0, .slice none 0 0] 25)))) pt_one HLP.out (by unfold maxLen; omega) (by omega) ((HB7.out.alloc HB7.out.size (.cells #[.slice none 0 0, .slice none 0 0] 25))).size _ rfl ?_; intro g6 c6 w6 hown6 hgrow6 hat6 hlt6; have HG6 := Lib.hid (grown_nil hgrow6); have HT6 := Lib.hid (hatr hat6); have HB6 := Lib.hid (((HB7.out.alloc HB7.out.size (.cells #[.slice none 0 0, .slice none 0 0] 25))).trans (HG6.out.mono ((HB7.out.alloc HB7.out.size (.cells #[.slice none 0 0, .slice none 0 0] 25))).size)); have HI6 := Lib.hid (pIn_of hown6 HLP.out); have HL6 := Lib.hid hlt6; clear hown6 hgrow6 hat6 hlt6; have m60 := ((bcell HB6.out).1 _ _ HLW.out).trans g0; have m61 := ((bcell HB6.out).1 _ _ HLW.out).trans g1; have a60 : ∀ o, (w6.alloc o).cell? ⟨w.heap.size, 0, none⟩ = some (.slice (some ⟨PA, PO, none⟩) lp cp) := (fun o => (World.cell?_alloc_lt _ _ ⟨w.heap.size, 0, none⟩ (Nat.lt_of_lt_of_le HLW.out HB6.out.size)).trans m60); have a61 : ∀ o, (w6.alloc o).cell? ⟨w.heap.size, 1, none⟩ = some (.slice (some ⟨CA, CO, none⟩) lc cc) := (fun o => (World.cell?_alloc_lt _ _ ⟨w.heap.size, 1, none⟩ (Nat.lt_of_lt_of_le HLW.out HB6.out.size)).trans m61); replace HI7 := Lib.hid ((HI7.out.below (below_alz _ _)).below HG6.out); have HZ2 := Lib.hid ((zIn_new w7 HB7.out.size).below HG6.out); have z0 := HZ2.out.2.2.1.1; have z1 := HZ2.out.2.2.1.2; have z2 := HZ2.out.2.2.2.1; have z3 := HZ2.out.2.2.2.2)
        | (refine step_append_lies _ rfl (.const (.slice none 0 0)) (.tmp 119) 23 rfl w5.heap.size 68 k0 _ 4 32 Tryz.underlying23 hk0 hy0 hy1 hy2 rfl (by decide) _ 0 [] rfl (World.ownsRow_nil _ _ _ _) ⟨CA, CO, none⟩ lc cc (chCells C lc) rfl HLNC.out (ch_lies (HCT.out _ HB0.out)) ch_one HLC.out (by unfold maxLen; omega) (by omega) (HB0.out).size _ rfl ?_; intro g7 c7 w7 hown7 hgrow7 hat7 hlt7; have HG7 := Lib.hid (grown_nil hgrow7); have HT7 := Lib.hid (hatr hat7); have HB7 := Lib.hid ((HB0.out).trans (HG7.out.mono (HB0.out).size)); have HI7 := Lib.hid (cIn_of hown7 HLC.out); have HL7 := Lib.hid hlt7; clear hown7 hgrow7 hat7 hlt7; have m70 := ((bcell HB7.out).1 _ _ HLW.out).trans g0; have m71 := ((bcell HB7.out).1 _ _ HLW.out).trans g1; have a70 : ∀ o, (w7.alloc o).cell? ⟨w.heap.size, 0, none⟩ = some (.slice (some ⟨PA, PO, none⟩) lp cp) := (fun o => (World.cell?_alloc_lt _ _ ⟨w.heap.size, 0, none⟩ (Nat.lt_of_lt_of_le HLW.out HB7.out.size)).trans m70); have a71 : ∀ o, (w7.alloc o).cell? ⟨w.heap.size, 1, none⟩ = some (.slice (some ⟨CA, CO, none⟩) lc cc) := (fun o => (World.cell?_alloc_lt _ _ ⟨w.heap.size, 1, none⟩ (Nat.lt_of_lt_of_le HLW.out HB7.out.size)).trans m71))
        | (refine step_append_lies _ rfl (.const (.slice none 0 0)) (.tmp 119) 23 rfl w5.heap.size 68 k0 _ 4 32 Tryz.underlying23 hk0 hy0 hy1 hy2 rfl (by decide) _ 0 [] rfl (World.ownsRow_nil _ _ _ _) ⟨CA, CO, none⟩ lc cc (chCells C lc) rfl HLNC.out (ch_lies (HCT.out _ HBZ.out)) ch_one HLC.out (by unfold maxLen; omega) (by omega) (HBZ.out).size _ rfl ?_; intro g7 c7 w7 hown7 hgrow7 hat7 hlt7; have HG7 := Lib.hid (grown_nil hgrow7); have HT7 := Lib.hid (hatr hat7); have HB7 := Lib.hid ((HBZ.out).trans (HG7.out.mono (HBZ.out).size)); have HI7 := Lib.hid (cIn_of hown7 HLC.out); have HL7 := Lib.hid hlt7; clear hown7 hgrow7 hat7 hlt7; have m70 := ((bcell HB7.out).1 _ _ HLW.out).trans g0; have m71 := ((bcell HB7.out).1 _ _ HLW.out).trans g1; have a70 : ∀ o, (w7.alloc o).cell? ⟨w.heap.size, 0, none⟩ = some (.slice (some ⟨PA, PO, none⟩) lp cp) := (fun o => (World.cell?_alloc_lt _ _ ⟨w.heap.size, 0, none⟩ (Nat.lt_of_lt_of_le HLW.out HB7.out.size)).trans m70); have a71 : ∀ o, (w7.alloc o).cell? ⟨w.heap.size, 1, none⟩ = some (.slice (some ⟨CA, CO, none⟩) lc cc) := (fun o => (World.cell?_alloc_lt _ _ ⟨w.heap.size, 1, none⟩ (Nat.lt_of_lt_of_le HLW.out HB7.out.size)).trans m71); have HZ := Lib.hid ((zIn_new w5 (Nat.le_refl _)).below ((below_drew (Below.refl _ _)).trans HG7.out)); have z0 := HZ.out.2.2.1.1; have z1 := HZ.out.2.2.1.2; have z2 := HZ.out.2.2.2.1; have z3 := HZ.out.2.2.2.2)
        | (refine step_append_lies _ rfl (.const (.slice none 0 0)) (.tmp 119) 23 rfl w5.heap.size 68 k0 _ 4 32 Tryz.underlying23 hk0 hy0 hy1 hy2 rfl (by decide) _ 0 [] rfl (World.ownsRow_nil _ _ _ _) ⟨CA, CO, none⟩ lc cc (chCells C lc) rfl HLNC.out (ch_lies (HCT.out _ HB6.out)) ch_one HLC.out (by unfold maxLen; omega) (by omega) (HB6.out).size _ rfl ?_; intro g7 c7 w7 hown7 hgrow7 hat7 hlt7; have HG7 := Lib.hid (grown_nil hgrow7); have HT7 := Lib.hid (hatr hat7); have HB7 := Lib.hid ((HB6.out).trans (HG7.out.mono (HB6.out).size)); have HI7 := Lib.hid (cIn_of hown7 HLC.out); have HL7 := Lib.hid hlt7; clear hown7 hgrow7 hat7 hlt7; have m70 := ((bcell HB7.out).1 _ _ HLW.out).trans g0; have m71 := ((bcell HB7.out).1 _ _ HLW.out).trans g1; have a70 : ∀ o, (w7.alloc o).cell? ⟨w.heap.size, 0, none⟩ = some (.slice (some ⟨PA, PO, none⟩) lp cp) := (fun o => (World.cell?_alloc_lt _ _ ⟨w.heap.size, 0, none⟩ (Nat.lt_of_lt_of_le HLW.out HB7.out.size)).trans m70); have a71 : ∀ o, (w7.alloc o).cell? ⟨w.heap.size, 1, none⟩ = some (.slice (some ⟨CA, CO, none⟩) lc cc) := (fun o => (World.cell?_alloc_lt _ _ ⟨w.heap.size, 1, none⟩ (Nat.lt_of_lt_of_le HLW.out HB7.out.size)).trans m71); replace HI6 := Lib.hid (HI6.out.below HG7.out); (first | (have HZ2 := Lib.hid (HZ.out.below HG7.out); clear z0 z1 z2 z3; have z0 := HZ2.out.2.2.1.1; have z1 := HZ2.out.2.2.1.2; have z2 := HZ2.out.2.2.2.1; have z3 := HZ2.out.2.2.2.2) | skip))
        | (refine step_append_lies _ rfl (.const (.slice none 0 0)) (.tmp 119) 23 rfl w5.heap.size 68 k0 _ 4 32 Tryz.underlying23 hk0 hy0 hy1 hy2 rfl (by decide) _ 0 [] rfl (World.ownsRow_nil _ _ _ _) ⟨CA, CO, none⟩ lc cc (chCells C lc) rfl HLNC.out (ch_lies (HCT.out _ (HB6.out.alloc HB6.out.size (.cells #[.slice none 0 0, .slice none 0 0] 25)))) ch_one HLC.out (by unfold maxLen; omega) (by omega) ((HB6.out.alloc HB6.out.size (.cells #[.slice none 0 0, .slice none 0 0] 25))).size _ rfl ?_; intro g7 c7 w7 hown7 hgrow7 hat7 hlt7; have HG7 := Lib.hid (grown_nil hgrow7); have HT7 := Lib.hid (hatr hat7); have HB7 := Lib.hid (((HB6.out.alloc HB6.out.size (.cells #[.slice none 0 0, .slice none 0 0] 25))).trans (HG7.out.mono ((HB6.out.alloc HB6.out.size (.cells #[.slice none 0 0, .slice none 0 0] 25))).size)); have HI7 := Lib.hid (cIn_of hown7 HLC.out); have HL7 := Lib.hid hlt7; clear hown7 hgrow7 hat7 hlt7; have m70 := ((bcell HB7.out).1 _ _ HLW.out).trans g0; have m71 := ((bcell HB7.out).1 _ _ HLW.out).trans g1; have a70 : ∀ o, (w7.alloc o).cell? ⟨w.heap.size, 0, none⟩ = some (.slice (some ⟨PA, PO, none⟩) lp cp) := (fun o => (World.cell?_alloc_lt _ _ ⟨w.heap.size, 0, none⟩ (Nat.lt_of_lt_of_le HLW.out HB7.out.size)).trans m70); have a71 : ∀ o, (w7.alloc o).cell? ⟨w.heap.size, 1, none⟩ = some (.slice (some ⟨CA, CO, none⟩) lc cc) := (fun o => (World.cell?_alloc_lt _ _ ⟨w.heap.size, 1, none⟩ (Nat.lt_of_lt_of_le HLW.out HB7.out.size)).trans m71); replace HI6 := Lib.hid ((HI6.out.below (below_alz _ _)).below HG7.out); have HZ2 := Lib.hid ((zIn_new w6 HB6.out.size).below HG7.out); have z0 := HZ2.out.2.2.1.1; have z1 := HZ2.out.2.2.1.2; have z2 := HZ2.out.2.2.2.1; have z3 := HZ2.out.2.2.2.2)))
      all_goals
        have t1 := HL6.out
        have t2 := HL7.out
        have t3 := HT6.out
        have t4 := HT7.out
        have s6 := HB6.out.size
        have s7 := HB7.out.size
        (try simp at t3)
        (try simp at t4)
        have hne : g6 ≠ g7 := by omega
        first
          | (obtain ⟨B, hB⟩ : ∃ B, B = w7.heap.size := ⟨_, rfl⟩
             rw [← hB]
             refine HCONT.out g6 c6 g7 c7 B _ ?_
             subst hB
             exact ⟨cpy_last HI6.out HI7.out hne HB7.out.size, alz _ _, HB7.out.alloc HB7.out.size _⟩)
          | (obtain ⟨B, hB⟩ : ∃ B, B = w6.heap.size := ⟨_, rfl⟩
             rw [← hB]
             refine HCONT.out g6 c6 g7 c7 B _ ?_
             subst hB
             exact ⟨cpy_last HI6.out HI7.out hne HB6.out.size, alz _ _, HB6.out.alloc HB6.out.size _⟩)
          | (obtain ⟨B, hB⟩ : ∃ B, B = w5.heap.size := ⟨_, rfl⟩
             rw [← hB]
             refine HCONT.out g6 c6 g7 c7 B _ ?_
             subst hB
             have q1 : g6 ≠ w5.heap.size := by omega
             have q2 : g7 ≠ w5.heap.size := by omega
             exact ⟨cpy_set HI6.out HI7.out HZ2.out hne q1 q2, set2_lt HZ2.out.2.1, set2_below HB7.out HZ2.out.1 _ _⟩)
          | (obtain ⟨B, hB⟩ : ∃ B, B = w5.heap.size := ⟨_, rfl⟩
             rw [← hB]
             refine HCONT.out g6 c6 g7 c7 B _ ?_
             subst hB
             have q1 : g6 ≠ w5.heap.size := by omega
             have q2 : g7 ≠ w5.heap.size := by omega
             exact ⟨cpy_set HI6.out HI7.out HZ2.out hne q1 q2, set2_lt HZ2.out.2.1, set2_below HB6.out HZ2.out.1 _ _⟩)
          | (obtain ⟨B, hB⟩ : ∃ B, B = w6.heap.size := ⟨_, rfl⟩
             rw [← hB]
             refine HCONT.out g6 c6 g7 c7 B _ ?_
             subst hB
             have q1 : g6 ≠ w6.heap.size := by omega
             have q2 : g7 ≠ w6.heap.size := by omega
             exact ⟨cpy_set HI6.out HI7.out HZ2.out hne q1 q2, set2_lt HZ2.out.2.1, set2_below HB7.out HZ2.out.1 _ _⟩)
          | (obtain ⟨B, hB⟩ : ∃ B, B = w6.heap.size := ⟨_, rfl⟩
             rw [← hB]
             refine HCONT.out g6 c6 g7 c7 B _ ?_
             subst hB
             have q1 : g6 ≠ w6.heap.size := by omega
             have q2 : g7 ≠ w6.heap.size := by omega
             exact ⟨cpy_set HI6.out HI7.out HZ2.out hne q1 q2, set2_lt HZ2.out.2.1, set2_below HB6.out HZ2.out.1 _ _⟩)
          | (obtain ⟨B, hB⟩ : ∃ B, B = w7.heap.size := ⟨_, rfl⟩
             rw [← hB]
             refine HCONT.out g6 c6 g7 c7 B _ ?_
             subst hB
             have q1 : g6 ≠ w7.heap.size := by omega
             have q2 : g7 ≠ w7.heap.size := by omega
             exact ⟨cpy_set HI6.out HI7.out HZ2.out hne q1 q2, set2_lt HZ2.out.2.1, set2_below HB7.out HZ2.out.1 _ _⟩)
          | (obtain ⟨B, hB⟩ : ∃ B, B = w7.heap.size := ⟨_, rfl⟩
             rw [← hB]
             refine HCONT.out g6 c6 g7 c7 B _ ?_
             subst hB
             have q1 : g6 ≠ w7.heap.size := by omega
             have q2 : g7 ≠ w7.heap.size := by omega
             exact ⟨cpy_set HI6.out HI7.out HZ2.out hne q1 q2, set2_lt HZ2.out.2.1, set2_below HB6.out HZ2.out.1 _ _⟩)
    clear a50 a51 g0 g1
    rintro g1 c1 g2 c2 B W3 ⟨hcp, hB3, hb3⟩
    have HCP := Lib.hid hcp
    have HV3 := Lib.hid hb3
    have HHB := Lib.hid hB3
    first
      | (have hFB : ∃ wB : Int, wA ≤ wB ∧ Hid (∀ w2, Below w5.heap.size w5 w2 → Calls Tryz.prog 23 #[.agg #[.slice (some ⟨PA, PO, none⟩) lp cp, .slice (some ⟨CA, CO, none⟩) lc cc], .slice ra ml.length rc] w2 fun e w' => e = .returned (.tuple #[.int .i64 wB, .int .i64 0]) ∧ Below w2.heap.size w2 w') := ⟨_, HMO.out (by first | rfl | trivial), Lib.hid fun w2 h => fedq_w _ _ ra lp cp lc cc ml.length rc P C (lgI ml) _ w2 HP.out HMK.out rfl (by omega) (HN.out _ (HV.out.trans (h.mono HV.out.size))) (Lib.hid (HX.out.below h))⟩
         obtain ⟨wB, hwB, HFB⟩ := hFB)
      | (have hFB : ∃ wB : Int, wA ≤ wB ∧ Hid (∀ w2, Below w5.heap.size w5 w2 → Calls Tryz.prog 23 #[.agg #[.slice (some ⟨PA, PO, none⟩) lp cp, .slice (some ⟨CA, CO, none⟩) lc cc], .slice sa m sc] w2 fun e w' => e = .returned (.tuple #[.int .i64 wB, .int .i64 0]) ∧ Below w2.heap.size w2 w') := ⟨wA, Int.le_refl _, Lib.hid fun w2 h => fedq_w _ _ sa lp cp lc cc m sc P C s wA w2 HP.out HG.out HWA.out (by omega) (HN.out _ (HV.out.trans (h.mono HV.out.size))) (HOS.out _ (HV.out.trans (h.mono HV.out.size)))⟩
         obtain ⟨wB, hwB, HFB⟩ := hFB)
    clear hcp hB3 hb3
    have hmx : Tryz.prog.follows .mixedOrders = true := by kernel_rfl
    have hcb := HP.out.c hch
    have hpb := HP.out.p hp
    obtain ⟨cu, hcu⟩ : ∃ v, (C ch).cu = v := ⟨_, rfl⟩
    obtain ⟨nd, hnd⟩ : ∃ v, (P p).nd = v := ⟨_, rfl⟩
    have HCU := Lib.hid hcu
    have HNDD := Lib.hid hnd
    rw [hcu] at hcb
    rw [hnd] at hpb n10 hx5
    have wr1 : IntKind.i64.wrap (cu + x3) = cu + x3 := by rw [IntKind.wrap_i64]; omega
    have wr2 : IntKind.i64.wrap (nd - x5) = nd - x5 := by rw [IntKind.wrap_i64]; omega
    have hv0 : 0 ≤ (if cu + x3 < 10000 then cu + x3 else 10000) ∧ (if cu + x3 < 10000 then cu + x3 else 10000) ≤ 10000 ∧ cu ≤ (if cu + x3 < 10000 then cu + x3 else 10000) := by split <;> omega
    have hv1 : 0 ≤ nd - x5 ∧ nd - x5 ≤ 10000 ∧ nd - x5 ≤ nd := by omega
    have HVM := Lib.hid (And.intro hv0 hv1)
    have HX7 : Hid (∀ w', Below W3.heap.size W3 w' → w'.cell? ⟨B, 1, none⟩ = some (.slice (some ⟨g2, 0, none⟩) lc c2) ∧ w'.cell? ⟨g2, ch * 4 + 2, none⟩ = some (.int .i64 cu) ∧ w'.frozen? ⟨g2, ch * 4 + 2, none⟩ = false) := Lib.hid fun w' h => by
      have h1 := HCP.out.below HHB.out h
      exact ⟨h1.b1, by rw [h1.cu hch, hcu], h1.cf _ (by omega)⟩
    obtain ⟨z1, z2, z3⟩ := HX7.out W3 (Below.refl _ _)
    clear hcb hpb hv0 hv1 hcu hnd
    go_wp2
    refine calm_last 14 (W := W3) hmx (by kernel_rfl) (Below.refl _ _) ?_
    repeat (first
      | (refine calm_no (by rfl) ?_
         (try simp only [Act.put, List.setIfInBounds_toArray, List.set_cons_zero, List.set_cons_succ]))
      | (apply calm_yes
         focus rfl
         focus
           intro w' hw'
           obtain ⟨z1, z2, z3⟩ := HX7.out w' hw'
           go_simp
           first
             | done
             | with_reducible rfl
             | fail
         (try simp only [Act.put, List.setIfInBounds_toArray, List.set_cons_zero, List.set_cons_succ])))
    refine calm_nil ?_
    intro w7 hb7
    have HB7 := Lib.hid hb7
    clear z1 z2 z3
    obtain ⟨z1, z2, z3⟩ := HX7.out w7 hb7
    clear hb7
    refine wpOp_last rfl rfl ?_
    go_simp
    obtain ⟨mv, hmv⟩ : ∃ v, (if cu + x3 < 10000 then cu + x3 else 10000) = v := ⟨_, rfl⟩
    rw [hmv]
    rw [hmv] at HVM
    clear hmv
    obtain ⟨W4, hW4⟩ : ∃ W4, W4 = w7.setCell ⟨g2, ch * 4 + 2, none⟩ (.int .i64 mv) := ⟨_, rfl⟩
    rw [← hW4]
    have hcp4 := (HCP.out.below HHB.out HB7.out).setC hch mv
    have hb4 : Below w5.heap.size w5 W4 := by rw [hW4]; exact (HV3.out.trans (HB7.out.mono HV3.out.size)).setCell (p := ⟨g2, ch * 4 + 2, none⟩) HCP.out.l2 _
    have hs4 : B < W4.heap.size := by rw [hW4]; simpa using Nat.lt_of_lt_of_le HHB.out HB7.out.size
    rw [← hW4] at hcp4
    clear hW4 z1 z2 z3 HB7 HX7 HCP HV3 HHB
    have HCP := Lib.hid hcp4
    have HV4 := Lib.hid hb4
    have HHB := Lib.hid hs4
    clear hcp4 hb4 hs4
    have HX8 : Hid (∀ w', Below W4.heap.size W4 w' → w'.cell? ⟨B, 0, none⟩ = some (.slice (some ⟨g1, 0, none⟩) lp c1) ∧ w'.cell? ⟨g1, p * 3 + 2, none⟩ = some (.int .i64 nd) ∧ w'.frozen? ⟨g1, p * 3 + 2, none⟩ = false) := Lib.hid fun w' h => by
      have h1 := HCP.out.below HHB.out h
      exact ⟨h1.b0, by rw [h1.nd hp, HNDD.out], h1.pf _ (by omega)⟩
    obtain ⟨z1, z2, z3⟩ := HX8.out W4 (Below.refl _ _)
    go_wp2
    refine calm_last 13 (W := W4) hmx (by kernel_rfl) (Below.refl _ _) ?_
    repeat (first
      | (refine calm_no (by rfl) ?_
         (try simp only [Act.put, List.setIfInBounds_toArray, List.set_cons_zero, List.set_cons_succ]))
      | (apply calm_yes
         focus rfl
         focus
           intro w' hw'
           obtain ⟨z1, z2, z3⟩ := HX8.out w' hw'
           go_simp
           first
             | done
             | with_reducible rfl
             | fail
         (try simp only [Act.put, List.setIfInBounds_toArray, List.set_cons_zero, List.set_cons_succ])))
    refine calm_nil ?_
    intro w8 hb8
    have HB8 := Lib.hid hb8
    clear z1 z2 z3
    obtain ⟨z1, z2, z3⟩ := HX8.out w8 hb8
    clear hb8
    refine wpOp_last rfl rfl ?_
    go_simp
    obtain ⟨W8, hW8⟩ : ∃ W8, W8 = w8.setCell ⟨g1, p * 3 + 2, none⟩ (.int .i64 (nd - x5)) := ⟨_, rfl⟩
    rw [← hW8]
    have hcp8 := (HCP.out.below HHB.out HB8.out).setP hp (nd - x5)
    have hb8 : Below w5.heap.size w5 W8 := by rw [hW8]; exact (HV4.out.trans (HB8.out.mono HV4.out.size)).setCell (p := ⟨g1, p * 3 + 2, none⟩) HCP.out.l1 _
    have hs8 : B < W8.heap.size := by rw [hW8]; simpa using Nat.lt_of_lt_of_le HHB.out HB8.out.size
    rw [← hW8] at hcp8
    clear hW8 z1 z2 z3 HB8 HX8 HCP HV4 HHB
    have HUP : Hid (∀ w2, Below W8.heap.size W8 w2 → Below W0.heap.size W0 w2) := Lib.hid fun w2 h => HV.out.trans ((hb8.trans (h.mono hb8.size)).mono HV.out.size)
    have HBL : Hid (∀ w2, Below W8.heap.size W8 w2 → Below w5.heap.size w5 w2) := Lib.hid fun w2 h => hb8.trans (h.mono hb8.size)
    have HNX : Hid (∀ w2, Below W8.heap.size W8 w2 → Hid (Ne8 w2 (some ⟨g1, 0, none⟩) (some ⟨g2, 0, none⟩) lp lc (updN P p (nd - x5)) (updC C ch mv))) := Lib.hid fun w2 h => by
      have h1 := hcp8.below hs8 h
      exact Lib.hid ⟨.inr ⟨g1, 0, rfl, h1.s1, ptAt_of h1.p⟩, .inr ⟨g2, 0, rfl, h1.s2, chAt_of h1.c⟩⟩
    have HF5 : Hid (∀ w2, Below W8.heap.size W8 w2 → w2.cell? ⟨w.heap.size, 0, none⟩ = some (.slice (some ⟨PA, PO, none⟩) lp cp) ∧ w2.cell? ⟨w.heap.size, 1, none⟩ = some (.slice (some ⟨CA, CO, none⟩) lc cc) ∧ w2.cell? ⟨B, 0, none⟩ = some (.slice (some ⟨g1, 0, none⟩) lp c1) ∧ w2.cell? ⟨B, 1, none⟩ = some (.slice (some ⟨g2, 0, none⟩) lc c2)) := Lib.hid fun w2 h => by
      obtain ⟨a0, a1⟩ := HF.out _ (HUP.out _ h)
      have h1 := hcp8.below hs8 h
      exact ⟨a0, a1, h1.b0, h1.b1⟩
    have HPX : Hid (NetP lp (updN P p (nd - x5)) lc (updC C ch mv)) := Lib.hid ((HP.out.upd ⟨HVM.out.2.1, HVM.out.2.2.1⟩).updC ⟨HVM.out.1.1, HVM.out.1.2.1⟩)
    have HGX : Hid (gatsB lc (updC C ch mv) s m = true) := Lib.hid (by rw [gatsB_updC]; exact HG.out)
    have hfb := fun (b : Bool) => fed_both (lp := lp) (P := P) (lc := lc) (C := C) (op := opnF s m) (b := b) (p := p) (c := ch) (nd := nd - x5) (cu := mv) HP.out (by rw [HNDD.out]; exact HVM.out.2.2.2) (fun _ => by rw [HCU.out]; exact HVM.out.1.2.2)
    obtain ⟨wC, hwC⟩ : ∃ v, wordV lp (updN P p (nd - x5)) lc (updC C ch mv) (opnF s m) = v := ⟨_, rfl⟩
    have hle : wA ≤ wC := by rw [← HWA.out, ← hwC]; exact word_le (hfb false) (hfb true)
    have HK5 : Hid (∀ w2, Below W8.heap.size W8 w2 → Calls Tryz.prog 16 #[] w2 fun e w' => e = .returned (.bool true) ∧ Below w2.heap.size w2 w') := Lib.hid fun w2 h => HKN.out w2 (HUP.out w2 h)
    have HFA : Hid (∀ w2, Below W8.heap.size W8 w2 → Calls Tryz.prog 23 #[.agg #[.slice (some ⟨PA, PO, none⟩) lp cp, .slice (some ⟨CA, CO, none⟩) lc cc], .slice sa m sc] w2 fun e w' => e = .returned (.tuple #[.int .i64 wA, .int .i64 0]) ∧ Below w2.heap.size w2 w') := Lib.hid fun w2 h => fedq_w _ _ sa lp cp lc cc m sc P C s wA w2 HP.out HG.out HWA.out (by omega) (HN.out _ (HUP.out _ h)) (HOS.out _ (HUP.out _ h))
    have HFX : Hid (∀ w2, Below W8.heap.size W8 w2 → Calls Tryz.prog 23 #[.agg #[.slice (some ⟨g1, 0, none⟩) lp c1, .slice (some ⟨g2, 0, none⟩) lc c2], .slice sa m sc] w2 fun e w' => e = .returned (.tuple #[.int .i64 wC, .int .i64 0]) ∧ Below w2.heap.size w2 w') := Lib.hid fun w2 h => fedq_w (some ⟨g1, 0, none⟩) (some ⟨g2, 0, none⟩) sa lp c1 lc c2 m sc (updN P p (nd - x5)) (updC C ch mv) s wC w2 HPX.out HGX.out hwC (by omega) (HNX.out _ h) (HOS.out _ (HUP.out _ h))
    have HPT : Hid (∀ w2, Below W8.heap.size W8 w2 → Calls Tryz.prog 43 #[.agg #[.slice (some ⟨PA, PO, none⟩) lp cp, .slice (some ⟨CA, CO, none⟩) lc cc], .slice ta n tc] w2 fun e w' => (∃ v, e = .returned (.tuple #[v, .int .i64 (if fedV lp P lc C (emF lc C t n) false then 5 else 0)])) ∧ Below w2.heap.size w2 w') := Lib.hid fun w2 h => (proof_ok (some ⟨PA, PO, none⟩) (some ⟨CA, CO, none⟩) ta lp cp lc cc n tc P C t w2 HP.out HG2.out (by omega) (HN.out _ (HUP.out _ h)) (HTS.out _ (HUP.out _ h))).mono fun e w7 ⟨⟨v, he, _⟩, hv⟩ => ⟨⟨v, by rw [he, cutL_fed]; cases fedV lp P lc C (emF lc C t n) false <;> rfl⟩, hv⟩
    have HPU : Hid (∀ w2, Below W8.heap.size W8 w2 → Calls Tryz.prog 43 #[.agg #[.slice (some ⟨PA, PO, none⟩) lp cp, .slice (some ⟨CA, CO, none⟩) lc cc], .slice oa q oc] w2 fun e w' => (∃ v, e = .returned (.tuple #[v, .int .i64 (if fedV lp P lc C (emF lc C u q) false then 5 else 0)])) ∧ Below w2.heap.size w2 w') := Lib.hid fun w2 h => (proof_ok (some ⟨PA, PO, none⟩) (some ⟨CA, CO, none⟩) oa lp cp lc cc q oc P C u w2 HP.out HG3.out (by omega) (HN.out _ (HUP.out _ h)) (HUS.out _ (HUP.out _ h))).mono fun e w7 ⟨⟨v, he, _⟩, hv⟩ => ⟨⟨v, by rw [he, cutL_fed]; cases fedV lp P lc C (emF lc C u q) false <;> rfl⟩, hv⟩
    have HLO : Hid (∀ (i : Nat) w2, Below W8.heap.size W8 w2 → Calls Tryz.prog 40 #[.slice ta n tc, .int .i64 (u i)] w2 fun e w' => e = .returned (.bool (anyB t (u i) n)) ∧ w2 = w') := Lib.hid fun i w2 h => rlisted_w ta n tc t (u i) w2 (by omega) (HTS.out _ (HUP.out _ h))
    have HEM : Hid (allN (fun k => anyB t (u k) n) q = true → fedV lp P lc C (emF lc C t n) false = true → fedV lp P lc C (emF lc C u q) false = true) := Lib.hid fun h1 h2 => em_sub HP.out HG2.out HG3.out h1 h2
    have HUN : Hid (∀ w2, Below W8.heap.size W8 w2 → IntSl w2 oa q u) := Lib.hid fun w2 h => (HUS.out w2 (HUP.out w2 h)).out
    obtain ⟨cls, hcls⟩ : ∃ f, f = allN (fun k => anyB t (u k) n) := ⟨_, rfl⟩
    have HC0 : Hid (cls 0 = true) := Lib.hid (by rw [hcls]; rfl)
    have HCN : Hid (∀ k b, cls k = true → anyB t (u k) n = b → cls (k + 1) = b) := Lib.hid fun k b h1 h2 => by rw [hcls] at h1 ⊢; simp [allN, h1, h2]
    have HCF : Hid (∀ k, cls k = false → cls (k + 1) = false) := Lib.hid fun k h1 => by rw [hcls] at h1 ⊢; simp [allN, h1]
    rw [← hcls] at HEM
    clear hcls
    obtain ⟨b1, hb1⟩ : ∃ b, fedV lp P lc C (emF lc C t n) false = b := ⟨_, rfl⟩
    rw [hb1] at HPT HEM
    obtain ⟨b2, hb2⟩ : ∃ b, fedV lp P lc C (emF lc C u q) false = b := ⟨_, rfl⟩
    rw [hb2] at HPU HEM
    have n30 : ¬ wB < wA := by omega
    have n31 : ¬ wC < wA := by omega
    have HFB5 : Hid (∀ w2, Below W8.heap.size W8 w2 → Below w5.heap.size w5 w2) := HBL
    obtain ⟨g0, g1', g2', g3⟩ := HF5.out _ (Below.refl _ _)
    have HV5 : Hid (Below W8.heap.size W8 W8) := Lib.hid (Below.refl _ _)
    clear hb1 hb2 hfb hwB hwC hle hcp8 hs8 hb8 n1 n2 n5 n6 n7 n8 n9 n10 n11 n12 n13 n14 hz0 hz1 hz2 hy0 hy1 hy2 hi0 hk0 M3
    have M4 := Lib.hid True.intro
    have M6 := Lib.hid True.intro
    cases b1 <;> cases b2
    all_goals
      simp only [Bool.false_eq_true, if_false, if_true] at HPT HPU
      go_wp2_with (first
        | (go_at_call 23; have hB := M2.out; clear hB M2; refine (HFA.out _ HV5.out).mono ?_; rintro e w5 ⟨rfl, hv⟩;  replace HV5 := Lib.hid (HV5.out.trans (hv.mono HV5.out.size)); clear hv g0 g1' g2' g3; obtain ⟨g0, g1', g2', g3⟩ := HF5.out _ HV5.out)
        | (go_at_call 23; have hB := M4.out; clear hB M4; refine (HFB.out _ (HBL.out _ HV5.out)).mono ?_; rintro e w5 ⟨rfl, hv⟩;  replace HV5 := Lib.hid (HV5.out.trans (hv.mono HV5.out.size)); clear hv g0 g1' g2' g3; obtain ⟨g0, g1', g2', g3⟩ := HF5.out _ HV5.out)
        | (go_at_call 23; refine (HFX.out _ HV5.out).mono ?_; rintro e w5 ⟨rfl, hv⟩;  replace HV5 := Lib.hid (HV5.out.trans (hv.mono HV5.out.size)); clear hv g0 g1' g2' g3; obtain ⟨g0, g1', g2', g3⟩ := HF5.out _ HV5.out)
        | (go_at_call 43; have hB := M6.out; clear hB M6; refine (HPT.out _ HV5.out).mono ?_; rintro e w5 ⟨⟨v, rfl⟩, hv⟩;  replace HV5 := Lib.hid (HV5.out.trans (hv.mono HV5.out.size)); clear hv g0 g1' g2' g3; obtain ⟨g0, g1', g2', g3⟩ := HF5.out _ HV5.out)
        | (go_at_call 43; refine (HPU.out _ HV5.out).mono ?_; rintro e w5 ⟨⟨v, rfl⟩, hv⟩;  replace HV5 := Lib.hid (HV5.out.trans (hv.mono HV5.out.size)); clear hv g0 g1' g2' g3; obtain ⟨g0, g1', g2', g3⟩ := HF5.out _ HV5.out))
      clear g0 g1' g2' g3
      go_loopw [31, 32] (fun cv ii wr => ∃ k : Nat, k ≤ q ∧ ii = .int .i64 (k : Int) ∧ cv = .bool (cls k) ∧ Below W8.heap.size W8 wr) (fun _ ii _ => q - (Go.RowKit.intOf ii).toNat)
      case atStart => exact ⟨0, Nat.zero_le _, rfl, by rw [HC0.out], HV5.out⟩
      case round =>
        obtain ⟨k, hk, rfl, rfl, hbr⟩ := hrel
        have HBR := Lib.hid hbr
        clear hbr
        by_cases hlt : k < q
        case pos =>
          have n4 : (0 : Int) ≤ (k : Int) := by omega
          have n5 : (k : Int) < (q : Int) := by omega
          obtain ⟨A, O, rfl, hA1, hN1⟩ := (HUN.out _ HBR.out).resolve_left (by omega)
          have y1 := hN1 k hlt
          have HLK := Lib.hid (HLO.out k)
          have HNK := Lib.hid (HCN.out k)
          have HFK := Lib.hid (HCF.out k)
          obtain ⟨z, hz⟩ : ∃ z, u k = z := ⟨_, rfl⟩
          rw [hz] at y1 HLK HNK
          obtain ⟨bb, hbb⟩ : ∃ b, anyB t z n = b := ⟨_, rfl⟩
          rw [hbb] at HLK HNK
          obtain ⟨ck, hck⟩ : ∃ b, cls k = b := ⟨_, rfl⟩
          rw [hck] at HNK HFK ⊢
          clear hN1 hz hbb hck
          cases ck with
          | false =>
            have HN2 := Lib.hid (HFK.out rfl)
            go_wp2
            go_roundw
            case rel => exact ⟨k + 1, by omega, by go_num, by rw [HN2.out], HBR.out⟩
            case measure => simp [Go.RowKit.intOf]; omega
          | true =>
            have HN2 := Lib.hid (HNK.out _ rfl rfl)
            go_wp2_with (go_at_call 40; refine (HLK.out _ HBR.out).mono ?_; rintro e w6 ⟨rfl, rfl⟩)
            go_roundw
            case rel => exact ⟨k + 1, by omega, by go_num, by rw [HN2.out], HBR.out⟩
            case measure => simp [Go.RowKit.intOf]; omega
        case neg =>
          obtain rfl : k = q := by omega
          have HKB := Lib.hid (HK5.out _ HBR.out)
          obtain ⟨ck, hck⟩ : ∃ b, cls k = b := ⟨_, rfl⟩
          rw [hck] at HEM ⊢
          clear hck
          cases ck with
          | false =>
            go_wp2_with (go_at_call 16; refine HKB.out.mono ?_; rintro e w9 ⟨rfl, hv9⟩)
            go_ret
            exact ⟨rfl, HA.out.trans ((HUP.out _ (HBR.out.trans (hv9.mono HBR.out.size))).mono HA.out.size)⟩
          | true =>
            first
              | (have h3 := HEM.out (by first | rfl | trivial) (by first | rfl | trivial)
                 cases h3
                 done)
              | (go_wp2_with (go_at_call 16; refine HKB.out.mono ?_; rintro e w9 ⟨rfl, hv9⟩)
                 go_ret
                 exact ⟨rfl, HA.out.trans ((HUP.out _ (HBR.out.trans (hv9.mono HBR.out.size))).mono HA.out.size)⟩)
end Go.Kn
