/- Contracts of functions that the laws of this seat call, or the evaluator of closed calls and its runs. Conditions: as each theorem states them. -/
import Derived.Test.YtddlghdglknloaaGreatDoorM6
import Derived.Test.YtddlghdglknloaaGreatDoorKN
import Derived.Test.YtddlghdglknloaaGreatDoorL9
set_option linter.unusedVariables false
set_option linter.unusedSimpArgs false
namespace Go.Kn
open Go Go.Proofs Go.RowKit

set_option maxRecDepth 100000 in
set_option maxHeartbeats 8000000 in
theorem lawsh_w (pa ca : Option Addr) (lp cp lc cc : Nat) (P : Nat → P8) (C : Nat → C8) (sa oa fa : Option Addr) (m sc n oc r fc : Nat) (s t f : Nat → Int) (w : World) (H : Hid (Ne8 w pa ca lp lc P C)) (HO : Hid (IntSl w sa m s)) (hml : m ≤ maxLen) (HT : Hid (IntSl w oa n t)) (hnl : n ≤ maxLen) (HU : Hid (IntSl w fa r f)) (hrl : r ≤ maxLen) (K : Hid KnownOk) (hpw : Hid (Pw w)) :
    Calls Tryz.prog 5 #[.agg #[.slice pa lp cp, .slice ca lc cc], .slice sa m sc, .slice oa n oc, .slice fa r fc] w fun e w' => e = .returned (.bool true) ∧ Below w.heap.size w w' := by
  obtain ⟨W0, hW0⟩ : ∃ W0, W0 = w.alloc (.cells #[.slice pa lp cp, .slice ca lc cc] 25) := ⟨_, rfl⟩
  have hA : Below w.heap.size w W0 := by rw [hW0]; exact (Below.refl _ _).alloc (Nat.le_refl _) _
  have HF : Hid (∀ w2, Below W0.heap.size W0 w2 → w2.cell? ⟨w.heap.size, 0, none⟩ = some (.slice pa lp cp) ∧ w2.cell? ⟨w.heap.size, 1, none⟩ = some (.slice ca lc cc)) := Lib.hid fun w2 h => by
    rw [hW0] at h
    exact ⟨(box_cells h).1, (box_cells h).2.1⟩
  have HN : Hid (∀ w2, Below W0.heap.size W0 w2 → Hid (Ne8 w2 pa ca lp lc P C)) := Lib.hid fun w2 h => Lib.hid (H.out.below (hA.trans (h.mono hA.size)))
  have HOS : Hid (∀ w2, Below W0.heap.size W0 w2 → Hid (IntSl w2 sa m s)) := Lib.hid fun w2 h => Lib.hid (HO.out.below (hA.trans (h.mono hA.size)))
  have HTS : Hid (∀ w2, Below W0.heap.size W0 w2 → Hid (IntSl w2 oa n t)) := Lib.hid fun w2 h => Lib.hid (HT.out.below (hA.trans (h.mono hA.size)))
  have HUS : Hid (∀ w2, Below W0.heap.size W0 w2 → Hid (IntSl w2 fa r f)) := Lib.hid fun w2 h => Lib.hid (HU.out.below (hA.trans (h.mono hA.size)))
  have HKN : Hid (∀ w2, Below W0.heap.size W0 w2 → Calls Tryz.prog 16 #[] w2 fun e w' => e = .returned (.bool true) ∧ Below w2.heap.size w2 w') := Lib.hid fun w2 h => K.out w2 (hpw.out.on (hA.trans (h.mono hA.size)))
  have HSH : Hid (∀ w2, Below W0.heap.size W0 w2 → Calls Tryz.prog 15 #[.agg #[.slice pa lp cp, .slice ca lc cc]] w2 fun e w' => e = .returned (.bool (decide (lp ≤ 9 ∧ lc ≤ 13))) ∧ Below w2.heap.size w2 w') := Lib.hid fun w2 h => short_w pa ca lp cp lc cc w2
  have HRI : Hid (∀ w2, Below W0.heap.size W0 w2 → Calls Tryz.prog 22 #[.agg #[.slice pa lp cp, .slice ca lc cc], .slice sa m sc] w2 fun e w' => e = .returned (.bool (rgB lp P lc C s m)) ∧ Below w2.heap.size w2 w') := Lib.hid fun w2 h => right_b pa ca sa lp cp lc cc m sc P C s w2 hml (HN.out _ h) (HOS.out _ h)
  have HA := Lib.hid hA
  have HV : Hid (Below W0.heap.size W0 W0) := Lib.hid (Below.refl _ _)
  obtain ⟨g0, g1⟩ := HF.out _ (Below.refl _ _)
  rw [hW0] at g0 g1
  clear hA H HO HT HU
  have M1 := Lib.hid True.intro
  have M2 := Lib.hid True.intro
  cases hrb : rgB lp P lc C s m with
  | false =>
    rw [hrb] at HRI
    clear hrb
    go_enter Tryz.func5, Tryz.ntmps5
    go_wp2_with (first
      | (go_at_call 22; (try rw [← hW0]); refine (HRI.out _ HV.out).mono ?_; rintro e w5 ⟨rfl, hv⟩; (try clear hW0); replace HV := Lib.hid (HV.out.trans (hv.mono HV.out.size)); clear hv g0 g1; obtain ⟨g0, g1⟩ := HF.out _ HV.out)
      | (go_at_call 16; (try rw [← hW0]); refine (HKN.out _ HV.out).mono ?_; rintro e w5 ⟨rfl, hv⟩; (try clear hW0); replace HV := Lib.hid (HV.out.trans (hv.mono HV.out.size)); clear hv g0 g1; obtain ⟨g0, g1⟩ := HF.out _ HV.out))
    go_ret
    exact ⟨rfl, HA.out.trans (HV.out.mono HA.out.size)⟩
  | true =>
    rw [hrb] at HRI
    obtain ⟨hs1, hs2, hm, hnv, hgs⟩ := rgB_t hrb
    clear hrb
    have HG := Lib.hid hgs
    have HP := Lib.hid (netV_iff.1 hnv)
    clear hnv hgs
    by_cases hn : n ≤ 9
    case neg =>
      have n1 : (9 : Int) < (n : Int) := by omega
      go_enter Tryz.func5, Tryz.ntmps5
      go_wp2_with (first
        | (go_at_call 22; (try rw [← hW0]); refine (HRI.out _ HV.out).mono ?_; rintro e w5 ⟨rfl, hv⟩; (try clear hW0); replace HV := Lib.hid (HV.out.trans (hv.mono HV.out.size)); clear hv g0 g1; obtain ⟨g0, g1⟩ := HF.out _ HV.out)
        | (go_at_call 16; (try rw [← hW0]); refine (HKN.out _ HV.out).mono ?_; rintro e w5 ⟨rfl, hv⟩; (try clear hW0); replace HV := Lib.hid (HV.out.trans (hv.mono HV.out.size)); clear hv g0 g1; obtain ⟨g0, g1⟩ := HF.out _ HV.out))
      go_ret
      exact ⟨rfl, HA.out.trans (HV.out.mono HA.out.size)⟩
    case pos =>
      have n1 : ¬ (9 : Int) < (n : Int) := by omega
      have HPO : Hid (∀ w2, Below W0.heap.size W0 w2 → Calls Tryz.prog 25 #[.agg #[.slice pa lp cp, .slice ca lc cc], .slice oa n oc] w2 fun e w' => e = .returned (.bool (gatsB lp allG t n)) ∧ Below w2.heap.size w2 w') := Lib.hid fun w2 h => rpoints_w pa ca oa lp cp lc cc n oc P C t w2 (by omega) (by omega) (HN.out _ h) (HTS.out _ h)
      cases hpo : gatsB lp allG t n with
      | false =>
        rw [hpo] at HPO
        clear hpo
        go_enter Tryz.func5, Tryz.ntmps5
        go_wp2_with (first
          | (go_at_call 22; (try rw [← hW0]); refine (HRI.out _ HV.out).mono ?_; rintro e w5 ⟨rfl, hv⟩; (try clear hW0); replace HV := Lib.hid (HV.out.trans (hv.mono HV.out.size)); clear hv g0 g1; obtain ⟨g0, g1⟩ := HF.out _ HV.out)
          | (go_at_call 25; have hB := M1.out; clear hB M1; (try rw [← hW0]); refine (HPO.out _ HV.out).mono ?_; rintro e w5 ⟨rfl, hv⟩; (try clear hW0); replace HV := Lib.hid (HV.out.trans (hv.mono HV.out.size)); clear hv g0 g1; obtain ⟨g0, g1⟩ := HF.out _ HV.out)
          | (go_at_call 16; (try rw [← hW0]); refine (HKN.out _ HV.out).mono ?_; rintro e w5 ⟨rfl, hv⟩; (try clear hW0); replace HV := Lib.hid (HV.out.trans (hv.mono HV.out.size)); clear hv g0 g1; obtain ⟨g0, g1⟩ := HF.out _ HV.out))
        go_ret
        exact ⟨rfl, HA.out.trans (HV.out.mono HA.out.size)⟩
      | true =>
        rw [hpo] at HPO
        by_cases hr : r ≤ 13
        case neg =>
          have n2 : (13 : Int) < (r : Int) := by omega
          clear hpo
          go_enter Tryz.func5, Tryz.ntmps5
          go_wp2_with (first
            | (go_at_call 22; (try rw [← hW0]); refine (HRI.out _ HV.out).mono ?_; rintro e w5 ⟨rfl, hv⟩; (try clear hW0); replace HV := Lib.hid (HV.out.trans (hv.mono HV.out.size)); clear hv g0 g1; obtain ⟨g0, g1⟩ := HF.out _ HV.out)
            | (go_at_call 25; have hB := M1.out; clear hB M1; (try rw [← hW0]); refine (HPO.out _ HV.out).mono ?_; rintro e w5 ⟨rfl, hv⟩; (try clear hW0); replace HV := Lib.hid (HV.out.trans (hv.mono HV.out.size)); clear hv g0 g1; obtain ⟨g0, g1⟩ := HF.out _ HV.out)
            | (go_at_call 16; (try rw [← hW0]); refine (HKN.out _ HV.out).mono ?_; rintro e w5 ⟨rfl, hv⟩; (try clear hW0); replace HV := Lib.hid (HV.out.trans (hv.mono HV.out.size)); clear hv g0 g1; obtain ⟨g0, g1⟩ := HF.out _ HV.out))
          go_ret
          exact ⟨rfl, HA.out.trans (HV.out.mono HA.out.size)⟩
        case pos =>
          have n2 : ¬ (13 : Int) < (r : Int) := by omega
          have HFL : Hid (∀ w2, Below W0.heap.size W0 w2 → Calls Tryz.prog 20 #[.agg #[.slice pa lp cp, .slice ca lc cc], .slice fa r fc] w2 fun e w' => e = .returned (.bool (flowB lc f r)) ∧ Below w2.heap.size w2 w') := Lib.hid fun w2 h => (rflows_w pa ca fa lp cp lc cc r fc f w2 (by omega) (HUS.out _ h))
          cases hfl : flowB lc f r with
          | false =>
            rw [hfl] at HFL
            clear hfl hpo
            go_enter Tryz.func5, Tryz.ntmps5
            go_wp2_with (first
              | (go_at_call 22; (try rw [← hW0]); refine (HRI.out _ HV.out).mono ?_; rintro e w5 ⟨rfl, hv⟩; (try clear hW0); replace HV := Lib.hid (HV.out.trans (hv.mono HV.out.size)); clear hv g0 g1; obtain ⟨g0, g1⟩ := HF.out _ HV.out)
              | (go_at_call 25; have hB := M1.out; clear hB M1; (try rw [← hW0]); refine (HPO.out _ HV.out).mono ?_; rintro e w5 ⟨rfl, hv⟩; (try clear hW0); replace HV := Lib.hid (HV.out.trans (hv.mono HV.out.size)); clear hv g0 g1; obtain ⟨g0, g1⟩ := HF.out _ HV.out)
              | (go_at_call 20; (try rw [← hW0]); refine (HFL.out _ HV.out).mono ?_; rintro e w5 ⟨rfl, hv⟩; (try clear hW0); replace HV := Lib.hid (HV.out.trans (hv.mono HV.out.size)); clear hv g0 g1; obtain ⟨g0, g1⟩ := HF.out _ HV.out)
              | (go_at_call 16; (try rw [← hW0]); refine (HKN.out _ HV.out).mono ?_; rintro e w5 ⟨rfl, hv⟩; (try clear hW0); replace HV := Lib.hid (HV.out.trans (hv.mono HV.out.size)); clear hv g0 g1; obtain ⟨g0, g1⟩ := HF.out _ HV.out))
            go_ret
            exact ⟨rfl, HA.out.trans (HV.out.mono HA.out.size)⟩
          | true =>
            rw [hfl] at HFL
            obtain ⟨hrl, hfb⟩ := flowB_iff.1 hfl
            have hsub := pts_sub hpo
            have h0 : ∀ i, i < n → 0 ≤ t i := fun i hi => (gatsB_inc hpo i hi).2.1
            obtain ⟨L1, hL1⟩ : ∃ L1, lstN t n = L1 := ⟨_, rfl⟩
            have hl1 : L1.length = n := by rw [← hL1, lstN_len]
            have HTL : Hid (∀ w2, Below W0.heap.size W0 w2 → IntSl w2 oa n (lgI L1)) := Lib.hid fun w2 h => by rw [← hL1]; exact intSl_lst (HTS.out w2 h).out h0
            rw [hL1] at hsub
            have hl7 := HP.out.l7
            have hn7 : n ≤ 7 := by have := hsub.length_le; simp at this; omega
            have HSUB := Lib.hid hsub
            have HS1 : Hid (∀ w2, Below W0.heap.size W0 w2 → Calls Tryz.prog 26 #[.agg #[.slice pa lp cp, .slice ca lc cc], .slice sa m sc, .slice oa n oc, .bool false] w2 fun e w' => e = .returned (.int .i64 (-(spareV P lc C (opnF s m) false L1))) ∧ Below w2.heap.size w2 w') := Lib.hid fun w2 h => rshort_w pa ca sa oa lp cp lc cc m sc n oc P C s L1 false w2 HP HG (by omega) hl1 hn7 (Lib.hid fun y hy => List.mem_range.1 (HSUB.out.subset hy)) (HN.out _ h) (HOS.out _ h) (Lib.hid (HTL.out _ h))
            have HCU : Hid (∀ w2, Below W0.heap.size W0 w2 → Calls Tryz.prog 24 #[.agg #[.slice pa lp cp, .slice ca lc cc], .slice sa m sc] w2 fun e w' => (∃ v, e = .returned (.tuple #[v, .int .i64 (if (cutL lp P lc C (opnF s m) false).isSome then 0 else 5)]) ∧ CutAt w' v (cutL lp P lc C (opnF s m) false)) ∧ Below w2.heap.size w2 w') := Lib.hid fun w2 h => cut_ok pa ca sa lp cp lc cc m sc P C s w2 HP.out HG.out (by omega) (HN.out _ h) (HOS.out _ h)
            have HFE : Hid (∀ w2, Below W0.heap.size W0 w2 → Calls Tryz.prog 17 #[.agg #[.slice pa lp cp, .slice ca lc cc], .slice sa m sc, .slice fa r fc] w2 fun e w' => e = .returned (.tuple #[.bool (fbV lp P lc C (opnF s m) f), .int .i64 0]) ∧ Below w2.heap.size w2 w') := Lib.hid fun w2 h => by
              have h1 := feeds_w pa ca sa fa lp cp lc cc m sc r fc P C s f w2 (by omega) (by omega) (by omega) (by omega) (HN.out _ h) (HOS.out _ h) (HUS.out _ h)
              have hq : fdQ lp P lc C s m f r = true := by unfold fdQ; rw [netV_iff.2 HP.out, HG.out, hfl]; rfl
              rw [hq] at h1
              simpa only [if_true, Bool.true_and] using h1
            obtain ⟨cu, hcu⟩ : ∃ cu, cutL lp P lc C (opnF s m) false = cu := ⟨_, rfl⟩
            have hbf : bestF (fun L => decide (spareV P lc C (opnF s m) false L < 0)) (allLs (List.range lp)) = cu := by rw [cutL_best, hcu]
            obtain ⟨S1, hS1⟩ : ∃ S, spareV P lc C (opnF s m) false L1 = S := ⟨_, rfl⟩
            rw [hcu] at HCU
            obtain ⟨T1, hT1⟩ : ∃ T, -S1 = T := ⟨_, rfl⟩
            rw [hS1, hT1] at HS1
            cases cu with
            | none =>
              simp only [CutAt, Option.isSome_none, Bool.false_eq_true, if_false] at HCU
              have h1 := best_none hbf L1 hsub
              rw [hS1] at h1
              have n5 : ¬ 0 < T1 := by simp at h1; omega
              clear hbf hS1 hT1 h1 hpo hfl hrl hfb hL1 hl1 h0 hsub hcu
              go_enter Tryz.func5, Tryz.ntmps5
              go_wp2_with (first
                | (go_at_call 22; (try rw [← hW0]); refine (HRI.out _ HV.out).mono ?_; rintro e w5 ⟨rfl, hv⟩; (try clear hW0); replace HV := Lib.hid (HV.out.trans (hv.mono HV.out.size)); clear hv g0 g1; obtain ⟨g0, g1⟩ := HF.out _ HV.out)
                | (go_at_call 25; have hB := M1.out; clear hB M1; (try rw [← hW0]); refine (HPO.out _ HV.out).mono ?_; rintro e w5 ⟨rfl, hv⟩; (try clear hW0); replace HV := Lib.hid (HV.out.trans (hv.mono HV.out.size)); clear hv g0 g1; obtain ⟨g0, g1⟩ := HF.out _ HV.out)
                | (go_at_call 20; (try rw [← hW0]); refine (HFL.out _ HV.out).mono ?_; rintro e w5 ⟨rfl, hv⟩; (try clear hW0); replace HV := Lib.hid (HV.out.trans (hv.mono HV.out.size)); clear hv g0 g1; obtain ⟨g0, g1⟩ := HF.out _ HV.out)
                | (go_at_call 24; (try rw [← hW0]); refine (HCU.out _ HV.out).mono ?_; rintro e w5 ⟨⟨v, rfl, rfl⟩, hv⟩; (try clear hW0); replace HV := Lib.hid (HV.out.trans (hv.mono HV.out.size)); clear hv g0 g1; obtain ⟨g0, g1⟩ := HF.out _ HV.out)
                | (go_at_call 26; have hB := M2.out; clear hB M2; (try rw [← hW0]); refine (HS1.out _ HV.out).mono ?_; rintro e w5 ⟨rfl, hv⟩; (try clear hW0); replace HV := Lib.hid (HV.out.trans (hv.mono HV.out.size)); clear hv g0 g1; obtain ⟨g0, g1⟩ := HF.out _ HV.out)
                | (go_at_call 16; (try rw [← hW0]); refine (HKN.out _ HV.out).mono ?_; rintro e w5 ⟨rfl, hv⟩; (try clear hW0); replace HV := Lib.hid (HV.out.trans (hv.mono HV.out.size)); clear hv g0 g1; obtain ⟨g0, g1⟩ := HF.out _ HV.out))
              go_ret
              exact ⟨by simp [n5], HA.out.trans (HV.out.mono HA.out.size)⟩
            | some L =>
              simp only [CutAt, Option.isSome_some, if_true] at HCU
              obtain ⟨b1, b2, b3⟩ := best_first (range_inc lp) hbf
              have hb4 := b3 L1 hsub
              have hll7 : L.length ≤ 7 := by have := b2.length_le; simp at this; omega
              have hllp : L.length ≤ lp := by have := b2.length_le; simpa using this
              have hb1 : spareV P lc C (opnF s m) false L < 0 := by simpa using b1
              have hfe : fbV lp P lc C (opnF s m) f = false := by
                cases h : fbV lp P lc C (opnF s m) f with
                | false => rfl
                | true => have := cut_fed.2 (feeds_fed HP.out (fun i hi => (hfb i (by omega)).1) h); rw [hcu] at this; cases this
              rw [hfe] at HFE
              have hpl := sub_pts b2
              have HP2 : Hid (∀ la c2 w2, IntSl w2 la L.length (lgI L) → Below W0.heap.size W0 w2 → Calls Tryz.prog 25 #[.agg #[.slice pa lp cp, .slice ca lc cc], .slice la L.length c2] w2 fun e w' => e = .returned (.bool true) ∧ Below w2.heap.size w2 w') := Lib.hid fun la c2 w2 h1 h => by
                have h2 := rpoints_w pa ca la lp cp lc cc L.length c2 P C (lgI L) w2 (by omega) (by omega) (HN.out _ h) (Lib.hid h1)
                rw [hpl] at h2; exact h2
              have HS2 : Hid (∀ la c2 w2, IntSl w2 la L.length (lgI L) → Below W0.heap.size W0 w2 → Calls Tryz.prog 26 #[.agg #[.slice pa lp cp, .slice ca lc cc], .slice sa m sc, .slice la L.length c2, .bool false] w2 fun e w' => e = .returned (.int .i64 (-(spareV P lc C (opnF s m) false L))) ∧ Below w2.heap.size w2 w') := Lib.hid fun la c2 w2 h1 h => rshort_w pa ca sa la lp cp lc cc m sc L.length c2 P C s L false w2 HP HG (by omega) rfl hll7 (Lib.hid fun y hy => List.mem_range.1 (b2.subset hy)) (HN.out _ h) (HOS.out _ h) (Lib.hid h1)
              have HBE : Hid (∀ la c2 w2, IntSl w2 la L.length (lgI L) → Below W0.heap.size W0 w2 → Calls Tryz.prog 27 #[.slice oa n oc, .slice la L.length c2] w2 fun e w' => e = .returned (.bool (befL L1 L)) ∧ Below w2.heap.size w2 w') := Lib.hid fun la c2 w2 h1 h => rbefore_w oa la n L.length oc c2 L1 L w2 hl1 rfl (by omega) (by omega) (Lib.hid (HTL.out _ h)) (Lib.hid h1)
              rw [hl1] at hb4
              simp only [hS1, decide_eq_true_eq] at hb4
              obtain ⟨bl, hbl⟩ : ∃ b, befL L1 L = b := ⟨_, rfl⟩
              obtain ⟨S2, hS2⟩ : ∃ S, spareV P lc C (opnF s m) false L = S := ⟨_, rfl⟩
              obtain ⟨ll, hll⟩ : ∃ ll, L.length = ll := ⟨_, rfl⟩
              rw [hbl] at HBE hb4
              obtain ⟨T2, hT2⟩ : ∃ T, -S2 = T := ⟨_, rfl⟩
              rw [hS2, hT2] at HS2
              rw [hS2] at hb1
              rw [hll] at HCU HP2 HS2 HBE hb4 hll7 hllp
              have n6 : ¬ (lp : Int) < (ll : Int) := by omega
              have n7 : ¬ T2 ≤ 0 := by omega
              clear hbf hS1 hT2 hpo hfl hrl hfb hL1 hl1 h0 hsub hcu b1 b2 b3 hfe hpl hbl hS2 hll
              by_cases hS : S1 < 0
              case neg =>
                have n5 : ¬ 0 < T1 := by omega
                clear hb4 hT1
                go_enter Tryz.func5, Tryz.ntmps5
                go_wp2_with (first
                  | (go_at_call 22; (try rw [← hW0]); refine (HRI.out _ HV.out).mono ?_; rintro e w5 ⟨rfl, hv⟩; (try clear hW0); replace HV := Lib.hid (HV.out.trans (hv.mono HV.out.size)); clear hv g0 g1; obtain ⟨g0, g1⟩ := HF.out _ HV.out)
                  | (go_at_call 25; have hB := M1.out; clear hB M1; (try rw [← hW0]); refine (HPO.out _ HV.out).mono ?_; rintro e w5 ⟨rfl, hv⟩; (try clear hW0); replace HV := Lib.hid (HV.out.trans (hv.mono HV.out.size)); clear hv g0 g1; obtain ⟨g0, g1⟩ := HF.out _ HV.out)
                  | (go_at_call 20; (try rw [← hW0]); refine (HFL.out _ HV.out).mono ?_; rintro e w5 ⟨rfl, hv⟩; (try clear hW0); replace HV := Lib.hid (HV.out.trans (hv.mono HV.out.size)); clear hv g0 g1; obtain ⟨g0, g1⟩ := HF.out _ HV.out)
                  | (go_at_call 24; (try rw [← hW0]); refine (HCU.out _ HV.out).mono ?_; rintro e w5 ⟨⟨v, rfl, la, ca1, rfl, hs⟩, hv⟩; (try clear hW0); replace HV := Lib.hid (HV.out.trans (hv.mono HV.out.size)); clear hv g0 g1; obtain ⟨g0, g1⟩ := HF.out _ HV.out; have HC := Lib.hid hs; clear hs)
                  | (go_at_call 26; have hB := M2.out; clear hB M2; (try rw [← hW0]); refine (HS1.out _ HV.out).mono ?_; rintro e w5 ⟨rfl, hv⟩; replace HC := Lib.hid (HC.out.below hv); (try clear hW0); replace HV := Lib.hid (HV.out.trans (hv.mono HV.out.size)); clear hv g0 g1; obtain ⟨g0, g1⟩ := HF.out _ HV.out)
                  | (go_at_call 17; (try rw [← hW0]); refine (HFE.out _ HV.out).mono ?_; rintro e w5 ⟨rfl, hv⟩; replace HC := Lib.hid (HC.out.below hv); (try clear hW0); replace HV := Lib.hid (HV.out.trans (hv.mono HV.out.size)); clear hv g0 g1; obtain ⟨g0, g1⟩ := HF.out _ HV.out)
                  | (go_at_call 25; (try rw [← hW0]); refine (HP2.out la ca1 _ HC.out HV.out).mono ?_; rintro e w5 ⟨rfl, hv⟩; replace HC := Lib.hid (HC.out.below hv); (try clear hW0); replace HV := Lib.hid (HV.out.trans (hv.mono HV.out.size)); clear hv g0 g1; obtain ⟨g0, g1⟩ := HF.out _ HV.out)
                  | (go_at_call 26; (try rw [← hW0]); refine (HS2.out la ca1 _ HC.out HV.out).mono ?_; rintro e w5 ⟨rfl, hv⟩; replace HC := Lib.hid (HC.out.below hv); (try clear hW0); replace HV := Lib.hid (HV.out.trans (hv.mono HV.out.size)); clear hv g0 g1; obtain ⟨g0, g1⟩ := HF.out _ HV.out)
                  | (go_at_call 16; (try rw [← hW0]); refine (HKN.out _ HV.out).mono ?_; rintro e w5 ⟨rfl, hv⟩; (try clear hW0); replace HV := Lib.hid (HV.out.trans (hv.mono HV.out.size)); clear hv g0 g1; obtain ⟨g0, g1⟩ := HF.out _ HV.out))
                go_ret
                exact ⟨rfl, HA.out.trans (HV.out.mono HA.out.size)⟩
              case pos =>
                have n5 : 0 < T1 := by omega
                obtain ⟨hc1, hc2⟩ := hb4 hS
                by_cases hc : ll < n
                case pos =>
                  have n8 : (ll : Int) < (n : Int) := by omega
                  clear hb4 hc1 hc2 hT1
                  go_enter Tryz.func5, Tryz.ntmps5
                  go_wp2_with (first
                    | (go_at_call 22; (try rw [← hW0]); refine (HRI.out _ HV.out).mono ?_; rintro e w5 ⟨rfl, hv⟩; (try clear hW0); replace HV := Lib.hid (HV.out.trans (hv.mono HV.out.size)); clear hv g0 g1; obtain ⟨g0, g1⟩ := HF.out _ HV.out)
                    | (go_at_call 25; have hB := M1.out; clear hB M1; (try rw [← hW0]); refine (HPO.out _ HV.out).mono ?_; rintro e w5 ⟨rfl, hv⟩; (try clear hW0); replace HV := Lib.hid (HV.out.trans (hv.mono HV.out.size)); clear hv g0 g1; obtain ⟨g0, g1⟩ := HF.out _ HV.out)
                    | (go_at_call 20; (try rw [← hW0]); refine (HFL.out _ HV.out).mono ?_; rintro e w5 ⟨rfl, hv⟩; (try clear hW0); replace HV := Lib.hid (HV.out.trans (hv.mono HV.out.size)); clear hv g0 g1; obtain ⟨g0, g1⟩ := HF.out _ HV.out)
                    | (go_at_call 24; (try rw [← hW0]); refine (HCU.out _ HV.out).mono ?_; rintro e w5 ⟨⟨v, rfl, la, ca1, rfl, hs⟩, hv⟩; (try clear hW0); replace HV := Lib.hid (HV.out.trans (hv.mono HV.out.size)); clear hv g0 g1; obtain ⟨g0, g1⟩ := HF.out _ HV.out; have HC := Lib.hid hs; clear hs)
                    | (go_at_call 26; have hB := M2.out; clear hB M2; (try rw [← hW0]); refine (HS1.out _ HV.out).mono ?_; rintro e w5 ⟨rfl, hv⟩; replace HC := Lib.hid (HC.out.below hv); (try clear hW0); replace HV := Lib.hid (HV.out.trans (hv.mono HV.out.size)); clear hv g0 g1; obtain ⟨g0, g1⟩ := HF.out _ HV.out)
                    | (go_at_call 17; (try rw [← hW0]); refine (HFE.out _ HV.out).mono ?_; rintro e w5 ⟨rfl, hv⟩; replace HC := Lib.hid (HC.out.below hv); (try clear hW0); replace HV := Lib.hid (HV.out.trans (hv.mono HV.out.size)); clear hv g0 g1; obtain ⟨g0, g1⟩ := HF.out _ HV.out)
                    | (go_at_call 25; (try rw [← hW0]); refine (HP2.out la ca1 _ HC.out HV.out).mono ?_; rintro e w5 ⟨rfl, hv⟩; replace HC := Lib.hid (HC.out.below hv); (try clear hW0); replace HV := Lib.hid (HV.out.trans (hv.mono HV.out.size)); clear hv g0 g1; obtain ⟨g0, g1⟩ := HF.out _ HV.out)
                    | (go_at_call 26; (try rw [← hW0]); refine (HS2.out la ca1 _ HC.out HV.out).mono ?_; rintro e w5 ⟨rfl, hv⟩; replace HC := Lib.hid (HC.out.below hv); (try clear hW0); replace HV := Lib.hid (HV.out.trans (hv.mono HV.out.size)); clear hv g0 g1; obtain ⟨g0, g1⟩ := HF.out _ HV.out)
                    | (go_at_call 16; (try rw [← hW0]); refine (HKN.out _ HV.out).mono ?_; rintro e w5 ⟨rfl, hv⟩; (try clear hW0); replace HV := Lib.hid (HV.out.trans (hv.mono HV.out.size)); clear hv g0 g1; obtain ⟨g0, g1⟩ := HF.out _ HV.out))
                  go_ret
                  exact ⟨rfl, HA.out.trans (HV.out.mono HA.out.size)⟩
                case neg =>
                  obtain rfl : n = ll := by omega
                  obtain rfl : bl = false := hc2 rfl
                  clear hb4 hc1 hc2 hc hT1
                  go_enter Tryz.func5, Tryz.ntmps5
                  go_wp2_with (first
                    | (go_at_call 22; (try rw [← hW0]); refine (HRI.out _ HV.out).mono ?_; rintro e w5 ⟨rfl, hv⟩; (try clear hW0); replace HV := Lib.hid (HV.out.trans (hv.mono HV.out.size)); clear hv g0 g1; obtain ⟨g0, g1⟩ := HF.out _ HV.out)
                    | (go_at_call 25; have hB := M1.out; clear hB M1; (try rw [← hW0]); refine (HPO.out _ HV.out).mono ?_; rintro e w5 ⟨rfl, hv⟩; (try clear hW0); replace HV := Lib.hid (HV.out.trans (hv.mono HV.out.size)); clear hv g0 g1; obtain ⟨g0, g1⟩ := HF.out _ HV.out)
                    | (go_at_call 20; (try rw [← hW0]); refine (HFL.out _ HV.out).mono ?_; rintro e w5 ⟨rfl, hv⟩; (try clear hW0); replace HV := Lib.hid (HV.out.trans (hv.mono HV.out.size)); clear hv g0 g1; obtain ⟨g0, g1⟩ := HF.out _ HV.out)
                    | (go_at_call 24; (try rw [← hW0]); refine (HCU.out _ HV.out).mono ?_; rintro e w5 ⟨⟨v, rfl, la, ca1, rfl, hs⟩, hv⟩; (try clear hW0); replace HV := Lib.hid (HV.out.trans (hv.mono HV.out.size)); clear hv g0 g1; obtain ⟨g0, g1⟩ := HF.out _ HV.out; have HC := Lib.hid hs; clear hs)
                    | (go_at_call 26; have hB := M2.out; clear hB M2; (try rw [← hW0]); refine (HS1.out _ HV.out).mono ?_; rintro e w5 ⟨rfl, hv⟩; replace HC := Lib.hid (HC.out.below hv); (try clear hW0); replace HV := Lib.hid (HV.out.trans (hv.mono HV.out.size)); clear hv g0 g1; obtain ⟨g0, g1⟩ := HF.out _ HV.out)
                    | (go_at_call 17; (try rw [← hW0]); refine (HFE.out _ HV.out).mono ?_; rintro e w5 ⟨rfl, hv⟩; replace HC := Lib.hid (HC.out.below hv); (try clear hW0); replace HV := Lib.hid (HV.out.trans (hv.mono HV.out.size)); clear hv g0 g1; obtain ⟨g0, g1⟩ := HF.out _ HV.out)
                    | (go_at_call 25; (try rw [← hW0]); refine (HP2.out la ca1 _ HC.out HV.out).mono ?_; rintro e w5 ⟨rfl, hv⟩; replace HC := Lib.hid (HC.out.below hv); (try clear hW0); replace HV := Lib.hid (HV.out.trans (hv.mono HV.out.size)); clear hv g0 g1; obtain ⟨g0, g1⟩ := HF.out _ HV.out)
                    | (go_at_call 26; (try rw [← hW0]); refine (HS2.out la ca1 _ HC.out HV.out).mono ?_; rintro e w5 ⟨rfl, hv⟩; replace HC := Lib.hid (HC.out.below hv); (try clear hW0); replace HV := Lib.hid (HV.out.trans (hv.mono HV.out.size)); clear hv g0 g1; obtain ⟨g0, g1⟩ := HF.out _ HV.out)
                    | (go_at_call 27; (try rw [← hW0]); refine (HBE.out la ca1 _ HC.out HV.out).mono ?_; rintro e w5 ⟨rfl, hv⟩; (try clear hW0); replace HV := Lib.hid (HV.out.trans (hv.mono HV.out.size)); clear hv g0 g1; obtain ⟨g0, g1⟩ := HF.out _ HV.out)
                    | (go_at_call 16; (try rw [← hW0]); refine (HKN.out _ HV.out).mono ?_; rintro e w5 ⟨rfl, hv⟩; (try clear hW0); replace HV := Lib.hid (HV.out.trans (hv.mono HV.out.size)); clear hv g0 g1; obtain ⟨g0, g1⟩ := HF.out _ HV.out))
                  go_ret
                  exact ⟨rfl, HA.out.trans (HV.out.mono HA.out.size)⟩
end Go.Kn
