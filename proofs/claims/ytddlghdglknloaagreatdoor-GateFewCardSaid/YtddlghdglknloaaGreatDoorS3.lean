/- Contracts of functions that the laws of this seat call, or the evaluator of closed calls and its runs. Conditions: as each theorem states them. -/
import Derived.Test.YtddlghdglknloaaGreatDoorS1
import Derived.Test.YtddlghdglknloaaGreatDoorS2
import Derived.Test.YtddlghdglknloaaGreatDoorS2B
set_option linter.unusedVariables false
set_option linter.unusedSimpArgs false
namespace Go.Kn
open Go Go.Proofs Go.RowKit

set_option maxRecDepth 100000 in
set_option maxHeartbeats 4000000 in
theorem lawfx_w (pa ca : Option Addr) (lp cp lc cc : Nat) (P : Nat → P8) (C : Nat → C8) (sa ta oa ya : Option Addr) (m sc n tc q oc r yc : Nat) (s t u y : Nat → Int) (w : World) (H : Hid (Ne8 w pa ca lp lc P C)) (HO : Hid (IntSl w sa m s)) (HT : Hid (IntSl w ta n t)) (HU : Hid (IntSl w oa q u)) (HY : Hid (IntSl w ya r y)) (hml : m ≤ maxLen) (hnl : n ≤ maxLen) (hql : q ≤ maxLen) (hrl : r ≤ maxLen) (K : Hid KnownOk) (hpw : Hid (Pw w)) :
    Calls Tryz.prog 10 #[.agg #[.slice pa lp cp, .slice ca lc cc], .slice sa m sc, .slice ta n tc, .slice oa q oc, .slice ya r yc] w fun e w' => e = .returned (.bool true) ∧ Below w.heap.size w w' := by
  cases hrb : rgB lp P lc C s m with
  | true =>
    obtain ⟨hs1, hs2, hm, hnv, hgs⟩ := rgB_t hrb
    have HP := netV_iff.1 hnv
    by_cases hn : n ≤ 10
    case pos =>
     by_cases hq10 : q ≤ 10
     case pos =>
      by_cases hr : r ≤ 10
      case pos =>
        by_cases hgo : gatsB lc C t n = true ∧ gatsB lc C u q = true ∧ gatsB lc C y r = true
        case pos =>
          obtain ⟨h2, h3, h4⟩ := hgo
          cases hw : fedV lp P lc C (opnF u q) false with
          | false => exact lawfew_U pa ca lp cp lc cc P C sa ta oa ya m sc n tc q oc r yc s t u y w H HO HT HU HY HP hgs h2 h3 h4 hm hn hq10 hr hrb hw K hpw
          | true =>
            cases hx : fedV lp P lc C (opnF (lgI (movL s m y r lc)) (movL s m y r lc).length) false with
            | false => exact lawfew_S0 pa ca lp cp lc cc P C sa ta oa ya m sc n tc q oc r yc s t u y w H HO HT HU HY HP hgs h2 h3 h4 hm hn hq10 hr hrb hw hx K hpw
            | true => exact lawfew_S1 pa ca lp cp lc cc P C sa ta oa ya m sc n tc q oc r yc s t u y w H HO HT HU HY HP hgs h2 h3 h4 hm hn hq10 hr hrb hw hx K hpw
        case neg =>
          obtain ⟨W0, hW0⟩ : ∃ W0, W0 = w.alloc (.cells #[.slice pa lp cp, .slice ca lc cc] 25) := ⟨_, rfl⟩
          have hA : Below w.heap.size w W0 := by rw [hW0]; exact (Below.refl _ _).alloc (Nat.le_refl _) _
          have HF : Hid (∀ w2, Below W0.heap.size W0 w2 → w2.cell? ⟨w.heap.size, 0, none⟩ = some (.slice pa lp cp) ∧ w2.cell? ⟨w.heap.size, 1, none⟩ = some (.slice ca lc cc)) := Lib.hid fun w2 h => by
            rw [hW0] at h
            exact ⟨(box_cells h).1, (box_cells h).2.1⟩
          have HN : Hid (∀ w2, Below W0.heap.size W0 w2 → Hid (Ne8 w2 pa ca lp lc P C)) := Lib.hid fun w2 h => Lib.hid (H.out.below (hA.trans (h.mono hA.size)))
          have HOS : Hid (∀ w2, Below W0.heap.size W0 w2 → Hid (IntSl w2 sa m s)) := Lib.hid fun w2 h => Lib.hid (HO.out.below (hA.trans (h.mono hA.size)))
          have HTS : Hid (∀ w2, Below W0.heap.size W0 w2 → Hid (IntSl w2 ta n t)) := Lib.hid fun w2 h => Lib.hid (HT.out.below (hA.trans (h.mono hA.size)))
          have HUS : Hid (∀ w2, Below W0.heap.size W0 w2 → Hid (IntSl w2 oa q u)) := Lib.hid fun w2 h => Lib.hid (HU.out.below (hA.trans (h.mono hA.size)))
          have HYS : Hid (∀ w2, Below W0.heap.size W0 w2 → Hid (IntSl w2 ya r y)) := Lib.hid fun w2 h => Lib.hid (HY.out.below (hA.trans (h.mono hA.size)))
          have HKN : Hid (∀ w2, Below W0.heap.size W0 w2 → Calls Tryz.prog 16 #[] w2 fun e w' => e = .returned (.bool true) ∧ Below w2.heap.size w2 w') := Lib.hid fun w2 h => K.out w2 (hpw.out.on (hA.trans (h.mono hA.size)))
          have HSH : Hid (∀ w2, Below W0.heap.size W0 w2 → Calls Tryz.prog 15 #[.agg #[.slice pa lp cp, .slice ca lc cc]] w2 fun e w' => e = .returned (.bool (decide (lp ≤ 9 ∧ lc ≤ 13))) ∧ Below w2.heap.size w2 w') := Lib.hid fun w2 h => short_w pa ca lp cp lc cc w2
          have HRI : Hid (∀ w2, Below W0.heap.size W0 w2 → Calls Tryz.prog 22 #[.agg #[.slice pa lp cp, .slice ca lc cc], .slice sa m sc] w2 fun e w' => e = .returned (.bool (rgB lp P lc C s m)) ∧ Below w2.heap.size w2 w') := Lib.hid fun w2 h => right_b pa ca sa lp cp lc cc m sc P C s w2 hml (HN.out _ h) (HOS.out _ h)
          have HA := Lib.hid hA
          have HV : Hid (Below W0.heap.size W0 W0) := Lib.hid (Below.refl _ _)
          obtain ⟨g0, g1⟩ := HF.out _ (Below.refl _ _)
          rw [hW0] at g0 g1
          clear hA H HO HT HU HY
          have H2 : Hid (∀ w2, Below W0.heap.size W0 w2 → Calls Tryz.prog 19 #[.agg #[.slice pa lp cp, .slice ca lc cc], .slice ta n tc] w2 fun e w' => e = .returned (.bool (gatsB lc C t n)) ∧ Below w2.heap.size w2 w') := Lib.hid fun w2 h => rsome_w pa ca ta lp cp lc cc n tc P C t w2 (by omega) (by omega) (HN.out _ h) (HTS.out _ h)
          have H3 : Hid (∀ w2, Below W0.heap.size W0 w2 → Calls Tryz.prog 19 #[.agg #[.slice pa lp cp, .slice ca lc cc], .slice oa q oc] w2 fun e w' => e = .returned (.bool (gatsB lc C u q)) ∧ Below w2.heap.size w2 w') := Lib.hid fun w2 h => rsome_w pa ca oa lp cp lc cc q oc P C u w2 (by omega) (by omega) (HN.out _ h) (HUS.out _ h)
          have H4 : Hid (∀ w2, Below W0.heap.size W0 w2 → Calls Tryz.prog 19 #[.agg #[.slice pa lp cp, .slice ca lc cc], .slice ya r yc] w2 fun e w' => e = .returned (.bool (gatsB lc C y r)) ∧ Below w2.heap.size w2 w') := Lib.hid fun w2 h => rsome_w pa ca ya lp cp lc cc r yc P C y w2 (by omega) (by omega) (HN.out _ h) (HYS.out _ h)
          rw [hrb] at HRI
          have n1 : ¬ (10 : Int) < (n : Int) := by omega
          have n2 : ¬ (10 : Int) < (q : Int) := by omega
          have n3 : ¬ (10 : Int) < (r : Int) := by omega
          have M1 := Lib.hid True.intro
          have M2 := Lib.hid True.intro
          cases hq2 : gatsB lc C t n with
          | false =>
            rw [hq2] at H2
            clear hq2 hgo hrb hnv hgs
            go_enter Tryz.func10, Tryz.ntmps10
            go_wp2_with (first
              | (go_at_call 22; (try rw [← hW0]); refine (HRI.out _ HV.out).mono ?_; rintro e w5 ⟨rfl, hv⟩; (try clear hW0); replace HV := Lib.hid (HV.out.trans (hv.mono HV.out.size)); clear hv g0 g1; obtain ⟨g0, g1⟩ := HF.out _ HV.out)
              | (go_at_call 19; (try rw [← hW0]); refine (H2.out _ HV.out).mono ?_; rintro e w5 ⟨rfl, hv⟩; (try clear hW0); replace HV := Lib.hid (HV.out.trans (hv.mono HV.out.size)); clear hv g0 g1; obtain ⟨g0, g1⟩ := HF.out _ HV.out)
              | (go_at_call 16; (try rw [← hW0]); refine (HKN.out _ HV.out).mono ?_; rintro e w5 ⟨rfl, hv⟩; (try clear hW0); replace HV := Lib.hid (HV.out.trans (hv.mono HV.out.size)); clear hv g0 g1; obtain ⟨g0, g1⟩ := HF.out _ HV.out))
            go_ret
            exact ⟨rfl, HA.out.trans (HV.out.mono HA.out.size)⟩
          | true =>
          rw [hq2] at H2
          cases hq3 : gatsB lc C u q with
          | false =>
            rw [hq3] at H3
            clear hq2 hq3 hgo hrb hnv hgs
            go_enter Tryz.func10, Tryz.ntmps10
            go_wp2_with (first
              | (go_at_call 22; (try rw [← hW0]); refine (HRI.out _ HV.out).mono ?_; rintro e w5 ⟨rfl, hv⟩; (try clear hW0); replace HV := Lib.hid (HV.out.trans (hv.mono HV.out.size)); clear hv g0 g1; obtain ⟨g0, g1⟩ := HF.out _ HV.out)
              | (go_at_call 19; have hB := M1.out; clear hB M1; (try rw [← hW0]); refine (H2.out _ HV.out).mono ?_; rintro e w5 ⟨rfl, hv⟩; (try clear hW0); replace HV := Lib.hid (HV.out.trans (hv.mono HV.out.size)); clear hv g0 g1; obtain ⟨g0, g1⟩ := HF.out _ HV.out)
              | (go_at_call 19; (try rw [← hW0]); refine (H3.out _ HV.out).mono ?_; rintro e w5 ⟨rfl, hv⟩; (try clear hW0); replace HV := Lib.hid (HV.out.trans (hv.mono HV.out.size)); clear hv g0 g1; obtain ⟨g0, g1⟩ := HF.out _ HV.out)
              | (go_at_call 16; (try rw [← hW0]); refine (HKN.out _ HV.out).mono ?_; rintro e w5 ⟨rfl, hv⟩; (try clear hW0); replace HV := Lib.hid (HV.out.trans (hv.mono HV.out.size)); clear hv g0 g1; obtain ⟨g0, g1⟩ := HF.out _ HV.out))
            go_ret
            exact ⟨rfl, HA.out.trans (HV.out.mono HA.out.size)⟩
          | true =>
          rw [hq3] at H3
          cases hq4 : gatsB lc C y r with
          | false =>
            rw [hq4] at H4
            clear hq2 hq3 hq4 hgo hrb hnv hgs
            go_enter Tryz.func10, Tryz.ntmps10
            go_wp2_with (first
              | (go_at_call 22; (try rw [← hW0]); refine (HRI.out _ HV.out).mono ?_; rintro e w5 ⟨rfl, hv⟩; (try clear hW0); replace HV := Lib.hid (HV.out.trans (hv.mono HV.out.size)); clear hv g0 g1; obtain ⟨g0, g1⟩ := HF.out _ HV.out)
              | (go_at_call 19; have hB := M1.out; clear hB M1; (try rw [← hW0]); refine (H2.out _ HV.out).mono ?_; rintro e w5 ⟨rfl, hv⟩; (try clear hW0); replace HV := Lib.hid (HV.out.trans (hv.mono HV.out.size)); clear hv g0 g1; obtain ⟨g0, g1⟩ := HF.out _ HV.out)
              | (go_at_call 19; have hB := M2.out; clear hB M2; (try rw [← hW0]); refine (H3.out _ HV.out).mono ?_; rintro e w5 ⟨rfl, hv⟩; (try clear hW0); replace HV := Lib.hid (HV.out.trans (hv.mono HV.out.size)); clear hv g0 g1; obtain ⟨g0, g1⟩ := HF.out _ HV.out)
              | (go_at_call 19; (try rw [← hW0]); refine (H4.out _ HV.out).mono ?_; rintro e w5 ⟨rfl, hv⟩; (try clear hW0); replace HV := Lib.hid (HV.out.trans (hv.mono HV.out.size)); clear hv g0 g1; obtain ⟨g0, g1⟩ := HF.out _ HV.out)
              | (go_at_call 16; (try rw [← hW0]); refine (HKN.out _ HV.out).mono ?_; rintro e w5 ⟨rfl, hv⟩; (try clear hW0); replace HV := Lib.hid (HV.out.trans (hv.mono HV.out.size)); clear hv g0 g1; obtain ⟨g0, g1⟩ := HF.out _ HV.out))
            go_ret
            exact ⟨rfl, HA.out.trans (HV.out.mono HA.out.size)⟩
          | true => exact absurd ⟨hq2, hq3, hq4⟩ hgo
      case neg =>
        obtain ⟨W0, hW0⟩ : ∃ W0, W0 = w.alloc (.cells #[.slice pa lp cp, .slice ca lc cc] 25) := ⟨_, rfl⟩
        have hA : Below w.heap.size w W0 := by rw [hW0]; exact (Below.refl _ _).alloc (Nat.le_refl _) _
        have HF : Hid (∀ w2, Below W0.heap.size W0 w2 → w2.cell? ⟨w.heap.size, 0, none⟩ = some (.slice pa lp cp) ∧ w2.cell? ⟨w.heap.size, 1, none⟩ = some (.slice ca lc cc)) := Lib.hid fun w2 h => by
          rw [hW0] at h
          exact ⟨(box_cells h).1, (box_cells h).2.1⟩
        have HN : Hid (∀ w2, Below W0.heap.size W0 w2 → Hid (Ne8 w2 pa ca lp lc P C)) := Lib.hid fun w2 h => Lib.hid (H.out.below (hA.trans (h.mono hA.size)))
        have HOS : Hid (∀ w2, Below W0.heap.size W0 w2 → Hid (IntSl w2 sa m s)) := Lib.hid fun w2 h => Lib.hid (HO.out.below (hA.trans (h.mono hA.size)))
        have HTS : Hid (∀ w2, Below W0.heap.size W0 w2 → Hid (IntSl w2 ta n t)) := Lib.hid fun w2 h => Lib.hid (HT.out.below (hA.trans (h.mono hA.size)))
        have HUS : Hid (∀ w2, Below W0.heap.size W0 w2 → Hid (IntSl w2 oa q u)) := Lib.hid fun w2 h => Lib.hid (HU.out.below (hA.trans (h.mono hA.size)))
        have HYS : Hid (∀ w2, Below W0.heap.size W0 w2 → Hid (IntSl w2 ya r y)) := Lib.hid fun w2 h => Lib.hid (HY.out.below (hA.trans (h.mono hA.size)))
        have HKN : Hid (∀ w2, Below W0.heap.size W0 w2 → Calls Tryz.prog 16 #[] w2 fun e w' => e = .returned (.bool true) ∧ Below w2.heap.size w2 w') := Lib.hid fun w2 h => K.out w2 (hpw.out.on (hA.trans (h.mono hA.size)))
        have HSH : Hid (∀ w2, Below W0.heap.size W0 w2 → Calls Tryz.prog 15 #[.agg #[.slice pa lp cp, .slice ca lc cc]] w2 fun e w' => e = .returned (.bool (decide (lp ≤ 9 ∧ lc ≤ 13))) ∧ Below w2.heap.size w2 w') := Lib.hid fun w2 h => short_w pa ca lp cp lc cc w2
        have HRI : Hid (∀ w2, Below W0.heap.size W0 w2 → Calls Tryz.prog 22 #[.agg #[.slice pa lp cp, .slice ca lc cc], .slice sa m sc] w2 fun e w' => e = .returned (.bool (rgB lp P lc C s m)) ∧ Below w2.heap.size w2 w') := Lib.hid fun w2 h => right_b pa ca sa lp cp lc cc m sc P C s w2 hml (HN.out _ h) (HOS.out _ h)
        have HA := Lib.hid hA
        have HV : Hid (Below W0.heap.size W0 W0) := Lib.hid (Below.refl _ _)
        obtain ⟨g0, g1⟩ := HF.out _ (Below.refl _ _)
        rw [hW0] at g0 g1
        clear hA H HO HT HU HY
        rw [hrb] at HRI
        have n3 : (10 : Int) < (r : Int) := by omega
        have n1 : ¬ (10 : Int) < (n : Int) := by omega
        have n2 : ¬ (10 : Int) < (q : Int) := by omega
        clear hrb hnv hgs
        go_enter Tryz.func10, Tryz.ntmps10
        go_wp2_with (first
          | (go_at_call 22; (try rw [← hW0]); refine (HRI.out _ HV.out).mono ?_; rintro e w5 ⟨rfl, hv⟩; (try clear hW0); replace HV := Lib.hid (HV.out.trans (hv.mono HV.out.size)); clear hv g0 g1; obtain ⟨g0, g1⟩ := HF.out _ HV.out)
          | (go_at_call 16; (try rw [← hW0]); refine (HKN.out _ HV.out).mono ?_; rintro e w5 ⟨rfl, hv⟩; (try clear hW0); replace HV := Lib.hid (HV.out.trans (hv.mono HV.out.size)); clear hv g0 g1; obtain ⟨g0, g1⟩ := HF.out _ HV.out))
        go_ret
        exact ⟨rfl, HA.out.trans (HV.out.mono HA.out.size)⟩
     case neg =>
       obtain ⟨W0, hW0⟩ : ∃ W0, W0 = w.alloc (.cells #[.slice pa lp cp, .slice ca lc cc] 25) := ⟨_, rfl⟩
       have hA : Below w.heap.size w W0 := by rw [hW0]; exact (Below.refl _ _).alloc (Nat.le_refl _) _
       have HF : Hid (∀ w2, Below W0.heap.size W0 w2 → w2.cell? ⟨w.heap.size, 0, none⟩ = some (.slice pa lp cp) ∧ w2.cell? ⟨w.heap.size, 1, none⟩ = some (.slice ca lc cc)) := Lib.hid fun w2 h => by
         rw [hW0] at h
         exact ⟨(box_cells h).1, (box_cells h).2.1⟩
       have HN : Hid (∀ w2, Below W0.heap.size W0 w2 → Hid (Ne8 w2 pa ca lp lc P C)) := Lib.hid fun w2 h => Lib.hid (H.out.below (hA.trans (h.mono hA.size)))
       have HOS : Hid (∀ w2, Below W0.heap.size W0 w2 → Hid (IntSl w2 sa m s)) := Lib.hid fun w2 h => Lib.hid (HO.out.below (hA.trans (h.mono hA.size)))
       have HTS : Hid (∀ w2, Below W0.heap.size W0 w2 → Hid (IntSl w2 ta n t)) := Lib.hid fun w2 h => Lib.hid (HT.out.below (hA.trans (h.mono hA.size)))
       have HUS : Hid (∀ w2, Below W0.heap.size W0 w2 → Hid (IntSl w2 oa q u)) := Lib.hid fun w2 h => Lib.hid (HU.out.below (hA.trans (h.mono hA.size)))
       have HYS : Hid (∀ w2, Below W0.heap.size W0 w2 → Hid (IntSl w2 ya r y)) := Lib.hid fun w2 h => Lib.hid (HY.out.below (hA.trans (h.mono hA.size)))
       have HKN : Hid (∀ w2, Below W0.heap.size W0 w2 → Calls Tryz.prog 16 #[] w2 fun e w' => e = .returned (.bool true) ∧ Below w2.heap.size w2 w') := Lib.hid fun w2 h => K.out w2 (hpw.out.on (hA.trans (h.mono hA.size)))
       have HSH : Hid (∀ w2, Below W0.heap.size W0 w2 → Calls Tryz.prog 15 #[.agg #[.slice pa lp cp, .slice ca lc cc]] w2 fun e w' => e = .returned (.bool (decide (lp ≤ 9 ∧ lc ≤ 13))) ∧ Below w2.heap.size w2 w') := Lib.hid fun w2 h => short_w pa ca lp cp lc cc w2
       have HRI : Hid (∀ w2, Below W0.heap.size W0 w2 → Calls Tryz.prog 22 #[.agg #[.slice pa lp cp, .slice ca lc cc], .slice sa m sc] w2 fun e w' => e = .returned (.bool (rgB lp P lc C s m)) ∧ Below w2.heap.size w2 w') := Lib.hid fun w2 h => right_b pa ca sa lp cp lc cc m sc P C s w2 hml (HN.out _ h) (HOS.out _ h)
       have HA := Lib.hid hA
       have HV : Hid (Below W0.heap.size W0 W0) := Lib.hid (Below.refl _ _)
       obtain ⟨g0, g1⟩ := HF.out _ (Below.refl _ _)
       rw [hW0] at g0 g1
       clear hA H HO HT HU HY
       rw [hrb] at HRI
       have n2 : (10 : Int) < (q : Int) := by omega
       have n1 : ¬ (10 : Int) < (n : Int) := by omega
       clear hrb hnv hgs
       go_enter Tryz.func10, Tryz.ntmps10
       go_wp2_with (first
         | (go_at_call 22; (try rw [← hW0]); refine (HRI.out _ HV.out).mono ?_; rintro e w5 ⟨rfl, hv⟩; (try clear hW0); replace HV := Lib.hid (HV.out.trans (hv.mono HV.out.size)); clear hv g0 g1; obtain ⟨g0, g1⟩ := HF.out _ HV.out)
         | (go_at_call 16; (try rw [← hW0]); refine (HKN.out _ HV.out).mono ?_; rintro e w5 ⟨rfl, hv⟩; (try clear hW0); replace HV := Lib.hid (HV.out.trans (hv.mono HV.out.size)); clear hv g0 g1; obtain ⟨g0, g1⟩ := HF.out _ HV.out))
       go_ret
       exact ⟨rfl, HA.out.trans (HV.out.mono HA.out.size)⟩
    case neg =>
      obtain ⟨W0, hW0⟩ : ∃ W0, W0 = w.alloc (.cells #[.slice pa lp cp, .slice ca lc cc] 25) := ⟨_, rfl⟩
      have hA : Below w.heap.size w W0 := by rw [hW0]; exact (Below.refl _ _).alloc (Nat.le_refl _) _
      have HF : Hid (∀ w2, Below W0.heap.size W0 w2 → w2.cell? ⟨w.heap.size, 0, none⟩ = some (.slice pa lp cp) ∧ w2.cell? ⟨w.heap.size, 1, none⟩ = some (.slice ca lc cc)) := Lib.hid fun w2 h => by
        rw [hW0] at h
        exact ⟨(box_cells h).1, (box_cells h).2.1⟩
      have HN : Hid (∀ w2, Below W0.heap.size W0 w2 → Hid (Ne8 w2 pa ca lp lc P C)) := Lib.hid fun w2 h => Lib.hid (H.out.below (hA.trans (h.mono hA.size)))
      have HOS : Hid (∀ w2, Below W0.heap.size W0 w2 → Hid (IntSl w2 sa m s)) := Lib.hid fun w2 h => Lib.hid (HO.out.below (hA.trans (h.mono hA.size)))
      have HTS : Hid (∀ w2, Below W0.heap.size W0 w2 → Hid (IntSl w2 ta n t)) := Lib.hid fun w2 h => Lib.hid (HT.out.below (hA.trans (h.mono hA.size)))
      have HUS : Hid (∀ w2, Below W0.heap.size W0 w2 → Hid (IntSl w2 oa q u)) := Lib.hid fun w2 h => Lib.hid (HU.out.below (hA.trans (h.mono hA.size)))
      have HYS : Hid (∀ w2, Below W0.heap.size W0 w2 → Hid (IntSl w2 ya r y)) := Lib.hid fun w2 h => Lib.hid (HY.out.below (hA.trans (h.mono hA.size)))
      have HKN : Hid (∀ w2, Below W0.heap.size W0 w2 → Calls Tryz.prog 16 #[] w2 fun e w' => e = .returned (.bool true) ∧ Below w2.heap.size w2 w') := Lib.hid fun w2 h => K.out w2 (hpw.out.on (hA.trans (h.mono hA.size)))
      have HSH : Hid (∀ w2, Below W0.heap.size W0 w2 → Calls Tryz.prog 15 #[.agg #[.slice pa lp cp, .slice ca lc cc]] w2 fun e w' => e = .returned (.bool (decide (lp ≤ 9 ∧ lc ≤ 13))) ∧ Below w2.heap.size w2 w') := Lib.hid fun w2 h => short_w pa ca lp cp lc cc w2
      have HRI : Hid (∀ w2, Below W0.heap.size W0 w2 → Calls Tryz.prog 22 #[.agg #[.slice pa lp cp, .slice ca lc cc], .slice sa m sc] w2 fun e w' => e = .returned (.bool (rgB lp P lc C s m)) ∧ Below w2.heap.size w2 w') := Lib.hid fun w2 h => right_b pa ca sa lp cp lc cc m sc P C s w2 hml (HN.out _ h) (HOS.out _ h)
      have HA := Lib.hid hA
      have HV : Hid (Below W0.heap.size W0 W0) := Lib.hid (Below.refl _ _)
      obtain ⟨g0, g1⟩ := HF.out _ (Below.refl _ _)
      rw [hW0] at g0 g1
      clear hA H HO HT HU HY
      rw [hrb] at HRI
      have n1 : (10 : Int) < (n : Int) := by omega
      clear hrb hnv hgs
      go_enter Tryz.func10, Tryz.ntmps10
      go_wp2_with (first
        | (go_at_call 22; (try rw [← hW0]); refine (HRI.out _ HV.out).mono ?_; rintro e w5 ⟨rfl, hv⟩; (try clear hW0); replace HV := Lib.hid (HV.out.trans (hv.mono HV.out.size)); clear hv g0 g1; obtain ⟨g0, g1⟩ := HF.out _ HV.out)
        | (go_at_call 16; (try rw [← hW0]); refine (HKN.out _ HV.out).mono ?_; rintro e w5 ⟨rfl, hv⟩; (try clear hW0); replace HV := Lib.hid (HV.out.trans (hv.mono HV.out.size)); clear hv g0 g1; obtain ⟨g0, g1⟩ := HF.out _ HV.out))
      go_ret
      exact ⟨rfl, HA.out.trans (HV.out.mono HA.out.size)⟩
  | false =>
    obtain ⟨W0, hW0⟩ : ∃ W0, W0 = w.alloc (.cells #[.slice pa lp cp, .slice ca lc cc] 25) := ⟨_, rfl⟩
    have hA : Below w.heap.size w W0 := by rw [hW0]; exact (Below.refl _ _).alloc (Nat.le_refl _) _
    have HF : Hid (∀ w2, Below W0.heap.size W0 w2 → w2.cell? ⟨w.heap.size, 0, none⟩ = some (.slice pa lp cp) ∧ w2.cell? ⟨w.heap.size, 1, none⟩ = some (.slice ca lc cc)) := Lib.hid fun w2 h => by
      rw [hW0] at h
      exact ⟨(box_cells h).1, (box_cells h).2.1⟩
    have HN : Hid (∀ w2, Below W0.heap.size W0 w2 → Hid (Ne8 w2 pa ca lp lc P C)) := Lib.hid fun w2 h => Lib.hid (H.out.below (hA.trans (h.mono hA.size)))
    have HOS : Hid (∀ w2, Below W0.heap.size W0 w2 → Hid (IntSl w2 sa m s)) := Lib.hid fun w2 h => Lib.hid (HO.out.below (hA.trans (h.mono hA.size)))
    have HTS : Hid (∀ w2, Below W0.heap.size W0 w2 → Hid (IntSl w2 ta n t)) := Lib.hid fun w2 h => Lib.hid (HT.out.below (hA.trans (h.mono hA.size)))
    have HUS : Hid (∀ w2, Below W0.heap.size W0 w2 → Hid (IntSl w2 oa q u)) := Lib.hid fun w2 h => Lib.hid (HU.out.below (hA.trans (h.mono hA.size)))
    have HYS : Hid (∀ w2, Below W0.heap.size W0 w2 → Hid (IntSl w2 ya r y)) := Lib.hid fun w2 h => Lib.hid (HY.out.below (hA.trans (h.mono hA.size)))
    have HKN : Hid (∀ w2, Below W0.heap.size W0 w2 → Calls Tryz.prog 16 #[] w2 fun e w' => e = .returned (.bool true) ∧ Below w2.heap.size w2 w') := Lib.hid fun w2 h => K.out w2 (hpw.out.on (hA.trans (h.mono hA.size)))
    have HSH : Hid (∀ w2, Below W0.heap.size W0 w2 → Calls Tryz.prog 15 #[.agg #[.slice pa lp cp, .slice ca lc cc]] w2 fun e w' => e = .returned (.bool (decide (lp ≤ 9 ∧ lc ≤ 13))) ∧ Below w2.heap.size w2 w') := Lib.hid fun w2 h => short_w pa ca lp cp lc cc w2
    have HRI : Hid (∀ w2, Below W0.heap.size W0 w2 → Calls Tryz.prog 22 #[.agg #[.slice pa lp cp, .slice ca lc cc], .slice sa m sc] w2 fun e w' => e = .returned (.bool (rgB lp P lc C s m)) ∧ Below w2.heap.size w2 w') := Lib.hid fun w2 h => right_b pa ca sa lp cp lc cc m sc P C s w2 hml (HN.out _ h) (HOS.out _ h)
    have HA := Lib.hid hA
    have HV : Hid (Below W0.heap.size W0 W0) := Lib.hid (Below.refl _ _)
    obtain ⟨g0, g1⟩ := HF.out _ (Below.refl _ _)
    rw [hW0] at g0 g1
    clear hA H HO HT HU HY
    rw [hrb] at HRI
    clear hrb
    go_enter Tryz.func10, Tryz.ntmps10
    go_wp2_with (first
      | (go_at_call 22; (try rw [← hW0]); refine (HRI.out _ HV.out).mono ?_; rintro e w5 ⟨rfl, hv⟩; (try clear hW0); replace HV := Lib.hid (HV.out.trans (hv.mono HV.out.size)); clear hv g0 g1; obtain ⟨g0, g1⟩ := HF.out _ HV.out)
      | (go_at_call 16; (try rw [← hW0]); refine (HKN.out _ HV.out).mono ?_; rintro e w5 ⟨rfl, hv⟩; (try clear hW0); replace HV := Lib.hid (HV.out.trans (hv.mono HV.out.size)); clear hv g0 g1; obtain ⟨g0, g1⟩ := HF.out _ HV.out))
    go_ret
    exact ⟨rfl, HA.out.trans (HV.out.mono HA.out.size)⟩
end Go.Kn
