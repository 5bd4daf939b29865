/- Contracts of functions that the laws of this seat call, or the evaluator of closed calls and its runs. Conditions: as each theorem states them. -/
import Derived.Test.YtddlghdglknloaaGreatDoorQ5
import Derived.Test.YtddlghdglknloaaGreatDoorKN
set_option linter.unusedVariables false
set_option linter.unusedSimpArgs false
namespace Go.Kn
open Go Go.Proofs Go.RowKit

set_option maxRecDepth 100000 in
set_option maxHeartbeats 6000000 in
theorem lawfw_w (pa ca : Option Addr) (lp cp lc cc : Nat) (P : Nat → P8) (C : Nat → C8) (sa ta : Option Addr) (m sc n tc : Nat) (s t : Nat → Int) (w : World) (H : Hid (Ne8 w pa ca lp lc P C)) (HO : Hid (IntSl w sa m s)) (hml : m ≤ maxLen) (HT : Hid (IntSl w ta n t)) (hnl : n ≤ maxLen) (K : Hid KnownOk) (hpw : Hid (Pw w)) :
    Calls Tryz.prog 11 #[.agg #[.slice pa lp cp, .slice ca lc cc], .slice sa m sc, .slice ta n tc] w fun e w' => e = .returned (.bool true) ∧ Below w.heap.size w w' := by
  obtain ⟨W0, hW0⟩ : ∃ W0, W0 = w.alloc (.cells #[.slice pa lp cp, .slice ca lc cc] 25) := ⟨_, rfl⟩
  have hA : Below w.heap.size w W0 := by rw [hW0]; exact (Below.refl _ _).alloc (Nat.le_refl _) _
  have HF : Hid (∀ w2, Below W0.heap.size W0 w2 → w2.cell? ⟨w.heap.size, 0, none⟩ = some (.slice pa lp cp) ∧ w2.cell? ⟨w.heap.size, 1, none⟩ = some (.slice ca lc cc)) := Lib.hid fun w2 h => by
    rw [hW0] at h
    exact ⟨(box_cells h).1, (box_cells h).2.1⟩
  have HN : Hid (∀ w2, Below W0.heap.size W0 w2 → Hid (Ne8 w2 pa ca lp lc P C)) := Lib.hid fun w2 h => Lib.hid (H.out.below (hA.trans (h.mono hA.size)))
  have HOS : Hid (∀ w2, Below W0.heap.size W0 w2 → Hid (IntSl w2 sa m s)) := Lib.hid fun w2 h => Lib.hid (HO.out.below (hA.trans (h.mono hA.size)))
  have HTS : Hid (∀ w2, Below W0.heap.size W0 w2 → Hid (IntSl w2 ta n t)) := Lib.hid fun w2 h => Lib.hid (HT.out.below (hA.trans (h.mono hA.size)))
  have HKN : Hid (∀ w2, Below W0.heap.size W0 w2 → Calls Tryz.prog 16 #[] w2 fun e w' => e = .returned (.bool true) ∧ Below w2.heap.size w2 w') := Lib.hid fun w2 h => K.out w2 (hpw.out.on (hA.trans (h.mono hA.size)))
  have HSH : Hid (∀ w2, Below W0.heap.size W0 w2 → Calls Tryz.prog 15 #[.agg #[.slice pa lp cp, .slice ca lc cc]] w2 fun e w' => e = .returned (.bool (decide (lp ≤ 9 ∧ lc ≤ 13))) ∧ Below w2.heap.size w2 w') := Lib.hid fun w2 h => short_w pa ca lp cp lc cc w2
  have HA := Lib.hid hA
  have HV : Hid (Below W0.heap.size W0 W0) := Lib.hid (Below.refl _ _)
  obtain ⟨g0, g1⟩ := HF.out _ (Below.refl _ _)
  rw [hW0] at g0 g1
  clear hA H HO HT
  by_cases hsh : lp ≤ 9 ∧ lc ≤ 13
  case neg =>
    have hd : decide (lp ≤ 9 ∧ lc ≤ 13) = false := decide_eq_false hsh
    rw [hd] at HSH
    clear hd hsh
    go_enter Tryz.func11, Tryz.ntmps11
    go_wp2_with (first
      | (go_at_call 15; (try rw [← hW0]); refine (HSH.out _ HV.out).mono ?_; rintro e w5 ⟨rfl, hv⟩; (try clear hW0); replace HV := Lib.hid (HV.out.trans (hv.mono HV.out.size)); clear hv g0 g1; obtain ⟨g0, g1⟩ := HF.out _ HV.out)
      | (go_at_call 16; (try rw [← hW0]); refine (HKN.out _ HV.out).mono ?_; rintro e w5 ⟨rfl, hv⟩; (try clear hW0); replace HV := Lib.hid (HV.out.trans (hv.mono HV.out.size)); clear hv g0 g1; obtain ⟨g0, g1⟩ := HF.out _ HV.out))
    go_ret
    exact ⟨rfl, HA.out.trans (HV.out.mono HA.out.size)⟩
  case pos =>
    have hd : decide (lp ≤ 9 ∧ lc ≤ 13) = true := decide_eq_true hsh
    rw [hd] at HSH
    clear hd
    obtain ⟨hs1, hs2⟩ := hsh
    by_cases hm : m ≤ 10
    case neg =>
      have n1 : (10 : Int) < (m : Int) := by omega
      go_enter Tryz.func11, Tryz.ntmps11
      go_wp2_with (first
        | (go_at_call 15; (try rw [← hW0]); refine (HSH.out _ HV.out).mono ?_; rintro e w5 ⟨rfl, hv⟩; (try clear hW0); replace HV := Lib.hid (HV.out.trans (hv.mono HV.out.size)); clear hv g0 g1; obtain ⟨g0, g1⟩ := HF.out _ HV.out)
        | (go_at_call 16; (try rw [← hW0]); refine (HKN.out _ HV.out).mono ?_; rintro e w5 ⟨rfl, hv⟩; (try clear hW0); replace HV := Lib.hid (HV.out.trans (hv.mono HV.out.size)); clear hv g0 g1; obtain ⟨g0, g1⟩ := HF.out _ HV.out))
      go_ret
      exact ⟨rfl, HA.out.trans (HV.out.mono HA.out.size)⟩
    case pos =>
    have n1 : ¬ (10 : Int) < (m : Int) := by omega
    by_cases hn : n ≤ 10
    case neg =>
      have n2 : (10 : Int) < (n : Int) := by omega
      go_enter Tryz.func11, Tryz.ntmps11
      go_wp2_with (first
        | (go_at_call 15; (try rw [← hW0]); refine (HSH.out _ HV.out).mono ?_; rintro e w5 ⟨rfl, hv⟩; (try clear hW0); replace HV := Lib.hid (HV.out.trans (hv.mono HV.out.size)); clear hv g0 g1; obtain ⟨g0, g1⟩ := HF.out _ HV.out)
        | (go_at_call 16; (try rw [← hW0]); refine (HKN.out _ HV.out).mono ?_; rintro e w5 ⟨rfl, hv⟩; (try clear hW0); replace HV := Lib.hid (HV.out.trans (hv.mono HV.out.size)); clear hv g0 g1; obtain ⟨g0, g1⟩ := HF.out _ HV.out))
      go_ret
      exact ⟨rfl, HA.out.trans (HV.out.mono HA.out.size)⟩
    case pos =>
      have n2 : ¬ (10 : Int) < (n : Int) := by omega
      have H1 : Hid (∀ w2, Below W0.heap.size W0 w2 → Calls Tryz.prog 18 #[.agg #[.slice pa lp cp, .slice ca lc cc]] w2 fun e w' => e = .returned (.bool (netV lp P lc C)) ∧ Below w2.heap.size w2 w') := Lib.hid fun w2 h => rnet_w pa ca lp cp lc cc P C w2 (by omega) (by omega) (HN.out _ h)
      have H2 : Hid (∀ w2, Below W0.heap.size W0 w2 → Calls Tryz.prog 19 #[.agg #[.slice pa lp cp, .slice ca lc cc], .slice sa m sc] w2 fun e w' => e = .returned (.bool (gatsB lc C s m)) ∧ Below w2.heap.size w2 w') := Lib.hid fun w2 h => rsome_w pa ca sa lp cp lc cc m sc P C s w2 (by omega) (by omega) (HN.out _ h) (HOS.out _ h)
      have H3 : Hid (∀ w2, Below W0.heap.size W0 w2 → Calls Tryz.prog 19 #[.agg #[.slice pa lp cp, .slice ca lc cc], .slice ta n tc] w2 fun e w' => e = .returned (.bool (gatsB lc C t n)) ∧ Below w2.heap.size w2 w') := Lib.hid fun w2 h => rsome_w pa ca ta lp cp lc cc n tc P C t w2 (by omega) (by omega) (HN.out _ h) (HTS.out _ h)
      obtain ⟨q1, hq1⟩ : ∃ q, netV lp P lc C = q := ⟨_, rfl⟩
      obtain ⟨q2, hq2⟩ : ∃ q, gatsB lc C s m = q := ⟨_, rfl⟩
      obtain ⟨q3, hq3⟩ : ∃ q, gatsB lc C t n = q := ⟨_, rfl⟩
      rw [hq1] at H1
      rw [hq2] at H2
      rw [hq3] at H3
      cases q1 with
      | false =>
        have hq : (netV lp P lc C && (gatsB lc C s m && gatsB lc C t n)) = false := by rw [hq1]; rfl
        have HMB : Hid (∀ w2, Below W0.heap.size W0 w2 → Calls Tryz.prog 38 #[.agg #[.slice pa lp cp, .slice ca lc cc], .slice sa m sc, .slice ta n tc] w2 fun e w' => e = .returned (.tuple #[.slice none 0 0, .int .i64 2]) ∧ Below w2.heap.size w2 w') := Lib.hid fun w2 h => moves_bad pa ca sa ta lp cp lc cc m sc n tc P C s t w2 (by omega) (by omega) (by omega) (by omega) (HN.out _ h) (HOS.out _ h) (HTS.out _ h) hq
        have HFB : Hid (∀ w2, Below W0.heap.size W0 w2 → Calls Tryz.prog 37 #[.agg #[.slice pa lp cp, .slice ca lc cc]] w2 fun e w' => e = .returned (.tuple #[.slice none 0 0, .int .i64 2]) ∧ Below w2.heap.size w2 w') := Lib.hid fun w2 h => fewest_bad pa ca lp cp lc cc P C w2 (by omega) (by omega) hq1 (HN.out _ h)
        clear hq hq1 hq2 hq3
        go_enter Tryz.func11, Tryz.ntmps11
        go_wp2_with (first
          | (go_at_call 15; (try rw [← hW0]); refine (HSH.out _ HV.out).mono ?_; rintro e w5 ⟨rfl, hv⟩; (try clear hW0); replace HV := Lib.hid (HV.out.trans (hv.mono HV.out.size)); clear hv g0 g1; obtain ⟨g0, g1⟩ := HF.out _ HV.out)
          | (go_at_call 37; (try rw [← hW0]); refine (HFB.out _ HV.out).mono ?_; rintro e w5 ⟨rfl, hv⟩; (try clear hW0); replace HV := Lib.hid (HV.out.trans (hv.mono HV.out.size)); clear hv g0 g1; obtain ⟨g0, g1⟩ := HF.out _ HV.out)
          | (go_at_call 38; (try rw [← hW0]); refine (HMB.out _ HV.out).mono ?_; rintro e w5 ⟨rfl, hv⟩; (try clear hW0); replace HV := Lib.hid (HV.out.trans (hv.mono HV.out.size)); clear hv g0 g1; obtain ⟨g0, g1⟩ := HF.out _ HV.out)
          | (go_at_call 18; (try rw [← hW0]); refine (H1.out _ HV.out).mono ?_; rintro e w5 ⟨rfl, hv⟩; (try clear hW0); replace HV := Lib.hid (HV.out.trans (hv.mono HV.out.size)); clear hv g0 g1; obtain ⟨g0, g1⟩ := HF.out _ HV.out)
          | (go_at_call 16; (try rw [← hW0]); refine (HKN.out _ HV.out).mono ?_; rintro e w5 ⟨rfl, hv⟩; (try clear hW0); replace HV := Lib.hid (HV.out.trans (hv.mono HV.out.size)); clear hv g0 g1; obtain ⟨g0, g1⟩ := HF.out _ HV.out))
        go_ret
        exact ⟨rfl, HA.out.trans (HV.out.mono HA.out.size)⟩
      | true =>
      have HP := Lib.hid (netV_iff.1 hq1)
      have HFW : Hid (∀ w2, Below W0.heap.size W0 w2 → Calls Tryz.prog 37 #[.agg #[.slice pa lp cp, .slice ca lc cc]] w2 fun e w' => (∃ v, e = .returned (.tuple #[v, .int .i64 (if (fewL lp P lc C).isSome then 0 else 5)]) ∧ CutAt w' v (fewL lp P lc C)) ∧ Below w2.heap.size w2 w') := Lib.hid fun w2 h => fewest_ok pa ca lp cp lc cc P C w2 HP.out (HN.out _ h)
      have HRF : Hid (∀ w2, Below W0.heap.size W0 w2 → Calls Tryz.prog 41 #[.agg #[.slice pa lp cp, .slice ca lc cc]] w2 fun e w' => (∃ v, e = .returned (.tuple #[v, .bool (fewL lp P lc C).isSome]) ∧ CutAt w' v (fewL lp P lc C)) ∧ Below w2.heap.size w2 w') := Lib.hid fun w2 h => rfewest_w pa ca lp cp lc cc P C w2 HP (HN.out _ h)
      obtain ⟨fu, hfu⟩ : ∃ cu, fewL lp P lc C = cu := ⟨_, rfl⟩
      have hlen1 : ∀ L, fu = some L → L.length ≤ 20 := fun L h => by
        rw [h] at hfu
        have h2 := List.mem_of_find?_eq_some (((bestF_is _ _).2 _ hfu).2.2)
        have h3 := (allLs_iff.1 h2).length_le
        have := gatL_le (C := C) lc
        have := HP.out.c10
        omega
      rw [hfu] at HFW HRF
      clear hfu
      cases fu with
      | none =>
        simp only [CutAt, Option.isSome_none, Bool.false_eq_true, if_false] at HFW HRF
        clear hlen1
        have M1 := Lib.hid True.intro
        have M2 := Lib.hid True.intro
        cases q2 with
        | false =>
          have hq : (netV lp P lc C && (gatsB lc C s m && gatsB lc C t n)) = false := by rw [hq1, hq2]; rfl
          have HMB : Hid (∀ w2, Below W0.heap.size W0 w2 → Calls Tryz.prog 38 #[.agg #[.slice pa lp cp, .slice ca lc cc], .slice sa m sc, .slice ta n tc] w2 fun e w' => e = .returned (.tuple #[.slice none 0 0, .int .i64 2]) ∧ Below w2.heap.size w2 w') := Lib.hid fun w2 h => moves_bad pa ca sa ta lp cp lc cc m sc n tc P C s t w2 (by omega) (by omega) (by omega) (by omega) (HN.out _ h) (HOS.out _ h) (HTS.out _ h) hq
          clear hq hq1 hq2 hq3
          go_enter Tryz.func11, Tryz.ntmps11
          go_wp2_with (first
            | (go_at_call 15; (try rw [← hW0]); refine (HSH.out _ HV.out).mono ?_; rintro e w5 ⟨rfl, hv⟩; (try clear hW0); replace HV := Lib.hid (HV.out.trans (hv.mono HV.out.size)); clear hv g0 g1; obtain ⟨g0, g1⟩ := HF.out _ HV.out)
            | (go_at_call 37; (try rw [← hW0]); refine (HFW.out _ HV.out).mono ?_; rintro e w5 ⟨⟨v, rfl, rfl⟩, hv⟩; (try clear hW0); replace HV := Lib.hid (HV.out.trans (hv.mono HV.out.size)); clear hv g0 g1; obtain ⟨g0, g1⟩ := HF.out _ HV.out)
            | (go_at_call 38; (try rw [← hW0]); refine (HMB.out _ HV.out).mono ?_; rintro e w5 ⟨rfl, hv⟩; (try clear hW0); replace HV := Lib.hid (HV.out.trans (hv.mono HV.out.size)); clear hv g0 g1; obtain ⟨g0, g1⟩ := HF.out _ HV.out)
            | (go_at_call 18; (try rw [← hW0]); refine (H1.out _ HV.out).mono ?_; rintro e w5 ⟨rfl, hv⟩; (try clear hW0); replace HV := Lib.hid (HV.out.trans (hv.mono HV.out.size)); clear hv g0 g1; obtain ⟨g0, g1⟩ := HF.out _ HV.out)
            | (go_at_call 41; (try rw [← hW0]); refine (HRF.out _ HV.out).mono ?_; rintro e w5 ⟨⟨v, rfl, rfl⟩, hv⟩; (try clear hW0); replace HV := Lib.hid (HV.out.trans (hv.mono HV.out.size)); clear hv g0 g1; obtain ⟨g0, g1⟩ := HF.out _ HV.out)
            | (go_at_call 19; (try rw [← hW0]); refine (H2.out _ HV.out).mono ?_; rintro e w5 ⟨rfl, hv⟩; (try clear hW0); replace HV := Lib.hid (HV.out.trans (hv.mono HV.out.size)); clear hv g0 g1; obtain ⟨g0, g1⟩ := HF.out _ HV.out)
            | (go_at_call 16; (try rw [← hW0]); refine (HKN.out _ HV.out).mono ?_; rintro e w5 ⟨rfl, hv⟩; (try clear hW0); replace HV := Lib.hid (HV.out.trans (hv.mono HV.out.size)); clear hv g0 g1; obtain ⟨g0, g1⟩ := HF.out _ HV.out))
          go_ret
          exact ⟨rfl, HA.out.trans (HV.out.mono HA.out.size)⟩
        | true =>
        cases q3 with
        | false =>
          have hq : (netV lp P lc C && (gatsB lc C s m && gatsB lc C t n)) = false := by rw [hq1, hq2, hq3]; rfl
          have HMB : Hid (∀ w2, Below W0.heap.size W0 w2 → Calls Tryz.prog 38 #[.agg #[.slice pa lp cp, .slice ca lc cc], .slice sa m sc, .slice ta n tc] w2 fun e w' => e = .returned (.tuple #[.slice none 0 0, .int .i64 2]) ∧ Below w2.heap.size w2 w') := Lib.hid fun w2 h => moves_bad pa ca sa ta lp cp lc cc m sc n tc P C s t w2 (by omega) (by omega) (by omega) (by omega) (HN.out _ h) (HOS.out _ h) (HTS.out _ h) hq
          clear hq hq1 hq2 hq3
          go_enter Tryz.func11, Tryz.ntmps11
          go_wp2_with (first
            | (go_at_call 15; (try rw [← hW0]); refine (HSH.out _ HV.out).mono ?_; rintro e w5 ⟨rfl, hv⟩; (try clear hW0); replace HV := Lib.hid (HV.out.trans (hv.mono HV.out.size)); clear hv g0 g1; obtain ⟨g0, g1⟩ := HF.out _ HV.out)
            | (go_at_call 37; (try rw [← hW0]); refine (HFW.out _ HV.out).mono ?_; rintro e w5 ⟨⟨v, rfl, rfl⟩, hv⟩; (try clear hW0); replace HV := Lib.hid (HV.out.trans (hv.mono HV.out.size)); clear hv g0 g1; obtain ⟨g0, g1⟩ := HF.out _ HV.out)
            | (go_at_call 38; (try rw [← hW0]); refine (HMB.out _ HV.out).mono ?_; rintro e w5 ⟨rfl, hv⟩; (try clear hW0); replace HV := Lib.hid (HV.out.trans (hv.mono HV.out.size)); clear hv g0 g1; obtain ⟨g0, g1⟩ := HF.out _ HV.out)
            | (go_at_call 18; (try rw [← hW0]); refine (H1.out _ HV.out).mono ?_; rintro e w5 ⟨rfl, hv⟩; (try clear hW0); replace HV := Lib.hid (HV.out.trans (hv.mono HV.out.size)); clear hv g0 g1; obtain ⟨g0, g1⟩ := HF.out _ HV.out)
            | (go_at_call 41; (try rw [← hW0]); refine (HRF.out _ HV.out).mono ?_; rintro e w5 ⟨⟨v, rfl, rfl⟩, hv⟩; (try clear hW0); replace HV := Lib.hid (HV.out.trans (hv.mono HV.out.size)); clear hv g0 g1; obtain ⟨g0, g1⟩ := HF.out _ HV.out)
            | (go_at_call 19; have hB := M2.out; clear hB M2; (try rw [← hW0]); refine (H2.out _ HV.out).mono ?_; rintro e w5 ⟨rfl, hv⟩; (try clear hW0); replace HV := Lib.hid (HV.out.trans (hv.mono HV.out.size)); clear hv g0 g1; obtain ⟨g0, g1⟩ := HF.out _ HV.out)
            | (go_at_call 19; (try rw [← hW0]); refine (H3.out _ HV.out).mono ?_; rintro e w5 ⟨rfl, hv⟩; (try clear hW0); replace HV := Lib.hid (HV.out.trans (hv.mono HV.out.size)); clear hv g0 g1; obtain ⟨g0, g1⟩ := HF.out _ HV.out)
            | (go_at_call 16; (try rw [← hW0]); refine (HKN.out _ HV.out).mono ?_; rintro e w5 ⟨rfl, hv⟩; (try clear hW0); replace HV := Lib.hid (HV.out.trans (hv.mono HV.out.size)); clear hv g0 g1; obtain ⟨g0, g1⟩ := HF.out _ HV.out))
          go_ret
          exact ⟨rfl, HA.out.trans (HV.out.mono HA.out.size)⟩
        | true =>
          have HG := Lib.hid hq2
          have HG2 := Lib.hid hq3
          have HMV : Hid (∀ w2, Below W0.heap.size W0 w2 → Calls Tryz.prog 38 #[.agg #[.slice pa lp cp, .slice ca lc cc], .slice sa m sc, .slice ta n tc] w2 fun e w' => (∃ v, e = .returned (.tuple #[v, .int .i64 (if (movM lp P lc C s m t n).isSome then 0 else 5)]) ∧ CutAt w' v (movM lp P lc C s m t n)) ∧ Below w2.heap.size w2 w') := Lib.hid fun w2 h => moves_ok pa ca sa ta lp cp lc cc m sc n tc P C s t w2 HP.out HG.out HG2.out (by omega) (by omega) (HN.out _ h) (HOS.out _ h) (HTS.out _ h)
          have HRM : Hid (∀ w2, Below W0.heap.size W0 w2 → Calls Tryz.prog 42 #[.agg #[.slice pa lp cp, .slice ca lc cc], .slice sa m sc, .slice ta n tc] w2 fun e w' => (∃ v, e = .returned (.tuple #[v, .bool (movM lp P lc C s m t n).isSome]) ∧ CutAt w' v (movM lp P lc C s m t n)) ∧ Below w2.heap.size w2 w') := Lib.hid fun w2 h => rmoves_w pa ca sa ta lp cp lc cc m sc n tc P C s t w2 HP HG HG2 (by omega) (by omega) (HN.out _ h) (HOS.out _ h) (HTS.out _ h)
          obtain ⟨mu, hmu⟩ : ∃ cu, movM lp P lc C s m t n = cu := ⟨_, rfl⟩
          have hlen2 : ∀ L, mu = some L → L.length ≤ 20 := fun L h => by
            rw [h] at hmu
            have h2 := List.mem_of_find?_eq_some (((bestF_is _ _).2 _ hmu).2.2)
            have h3 := (allLs_iff.1 h2).length_le
            have := gatL_le (C := C) lc
            have := HP.out.c10
            omega
          rw [hmu] at HMV HRM
          clear hmu hq1 hq2 hq3
          cases mu with
          | none =>
            simp only [CutAt, Option.isSome_none, Bool.false_eq_true, if_false] at HMV HRM
            clear hlen2
            go_enter Tryz.func11, Tryz.ntmps11
            go_wp2_with (first
              | (go_at_call 15; (try rw [← hW0]); refine (HSH.out _ HV.out).mono ?_; rintro e w5 ⟨rfl, hv⟩; (try clear hW0); replace HV := Lib.hid (HV.out.trans (hv.mono HV.out.size)); clear hv g0 g1; obtain ⟨g0, g1⟩ := HF.out _ HV.out)
              | (go_at_call 37; (try rw [← hW0]); refine (HFW.out _ HV.out).mono ?_; rintro e w5 ⟨⟨v, rfl, rfl⟩, hv⟩; (try clear hW0); replace HV := Lib.hid (HV.out.trans (hv.mono HV.out.size)); clear hv g0 g1; obtain ⟨g0, g1⟩ := HF.out _ HV.out)
              | (go_at_call 38; (try rw [← hW0]); refine (HMV.out _ HV.out).mono ?_; rintro e w5 ⟨⟨v, rfl, rfl⟩, hv⟩; (try clear hW0); replace HV := Lib.hid (HV.out.trans (hv.mono HV.out.size)); clear hv g0 g1; obtain ⟨g0, g1⟩ := HF.out _ HV.out)
              | (go_at_call 18; (try rw [← hW0]); refine (H1.out _ HV.out).mono ?_; rintro e w5 ⟨rfl, hv⟩; (try clear hW0); replace HV := Lib.hid (HV.out.trans (hv.mono HV.out.size)); clear hv g0 g1; obtain ⟨g0, g1⟩ := HF.out _ HV.out)
              | (go_at_call 41; (try rw [← hW0]); refine (HRF.out _ HV.out).mono ?_; rintro e w5 ⟨⟨v, rfl, rfl⟩, hv⟩; (try clear hW0); replace HV := Lib.hid (HV.out.trans (hv.mono HV.out.size)); clear hv g0 g1; obtain ⟨g0, g1⟩ := HF.out _ HV.out)
              | (go_at_call 19; have hB := M2.out; clear hB M2; (try rw [← hW0]); refine (H2.out _ HV.out).mono ?_; rintro e w5 ⟨rfl, hv⟩; (try clear hW0); replace HV := Lib.hid (HV.out.trans (hv.mono HV.out.size)); clear hv g0 g1; obtain ⟨g0, g1⟩ := HF.out _ HV.out)
              | (go_at_call 19; (try rw [← hW0]); refine (H3.out _ HV.out).mono ?_; rintro e w5 ⟨rfl, hv⟩; (try clear hW0); replace HV := Lib.hid (HV.out.trans (hv.mono HV.out.size)); clear hv g0 g1; obtain ⟨g0, g1⟩ := HF.out _ HV.out)
              | (go_at_call 42; (try rw [← hW0]); refine (HRM.out _ HV.out).mono ?_; rintro e w5 ⟨⟨v, rfl, rfl⟩, hv⟩; (try clear hW0); replace HV := Lib.hid (HV.out.trans (hv.mono HV.out.size)); clear hv g0 g1; obtain ⟨g0, g1⟩ := HF.out _ HV.out)
              | (go_at_call 16; (try rw [← hW0]); refine (HKN.out _ HV.out).mono ?_; rintro e w5 ⟨rfl, hv⟩; (try clear hW0); replace HV := Lib.hid (HV.out.trans (hv.mono HV.out.size)); clear hv g0 g1; obtain ⟨g0, g1⟩ := HF.out _ HV.out))
            go_ret
            exact ⟨rfl, HA.out.trans (HV.out.mono HA.out.size)⟩
          | some M =>
            simp only [CutAt, Option.isSome_some, if_true] at HMV HRM
            have hl2 := hlen2 M rfl
            have HSM2 : Hid (∀ (a b : Option Addr) (c1 c2 : Nat) w2, IntSl w2 a M.length (lgI M) → IntSl w2 b M.length (lgI M) → Calls Tryz.prog 34 #[.slice a M.length c1, .slice b M.length c2] w2 fun e w' => e = .returned (.bool true) ∧ Below w2.heap.size w2 w') := Lib.hid fun a b c1 c2 w2 h1 h2 => same_t a b M.length c1 c2 (lgI M) w2 (by unfold maxLen; omega) (Lib.hid h1) (Lib.hid h2)
            obtain ⟨ll2, hll2⟩ : ∃ ll, M.length = ll := ⟨_, rfl⟩
            rw [hll2] at HMV HRM HSM2 hl2
            obtain ⟨lf2, hlf2⟩ : ∃ lf, lgI M = lf := ⟨_, rfl⟩
            rw [hlf2] at HMV HRM HSM2
            clear hll2 hlf2
            clear hlen2
            go_enter Tryz.func11, Tryz.ntmps11
            go_wp2_with (first
              | (go_at_call 15; (try rw [← hW0]); refine (HSH.out _ HV.out).mono ?_; rintro e w5 ⟨rfl, hv⟩; (try clear hW0); replace HV := Lib.hid (HV.out.trans (hv.mono HV.out.size)); clear hv g0 g1; obtain ⟨g0, g1⟩ := HF.out _ HV.out)
              | (go_at_call 37; (try rw [← hW0]); refine (HFW.out _ HV.out).mono ?_; rintro e w5 ⟨⟨v, rfl, rfl⟩, hv⟩; (try clear hW0); replace HV := Lib.hid (HV.out.trans (hv.mono HV.out.size)); clear hv g0 g1; obtain ⟨g0, g1⟩ := HF.out _ HV.out)
              | (go_at_call 38; (try rw [← hW0]); refine (HMV.out _ HV.out).mono ?_; rintro e w5 ⟨⟨v, rfl, ma, mc1, rfl, hs3⟩, hv⟩; (try clear hW0); have HC3 := Lib.hid hs3; clear hs3; replace HV := Lib.hid (HV.out.trans (hv.mono HV.out.size)); clear hv g0 g1; obtain ⟨g0, g1⟩ := HF.out _ HV.out)
              | (go_at_call 18; (try rw [← hW0]); refine (H1.out _ HV.out).mono ?_; rintro e w5 ⟨rfl, hv⟩; (try clear hW0); replace HC3 := Lib.hid (HC3.out.below hv); replace HV := Lib.hid (HV.out.trans (hv.mono HV.out.size)); clear hv g0 g1; obtain ⟨g0, g1⟩ := HF.out _ HV.out)
              | (go_at_call 41; (try rw [← hW0]); refine (HRF.out _ HV.out).mono ?_; rintro e w5 ⟨⟨v, rfl, rfl⟩, hv⟩; (try clear hW0); replace HC3 := Lib.hid (HC3.out.below hv); replace HV := Lib.hid (HV.out.trans (hv.mono HV.out.size)); clear hv g0 g1; obtain ⟨g0, g1⟩ := HF.out _ HV.out)
              | (go_at_call 19; have hB := M2.out; clear hB M2; (try rw [← hW0]); refine (H2.out _ HV.out).mono ?_; rintro e w5 ⟨rfl, hv⟩; (try clear hW0); replace HC3 := Lib.hid (HC3.out.below hv); replace HV := Lib.hid (HV.out.trans (hv.mono HV.out.size)); clear hv g0 g1; obtain ⟨g0, g1⟩ := HF.out _ HV.out)
              | (go_at_call 19; (try rw [← hW0]); refine (H3.out _ HV.out).mono ?_; rintro e w5 ⟨rfl, hv⟩; (try clear hW0); replace HC3 := Lib.hid (HC3.out.below hv); replace HV := Lib.hid (HV.out.trans (hv.mono HV.out.size)); clear hv g0 g1; obtain ⟨g0, g1⟩ := HF.out _ HV.out)
              | (go_at_call 42; (try rw [← hW0]); refine (HRM.out _ HV.out).mono ?_; rintro e w5 ⟨⟨v, rfl, na, nc1, rfl, hs4⟩, hv⟩; (try clear hW0); replace HC3 := Lib.hid (HC3.out.below hv); have HC4 := Lib.hid hs4; clear hs4; replace HV := Lib.hid (HV.out.trans (hv.mono HV.out.size)); clear hv g0 g1; obtain ⟨g0, g1⟩ := HF.out _ HV.out)
              | (go_at_call 34; (try rw [← hW0]); refine (HSM2.out ma na mc1 nc1 _ HC3.out HC4.out).mono ?_; rintro e w5 ⟨rfl, hv⟩; (try clear hW0); replace HV := Lib.hid (HV.out.trans (hv.mono HV.out.size)); clear hv g0 g1; obtain ⟨g0, g1⟩ := HF.out _ HV.out)
              | (go_at_call 16; (try rw [← hW0]); refine (HKN.out _ HV.out).mono ?_; rintro e w5 ⟨rfl, hv⟩; (try clear hW0); replace HV := Lib.hid (HV.out.trans (hv.mono HV.out.size)); clear hv g0 g1; obtain ⟨g0, g1⟩ := HF.out _ HV.out))
            go_ret
            exact ⟨rfl, HA.out.trans (HV.out.mono HA.out.size)⟩
      | some L =>
        simp only [CutAt, Option.isSome_some, if_true] at HFW HRF
        have hl1 := hlen1 L rfl
        have HSM1 : Hid (∀ (a b : Option Addr) (c1 c2 : Nat) w2, IntSl w2 a L.length (lgI L) → IntSl w2 b L.length (lgI L) → Calls Tryz.prog 34 #[.slice a L.length c1, .slice b L.length c2] w2 fun e w' => e = .returned (.bool true) ∧ Below w2.heap.size w2 w') := Lib.hid fun a b c1 c2 w2 h1 h2 => same_t a b L.length c1 c2 (lgI L) w2 (by unfold maxLen; omega) (Lib.hid h1) (Lib.hid h2)
        obtain ⟨ll1, hll1⟩ : ∃ ll, L.length = ll := ⟨_, rfl⟩
        rw [hll1] at HFW HRF HSM1 hl1
        obtain ⟨lf1, hlf1⟩ : ∃ lf, lgI L = lf := ⟨_, rfl⟩
        rw [hlf1] at HFW HRF HSM1
        clear hll1 hlf1
        clear hlen1
        have M1 := Lib.hid True.intro
        have M2 := Lib.hid True.intro
        cases q2 with
        | false =>
          have hq : (netV lp P lc C && (gatsB lc C s m && gatsB lc C t n)) = false := by rw [hq1, hq2]; rfl
          have HMB : Hid (∀ w2, Below W0.heap.size W0 w2 → Calls Tryz.prog 38 #[.agg #[.slice pa lp cp, .slice ca lc cc], .slice sa m sc, .slice ta n tc] w2 fun e w' => e = .returned (.tuple #[.slice none 0 0, .int .i64 2]) ∧ Below w2.heap.size w2 w') := Lib.hid fun w2 h => moves_bad pa ca sa ta lp cp lc cc m sc n tc P C s t w2 (by omega) (by omega) (by omega) (by omega) (HN.out _ h) (HOS.out _ h) (HTS.out _ h) hq
          clear hq hq1 hq2 hq3
          go_enter Tryz.func11, Tryz.ntmps11
          go_wp2_with (first
            | (go_at_call 15; (try rw [← hW0]); refine (HSH.out _ HV.out).mono ?_; rintro e w5 ⟨rfl, hv⟩; (try clear hW0); replace HV := Lib.hid (HV.out.trans (hv.mono HV.out.size)); clear hv g0 g1; obtain ⟨g0, g1⟩ := HF.out _ HV.out)
            | (go_at_call 37; (try rw [← hW0]); refine (HFW.out _ HV.out).mono ?_; rintro e w5 ⟨⟨v, rfl, la, ca1, rfl, hs⟩, hv⟩; (try clear hW0); have HC1 := Lib.hid hs; clear hs; replace HV := Lib.hid (HV.out.trans (hv.mono HV.out.size)); clear hv g0 g1; obtain ⟨g0, g1⟩ := HF.out _ HV.out)
            | (go_at_call 38; (try rw [← hW0]); refine (HMB.out _ HV.out).mono ?_; rintro e w5 ⟨rfl, hv⟩; (try clear hW0); replace HC1 := Lib.hid (HC1.out.below hv); replace HV := Lib.hid (HV.out.trans (hv.mono HV.out.size)); clear hv g0 g1; obtain ⟨g0, g1⟩ := HF.out _ HV.out)
            | (go_at_call 18; (try rw [← hW0]); refine (H1.out _ HV.out).mono ?_; rintro e w5 ⟨rfl, hv⟩; (try clear hW0); replace HC1 := Lib.hid (HC1.out.below hv); replace HV := Lib.hid (HV.out.trans (hv.mono HV.out.size)); clear hv g0 g1; obtain ⟨g0, g1⟩ := HF.out _ HV.out)
            | (go_at_call 41; (try rw [← hW0]); refine (HRF.out _ HV.out).mono ?_; rintro e w5 ⟨⟨v, rfl, ra, rc1, rfl, hs2⟩, hv⟩; (try clear hW0); replace HC1 := Lib.hid (HC1.out.below hv); have HC2 := Lib.hid hs2; clear hs2; replace HV := Lib.hid (HV.out.trans (hv.mono HV.out.size)); clear hv g0 g1; obtain ⟨g0, g1⟩ := HF.out _ HV.out)
            | (go_at_call 34; have hB := M1.out; clear hB M1; (try rw [← hW0]); refine (HSM1.out la ra ca1 rc1 _ HC1.out HC2.out).mono ?_; rintro e w5 ⟨rfl, hv⟩; (try clear hW0); replace HV := Lib.hid (HV.out.trans (hv.mono HV.out.size)); clear hv g0 g1; obtain ⟨g0, g1⟩ := HF.out _ HV.out)
            | (go_at_call 19; (try rw [← hW0]); refine (H2.out _ HV.out).mono ?_; rintro e w5 ⟨rfl, hv⟩; (try clear hW0); replace HV := Lib.hid (HV.out.trans (hv.mono HV.out.size)); clear hv g0 g1; obtain ⟨g0, g1⟩ := HF.out _ HV.out)
            | (go_at_call 16; (try rw [← hW0]); refine (HKN.out _ HV.out).mono ?_; rintro e w5 ⟨rfl, hv⟩; (try clear hW0); replace HV := Lib.hid (HV.out.trans (hv.mono HV.out.size)); clear hv g0 g1; obtain ⟨g0, g1⟩ := HF.out _ HV.out))
          go_ret
          exact ⟨rfl, HA.out.trans (HV.out.mono HA.out.size)⟩
        | true =>
        cases q3 with
        | false =>
          have hq : (netV lp P lc C && (gatsB lc C s m && gatsB lc C t n)) = false := by rw [hq1, hq2, hq3]; rfl
          have HMB : Hid (∀ w2, Below W0.heap.size W0 w2 → Calls Tryz.prog 38 #[.agg #[.slice pa lp cp, .slice ca lc cc], .slice sa m sc, .slice ta n tc] w2 fun e w' => e = .returned (.tuple #[.slice none 0 0, .int .i64 2]) ∧ Below w2.heap.size w2 w') := Lib.hid fun w2 h => moves_bad pa ca sa ta lp cp lc cc m sc n tc P C s t w2 (by omega) (by omega) (by omega) (by omega) (HN.out _ h) (HOS.out _ h) (HTS.out _ h) hq
          clear hq hq1 hq2 hq3
          go_enter Tryz.func11, Tryz.ntmps11
          go_wp2_with (first
            | (go_at_call 15; (try rw [← hW0]); refine (HSH.out _ HV.out).mono ?_; rintro e w5 ⟨rfl, hv⟩; (try clear hW0); replace HV := Lib.hid (HV.out.trans (hv.mono HV.out.size)); clear hv g0 g1; obtain ⟨g0, g1⟩ := HF.out _ HV.out)
            | (go_at_call 37; (try rw [← hW0]); refine (HFW.out _ HV.out).mono ?_; rintro e w5 ⟨⟨v, rfl, la, ca1, rfl, hs⟩, hv⟩; (try clear hW0); have HC1 := Lib.hid hs; clear hs; replace HV := Lib.hid (HV.out.trans (hv.mono HV.out.size)); clear hv g0 g1; obtain ⟨g0, g1⟩ := HF.out _ HV.out)
            | (go_at_call 38; (try rw [← hW0]); refine (HMB.out _ HV.out).mono ?_; rintro e w5 ⟨rfl, hv⟩; (try clear hW0); replace HC1 := Lib.hid (HC1.out.below hv); replace HV := Lib.hid (HV.out.trans (hv.mono HV.out.size)); clear hv g0 g1; obtain ⟨g0, g1⟩ := HF.out _ HV.out)
            | (go_at_call 18; (try rw [← hW0]); refine (H1.out _ HV.out).mono ?_; rintro e w5 ⟨rfl, hv⟩; (try clear hW0); replace HC1 := Lib.hid (HC1.out.below hv); replace HV := Lib.hid (HV.out.trans (hv.mono HV.out.size)); clear hv g0 g1; obtain ⟨g0, g1⟩ := HF.out _ HV.out)
            | (go_at_call 41; (try rw [← hW0]); refine (HRF.out _ HV.out).mono ?_; rintro e w5 ⟨⟨v, rfl, ra, rc1, rfl, hs2⟩, hv⟩; (try clear hW0); replace HC1 := Lib.hid (HC1.out.below hv); have HC2 := Lib.hid hs2; clear hs2; replace HV := Lib.hid (HV.out.trans (hv.mono HV.out.size)); clear hv g0 g1; obtain ⟨g0, g1⟩ := HF.out _ HV.out)
            | (go_at_call 34; have hB := M1.out; clear hB M1; (try rw [← hW0]); refine (HSM1.out la ra ca1 rc1 _ HC1.out HC2.out).mono ?_; rintro e w5 ⟨rfl, hv⟩; (try clear hW0); replace HV := Lib.hid (HV.out.trans (hv.mono HV.out.size)); clear hv g0 g1; obtain ⟨g0, g1⟩ := HF.out _ HV.out)
            | (go_at_call 19; have hB := M2.out; clear hB M2; (try rw [← hW0]); refine (H2.out _ HV.out).mono ?_; rintro e w5 ⟨rfl, hv⟩; (try clear hW0); replace HV := Lib.hid (HV.out.trans (hv.mono HV.out.size)); clear hv g0 g1; obtain ⟨g0, g1⟩ := HF.out _ HV.out)
            | (go_at_call 19; (try rw [← hW0]); refine (H3.out _ HV.out).mono ?_; rintro e w5 ⟨rfl, hv⟩; (try clear hW0); replace HV := Lib.hid (HV.out.trans (hv.mono HV.out.size)); clear hv g0 g1; obtain ⟨g0, g1⟩ := HF.out _ HV.out)
            | (go_at_call 16; (try rw [← hW0]); refine (HKN.out _ HV.out).mono ?_; rintro e w5 ⟨rfl, hv⟩; (try clear hW0); replace HV := Lib.hid (HV.out.trans (hv.mono HV.out.size)); clear hv g0 g1; obtain ⟨g0, g1⟩ := HF.out _ HV.out))
          go_ret
          exact ⟨rfl, HA.out.trans (HV.out.mono HA.out.size)⟩
        | true =>
          have HG := Lib.hid hq2
          have HG2 := Lib.hid hq3
          have HMV : Hid (∀ w2, Below W0.heap.size W0 w2 → Calls Tryz.prog 38 #[.agg #[.slice pa lp cp, .slice ca lc cc], .slice sa m sc, .slice ta n tc] w2 fun e w' => (∃ v, e = .returned (.tuple #[v, .int .i64 (if (movM lp P lc C s m t n).isSome then 0 else 5)]) ∧ CutAt w' v (movM lp P lc C s m t n)) ∧ Below w2.heap.size w2 w') := Lib.hid fun w2 h => moves_ok pa ca sa ta lp cp lc cc m sc n tc P C s t w2 HP.out HG.out HG2.out (by omega) (by omega) (HN.out _ h) (HOS.out _ h) (HTS.out _ h)
          have HRM : Hid (∀ w2, Below W0.heap.size W0 w2 → Calls Tryz.prog 42 #[.agg #[.slice pa lp cp, .slice ca lc cc], .slice sa m sc, .slice ta n tc] w2 fun e w' => (∃ v, e = .returned (.tuple #[v, .bool (movM lp P lc C s m t n).isSome]) ∧ CutAt w' v (movM lp P lc C s m t n)) ∧ Below w2.heap.size w2 w') := Lib.hid fun w2 h => rmoves_w pa ca sa ta lp cp lc cc m sc n tc P C s t w2 HP HG HG2 (by omega) (by omega) (HN.out _ h) (HOS.out _ h) (HTS.out _ h)
          obtain ⟨mu, hmu⟩ : ∃ cu, movM lp P lc C s m t n = cu := ⟨_, rfl⟩
          have hlen2 : ∀ L, mu = some L → L.length ≤ 20 := fun L h => by
            rw [h] at hmu
            have h2 := List.mem_of_find?_eq_some (((bestF_is _ _).2 _ hmu).2.2)
            have h3 := (allLs_iff.1 h2).length_le
            have := gatL_le (C := C) lc
            have := HP.out.c10
            omega
          rw [hmu] at HMV HRM
          clear hmu hq1 hq2 hq3
          cases mu with
          | none =>
            simp only [CutAt, Option.isSome_none, Bool.false_eq_true, if_false] at HMV HRM
            clear hlen2
            go_enter Tryz.func11, Tryz.ntmps11
            go_wp2_with (first
              | (go_at_call 15; (try rw [← hW0]); refine (HSH.out _ HV.out).mono ?_; rintro e w5 ⟨rfl, hv⟩; (try clear hW0); replace HV := Lib.hid (HV.out.trans (hv.mono HV.out.size)); clear hv g0 g1; obtain ⟨g0, g1⟩ := HF.out _ HV.out)
              | (go_at_call 37; (try rw [← hW0]); refine (HFW.out _ HV.out).mono ?_; rintro e w5 ⟨⟨v, rfl, la, ca1, rfl, hs⟩, hv⟩; (try clear hW0); have HC1 := Lib.hid hs; clear hs; replace HV := Lib.hid (HV.out.trans (hv.mono HV.out.size)); clear hv g0 g1; obtain ⟨g0, g1⟩ := HF.out _ HV.out)
              | (go_at_call 38; (try rw [← hW0]); refine (HMV.out _ HV.out).mono ?_; rintro e w5 ⟨⟨v, rfl, rfl⟩, hv⟩; (try clear hW0); replace HC1 := Lib.hid (HC1.out.below hv); replace HV := Lib.hid (HV.out.trans (hv.mono HV.out.size)); clear hv g0 g1; obtain ⟨g0, g1⟩ := HF.out _ HV.out)
              | (go_at_call 18; (try rw [← hW0]); refine (H1.out _ HV.out).mono ?_; rintro e w5 ⟨rfl, hv⟩; (try clear hW0); replace HC1 := Lib.hid (HC1.out.below hv); replace HV := Lib.hid (HV.out.trans (hv.mono HV.out.size)); clear hv g0 g1; obtain ⟨g0, g1⟩ := HF.out _ HV.out)
              | (go_at_call 41; (try rw [← hW0]); refine (HRF.out _ HV.out).mono ?_; rintro e w5 ⟨⟨v, rfl, ra, rc1, rfl, hs2⟩, hv⟩; (try clear hW0); replace HC1 := Lib.hid (HC1.out.below hv); have HC2 := Lib.hid hs2; clear hs2; replace HV := Lib.hid (HV.out.trans (hv.mono HV.out.size)); clear hv g0 g1; obtain ⟨g0, g1⟩ := HF.out _ HV.out)
              | (go_at_call 34; have hB := M1.out; clear hB M1; (try rw [← hW0]); refine (HSM1.out la ra ca1 rc1 _ HC1.out HC2.out).mono ?_; rintro e w5 ⟨rfl, hv⟩; (try clear hW0); replace HV := Lib.hid (HV.out.trans (hv.mono HV.out.size)); clear hv g0 g1; obtain ⟨g0, g1⟩ := HF.out _ HV.out)
              | (go_at_call 19; have hB := M2.out; clear hB M2; (try rw [← hW0]); refine (H2.out _ HV.out).mono ?_; rintro e w5 ⟨rfl, hv⟩; (try clear hW0); replace HV := Lib.hid (HV.out.trans (hv.mono HV.out.size)); clear hv g0 g1; obtain ⟨g0, g1⟩ := HF.out _ HV.out)
              | (go_at_call 19; (try rw [← hW0]); refine (H3.out _ HV.out).mono ?_; rintro e w5 ⟨rfl, hv⟩; (try clear hW0); replace HV := Lib.hid (HV.out.trans (hv.mono HV.out.size)); clear hv g0 g1; obtain ⟨g0, g1⟩ := HF.out _ HV.out)
              | (go_at_call 42; (try rw [← hW0]); refine (HRM.out _ HV.out).mono ?_; rintro e w5 ⟨⟨v, rfl, rfl⟩, hv⟩; (try clear hW0); replace HV := Lib.hid (HV.out.trans (hv.mono HV.out.size)); clear hv g0 g1; obtain ⟨g0, g1⟩ := HF.out _ HV.out)
              | (go_at_call 16; (try rw [← hW0]); refine (HKN.out _ HV.out).mono ?_; rintro e w5 ⟨rfl, hv⟩; (try clear hW0); replace HV := Lib.hid (HV.out.trans (hv.mono HV.out.size)); clear hv g0 g1; obtain ⟨g0, g1⟩ := HF.out _ HV.out))
            go_ret
            exact ⟨rfl, HA.out.trans (HV.out.mono HA.out.size)⟩
          | some M =>
            simp only [CutAt, Option.isSome_some, if_true] at HMV HRM
            have hl2 := hlen2 M rfl
            have HSM2 : Hid (∀ (a b : Option Addr) (c1 c2 : Nat) w2, IntSl w2 a M.length (lgI M) → IntSl w2 b M.length (lgI M) → Calls Tryz.prog 34 #[.slice a M.length c1, .slice b M.length c2] w2 fun e w' => e = .returned (.bool true) ∧ Below w2.heap.size w2 w') := Lib.hid fun a b c1 c2 w2 h1 h2 => same_t a b M.length c1 c2 (lgI M) w2 (by unfold maxLen; omega) (Lib.hid h1) (Lib.hid h2)
            obtain ⟨ll2, hll2⟩ : ∃ ll, M.length = ll := ⟨_, rfl⟩
            rw [hll2] at HMV HRM HSM2 hl2
            obtain ⟨lf2, hlf2⟩ : ∃ lf, lgI M = lf := ⟨_, rfl⟩
            rw [hlf2] at HMV HRM HSM2
            clear hll2 hlf2
            clear hlen2
            go_enter Tryz.func11, Tryz.ntmps11
            go_wp2_with (first
              | (go_at_call 15; (try rw [← hW0]); refine (HSH.out _ HV.out).mono ?_; rintro e w5 ⟨rfl, hv⟩; (try clear hW0); replace HV := Lib.hid (HV.out.trans (hv.mono HV.out.size)); clear hv g0 g1; obtain ⟨g0, g1⟩ := HF.out _ HV.out)
              | (go_at_call 37; (try rw [← hW0]); refine (HFW.out _ HV.out).mono ?_; rintro e w5 ⟨⟨v, rfl, la, ca1, rfl, hs⟩, hv⟩; (try clear hW0); have HC1 := Lib.hid hs; clear hs; replace HV := Lib.hid (HV.out.trans (hv.mono HV.out.size)); clear hv g0 g1; obtain ⟨g0, g1⟩ := HF.out _ HV.out)
              | (go_at_call 38; (try rw [← hW0]); refine (HMV.out _ HV.out).mono ?_; rintro e w5 ⟨⟨v, rfl, ma, mc1, rfl, hs3⟩, hv⟩; (try clear hW0); replace HC1 := Lib.hid (HC1.out.below hv); have HC3 := Lib.hid hs3; clear hs3; replace HV := Lib.hid (HV.out.trans (hv.mono HV.out.size)); clear hv g0 g1; obtain ⟨g0, g1⟩ := HF.out _ HV.out)
              | (go_at_call 18; (try rw [← hW0]); refine (H1.out _ HV.out).mono ?_; rintro e w5 ⟨rfl, hv⟩; (try clear hW0); replace HC1 := Lib.hid (HC1.out.below hv); replace HC3 := Lib.hid (HC3.out.below hv); replace HV := Lib.hid (HV.out.trans (hv.mono HV.out.size)); clear hv g0 g1; obtain ⟨g0, g1⟩ := HF.out _ HV.out)
              | (go_at_call 41; (try rw [← hW0]); refine (HRF.out _ HV.out).mono ?_; rintro e w5 ⟨⟨v, rfl, ra, rc1, rfl, hs2⟩, hv⟩; (try clear hW0); replace HC1 := Lib.hid (HC1.out.below hv); replace HC3 := Lib.hid (HC3.out.below hv); have HC2 := Lib.hid hs2; clear hs2; replace HV := Lib.hid (HV.out.trans (hv.mono HV.out.size)); clear hv g0 g1; obtain ⟨g0, g1⟩ := HF.out _ HV.out)
              | (go_at_call 34; have hB := M1.out; clear hB M1; (try rw [← hW0]); refine (HSM1.out la ra ca1 rc1 _ HC1.out HC2.out).mono ?_; rintro e w5 ⟨rfl, hv⟩; (try clear hW0); replace HC3 := Lib.hid (HC3.out.below hv); replace HV := Lib.hid (HV.out.trans (hv.mono HV.out.size)); clear hv g0 g1; obtain ⟨g0, g1⟩ := HF.out _ HV.out)
              | (go_at_call 19; have hB := M2.out; clear hB M2; (try rw [← hW0]); refine (H2.out _ HV.out).mono ?_; rintro e w5 ⟨rfl, hv⟩; (try clear hW0); replace HC3 := Lib.hid (HC3.out.below hv); replace HV := Lib.hid (HV.out.trans (hv.mono HV.out.size)); clear hv g0 g1; obtain ⟨g0, g1⟩ := HF.out _ HV.out)
              | (go_at_call 19; (try rw [← hW0]); refine (H3.out _ HV.out).mono ?_; rintro e w5 ⟨rfl, hv⟩; (try clear hW0); replace HC3 := Lib.hid (HC3.out.below hv); replace HV := Lib.hid (HV.out.trans (hv.mono HV.out.size)); clear hv g0 g1; obtain ⟨g0, g1⟩ := HF.out _ HV.out)
              | (go_at_call 42; (try rw [← hW0]); refine (HRM.out _ HV.out).mono ?_; rintro e w5 ⟨⟨v, rfl, na, nc1, rfl, hs4⟩, hv⟩; (try clear hW0); replace HC3 := Lib.hid (HC3.out.below hv); have HC4 := Lib.hid hs4; clear hs4; replace HV := Lib.hid (HV.out.trans (hv.mono HV.out.size)); clear hv g0 g1; obtain ⟨g0, g1⟩ := HF.out _ HV.out)
              | (go_at_call 34; (try rw [← hW0]); refine (HSM2.out ma na mc1 nc1 _ HC3.out HC4.out).mono ?_; rintro e w5 ⟨rfl, hv⟩; (try clear hW0); replace HV := Lib.hid (HV.out.trans (hv.mono HV.out.size)); clear hv g0 g1; obtain ⟨g0, g1⟩ := HF.out _ HV.out)
              | (go_at_call 16; (try rw [← hW0]); refine (HKN.out _ HV.out).mono ?_; rintro e w5 ⟨rfl, hv⟩; (try clear hW0); replace HV := Lib.hid (HV.out.trans (hv.mono HV.out.size)); clear hv g0 g1; obtain ⟨g0, g1⟩ := HF.out _ HV.out))
            go_ret
            exact ⟨rfl, HA.out.trans (HV.out.mono HA.out.size)⟩
end Go.Kn
