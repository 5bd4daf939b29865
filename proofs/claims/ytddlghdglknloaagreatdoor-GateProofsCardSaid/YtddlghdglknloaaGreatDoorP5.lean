/- Contracts of functions that the laws of this seat call, or the evaluator of closed calls and its runs. Conditions: as each theorem states them. -/
import Derived.Test.YtddlghdglknloaaGreatDoorP4
import Derived.Test.YtddlghdglknloaaGreatDoorKN
set_option linter.unusedVariables false
set_option linter.unusedSimpArgs false
namespace Go.Kn
open Go Go.Proofs Go.RowKit

set_option maxRecDepth 100000 in
set_option maxHeartbeats 6000000 in
theorem lawpr_w (pa ca : Option Addr) (lp cp lc cc : Nat) (P : Nat → P8) (C : Nat → C8) (sa : Option Addr) (m sc : Nat) (s : Nat → Int) (w : World) (H : Hid (Ne8 w pa ca lp lc P C)) (HO : Hid (IntSl w sa m s)) (hml : m ≤ maxLen) (K : Hid KnownOk) (hpw : Hid (Pw w)) :
    Calls Tryz.prog 12 #[.agg #[.slice pa lp cp, .slice ca lc cc], .slice sa m sc] w fun e w' => e = .returned (.bool true) ∧ Below w.heap.size w w' := by
  obtain ⟨W0, hW0⟩ : ∃ W0, W0 = w.alloc (.cells #[.slice pa lp cp, .slice ca lc cc] 25) := ⟨_, rfl⟩
  have hA : Below w.heap.size w W0 := by rw [hW0]; exact (Below.refl _ _).alloc (Nat.le_refl _) _
  have HF : Hid (∀ w2, Below W0.heap.size W0 w2 → w2.cell? ⟨w.heap.size, 0, none⟩ = some (.slice pa lp cp) ∧ w2.cell? ⟨w.heap.size, 1, none⟩ = some (.slice ca lc cc)) := Lib.hid fun w2 h => by
    rw [hW0] at h
    exact ⟨(box_cells h).1, (box_cells h).2.1⟩
  have HN : Hid (∀ w2, Below W0.heap.size W0 w2 → Hid (Ne8 w2 pa ca lp lc P C)) := Lib.hid fun w2 h => Lib.hid (H.out.below (hA.trans (h.mono hA.size)))
  have HOS : Hid (∀ w2, Below W0.heap.size W0 w2 → Hid (IntSl w2 sa m s)) := Lib.hid fun w2 h => Lib.hid (HO.out.below (hA.trans (h.mono hA.size)))
  have HKN : Hid (∀ w2, Below W0.heap.size W0 w2 → Calls Tryz.prog 16 #[] w2 fun e w' => e = .returned (.bool true) ∧ Below w2.heap.size w2 w') := Lib.hid fun w2 h => K.out w2 (hpw.out.on (hA.trans (h.mono hA.size)))
  have HSH : Hid (∀ w2, Below W0.heap.size W0 w2 → Calls Tryz.prog 15 #[.agg #[.slice pa lp cp, .slice ca lc cc]] w2 fun e w' => e = .returned (.bool (decide (lp ≤ 9 ∧ lc ≤ 13))) ∧ Below w2.heap.size w2 w') := Lib.hid fun w2 h => short_w pa ca lp cp lc cc w2
  have HA := Lib.hid hA
  have HV : Hid (Below W0.heap.size W0 W0) := Lib.hid (Below.refl _ _)
  obtain ⟨g0, g1⟩ := HF.out _ (Below.refl _ _)
  rw [hW0] at g0 g1
  clear hA H HO
  by_cases hsh : lp ≤ 9 ∧ lc ≤ 13
  case neg =>
    have hd : decide (lp ≤ 9 ∧ lc ≤ 13) = false := decide_eq_false hsh
    rw [hd] at HSH
    clear hd hsh
    go_enter Tryz.func12, Tryz.ntmps12
    go_wp2_with (first
      | (go_at_call 15; (try rw [← hW0]); refine (HSH.out _ HV.out).mono ?_; rintro e w5 ⟨rfl, hv⟩; (try clear hW0); replace HV := Lib.hid (HV.out.trans (hv.mono HV.out.size)); clear hv g0 g1; obtain ⟨g0, g1⟩ := HF.out _ HV.out)
      | (go_at_call 16; (try rw [← hW0]); refine (HKN.out _ HV.out).mono ?_; rintro e w5 ⟨rfl, hv⟩; (try clear hW0); replace HV := Lib.hid (HV.out.trans (hv.mono HV.out.size)); clear hv g0 g1; obtain ⟨g0, g1⟩ := HF.out _ HV.out))
    go_ret
    exact ⟨rfl, HA.out.trans (HV.out.mono HA.out.size)⟩
  case pos =>
    have hd : decide (lp ≤ 9 ∧ lc ≤ 13) = true := decide_eq_true hsh
    rw [hd] at HSH
    clear hd
    obtain ⟨hs1, hs2⟩ := hsh
    by_cases hm : m ≤ 10
    case neg =>
      have n1 : (10 : Int) < (m : Int) := by omega
      go_enter Tryz.func12, Tryz.ntmps12
      go_wp2_with (first
        | (go_at_call 15; (try rw [← hW0]); refine (HSH.out _ HV.out).mono ?_; rintro e w5 ⟨rfl, hv⟩; (try clear hW0); replace HV := Lib.hid (HV.out.trans (hv.mono HV.out.size)); clear hv g0 g1; obtain ⟨g0, g1⟩ := HF.out _ HV.out)
        | (go_at_call 16; (try rw [← hW0]); refine (HKN.out _ HV.out).mono ?_; rintro e w5 ⟨rfl, hv⟩; (try clear hW0); replace HV := Lib.hid (HV.out.trans (hv.mono HV.out.size)); clear hv g0 g1; obtain ⟨g0, g1⟩ := HF.out _ HV.out))
      go_ret
      exact ⟨rfl, HA.out.trans (HV.out.mono HA.out.size)⟩
    case pos =>
      have n1 : ¬ (10 : Int) < (m : Int) := by omega
      have H1 : Hid (∀ w2, Below W0.heap.size W0 w2 → Calls Tryz.prog 18 #[.agg #[.slice pa lp cp, .slice ca lc cc]] w2 fun e w' => e = .returned (.bool (netV lp P lc C)) ∧ Below w2.heap.size w2 w') := Lib.hid fun w2 h => rnet_w pa ca lp cp lc cc P C w2 (by omega) (by omega) (HN.out _ h)
      have H2 : Hid (∀ w2, Below W0.heap.size W0 w2 → Calls Tryz.prog 19 #[.agg #[.slice pa lp cp, .slice ca lc cc], .slice sa m sc] w2 fun e w' => e = .returned (.bool (gatsB lc C s m)) ∧ Below w2.heap.size w2 w') := Lib.hid fun w2 h => rsome_w pa ca sa lp cp lc cc m sc P C s w2 (by omega) (by omega) (HN.out _ h) (HOS.out _ h)
      obtain ⟨q1, hq1⟩ : ∃ q, netV lp P lc C = q := ⟨_, rfl⟩
      obtain ⟨q2, hq2⟩ : ∃ q, gatsB lc C s m = q := ⟨_, rfl⟩
      rw [hq1] at H1
      rw [hq2] at H2
      cases q1 with
      | false =>
        have hq : fedQ lp P lc C s m = false := by unfold fedQ; rw [hq1]; rfl
        have HPB : Hid (∀ w2, Below W0.heap.size W0 w2 → Calls Tryz.prog 43 #[.agg #[.slice pa lp cp, .slice ca lc cc], .slice sa m sc] w2 fun e w' => e = .returned (.tuple #[.slice none 0 0, .int .i64 2]) ∧ Below w2.heap.size w2 w') := Lib.hid fun w2 h => proof_bad pa ca sa lp cp lc cc m sc P C s w2 (by omega) (by omega) (by omega) (HN.out _ h) (HOS.out _ h) hq
        have HVB : Hid (∀ w2, Below W0.heap.size W0 w2 → Calls Tryz.prog 44 #[.agg #[.slice pa lp cp, .slice ca lc cc]] w2 fun e w' => e = .returned (.tuple #[.slice none 0 0, .int .i64 2]) ∧ Below w2.heap.size w2 w') := Lib.hid fun w2 h => vital_bad pa ca lp cp lc cc P C w2 (by omega) (by omega) hq1 (HN.out _ h)
        clear hq hq1 hq2
        go_enter Tryz.func12, Tryz.ntmps12
        go_wp2_with (first
          | (go_at_call 15; (try rw [← hW0]); refine (HSH.out _ HV.out).mono ?_; rintro e w5 ⟨rfl, hv⟩; (try clear hW0); replace HV := Lib.hid (HV.out.trans (hv.mono HV.out.size)); clear hv g0 g1; obtain ⟨g0, g1⟩ := HF.out _ HV.out)
          | (go_at_call 43; (try rw [← hW0]); refine (HPB.out _ HV.out).mono ?_; rintro e w5 ⟨rfl, hv⟩; (try clear hW0); replace HV := Lib.hid (HV.out.trans (hv.mono HV.out.size)); clear hv g0 g1; obtain ⟨g0, g1⟩ := HF.out _ HV.out)
          | (go_at_call 44; (try rw [← hW0]); refine (HVB.out _ HV.out).mono ?_; rintro e w5 ⟨rfl, hv⟩; (try clear hW0); replace HV := Lib.hid (HV.out.trans (hv.mono HV.out.size)); clear hv g0 g1; obtain ⟨g0, g1⟩ := HF.out _ HV.out)
          | (go_at_call 18; (try rw [← hW0]); refine (H1.out _ HV.out).mono ?_; rintro e w5 ⟨rfl, hv⟩; (try clear hW0); replace HV := Lib.hid (HV.out.trans (hv.mono HV.out.size)); clear hv g0 g1; obtain ⟨g0, g1⟩ := HF.out _ HV.out)
          | (go_at_call 16; (try rw [← hW0]); refine (HKN.out _ HV.out).mono ?_; rintro e w5 ⟨rfl, hv⟩; (try clear hW0); replace HV := Lib.hid (HV.out.trans (hv.mono HV.out.size)); clear hv g0 g1; obtain ⟨g0, g1⟩ := HF.out _ HV.out))
        go_ret
        exact ⟨rfl, HA.out.trans (HV.out.mono HA.out.size)⟩
      | true =>
      have HP := Lib.hid (netV_iff.1 hq1)
      have HVI : Hid (∀ w2, Below W0.heap.size W0 w2 → Calls Tryz.prog 44 #[.agg #[.slice pa lp cp, .slice ca lc cc]] w2 fun e w' => (∃ sa sc, e = .returned (.tuple #[.slice sa (vitL lp P lc C).length sc, .int .i64 0]) ∧ IntSl w' sa (vitL lp P lc C).length (lgI (vitL lp P lc C))) ∧ Below w2.heap.size w2 w') := Lib.hid fun w2 h => vital_w pa ca lp cp lc cc P C w2 HP (HN.out _ h)
      have HVR : Hid (∀ w2, Below W0.heap.size W0 w2 → Calls Tryz.prog 45 #[.agg #[.slice pa lp cp, .slice ca lc cc]] w2 fun e w' => (∃ sa sc, e = .returned (.slice sa (vitL lp P lc C).length sc) ∧ IntSl w' sa (vitL lp P lc C).length (lgI (vitL lp P lc C))) ∧ Below w2.heap.size w2 w') := Lib.hid fun w2 h => rvital_w pa ca lp cp lc cc P C w2 HP (HN.out _ h)
      have hvl : (vitL lp P lc C).length ≤ 20 := by
        have h1 := List.length_filter_le (fun x => !canV lp P lc C x) (gatL C lc)
        have h2 := gatL_le (C := C) lc
        have := HP.out.c10
        unfold vitL; omega
      have HSV : Hid (∀ (a b : Option Addr) (c1 c2 : Nat) w2, IntSl w2 a (vitL lp P lc C).length (lgI (vitL lp P lc C)) → IntSl w2 b (vitL lp P lc C).length (lgI (vitL lp P lc C)) → Calls Tryz.prog 34 #[.slice a (vitL lp P lc C).length c1, .slice b (vitL lp P lc C).length c2] w2 fun e w' => e = .returned (.bool true) ∧ Below w2.heap.size w2 w') := Lib.hid fun a b c1 c2 w2 h1 h2 => same_t a b _ c1 c2 _ w2 (by unfold maxLen; omega) (Lib.hid h1) (Lib.hid h2)
      obtain ⟨vl, hvl2⟩ : ∃ l, vitL lp P lc C = l := ⟨_, rfl⟩
      rw [hvl2] at HVI HVR HSV
      obtain ⟨vn, hvn⟩ : ∃ n, vl.length = n := ⟨_, rfl⟩
      rw [hvn] at HVI HVR HSV
      obtain ⟨vf, hvf⟩ : ∃ n, lgI vl = n := ⟨_, rfl⟩
      rw [hvf] at HVI HVR HSV
      clear hvl hvl2 hvn hvf
      cases q2 with
      | false =>
        have hq : fedQ lp P lc C s m = false := by unfold fedQ; rw [hq1, hq2]; rfl
        have HPB : Hid (∀ w2, Below W0.heap.size W0 w2 → Calls Tryz.prog 43 #[.agg #[.slice pa lp cp, .slice ca lc cc], .slice sa m sc] w2 fun e w' => e = .returned (.tuple #[.slice none 0 0, .int .i64 2]) ∧ Below w2.heap.size w2 w') := Lib.hid fun w2 h => proof_bad pa ca sa lp cp lc cc m sc P C s w2 (by omega) (by omega) (by omega) (HN.out _ h) (HOS.out _ h) hq
        clear hq hq1 hq2
        go_enter Tryz.func12, Tryz.ntmps12
        go_wp2_with (first
          | (go_at_call 15; (try rw [← hW0]); refine (HSH.out _ HV.out).mono ?_; rintro e w5 ⟨rfl, hv⟩; (try clear hW0); replace HV := Lib.hid (HV.out.trans (hv.mono HV.out.size)); clear hv g0 g1; obtain ⟨g0, g1⟩ := HF.out _ HV.out)
          | (go_at_call 43; (try rw [← hW0]); refine (HPB.out _ HV.out).mono ?_; rintro e w5 ⟨rfl, hv⟩; (try clear hW0); replace HV := Lib.hid (HV.out.trans (hv.mono HV.out.size)); clear hv g0 g1; obtain ⟨g0, g1⟩ := HF.out _ HV.out)
          | (go_at_call 44; (try rw [← hW0]); refine (HVI.out _ HV.out).mono ?_; rintro e w5 ⟨⟨va, vc, rfl, hs⟩, hv⟩; (try clear hW0); have HX := Lib.hid hs; clear hs; replace HV := Lib.hid (HV.out.trans (hv.mono HV.out.size)); clear hv g0 g1; obtain ⟨g0, g1⟩ := HF.out _ HV.out)
          | (go_at_call 18; (try rw [← hW0]); refine (H1.out _ HV.out).mono ?_; rintro e w5 ⟨rfl, hv⟩; (try clear hW0); replace HX := Lib.hid (HX.out.below hv); replace HV := Lib.hid (HV.out.trans (hv.mono HV.out.size)); clear hv g0 g1; obtain ⟨g0, g1⟩ := HF.out _ HV.out)
          | (go_at_call 45; (try rw [← hW0]); refine (HVR.out _ HV.out).mono ?_; rintro e w5 ⟨⟨vb, vd, rfl, hs⟩, hv⟩; (try clear hW0); replace HX := Lib.hid (HX.out.below hv); have HY := Lib.hid hs; clear hs; replace HV := Lib.hid (HV.out.trans (hv.mono HV.out.size)); clear hv g0 g1; obtain ⟨g0, g1⟩ := HF.out _ HV.out)
          | (go_at_call 34; (try rw [← hW0]); refine (HSV.out va vb vc vd _ HX.out HY.out).mono ?_; rintro e w5 ⟨rfl, hv⟩; (try clear hW0); replace HV := Lib.hid (HV.out.trans (hv.mono HV.out.size)); clear hv g0 g1; obtain ⟨g0, g1⟩ := HF.out _ HV.out)
          | (go_at_call 19; (try rw [← hW0]); refine (H2.out _ HV.out).mono ?_; rintro e w5 ⟨rfl, hv⟩; (try clear hW0); replace HV := Lib.hid (HV.out.trans (hv.mono HV.out.size)); clear hv g0 g1; obtain ⟨g0, g1⟩ := HF.out _ HV.out)
          | (go_at_call 16; (try rw [← hW0]); refine (HKN.out _ HV.out).mono ?_; rintro e w5 ⟨rfl, hv⟩; (try clear hW0); replace HV := Lib.hid (HV.out.trans (hv.mono HV.out.size)); clear hv g0 g1; obtain ⟨g0, g1⟩ := HF.out _ HV.out))
        go_ret
        exact ⟨rfl, HA.out.trans (HV.out.mono HA.out.size)⟩
      | true =>
        have HG := Lib.hid hq2
        have HCU : Hid (∀ w2, Below W0.heap.size W0 w2 → Calls Tryz.prog 43 #[.agg #[.slice pa lp cp, .slice ca lc cc], .slice sa m sc] w2 fun e w' => (∃ v, e = .returned (.tuple #[v, .int .i64 (if (cutL lp P lc C (emF lc C s m) false).isSome then 0 else 5)]) ∧ CutAt w' v (cutL lp P lc C (emF lc C s m) false)) ∧ Below w2.heap.size w2 w') := Lib.hid fun w2 h => proof_ok pa ca sa lp cp lc cc m sc P C s w2 HP.out HG.out (by omega) (HN.out _ h) (HOS.out _ h)
        have HRC : Hid (∀ w2, Below W0.heap.size W0 w2 → Calls Tryz.prog 46 #[.agg #[.slice pa lp cp, .slice ca lc cc], .slice sa m sc] w2 fun e w' => (∃ v, e = .returned (.tuple #[v, .bool (cutL lp P lc C (emF lc C s m) false).isSome]) ∧ CutAt w' v (cutL lp P lc C (emF lc C s m) false)) ∧ Below w2.heap.size w2 w') := Lib.hid fun w2 h => rproof_w pa ca sa lp cp lc cc m sc P C s w2 HP HG (by omega) (HN.out _ h) (HOS.out _ h)
        obtain ⟨cu, hcu⟩ : ∃ cu, cutL lp P lc C (emF lc C s m) false = cu := ⟨_, rfl⟩
        have hlen : ∀ L, cu = some L → L.length ≤ 7 := fun L h => by
          rw [h] at hcu
          have := List.mem_of_find?_eq_some hcu
          have := (shL_iff.1 this).length_le
          have := HP.out.l7
          simp at *; omega
        rw [hcu] at HCU HRC
        clear hcu hq1 hq2
        cases cu with
        | none =>
          simp only [CutAt, Option.isSome_none, Bool.false_eq_true, if_false] at HCU HRC
          clear hlen
          go_enter Tryz.func12, Tryz.ntmps12
          go_wp2_with (first
            | (go_at_call 15; (try rw [← hW0]); refine (HSH.out _ HV.out).mono ?_; rintro e w5 ⟨rfl, hv⟩; (try clear hW0); replace HV := Lib.hid (HV.out.trans (hv.mono HV.out.size)); clear hv g0 g1; obtain ⟨g0, g1⟩ := HF.out _ HV.out)
            | (go_at_call 43; (try rw [← hW0]); refine (HCU.out _ HV.out).mono ?_; rintro e w5 ⟨⟨v, rfl, rfl⟩, hv⟩; (try clear hW0); replace HV := Lib.hid (HV.out.trans (hv.mono HV.out.size)); clear hv g0 g1; obtain ⟨g0, g1⟩ := HF.out _ HV.out)
            | (go_at_call 44; (try rw [← hW0]); refine (HVI.out _ HV.out).mono ?_; rintro e w5 ⟨⟨va, vc, rfl, hs⟩, hv⟩; (try clear hW0); have HX := Lib.hid hs; clear hs; replace HV := Lib.hid (HV.out.trans (hv.mono HV.out.size)); clear hv g0 g1; obtain ⟨g0, g1⟩ := HF.out _ HV.out)
            | (go_at_call 18; (try rw [← hW0]); refine (H1.out _ HV.out).mono ?_; rintro e w5 ⟨rfl, hv⟩; (try clear hW0); replace HX := Lib.hid (HX.out.below hv); replace HV := Lib.hid (HV.out.trans (hv.mono HV.out.size)); clear hv g0 g1; obtain ⟨g0, g1⟩ := HF.out _ HV.out)
            | (go_at_call 45; (try rw [← hW0]); refine (HVR.out _ HV.out).mono ?_; rintro e w5 ⟨⟨vb, vd, rfl, hs⟩, hv⟩; (try clear hW0); replace HX := Lib.hid (HX.out.below hv); have HY := Lib.hid hs; clear hs; replace HV := Lib.hid (HV.out.trans (hv.mono HV.out.size)); clear hv g0 g1; obtain ⟨g0, g1⟩ := HF.out _ HV.out)
            | (go_at_call 34; (try rw [← hW0]); refine (HSV.out va vb vc vd _ HX.out HY.out).mono ?_; rintro e w5 ⟨rfl, hv⟩; (try clear hW0); replace HV := Lib.hid (HV.out.trans (hv.mono HV.out.size)); clear hv g0 g1; obtain ⟨g0, g1⟩ := HF.out _ HV.out)
            | (go_at_call 19; (try rw [← hW0]); refine (H2.out _ HV.out).mono ?_; rintro e w5 ⟨rfl, hv⟩; (try clear hW0); replace HV := Lib.hid (HV.out.trans (hv.mono HV.out.size)); clear hv g0 g1; obtain ⟨g0, g1⟩ := HF.out _ HV.out)
            | (go_at_call 46; (try rw [← hW0]); refine (HRC.out _ HV.out).mono ?_; rintro e w5 ⟨⟨v, rfl, rfl⟩, hv⟩; (try clear hW0); replace HV := Lib.hid (HV.out.trans (hv.mono HV.out.size)); clear hv g0 g1; obtain ⟨g0, g1⟩ := HF.out _ HV.out)
            | (go_at_call 16; (try rw [← hW0]); refine (HKN.out _ HV.out).mono ?_; rintro e w5 ⟨rfl, hv⟩; (try clear hW0); replace HV := Lib.hid (HV.out.trans (hv.mono HV.out.size)); clear hv g0 g1; obtain ⟨g0, g1⟩ := HF.out _ HV.out))
          go_ret
          exact ⟨rfl, HA.out.trans (HV.out.mono HA.out.size)⟩
        | some L =>
          simp only [CutAt, Option.isSome_some, if_true] at HCU HRC
          have hl := hlen L rfl
          have HSM : Hid (∀ (a b : Option Addr) (c1 c2 : Nat) w2, IntSl w2 a L.length (lgI L) → IntSl w2 b L.length (lgI L) → Calls Tryz.prog 34 #[.slice a L.length c1, .slice b L.length c2] w2 fun e w' => e = .returned (.bool true) ∧ Below w2.heap.size w2 w') := Lib.hid fun a b c1 c2 w2 h1 h2 => same_t a b L.length c1 c2 (lgI L) w2 (by unfold maxLen; omega) (Lib.hid h1) (Lib.hid h2)
          obtain ⟨ll, hll⟩ : ∃ ll, L.length = ll := ⟨_, rfl⟩
          rw [hll] at HCU HRC HSM hl
          obtain ⟨lf, hlf⟩ : ∃ lf, lgI L = lf := ⟨_, rfl⟩
          rw [hlf] at HCU HRC HSM
          have M1 := Lib.hid True.intro
          clear hlen hll hlf
          go_enter Tryz.func12, Tryz.ntmps12
          go_wp2_with (first
            | (go_at_call 15; (try rw [← hW0]); refine (HSH.out _ HV.out).mono ?_; rintro e w5 ⟨rfl, hv⟩; (try clear hW0); replace HV := Lib.hid (HV.out.trans (hv.mono HV.out.size)); clear hv g0 g1; obtain ⟨g0, g1⟩ := HF.out _ HV.out)
            | (go_at_call 43; (try rw [← hW0]); refine (HCU.out _ HV.out).mono ?_; rintro e w5 ⟨⟨v, rfl, la, ca1, rfl, hs⟩, hv⟩; (try clear hW0); have HC := Lib.hid hs; clear hs; replace HV := Lib.hid (HV.out.trans (hv.mono HV.out.size)); clear hv g0 g1; obtain ⟨g0, g1⟩ := HF.out _ HV.out)
            | (go_at_call 44; (try rw [← hW0]); refine (HVI.out _ HV.out).mono ?_; rintro e w5 ⟨⟨va, vc, rfl, hs⟩, hv⟩; (try clear hW0); replace HC := Lib.hid (HC.out.below hv); have HX := Lib.hid hs; clear hs; replace HV := Lib.hid (HV.out.trans (hv.mono HV.out.size)); clear hv g0 g1; obtain ⟨g0, g1⟩ := HF.out _ HV.out)
            | (go_at_call 18; (try rw [← hW0]); refine (H1.out _ HV.out).mono ?_; rintro e w5 ⟨rfl, hv⟩; (try clear hW0); replace HX := Lib.hid (HX.out.below hv); replace HC := Lib.hid (HC.out.below hv); replace HV := Lib.hid (HV.out.trans (hv.mono HV.out.size)); clear hv g0 g1; obtain ⟨g0, g1⟩ := HF.out _ HV.out)
            | (go_at_call 45; (try rw [← hW0]); refine (HVR.out _ HV.out).mono ?_; rintro e w5 ⟨⟨vb, vd, rfl, hs⟩, hv⟩; (try clear hW0); replace HC := Lib.hid (HC.out.below hv); replace HX := Lib.hid (HX.out.below hv); have HY := Lib.hid hs; clear hs; replace HV := Lib.hid (HV.out.trans (hv.mono HV.out.size)); clear hv g0 g1; obtain ⟨g0, g1⟩ := HF.out _ HV.out)
            | (go_at_call 34; have hB := M1.out; clear hB M1; (try rw [← hW0]); refine (HSV.out va vb vc vd _ HX.out HY.out).mono ?_; rintro e w5 ⟨rfl, hv⟩; (try clear hW0); replace HC := Lib.hid (HC.out.below hv); replace HV := Lib.hid (HV.out.trans (hv.mono HV.out.size)); clear hv g0 g1; obtain ⟨g0, g1⟩ := HF.out _ HV.out)
            | (go_at_call 19; (try rw [← hW0]); refine (H2.out _ HV.out).mono ?_; rintro e w5 ⟨rfl, hv⟩; (try clear hW0); replace HC := Lib.hid (HC.out.below hv); replace HV := Lib.hid (HV.out.trans (hv.mono HV.out.size)); clear hv g0 g1; obtain ⟨g0, g1⟩ := HF.out _ HV.out)
            | (go_at_call 46; (try rw [← hW0]); refine (HRC.out _ HV.out).mono ?_; rintro e w5 ⟨⟨v, rfl, ra, rc1, rfl, hs2⟩, hv⟩; (try clear hW0); replace HC := Lib.hid (HC.out.below hv); have HC2 := Lib.hid hs2; clear hs2; replace HV := Lib.hid (HV.out.trans (hv.mono HV.out.size)); clear hv g0 g1; obtain ⟨g0, g1⟩ := HF.out _ HV.out)
            | (go_at_call 34; (try rw [← hW0]); refine (HSM.out la ra ca1 rc1 _ HC.out HC2.out).mono ?_; rintro e w5 ⟨rfl, hv⟩; (try clear hW0); replace HV := Lib.hid (HV.out.trans (hv.mono HV.out.size)); clear hv g0 g1; obtain ⟨g0, g1⟩ := HF.out _ HV.out)
            | (go_at_call 16; (try rw [← hW0]); refine (HKN.out _ HV.out).mono ?_; rintro e w5 ⟨rfl, hv⟩; (try clear hW0); replace HV := Lib.hid (HV.out.trans (hv.mono HV.out.size)); clear hv g0 g1; obtain ⟨g0, g1⟩ := HF.out _ HV.out))
          go_ret
          exact ⟨rfl, HA.out.trans (HV.out.mono HA.out.size)⟩
end Go.Kn
