/- Contracts of functions that the laws of this seat call, or the evaluator of closed calls and its runs. Conditions: as each theorem states them. -/
import Derived.Test.YtddlghdglknloaaGreatDoorL7
import Derived.Test.YtddlghdglknloaaGreatDoorKN
set_option linter.unusedVariables false
set_option linter.unusedSimpArgs false
namespace Go.Kn
open Go Go.Proofs Go.RowKit

set_option maxRecDepth 100000 in
set_option maxHeartbeats 8000000 in
theorem lawmo_w (pa ca sa : Option Addr) (lp cp lc cc m sc : Nat) (P : Nat → P8) (C : Nat → C8) (s : Nat → Int) (x : Int) (w : World) (H : Hid (Ne8 w pa ca lp lc P C)) (HO : Hid (IntSl w sa m s)) (K : Hid KnownOk) (hpw : Hid (Pw w)) :
    Calls Tryz.prog 9 #[.agg #[.slice pa lp cp, .slice ca lc cc], .slice sa m sc, .int .i64 x] w fun e w' => e = .returned (.bool true) ∧ Below w.heap.size w w' := by
  obtain ⟨W0, hW0⟩ : ∃ W0, W0 = w.alloc (.cells #[.slice pa lp cp, .slice ca lc cc] 25) := ⟨_, rfl⟩
  have hA : Below w.heap.size w W0 := by rw [hW0]; exact (Below.refl _ _).alloc (Nat.le_refl _) _
  have HF : Hid (∀ w2, Below W0.heap.size W0 w2 → w2.cell? ⟨w.heap.size, 0, none⟩ = some (.slice pa lp cp) ∧ w2.cell? ⟨w.heap.size, 1, none⟩ = some (.slice ca lc cc)) := Lib.hid fun w2 h => by
    rw [hW0] at h
    exact ⟨(box_cells h).1, (box_cells h).2.1⟩
  have HN : Hid (∀ w2, Below W0.heap.size W0 w2 → Hid (Ne8 w2 pa ca lp lc P C)) := Lib.hid fun w2 h => Lib.hid (H.out.below (hA.trans (h.mono hA.size)))
  have HOS : Hid (∀ w2, Below W0.heap.size W0 w2 → Hid (IntSl w2 sa m s)) := Lib.hid fun w2 h => Lib.hid (HO.out.below (hA.trans (h.mono hA.size)))
  have HKN : Hid (∀ w2, Below W0.heap.size W0 w2 → Calls Tryz.prog 16 #[] w2 fun e w' => e = .returned (.bool true) ∧ Below w2.heap.size w2 w') := Lib.hid fun w2 h => K.out w2 (hpw.out.on (hA.trans (h.mono hA.size)))
  have HSH : Hid (Calls Tryz.prog 15 #[.agg #[.slice pa lp cp, .slice ca lc cc]] W0 fun e w' => e = .returned (.bool (decide (lp ≤ 9 ∧ lc ≤ 13))) ∧ Below W0.heap.size W0 w') := Lib.hid (short_w pa ca lp cp lc cc W0)
  have HA := Lib.hid hA
  obtain ⟨f0, f1⟩ := HF.out _ (Below.refl _ _)
  rw [hW0] at f0 f1
  clear hA H HO
  by_cases hsh : lp ≤ 9 ∧ lc ≤ 13
  case neg =>
    have hd : decide (lp ≤ 9 ∧ lc ≤ 13) = false := decide_eq_false hsh
    rw [hd] at HSH
    clear hd hsh
    go_enter Tryz.func9, Tryz.ntmps9
    go_wp2_with (first
      | (go_at_call 15; rw [← hW0]; refine HSH.out.mono ?_; rintro e w5 ⟨rfl, hv⟩; clear hW0 f0 f1; have HV5 := Lib.hid hv; obtain ⟨g0, g1⟩ := HF.out _ hv; clear hv)
      | (go_at_call 16; refine (HKN.out _ HV5.out).mono ?_; rintro e w16 ⟨rfl, hv⟩; have HV16 := Lib.hid (HV5.out.trans (hv.mono HV5.out.size)); clear hv))
    go_ret
    exact ⟨rfl, HA.out.trans (HV16.out.mono HA.out.size)⟩
  case pos =>
    have hd : decide (lp ≤ 9 ∧ lc ≤ 13) = true := decide_eq_true hsh
    rw [hd] at HSH
    clear hd
    obtain ⟨hs1, hs2⟩ := hsh
    by_cases hm : m ≤ 10
    case neg =>
      have n1 : (10 : Int) < (m : Int) := by omega
      go_enter Tryz.func9, Tryz.ntmps9
      go_wp2_with (first
        | (go_at_call 15; rw [← hW0]; refine HSH.out.mono ?_; rintro e w5 ⟨rfl, hv⟩; clear hW0 f0 f1; have HV5 := Lib.hid hv; obtain ⟨g0, g1⟩ := HF.out _ hv; clear hv)
        | (go_at_call 16; refine (HKN.out _ HV5.out).mono ?_; rintro e w16 ⟨rfl, hv⟩; have HV16 := Lib.hid (HV5.out.trans (hv.mono HV5.out.size)); clear hv))
      go_ret
      exact ⟨rfl, HA.out.trans (HV16.out.mono HA.out.size)⟩
    case pos =>
      have n1 : ¬ (10 : Int) < (m : Int) := by omega
      have H1 : Hid (∀ w2, Below W0.heap.size W0 w2 → Calls Tryz.prog 18 #[.agg #[.slice pa lp cp, .slice ca lc cc]] w2 fun e w' => e = .returned (.bool (netV lp P lc C)) ∧ Below w2.heap.size w2 w') := Lib.hid fun w2 h => rnet_w pa ca lp cp lc cc P C w2 (by omega) (by omega) (HN.out _ h)
      have H2 : Hid (∀ w2, Below W0.heap.size W0 w2 → Calls Tryz.prog 19 #[.agg #[.slice pa lp cp, .slice ca lc cc], .slice sa m sc] w2 fun e w' => e = .returned (.bool (gatsB lc C s m)) ∧ Below w2.heap.size w2 w') := Lib.hid fun w2 h => rsome_w pa ca sa lp cp lc cc m sc P C s w2 (by omega) (by omega) (HN.out _ h) (HOS.out _ h)
      have H3 : Hid (∀ w2, Below W0.heap.size W0 w2 → Calls Tryz.prog 28 #[.agg #[.slice pa lp cp, .slice ca lc cc], .int .i64 x] w2 fun e w' => e = .returned (.bool (fromB 0 ((lp : Int) - 1) x)) ∧ Below w2.heap.size w2 w') := Lib.hid fun w2 h => rpoint_w pa ca lp cp lc cc x w2 (by omega)
      have HMB : Hid ((moQ lp P lc C s m x && fedV lp P lc C (opnF s m) false) = false → ∀ w2, Below W0.heap.size W0 w2 → Calls Tryz.prog 29 #[.agg #[.slice pa lp cp, .slice ca lc cc], .slice sa m sc, .int .i64 x] w2 fun e w' => e = .returned (.tuple #[.int .i64 0, .int .i64 (if moQ lp P lc C s m x then 7 else 2)]) ∧ Below w2.heap.size w2 w') := Lib.hid fun hq w2 h => most_bad pa ca sa lp cp lc cc m sc P C s x w2 (by omega) (by omega) (by omega) (HN.out _ h) (HOS.out _ h) hq
      obtain ⟨q1, hq1⟩ : ∃ q, netV lp P lc C = q := ⟨_, rfl⟩
      obtain ⟨q2, hq2⟩ : ∃ q, gatsB lc C s m = q := ⟨_, rfl⟩
      obtain ⟨q3, hq3⟩ : ∃ q, fromB 0 ((lp : Int) - 1) x = q := ⟨_, rfl⟩
      have HQ1 := Lib.hid hq1
      have HQ2 := Lib.hid hq2
      have HQ3 := Lib.hid hq3
      have HQ : Hid (moQ lp P lc C s m x = (q1 && q2 && q3)) := Lib.hid (by rw [← hq1, ← hq2, ← hq3]; rfl)
      rw [HQ.out] at HMB
      rw [hq1] at H1
      rw [hq2] at H2
      rw [hq3] at H3
      clear hq1 hq2 hq3 HQ
      cases q1 with
      | false =>
        have HMO := Lib.hid (HMB.out (by simp))
        simp only [Bool.false_and, Bool.false_eq_true, if_false] at HMO
        go_enter Tryz.func9, Tryz.ntmps9
        go_wp2_with (first
          | (go_at_call 15; rw [← hW0]; refine HSH.out.mono ?_; rintro e w5 ⟨rfl, hv⟩; clear hW0 f0 f1; have HV5 := Lib.hid hv; obtain ⟨g0, g1⟩ := HF.out _ hv; clear hv)
          | (go_at_call 29; refine (HMO.out _ HV5.out).mono ?_; rintro e w7 ⟨rfl, hv⟩; have HV7 := Lib.hid (HV5.out.trans (hv.mono HV5.out.size)); clear hv g0 g1; obtain ⟨g0, g1⟩ := HF.out _ HV7.out)
          | (go_at_call 18; refine (H1.out _ HV7.out).mono ?_; rintro e w8 ⟨rfl, hv⟩; have HV8 := Lib.hid (HV7.out.trans (hv.mono HV7.out.size)); clear hv g0 g1; obtain ⟨g0, g1⟩ := HF.out _ HV8.out)
          | (go_at_call 16; refine (HKN.out _ HV8.out).mono ?_; rintro e w16 ⟨rfl, hv⟩; have HV16 := Lib.hid (HV8.out.trans (hv.mono HV8.out.size)); clear hv))
        go_ret
        exact ⟨rfl, HA.out.trans (HV16.out.mono HA.out.size)⟩
      | true =>
        cases q2 with
        | false =>
          have HMO := Lib.hid (HMB.out (by simp))
          simp only [Bool.and_false, Bool.false_and, Bool.false_eq_true, if_false] at HMO
          go_enter Tryz.func9, Tryz.ntmps9
          go_wp2_with (first
            | (go_at_call 15; rw [← hW0]; refine HSH.out.mono ?_; rintro e w5 ⟨rfl, hv⟩; clear hW0 f0 f1; have HV5 := Lib.hid hv; obtain ⟨g0, g1⟩ := HF.out _ hv; clear hv)
            | (go_at_call 29; refine (HMO.out _ HV5.out).mono ?_; rintro e w7 ⟨rfl, hv⟩; have HV7 := Lib.hid (HV5.out.trans (hv.mono HV5.out.size)); clear hv g0 g1; obtain ⟨g0, g1⟩ := HF.out _ HV7.out)
            | (go_at_call 18; refine (H1.out _ HV7.out).mono ?_; rintro e w8 ⟨rfl, hv⟩; have HV8 := Lib.hid (HV7.out.trans (hv.mono HV7.out.size)); clear hv g0 g1; obtain ⟨g0, g1⟩ := HF.out _ HV8.out)
            | (go_at_call 19; refine (H2.out _ HV8.out).mono ?_; rintro e w9 ⟨rfl, hv⟩; have HV9 := Lib.hid (HV8.out.trans (hv.mono HV8.out.size)); clear hv g0 g1; obtain ⟨g0, g1⟩ := HF.out _ HV9.out)
            | (go_at_call 16; refine (HKN.out _ HV9.out).mono ?_; rintro e w16 ⟨rfl, hv⟩; have HV16 := Lib.hid (HV9.out.trans (hv.mono HV9.out.size)); clear hv))
          go_ret
          exact ⟨rfl, HA.out.trans (HV16.out.mono HA.out.size)⟩
        | true =>
          cases q3 with
          | false =>
            have HMO := Lib.hid (HMB.out (by simp))
            simp only [Bool.and_false, Bool.false_eq_true, if_false] at HMO
            go_enter Tryz.func9, Tryz.ntmps9
            go_wp2_with (first
              | (go_at_call 15; rw [← hW0]; refine HSH.out.mono ?_; rintro e w5 ⟨rfl, hv⟩; clear hW0 f0 f1; have HV5 := Lib.hid hv; obtain ⟨g0, g1⟩ := HF.out _ hv; clear hv)
              | (go_at_call 29; refine (HMO.out _ HV5.out).mono ?_; rintro e w7 ⟨rfl, hv⟩; have HV7 := Lib.hid (HV5.out.trans (hv.mono HV5.out.size)); clear hv g0 g1; obtain ⟨g0, g1⟩ := HF.out _ HV7.out)
              | (go_at_call 18; refine (H1.out _ HV7.out).mono ?_; rintro e w8 ⟨rfl, hv⟩; have HV8 := Lib.hid (HV7.out.trans (hv.mono HV7.out.size)); clear hv g0 g1; obtain ⟨g0, g1⟩ := HF.out _ HV8.out)
              | (go_at_call 19; refine (H2.out _ HV8.out).mono ?_; rintro e w9 ⟨rfl, hv⟩; have HV9 := Lib.hid (HV8.out.trans (hv.mono HV8.out.size)); clear hv g0 g1; obtain ⟨g0, g1⟩ := HF.out _ HV9.out)
              | (go_at_call 28; refine (H3.out _ HV9.out).mono ?_; rintro e w10 ⟨rfl, hv⟩; have HV10 := Lib.hid (HV9.out.trans (hv.mono HV9.out.size)); clear hv g0 g1; obtain ⟨g0, g1⟩ := HF.out _ HV10.out)
              | (go_at_call 16; refine (HKN.out _ HV10.out).mono ?_; rintro e w16 ⟨rfl, hv⟩; have HV16 := Lib.hid (HV10.out.trans (hv.mono HV10.out.size)); clear hv))
            go_ret
            exact ⟨rfl, HA.out.trans (HV16.out.mono HA.out.size)⟩
          | true =>
            have HP := Lib.hid (netV_iff.1 HQ1.out)
            have H4 : Hid (∀ w2, Below W0.heap.size W0 w2 → Calls Tryz.prog 35 #[.agg #[.slice pa lp cp, .slice ca lc cc], .slice sa m sc] w2 fun e w' => e = .returned (.bool (fedV lp P lc C (opnF s m) false)) ∧ Below w2.heap.size w2 w') := Lib.hid fun w2 h => rsurely_w pa ca sa lp cp lc cc m sc P C s w2 HP HQ2 (by omega) (HN.out _ h) (HOS.out _ h)
            have hx : 0 ≤ x ∧ x ≤ (lp : Int) - 1 := by simpa [fromB] using HQ3.out
            obtain ⟨p, rfl⟩ : ∃ p : Nat, x = (p : Int) := ⟨x.toNat, by omega⟩
            have hp : p < lp := by omega
            cases hfd : fedV lp P lc C (opnF s m) false with
            | false =>
              rw [hfd] at H4
              have HMO := Lib.hid (HMB.out (by rw [hfd]; rfl))
              simp only [Bool.and_true, if_true] at HMO
              clear hfd
              go_enter Tryz.func9, Tryz.ntmps9
              go_wp2_with (first
                | (go_at_call 15; rw [← hW0]; refine HSH.out.mono ?_; rintro e w5 ⟨rfl, hv⟩; clear hW0 f0 f1; have HV5 := Lib.hid hv; obtain ⟨g0, g1⟩ := HF.out _ hv; clear hv)
                | (go_at_call 29; refine (HMO.out _ HV5.out).mono ?_; rintro e w7 ⟨rfl, hv⟩; have HV7 := Lib.hid (HV5.out.trans (hv.mono HV5.out.size)); clear hv g0 g1; obtain ⟨g0, g1⟩ := HF.out _ HV7.out)
                | (go_at_call 18; refine (H1.out _ HV7.out).mono ?_; rintro e w8 ⟨rfl, hv⟩; have HV8 := Lib.hid (HV7.out.trans (hv.mono HV7.out.size)); clear hv g0 g1; obtain ⟨g0, g1⟩ := HF.out _ HV8.out)
                | (go_at_call 19; refine (H2.out _ HV8.out).mono ?_; rintro e w9 ⟨rfl, hv⟩; have HV9 := Lib.hid (HV8.out.trans (hv.mono HV8.out.size)); clear hv g0 g1; obtain ⟨g0, g1⟩ := HF.out _ HV9.out)
                | (go_at_call 28; refine (H3.out _ HV9.out).mono ?_; rintro e w10 ⟨rfl, hv⟩; have HV10 := Lib.hid (HV9.out.trans (hv.mono HV9.out.size)); clear hv g0 g1; obtain ⟨g0, g1⟩ := HF.out _ HV10.out)
                | (go_at_call 35; refine (H4.out _ HV10.out).mono ?_; rintro e w11 ⟨rfl, hv⟩; have HV11 := Lib.hid (HV10.out.trans (hv.mono HV10.out.size)); clear hv g0 g1; obtain ⟨g0, g1⟩ := HF.out _ HV11.out)
                | (go_at_call 16; refine (HKN.out _ HV11.out).mono ?_; rintro e w16 ⟨rfl, hv⟩; have HV16 := Lib.hid (HV11.out.trans (hv.mono HV11.out.size)); clear hv))
              go_ret
              exact ⟨rfl, HA.out.trans (HV16.out.mono HA.out.size)⟩
            | true =>
              rw [hfd] at H4
              have HMO : Hid (∀ w2, Below W0.heap.size W0 w2 → Calls Tryz.prog 29 #[.agg #[.slice pa lp cp, .slice ca lc cc], .slice sa m sc, .int .i64 (p : Int)] w2 fun e w' => e = .returned (.tuple #[.int .i64 (mosF P lc C (opnF s m) p (allLs (List.range lp))), .int .i64 0]) ∧ Below w2.heap.size w2 w') := Lib.hid fun w2 h => most_ok pa ca sa lp cp lc cc m sc p P C s w2 HP HQ2 hp hfd (by omega) (HN.out _ h) (HOS.out _ h)
              have H5 : Hid (∀ w2, Below W0.heap.size W0 w2 → Calls Tryz.prog 36 #[.agg #[.slice pa lp cp, .slice ca lc cc], .slice sa m sc, .int .i64 (p : Int)] w2 fun e w' => e = .returned (.int .i64 (mosF P lc C (opnF s m) p (shL (List.range lp)))) ∧ Below w2.heap.size w2 w') := Lib.hid fun w2 h => rmost_w pa ca sa lp cp lc cc m sc p P C s w2 HP HQ2 (by omega) hp (HN.out _ h) (HOS.out _ h)
              have HEQ : Hid (mosF P lc C (opnF s m) p (shL (List.range lp)) = mosF P lc C (opnF s m) p (allLs (List.range lp))) := Lib.hid (mosF_mem fun L => by rw [shL_iff, allLs_iff])
              rw [HEQ.out] at H5
              obtain ⟨v, hv⟩ : ∃ v, mosF P lc C (opnF s m) p (allLs (List.range lp)) = v := ⟨_, rfl⟩
              rw [hv] at H5 HMO
              have q0 : (v == v) = true := by simp
              clear hv HEQ hfd
              go_enter Tryz.func9, Tryz.ntmps9
              go_wp2_with (first
                | (go_at_call 15; rw [← hW0]; refine HSH.out.mono ?_; rintro e w5 ⟨rfl, hv⟩; clear hW0 f0 f1; have HV5 := Lib.hid hv; obtain ⟨g0, g1⟩ := HF.out _ hv; clear hv)
                | (go_at_call 29; refine (HMO.out _ HV5.out).mono ?_; rintro e w7 ⟨rfl, hv⟩; have HV7 := Lib.hid (HV5.out.trans (hv.mono HV5.out.size)); clear hv g0 g1; obtain ⟨g0, g1⟩ := HF.out _ HV7.out)
                | (go_at_call 18; refine (H1.out _ HV7.out).mono ?_; rintro e w8 ⟨rfl, hv⟩; have HV8 := Lib.hid (HV7.out.trans (hv.mono HV7.out.size)); clear hv g0 g1; obtain ⟨g0, g1⟩ := HF.out _ HV8.out)
                | (go_at_call 19; refine (H2.out _ HV8.out).mono ?_; rintro e w9 ⟨rfl, hv⟩; have HV9 := Lib.hid (HV8.out.trans (hv.mono HV8.out.size)); clear hv g0 g1; obtain ⟨g0, g1⟩ := HF.out _ HV9.out)
                | (go_at_call 28; refine (H3.out _ HV9.out).mono ?_; rintro e w10 ⟨rfl, hv⟩; have HV10 := Lib.hid (HV9.out.trans (hv.mono HV9.out.size)); clear hv g0 g1; obtain ⟨g0, g1⟩ := HF.out _ HV10.out)
                | (go_at_call 35; refine (H4.out _ HV10.out).mono ?_; rintro e w11 ⟨rfl, hv⟩; have HV11 := Lib.hid (HV10.out.trans (hv.mono HV10.out.size)); clear hv g0 g1; obtain ⟨g0, g1⟩ := HF.out _ HV11.out)
                | (go_at_call 36; refine (H5.out _ HV11.out).mono ?_; rintro e w12 ⟨rfl, hv⟩; have HV12 := Lib.hid (HV11.out.trans (hv.mono HV11.out.size)); clear hv)
                | (go_at_call 16; refine (HKN.out _ HV12.out).mono ?_; rintro e w16 ⟨rfl, hv⟩; have HV16 := Lib.hid (HV12.out.trans (hv.mono HV12.out.size)); clear hv))
              go_ret
              exact ⟨rfl, HA.out.trans (HV16.out.mono HA.out.size)⟩
end Go.Kn
