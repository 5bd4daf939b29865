/- Contracts of functions that the laws of this seat call, or the evaluator of closed calls and its runs. Conditions: as each theorem states them. -/
import Derived.Test.YtddlghdglknloaaGreatDoorL4
import Derived.Test.YtddlghdglknloaaGreatDoorKN
set_option linter.unusedVariables false
set_option linter.unusedSimpArgs false
namespace Go.Kn
open Go Go.Proofs Go.RowKit

set_option maxRecDepth 100000 in
set_option maxHeartbeats 8000000 in
theorem lawfd_w (pa ca sa : Option Addr) (lp cp lc cc m sc : Nat) (P : Nat → P8) (C : Nat → C8) (s : Nat → Int) (w : World) (H : Hid (Ne8 w pa ca lp lc P C)) (HO : Hid (IntSl w sa m s)) (K : Hid KnownOk) (hpw : Hid (Pw w)) :
    Calls Tryz.prog 7 #[.agg #[.slice pa lp cp, .slice ca lc cc], .slice sa m sc] w fun e w' => e = .returned (.bool true) ∧ Below w.heap.size w w' := by
  obtain ⟨W0, hW0⟩ : ∃ W0, W0 = w.alloc (.cells #[.slice pa lp cp, .slice ca lc cc] 25) := ⟨_, rfl⟩
  have hA : Below w.heap.size w W0 := by rw [hW0]; exact (Below.refl _ _).alloc (Nat.le_refl _) _
  have HF : Hid (∀ w2, Below W0.heap.size W0 w2 → w2.cell? ⟨w.heap.size, 0, none⟩ = some (.slice pa lp cp) ∧ w2.cell? ⟨w.heap.size, 1, none⟩ = some (.slice ca lc cc)) := Lib.hid fun w2 h => by
    rw [hW0] at h
    exact ⟨(box_cells h).1, (box_cells h).2.1⟩
  have HN : Hid (∀ w2, Below W0.heap.size W0 w2 → Hid (Ne8 w2 pa ca lp lc P C)) := Lib.hid fun w2 h => Lib.hid (H.out.below (hA.trans (h.mono hA.size)))
  have HOS : Hid (∀ w2, Below W0.heap.size W0 w2 → Hid (IntSl w2 sa m s)) := Lib.hid fun w2 h => Lib.hid (HO.out.below (hA.trans (h.mono hA.size)))
  have HKN : Hid (∀ w2, Below W0.heap.size W0 w2 → Calls Tryz.prog 16 #[] w2 fun e w' => e = .returned (.bool true) ∧ Below w2.heap.size w2 w') := Lib.hid fun w2 h => K.out w2 (hpw.out.on (hA.trans (h.mono hA.size)))
  have HSH : Hid (Calls Tryz.prog 15 #[.agg #[.slice pa lp cp, .slice ca lc cc]] W0 fun e w' => e = .returned (.bool (decide (lp ≤ 9 ∧ lc ≤ 13))) ∧ Below W0.heap.size W0 w') := Lib.hid (short_w pa ca lp cp lc cc W0)
  have HA := Lib.hid hA
  have A1 := Lib.hid trivial
  obtain ⟨f0, f1⟩ := HF.out _ (Below.refl _ _)
  rw [hW0] at f0 f1
  clear hA H HO
  by_cases hsh : lp ≤ 9 ∧ lc ≤ 13
  case neg =>
    have hd : decide (lp ≤ 9 ∧ lc ≤ 13) = false := decide_eq_false hsh
    rw [hd] at HSH
    clear hd hsh
    go_enter Tryz.func7, Tryz.ntmps7
    go_wp2_with (first
      | (go_at_call 15; rw [← hW0]; refine HSH.out.mono ?_; rintro e w5 ⟨rfl, hv⟩; clear hW0 f0 f1; have HV5 := Lib.hid hv; obtain ⟨g0, g1⟩ := HF.out _ hv; clear hv)
      | (go_at_call 16; refine (HKN.out _ HV5.out).mono ?_; rintro e w16 ⟨rfl, hv⟩; have HV16 := Lib.hid (HV5.out.trans (hv.mono HV5.out.size)); clear hv))
    go_ret
    exact ⟨rfl, HA.out.trans (HV16.out.mono HA.out.size)⟩
  case pos =>
    have hd : decide (lp ≤ 9 ∧ lc ≤ 13) = true := decide_eq_true hsh
    rw [hd] at HSH
    clear hd
    obtain ⟨hs1, hs2⟩ := hsh
    by_cases hm : m ≤ 10
    case neg =>
      have n1 : (10 : Int) < (m : Int) := by omega
      go_enter Tryz.func7, Tryz.ntmps7
      go_wp2_with (first
        | (go_at_call 15; rw [← hW0]; refine HSH.out.mono ?_; rintro e w5 ⟨rfl, hv⟩; clear hW0 f0 f1; have HV5 := Lib.hid hv; obtain ⟨g0, g1⟩ := HF.out _ hv; clear hv)
        | (go_at_call 16; refine (HKN.out _ HV5.out).mono ?_; rintro e w16 ⟨rfl, hv⟩; have HV16 := Lib.hid (HV5.out.trans (hv.mono HV5.out.size)); clear hv))
      go_ret
      exact ⟨rfl, HA.out.trans (HV16.out.mono HA.out.size)⟩
    case pos =>
      have n1 : ¬ (10 : Int) < (m : Int) := by omega
      have HCK : Hid (∀ w2, Below W0.heap.size W0 w2 → Calls Tryz.prog 31 #[.agg #[.slice pa lp cp, .slice ca lc cc]] w2 fun e w' => e = .returned (.int .i64 (if netV lp P lc C then 0 else 2)) ∧ Below w2.heap.size w2 w') := Lib.hid fun w2 h => check_w pa ca lp cp lc cc P C w2 (by omega) (by omega) (HN.out _ h)
      have HFE : Hid (∀ w2, Below W0.heap.size W0 w2 → Calls Tryz.prog 23 #[.agg #[.slice pa lp cp, .slice ca lc cc], .slice sa m sc] w2 fun e w' => e = .returned (.tuple #[.int .i64 (if fedQ lp P lc C s m then wordV lp P lc C (opnF s m) else 0), .int .i64 (if fedQ lp P lc C s m then 0 else 2)]) ∧ Below w2.heap.size w2 w') := Lib.hid fun w2 h => fed_w pa ca sa lp cp lc cc m sc P C s w2 (by omega) (by omega) (by omega) (HN.out _ h) (HOS.out _ h)
      have H1 : Hid (∀ w2, Below W0.heap.size W0 w2 → Calls Tryz.prog 18 #[.agg #[.slice pa lp cp, .slice ca lc cc]] w2 fun e w' => e = .returned (.bool (netV lp P lc C)) ∧ Below w2.heap.size w2 w') := Lib.hid fun w2 h => rnet_w pa ca lp cp lc cc P C w2 (by omega) (by omega) (HN.out _ h)
      have H2 : Hid (∀ w2, Below W0.heap.size W0 w2 → Calls Tryz.prog 19 #[.agg #[.slice pa lp cp, .slice ca lc cc], .slice sa m sc] w2 fun e w' => e = .returned (.bool (gatsB lc C s m)) ∧ Below w2.heap.size w2 w') := Lib.hid fun w2 h => rsome_w pa ca sa lp cp lc cc m sc P C s w2 (by omega) (by omega) (HN.out _ h) (HOS.out _ h)
      obtain ⟨q1, hq1⟩ : ∃ q, netV lp P lc C = q := ⟨_, rfl⟩
      obtain ⟨q2, hq2⟩ : ∃ q, gatsB lc C s m = q := ⟨_, rfl⟩
      have HQ1 := Lib.hid hq1
      have HQ2 := Lib.hid hq2
      have HQ : Hid (fedQ lp P lc C s m = (q1 && q2)) := Lib.hid (by rw [← hq1, ← hq2]; rfl)
      rw [HQ.out] at HFE
      rw [hq1] at H1 HCK
      rw [hq2] at H2
      clear hq1 hq2 HQ
      cases q1 with
      | false =>
        simp only [Bool.false_and, Bool.false_eq_true, if_false] at HFE HCK
        go_enter Tryz.func7, Tryz.ntmps7
        go_wp2_with (first
          | (go_at_call 15; rw [← hW0]; refine HSH.out.mono ?_; rintro e w5 ⟨rfl, hv⟩; clear hW0 f0 f1; have HV5 := Lib.hid hv; obtain ⟨g0, g1⟩ := HF.out _ hv; clear hv)
          | (go_at_call 31; refine (HCK.out _ HV5.out).mono ?_; rintro e w6 ⟨rfl, hv⟩; have HV6 := Lib.hid (HV5.out.trans (hv.mono HV5.out.size)); clear hv g0 g1; obtain ⟨g0, g1⟩ := HF.out _ HV6.out)
          | (go_at_call 23; refine (HFE.out _ HV6.out).mono ?_; rintro e w7 ⟨rfl, hv⟩; have HV7 := Lib.hid (HV6.out.trans (hv.mono HV6.out.size)); clear hv g0 g1; obtain ⟨g0, g1⟩ := HF.out _ HV7.out)
          | (go_at_call 18; have hB := A1.out; clear hB A1; refine (H1.out _ HV7.out).mono ?_; rintro e w8 ⟨rfl, hv⟩; have HV8 := Lib.hid (HV7.out.trans (hv.mono HV7.out.size)); clear hv g0 g1; obtain ⟨g0, g1⟩ := HF.out _ HV8.out)
          | (go_at_call 18; refine (H1.out _ HV8.out).mono ?_; rintro e w9 ⟨rfl, hv⟩; have HV9 := Lib.hid (HV8.out.trans (hv.mono HV8.out.size)); clear hv g0 g1; obtain ⟨g0, g1⟩ := HF.out _ HV9.out)
          | (go_at_call 16; refine (HKN.out _ HV9.out).mono ?_; rintro e w16 ⟨rfl, hv⟩; have HV16 := Lib.hid (HV9.out.trans (hv.mono HV9.out.size)); clear hv))
        go_ret
        exact ⟨rfl, HA.out.trans (HV16.out.mono HA.out.size)⟩
      | true =>
        simp only [if_true] at HCK
        cases q2 with
        | false =>
          simp only [Bool.and_false, Bool.false_eq_true, if_false] at HFE
          go_enter Tryz.func7, Tryz.ntmps7
          go_wp2_with (first
            | (go_at_call 15; rw [← hW0]; refine HSH.out.mono ?_; rintro e w5 ⟨rfl, hv⟩; clear hW0 f0 f1; have HV5 := Lib.hid hv; obtain ⟨g0, g1⟩ := HF.out _ hv; clear hv)
            | (go_at_call 31; refine (HCK.out _ HV5.out).mono ?_; rintro e w6 ⟨rfl, hv⟩; have HV6 := Lib.hid (HV5.out.trans (hv.mono HV5.out.size)); clear hv g0 g1; obtain ⟨g0, g1⟩ := HF.out _ HV6.out)
            | (go_at_call 23; refine (HFE.out _ HV6.out).mono ?_; rintro e w7 ⟨rfl, hv⟩; have HV7 := Lib.hid (HV6.out.trans (hv.mono HV6.out.size)); clear hv g0 g1; obtain ⟨g0, g1⟩ := HF.out _ HV7.out)
            | (go_at_call 18; have hB := A1.out; clear hB A1; refine (H1.out _ HV7.out).mono ?_; rintro e w8 ⟨rfl, hv⟩; have HV8 := Lib.hid (HV7.out.trans (hv.mono HV7.out.size)); clear hv g0 g1; obtain ⟨g0, g1⟩ := HF.out _ HV8.out)
            | (go_at_call 18; refine (H1.out _ HV8.out).mono ?_; rintro e w9 ⟨rfl, hv⟩; have HV9 := Lib.hid (HV8.out.trans (hv.mono HV8.out.size)); clear hv g0 g1; obtain ⟨g0, g1⟩ := HF.out _ HV9.out)
            | (go_at_call 19; refine (H2.out _ HV9.out).mono ?_; rintro e w10 ⟨rfl, hv⟩; have HV10 := Lib.hid (HV9.out.trans (hv.mono HV9.out.size)); clear hv g0 g1; obtain ⟨g0, g1⟩ := HF.out _ HV10.out)
            | (go_at_call 16; refine (HKN.out _ HV10.out).mono ?_; rintro e w16 ⟨rfl, hv⟩; have HV16 := Lib.hid (HV10.out.trans (hv.mono HV10.out.size)); clear hv))
          go_ret
          exact ⟨rfl, HA.out.trans (HV16.out.mono HA.out.size)⟩
        | true =>
          simp only [Bool.and_true, if_true] at HFE
          have HP := Lib.hid (netV_iff.1 HQ1.out)
          have H4 : Hid (∀ w2, Below W0.heap.size W0 w2 → Calls Tryz.prog 32 #[.agg #[.slice pa lp cp, .slice ca lc cc], .slice sa m sc] w2 fun e w' => e = .returned (.int .i64 (wordV lp P lc C (opnF s m))) ∧ Below w2.heap.size w2 w') := Lib.hid fun w2 h => rfed_w pa ca sa lp cp lc cc m sc P C s w2 HP HQ2 (by omega) (HN.out _ h) (HOS.out _ h)
          obtain ⟨v, hv⟩ : ∃ v, wordV lp P lc C (opnF s m) = v := ⟨_, rfl⟩
          rw [hv] at H4 HFE
          have q0 : (v == v) = true := by simp
          clear hv
          go_enter Tryz.func7, Tryz.ntmps7
          go_wp2_with (first
            | (go_at_call 15; rw [← hW0]; refine HSH.out.mono ?_; rintro e w5 ⟨rfl, hv⟩; clear hW0 f0 f1; have HV5 := Lib.hid hv; obtain ⟨g0, g1⟩ := HF.out _ hv; clear hv)
            | (go_at_call 31; refine (HCK.out _ HV5.out).mono ?_; rintro e w6 ⟨rfl, hv⟩; have HV6 := Lib.hid (HV5.out.trans (hv.mono HV5.out.size)); clear hv g0 g1; obtain ⟨g0, g1⟩ := HF.out _ HV6.out)
            | (go_at_call 23; refine (HFE.out _ HV6.out).mono ?_; rintro e w7 ⟨rfl, hv⟩; have HV7 := Lib.hid (HV6.out.trans (hv.mono HV6.out.size)); clear hv g0 g1; obtain ⟨g0, g1⟩ := HF.out _ HV7.out)
            | (go_at_call 18; have hB := A1.out; clear hB A1; refine (H1.out _ HV7.out).mono ?_; rintro e w8 ⟨rfl, hv⟩; have HV8 := Lib.hid (HV7.out.trans (hv.mono HV7.out.size)); clear hv g0 g1; obtain ⟨g0, g1⟩ := HF.out _ HV8.out)
            | (go_at_call 18; refine (H1.out _ HV8.out).mono ?_; rintro e w9 ⟨rfl, hv⟩; have HV9 := Lib.hid (HV8.out.trans (hv.mono HV8.out.size)); clear hv g0 g1; obtain ⟨g0, g1⟩ := HF.out _ HV9.out)
            | (go_at_call 19; refine (H2.out _ HV9.out).mono ?_; rintro e w10 ⟨rfl, hv⟩; have HV10 := Lib.hid (HV9.out.trans (hv.mono HV9.out.size)); clear hv g0 g1; obtain ⟨g0, g1⟩ := HF.out _ HV10.out)
            | (go_at_call 32; refine (H4.out _ HV10.out).mono ?_; rintro e w11 ⟨rfl, hv⟩; have HV11 := Lib.hid (HV10.out.trans (hv.mono HV10.out.size)); clear hv)
            | (go_at_call 16; refine (HKN.out _ HV11.out).mono ?_; rintro e w16 ⟨rfl, hv⟩; have HV16 := Lib.hid (HV11.out.trans (hv.mono HV11.out.size)); clear hv))
          go_ret
          exact ⟨rfl, HA.out.trans (HV16.out.mono HA.out.size)⟩
end Go.Kn
