/- Contracts of functions that the laws of this seat call, or the evaluator of closed calls and its runs. Conditions: as each theorem states them. -/
import Derived.Test.YtddlghdglknloaaGreatDoorO1A
import Derived.Test.YtddlghdglknloaaGreatDoorO1B
import Derived.Test.YtddlghdglknloaaGreatDoorP4L
import Derived.Test.YtddlghdglknloaaGreatDoorKN
set_option linter.unusedVariables false
set_option linter.unusedSimpArgs false
namespace Go.Kn
open Go Go.Proofs Go.RowKit

theorem lawlem_w (pa ca : Option Addr) (lp cp lc cc : Nat) (P : Nat → P8) (C : Nat → C8) (sa ta oa : Option Addr) (m sc n tc q oc : Nat) (s t u : Nat → Int) (x3 x5 : Int) (w : World) (hrb : rgB lp P lc C s m = true) (hn : n ≤ 10) (hq10 : q ≤ 10) (X p ch : Nat) (hX : X < lc) (hxg : (C X).ga = true) (hp : p < lp) (hch : ch < lc) (hx3 : 0 ≤ x3 ∧ x3 ≤ 10000) (hx5 : 0 ≤ x5 ∧ x5 ≤ (P p).nd) (hq2 : gatsB lc C t n = true) (hq3 : gatsB lc C u q = true) (H : Hid (Ne8 w pa ca lp lc P C)) (HO : Hid (IntSl w sa m s)) (hml : m ≤ maxLen) (HT : Hid (IntSl w ta n t)) (hnl : n ≤ maxLen) (HU : Hid (IntSl w oa q u)) (hql : q ≤ maxLen) (K : Hid KnownOk) (hpw : Hid (Pw w)) :
    Calls Tryz.prog 14 #[.agg #[.slice pa lp cp, .slice ca lc cc], .slice sa m sc, .int .i64 (X : Int), .int .i64 (ch : Int), .int .i64 x3, .int .i64 (p : Int), .int .i64 x5, .slice ta n tc, .slice oa q oc] w fun e w' => e = .returned (.bool true) ∧ Below w.heap.size w w' := by
  cases hbx : anyB s (X : Int) m with
  | false => exact lawlem0_w pa ca lp cp lc cc P C sa ta oa m sc n tc q oc s t u x3 x5 w hrb hn hq10 X p ch hX hbx hxg hp hch hx3 hx5 hq2 hq3 H HO hml HT hnl HU hql K hpw
  | true => exact lawlem1_w pa ca lp cp lc cc P C sa ta oa m sc n tc q oc s t u x3 x5 w hrb hn hq10 X p ch hX hbx hxg hp hch hx3 hx5 hq2 hq3 H HO hml HT hnl HU hql K hpw
end Go.Kn

namespace Go.Kn
open Go Go.Proofs Go.RowKit

set_option maxRecDepth 100000 in
set_option maxHeartbeats 6000000 in
theorem lawle_w (pa ca : Option Addr) (lp cp lc cc : Nat) (P : Nat → P8) (C : Nat → C8) (sa ta oa : Option Addr) (m sc n tc q oc : Nat) (s t u : Nat → Int) (x1 x2 x3 x4 x5 : Int) (w : World) (H : Hid (Ne8 w pa ca lp lc P C)) (HO : Hid (IntSl w sa m s)) (hml : m ≤ maxLen) (HT : Hid (IntSl w ta n t)) (hnl : n ≤ maxLen) (HU : Hid (IntSl w oa q u)) (hql : q ≤ maxLen) (K : Hid KnownOk) (hpw : Hid (Pw w)) :
    Calls Tryz.prog 14 #[.agg #[.slice pa lp cp, .slice ca lc cc], .slice sa m sc, .int .i64 x1, .int .i64 x2, .int .i64 x3, .int .i64 x4, .int .i64 x5, .slice ta n tc, .slice oa q oc] w fun e w' => e = .returned (.bool true) ∧ Below w.heap.size w w' := by
  by_cases hall : rgB lp P lc C s m = true ∧ n ≤ 10 ∧ q ≤ 10 ∧ gatB lc C x1 = true ∧ 0 ≤ x2 ∧ x2 < (lc : Int) ∧ (0 ≤ x3 ∧ x3 ≤ 10000) ∧ fromB 0 ((lp : Int) - 1) x4 = true ∧ (0 ≤ x5 ∧ x5 ≤ (P x4.toNat).nd) ∧ gatsB lc C t n = true ∧ gatsB lc C u q = true
  case pos =>
    obtain ⟨h1, h2, h3, h4, h5, h6, h7, h8, h9, h10, h11⟩ := hall
    obtain ⟨hx0, hx1⟩ := gatB_bd h4
    have hxg : (C x1.toNat).ga = true := by unfold gatB at h4; rw [Bool.and_eq_true] at h4; exact h4.2
    have hx4 : 0 ≤ x4 ∧ x4 ≤ (lp : Int) - 1 := by simpa [fromB] using h8
    obtain ⟨X, rfl⟩ : ∃ X : Nat, x1 = (X : Int) := ⟨x1.toNat, by omega⟩
    obtain ⟨p, rfl⟩ : ∃ p : Nat, x4 = (p : Int) := ⟨x4.toNat, by omega⟩
    obtain ⟨ch, rfl⟩ : ∃ c : Nat, x2 = (c : Int) := ⟨x2.toNat, by omega⟩
    rw [Int.toNat_natCast] at hxg h9
    exact lawlem_w pa ca lp cp lc cc P C sa ta oa m sc n tc q oc s t u x3 x5 w h1 h2 h3 X p ch (by omega) hxg (by omega) (by omega) h7 h9 h10 h11 H HO hml HT hnl HU hql K hpw
  case neg =>
  obtain ⟨W0, hW0⟩ : ∃ W0, W0 = w.alloc (.cells #[.slice pa lp cp, .slice ca lc cc] 25) := ⟨_, rfl⟩
  have hA : Below w.heap.size w W0 := by rw [hW0]; exact (Below.refl _ _).alloc (Nat.le_refl _) _
  have HF : Hid (∀ w2, Below W0.heap.size W0 w2 → w2.cell? ⟨w.heap.size, 0, none⟩ = some (.slice pa lp cp) ∧ w2.cell? ⟨w.heap.size, 1, none⟩ = some (.slice ca lc cc)) := Lib.hid fun w2 h => by
    rw [hW0] at h
    exact ⟨(box_cells h).1, (box_cells h).2.1⟩
  have HN : Hid (∀ w2, Below W0.heap.size W0 w2 → Hid (Ne8 w2 pa ca lp lc P C)) := Lib.hid fun w2 h => Lib.hid (H.out.below (hA.trans (h.mono hA.size)))
  have HOS : Hid (∀ w2, Below W0.heap.size W0 w2 → Hid (IntSl w2 sa m s)) := Lib.hid fun w2 h => Lib.hid (HO.out.below (hA.trans (h.mono hA.size)))
  have HTS : Hid (∀ w2, Below W0.heap.size W0 w2 → Hid (IntSl w2 ta n t)) := Lib.hid fun w2 h => Lib.hid (HT.out.below (hA.trans (h.mono hA.size)))
  have HUS : Hid (∀ w2, Below W0.heap.size W0 w2 → Hid (IntSl w2 oa q u)) := Lib.hid fun w2 h => Lib.hid (HU.out.below (hA.trans (h.mono hA.size)))
  have HKN : Hid (∀ w2, Below W0.heap.size W0 w2 → Calls Tryz.prog 16 #[] w2 fun e w' => e = .returned (.bool true) ∧ Below w2.heap.size w2 w') := Lib.hid fun w2 h => K.out w2 (hpw.out.on (hA.trans (h.mono hA.size)))
  have HSH : Hid (∀ w2, Below W0.heap.size W0 w2 → Calls Tryz.prog 15 #[.agg #[.slice pa lp cp, .slice ca lc cc]] w2 fun e w' => e = .returned (.bool (decide (lp ≤ 9 ∧ lc ≤ 13))) ∧ Below w2.heap.size w2 w') := Lib.hid fun w2 h => short_w pa ca lp cp lc cc w2
  have HRI : Hid (∀ w2, Below W0.heap.size W0 w2 → Calls Tryz.prog 22 #[.agg #[.slice pa lp cp, .slice ca lc cc], .slice sa m sc] w2 fun e w' => e = .returned (.bool (rgB lp P lc C s m)) ∧ Below w2.heap.size w2 w') := Lib.hid fun w2 h => right_b pa ca sa lp cp lc cc m sc P C s w2 hml (HN.out _ h) (HOS.out _ h)
  have HA := Lib.hid hA
  have HV : Hid (Below W0.heap.size W0 W0) := Lib.hid (Below.refl _ _)
  obtain ⟨g0, g1⟩ := HF.out _ (Below.refl _ _)
  rw [hW0] at g0 g1
  clear hA H HO HT HU
  have M1 := Lib.hid True.intro
  have M2 := Lib.hid True.intro
  have M3 := Lib.hid True.intro
  cases hrb : rgB lp P lc C s m with
  | false =>
    rw [hrb] at HRI
    clear hrb hall
    go_enter Tryz.func14, Tryz.ntmps14
    go_wp2_with (first
      | (go_at_call 22; (try rw [← hW0]); refine (HRI.out _ HV.out).mono ?_; rintro e w5 ⟨rfl, hv⟩; (try clear hW0); replace HV := Lib.hid (HV.out.trans (hv.mono HV.out.size)); clear hv g0 g1; obtain ⟨g0, g1⟩ := HF.out _ HV.out)
      | (go_at_call 16; (try rw [← hW0]); refine (HKN.out _ HV.out).mono ?_; rintro e w5 ⟨rfl, hv⟩; (try clear hW0); replace HV := Lib.hid (HV.out.trans (hv.mono HV.out.size)); clear hv g0 g1; obtain ⟨g0, g1⟩ := HF.out _ HV.out))
    go_ret
    exact ⟨rfl, HA.out.trans (HV.out.mono HA.out.size)⟩
  | true =>
  rw [hrb] at HRI
  obtain ⟨hs1, hs2, hm, hnv, hgs⟩ := rgB_t hrb
  have HALL := Lib.hid hall
  have HRB := Lib.hid hrb
  clear hrb hall
  have HG := Lib.hid hgs
  have HP := Lib.hid (netV_iff.1 hnv)
  clear hnv hgs
  by_cases hn : n ≤ 10
  case neg =>
    have n1 : (10 : Int) < (n : Int) := by omega
    go_enter Tryz.func14, Tryz.ntmps14
    go_wp2_with (first
      | (go_at_call 22; (try rw [← hW0]); refine (HRI.out _ HV.out).mono ?_; rintro e w5 ⟨rfl, hv⟩; (try clear hW0); replace HV := Lib.hid (HV.out.trans (hv.mono HV.out.size)); clear hv g0 g1; obtain ⟨g0, g1⟩ := HF.out _ HV.out)
      | (go_at_call 16; (try rw [← hW0]); refine (HKN.out _ HV.out).mono ?_; rintro e w5 ⟨rfl, hv⟩; (try clear hW0); replace HV := Lib.hid (HV.out.trans (hv.mono HV.out.size)); clear hv g0 g1; obtain ⟨g0, g1⟩ := HF.out _ HV.out))
    go_ret
    exact ⟨rfl, HA.out.trans (HV.out.mono HA.out.size)⟩
  case pos =>
  have n1 : ¬ (10 : Int) < (n : Int) := by omega
  by_cases hq10 : q ≤ 10
  case neg =>
    have n2 : (10 : Int) < (q : Int) := by omega
    go_enter Tryz.func14, Tryz.ntmps14
    go_wp2_with (first
      | (go_at_call 22; (try rw [← hW0]); refine (HRI.out _ HV.out).mono ?_; rintro e w5 ⟨rfl, hv⟩; (try clear hW0); replace HV := Lib.hid (HV.out.trans (hv.mono HV.out.size)); clear hv g0 g1; obtain ⟨g0, g1⟩ := HF.out _ HV.out)
      | (go_at_call 16; (try rw [← hW0]); refine (HKN.out _ HV.out).mono ?_; rintro e w5 ⟨rfl, hv⟩; (try clear hW0); replace HV := Lib.hid (HV.out.trans (hv.mono HV.out.size)); clear hv g0 g1; obtain ⟨g0, g1⟩ := HF.out _ HV.out))
    go_ret
    exact ⟨rfl, HA.out.trans (HV.out.mono HA.out.size)⟩
  case pos =>
  have n2 : ¬ (10 : Int) < (q : Int) := by omega
  have H47 : Hid (∀ w2, Below W0.heap.size W0 w2 → Calls Tryz.prog 47 #[.agg #[.slice pa lp cp, .slice ca lc cc], .int .i64 x1] w2 fun e w' => e = .returned (.bool (gatB lc C x1)) ∧ Below w2.heap.size w2 w') := Lib.hid fun w2 h => rgate_w pa ca lp cp lc cc P C x1 w2 (by omega) (HN.out _ h)
  cases hq4 : gatB lc C x1 with
  | false =>
    rw [hq4] at H47
    clear hq4
    go_enter Tryz.func14, Tryz.ntmps14
    go_wp2_with (first
      | (go_at_call 22; (try rw [← hW0]); refine (HRI.out _ HV.out).mono ?_; rintro e w5 ⟨rfl, hv⟩; (try clear hW0); replace HV := Lib.hid (HV.out.trans (hv.mono HV.out.size)); clear hv g0 g1; obtain ⟨g0, g1⟩ := HF.out _ HV.out)
      | (go_at_call 47; (try rw [← hW0]); refine (H47.out _ HV.out).mono ?_; rintro e w5 ⟨rfl, hv⟩; (try clear hW0); replace HV := Lib.hid (HV.out.trans (hv.mono HV.out.size)); clear hv g0 g1; obtain ⟨g0, g1⟩ := HF.out _ HV.out)
      | (go_at_call 16; (try rw [← hW0]); refine (HKN.out _ HV.out).mono ?_; rintro e w5 ⟨rfl, hv⟩; (try clear hW0); replace HV := Lib.hid (HV.out.trans (hv.mono HV.out.size)); clear hv g0 g1; obtain ⟨g0, g1⟩ := HF.out _ HV.out))
    go_ret
    exact ⟨rfl, HA.out.trans (HV.out.mono HA.out.size)⟩
  | true =>
  rw [hq4] at H47
  obtain ⟨hx0, hx1⟩ := gatB_bd hq4
  have hxg : (C x1.toNat).ga = true := by unfold gatB at hq4; rw [Bool.and_eq_true] at hq4; exact hq4.2
  obtain ⟨X, rfl⟩ : ∃ X : Nat, x1 = (X : Int) := ⟨x1.toNat, by omega⟩
  rw [Int.toNat_natCast] at hxg
  have hX : X < lc := by omega
  have HQ4 := Lib.hid hq4
  clear hq4 hx0 hx1
  by_cases hn3 : x2 < 0
  case pos =>
    have n3 : x2 < 0 := hn3
    clear hn3
    go_enter Tryz.func14, Tryz.ntmps14
    go_wp2_with (first
      | (go_at_call 22; (try rw [← hW0]); refine (HRI.out _ HV.out).mono ?_; rintro e w5 ⟨rfl, hv⟩; (try clear hW0); replace HV := Lib.hid (HV.out.trans (hv.mono HV.out.size)); clear hv g0 g1; obtain ⟨g0, g1⟩ := HF.out _ HV.out)
      | (go_at_call 47; (try rw [← hW0]); refine (H47.out _ HV.out).mono ?_; rintro e w5 ⟨rfl, hv⟩; (try clear hW0); replace HV := Lib.hid (HV.out.trans (hv.mono HV.out.size)); clear hv g0 g1; obtain ⟨g0, g1⟩ := HF.out _ HV.out)
      | (go_at_call 16; (try rw [← hW0]); refine (HKN.out _ HV.out).mono ?_; rintro e w5 ⟨rfl, hv⟩; (try clear hW0); replace HV := Lib.hid (HV.out.trans (hv.mono HV.out.size)); clear hv g0 g1; obtain ⟨g0, g1⟩ := HF.out _ HV.out))
    go_ret
    exact ⟨rfl, HA.out.trans (HV.out.mono HA.out.size)⟩
  case neg =>
  have n3 : ¬ x2 < 0 := hn3
  clear hn3
  by_cases hn4 : (lc : Int) ≤ x2
  case pos =>
    have n4 : (lc : Int) ≤ x2 := hn4
    clear hn4
    go_enter Tryz.func14, Tryz.ntmps14
    go_wp2_with (first
      | (go_at_call 22; (try rw [← hW0]); refine (HRI.out _ HV.out).mono ?_; rintro e w5 ⟨rfl, hv⟩; (try clear hW0); replace HV := Lib.hid (HV.out.trans (hv.mono HV.out.size)); clear hv g0 g1; obtain ⟨g0, g1⟩ := HF.out _ HV.out)
      | (go_at_call 47; (try rw [← hW0]); refine (H47.out _ HV.out).mono ?_; rintro e w5 ⟨rfl, hv⟩; (try clear hW0); replace HV := Lib.hid (HV.out.trans (hv.mono HV.out.size)); clear hv g0 g1; obtain ⟨g0, g1⟩ := HF.out _ HV.out)
      | (go_at_call 16; (try rw [← hW0]); refine (HKN.out _ HV.out).mono ?_; rintro e w5 ⟨rfl, hv⟩; (try clear hW0); replace HV := Lib.hid (HV.out.trans (hv.mono HV.out.size)); clear hv g0 g1; obtain ⟨g0, g1⟩ := HF.out _ HV.out))
    go_ret
    exact ⟨rfl, HA.out.trans (HV.out.mono HA.out.size)⟩
  case neg =>
  have n4 : ¬ (lc : Int) ≤ x2 := hn4
  clear hn4
  by_cases hn5 : x3 < 0
  case pos =>
    have n5 : x3 < 0 := hn5
    clear hn5
    go_enter Tryz.func14, Tryz.ntmps14
    go_wp2_with (first
      | (go_at_call 22; (try rw [← hW0]); refine (HRI.out _ HV.out).mono ?_; rintro e w5 ⟨rfl, hv⟩; (try clear hW0); replace HV := Lib.hid (HV.out.trans (hv.mono HV.out.size)); clear hv g0 g1; obtain ⟨g0, g1⟩ := HF.out _ HV.out)
      | (go_at_call 47; (try rw [← hW0]); refine (H47.out _ HV.out).mono ?_; rintro e w5 ⟨rfl, hv⟩; (try clear hW0); replace HV := Lib.hid (HV.out.trans (hv.mono HV.out.size)); clear hv g0 g1; obtain ⟨g0, g1⟩ := HF.out _ HV.out)
      | (go_at_call 16; (try rw [← hW0]); refine (HKN.out _ HV.out).mono ?_; rintro e w5 ⟨rfl, hv⟩; (try clear hW0); replace HV := Lib.hid (HV.out.trans (hv.mono HV.out.size)); clear hv g0 g1; obtain ⟨g0, g1⟩ := HF.out _ HV.out))
    go_ret
    exact ⟨rfl, HA.out.trans (HV.out.mono HA.out.size)⟩
  case neg =>
  have n5 : ¬ x3 < 0 := hn5
  clear hn5
  by_cases hn6 : 10000 < x3
  case pos =>
    have n6 : 10000 < x3 := hn6
    clear hn6
    go_enter Tryz.func14, Tryz.ntmps14
    go_wp2_with (first
      | (go_at_call 22; (try rw [← hW0]); refine (HRI.out _ HV.out).mono ?_; rintro e w5 ⟨rfl, hv⟩; (try clear hW0); replace HV := Lib.hid (HV.out.trans (hv.mono HV.out.size)); clear hv g0 g1; obtain ⟨g0, g1⟩ := HF.out _ HV.out)
      | (go_at_call 47; (try rw [← hW0]); refine (H47.out _ HV.out).mono ?_; rintro e w5 ⟨rfl, hv⟩; (try clear hW0); replace HV := Lib.hid (HV.out.trans (hv.mono HV.out.size)); clear hv g0 g1; obtain ⟨g0, g1⟩ := HF.out _ HV.out)
      | (go_at_call 16; (try rw [← hW0]); refine (HKN.out _ HV.out).mono ?_; rintro e w5 ⟨rfl, hv⟩; (try clear hW0); replace HV := Lib.hid (HV.out.trans (hv.mono HV.out.size)); clear hv g0 g1; obtain ⟨g0, g1⟩ := HF.out _ HV.out))
    go_ret
    exact ⟨rfl, HA.out.trans (HV.out.mono HA.out.size)⟩
  case neg =>
  have n6 : ¬ 10000 < x3 := hn6
  clear hn6
  have H28 : Hid (∀ w2, Below W0.heap.size W0 w2 → Calls Tryz.prog 28 #[.agg #[.slice pa lp cp, .slice ca lc cc], .int .i64 x4] w2 fun e w' => e = .returned (.bool (fromB 0 ((lp : Int) - 1) x4)) ∧ Below w2.heap.size w2 w') := Lib.hid fun w2 h => rpoint_w pa ca lp cp lc cc x4 w2 (by omega)
  cases hq5 : fromB 0 ((lp : Int) - 1) x4 with
  | false =>
    rw [hq5] at H28
    clear hq5
    go_enter Tryz.func14, Tryz.ntmps14
    go_wp2_with (first
      | (go_at_call 22; (try rw [← hW0]); refine (HRI.out _ HV.out).mono ?_; rintro e w5 ⟨rfl, hv⟩; (try clear hW0); replace HV := Lib.hid (HV.out.trans (hv.mono HV.out.size)); clear hv g0 g1; obtain ⟨g0, g1⟩ := HF.out _ HV.out)
      | (go_at_call 47; (try rw [← hW0]); refine (H47.out _ HV.out).mono ?_; rintro e w5 ⟨rfl, hv⟩; (try clear hW0); replace HV := Lib.hid (HV.out.trans (hv.mono HV.out.size)); clear hv g0 g1; obtain ⟨g0, g1⟩ := HF.out _ HV.out)
      | (go_at_call 28; (try rw [← hW0]); refine (H28.out _ HV.out).mono ?_; rintro e w5 ⟨rfl, hv⟩; (try clear hW0); replace HV := Lib.hid (HV.out.trans (hv.mono HV.out.size)); clear hv g0 g1; obtain ⟨g0, g1⟩ := HF.out _ HV.out)
      | (go_at_call 16; (try rw [← hW0]); refine (HKN.out _ HV.out).mono ?_; rintro e w5 ⟨rfl, hv⟩; (try clear hW0); replace HV := Lib.hid (HV.out.trans (hv.mono HV.out.size)); clear hv g0 g1; obtain ⟨g0, g1⟩ := HF.out _ HV.out))
    go_ret
    exact ⟨rfl, HA.out.trans (HV.out.mono HA.out.size)⟩
  | true =>
  rw [hq5] at H28
  have hx4 : 0 ≤ x4 ∧ x4 ≤ (lp : Int) - 1 := by simpa [fromB] using hq5
  obtain ⟨p, rfl⟩ : ∃ p : Nat, x4 = (p : Int) := ⟨x4.toNat, by omega⟩
  have hp : p < lp := by omega
  obtain ⟨ch, rfl⟩ : ∃ c : Nat, x2 = (c : Int) := ⟨x2.toNat, by omega⟩
  have hch : ch < lc := by omega
  have HQ5 := Lib.hid hq5
  clear hq5 hx4
  obtain ⟨PA, PO, rfl, hPA, hPN⟩ := (HN.out _ (Below.refl _ _)).out.hp.resolve_left (by omega)
  obtain ⟨CA, CO, rfl, hCA, hCN⟩ := (HN.out _ (Below.refl _ _)).out.hc.resolve_left (by omega)
  have HND : Hid (∀ w2, Below W0.heap.size W0 w2 → w2.cell? ⟨PA, PO + p * 3 + 2, none⟩ = some (.int .i64 (P p).nd)) := Lib.hid fun w2 h => (hPN.below hPA h p hp).2.2
  have n7 : (0 : Int) ≤ (p : Int) := by omega
  have n8 : (p : Int) < (lp : Int) := by omega
  by_cases hn9 : x5 < 0
  case pos =>
    have n9 : x5 < 0 := hn9
    clear hn9
    go_enter Tryz.func14, Tryz.ntmps14
    go_wp2_with (first
      | (go_at_call 22; (try rw [← hW0]); refine (HRI.out _ HV.out).mono ?_; rintro e w5 ⟨rfl, hv⟩; (try clear hW0); replace HV := Lib.hid (HV.out.trans (hv.mono HV.out.size)); clear hv g0 g1; obtain ⟨g0, g1⟩ := HF.out _ HV.out)
      | (go_at_call 47; (try rw [← hW0]); refine (H47.out _ HV.out).mono ?_; rintro e w5 ⟨rfl, hv⟩; (try clear hW0); replace HV := Lib.hid (HV.out.trans (hv.mono HV.out.size)); clear hv g0 g1; obtain ⟨g0, g1⟩ := HF.out _ HV.out)
      | (go_at_call 28; (try rw [← hW0]); refine (H28.out _ HV.out).mono ?_; rintro e w5 ⟨rfl, hv⟩; (try clear hW0); replace HV := Lib.hid (HV.out.trans (hv.mono HV.out.size)); clear hv g0 g1; obtain ⟨g0, g1⟩ := HF.out _ HV.out)
      | (go_at_call 16; (try rw [← hW0]); refine (HKN.out _ HV.out).mono ?_; rintro e w5 ⟨rfl, hv⟩; (try clear hW0); replace HV := Lib.hid (HV.out.trans (hv.mono HV.out.size)); clear hv g0 g1; obtain ⟨g0, g1⟩ := HF.out _ HV.out))
    go_ret
    exact ⟨rfl, HA.out.trans (HV.out.mono HA.out.size)⟩
  case neg =>
  have n9 : ¬ x5 < 0 := hn9
  clear hn9
  by_cases hn10 : (P p).nd < x5
  case pos =>
    have n10 : (P p).nd < x5 := hn10
    clear hn10
    go_enter Tryz.func14, Tryz.ntmps14
    go_wp2_with (first
      | (go_at_call 22; (try rw [← hW0]); refine (HRI.out _ HV.out).mono ?_; rintro e w5 ⟨rfl, hv⟩; (try clear hW0); replace HV := Lib.hid (HV.out.trans (hv.mono HV.out.size)); clear hv g0 g1; obtain ⟨g0, g1⟩ := HF.out _ HV.out)
      | (go_at_call 47; (try rw [← hW0]); refine (H47.out _ HV.out).mono ?_; rintro e w5 ⟨rfl, hv⟩; (try clear hW0); replace HV := Lib.hid (HV.out.trans (hv.mono HV.out.size)); clear hv g0 g1; obtain ⟨g0, g1⟩ := HF.out _ HV.out)
      | (go_at_call 28; (try rw [← hW0]); refine (H28.out _ HV.out).mono ?_; rintro e w5 ⟨rfl, hv⟩; (try clear hW0); replace HV := Lib.hid (HV.out.trans (hv.mono HV.out.size)); clear hv g0 g1; obtain ⟨g0, g1⟩ := HF.out _ HV.out; have r5 := HND.out _ HV.out)
      | (go_at_call 16; (try rw [← hW0]); refine (HKN.out _ HV.out).mono ?_; rintro e w5 ⟨rfl, hv⟩; (try clear hW0); replace HV := Lib.hid (HV.out.trans (hv.mono HV.out.size)); clear hv g0 g1; obtain ⟨g0, g1⟩ := HF.out _ HV.out))
    go_ret
    exact ⟨rfl, HA.out.trans (HV.out.mono HA.out.size)⟩
  case neg =>
  have n10 : ¬ (P p).nd < x5 := hn10
  clear hn10
  have H2 : Hid (∀ w2, Below W0.heap.size W0 w2 → Calls Tryz.prog 19 #[.agg #[.slice (some ⟨PA, PO, none⟩) lp cp, .slice (some ⟨CA, CO, none⟩) lc cc], .slice ta n tc] w2 fun e w' => e = .returned (.bool (gatsB lc C t n)) ∧ Below w2.heap.size w2 w') := Lib.hid fun w2 h => rsome_w _ _ ta lp cp lc cc n tc P C t w2 (by omega) (by omega) (HN.out _ h) (HTS.out _ h)
  have H3 : Hid (∀ w2, Below W0.heap.size W0 w2 → Calls Tryz.prog 19 #[.agg #[.slice (some ⟨PA, PO, none⟩) lp cp, .slice (some ⟨CA, CO, none⟩) lc cc], .slice oa q oc] w2 fun e w' => e = .returned (.bool (gatsB lc C u q)) ∧ Below w2.heap.size w2 w') := Lib.hid fun w2 h => rsome_w _ _ oa lp cp lc cc q oc P C u w2 (by omega) (by omega) (HN.out _ h) (HUS.out _ h)
  cases hq2 : gatsB lc C t n with
  | false =>
    rw [hq2] at H2
    clear hq2
    go_enter Tryz.func14, Tryz.ntmps14
    go_wp2_with (first
      | (go_at_call 22; (try rw [← hW0]); refine (HRI.out _ HV.out).mono ?_; rintro e w5 ⟨rfl, hv⟩; (try clear hW0); replace HV := Lib.hid (HV.out.trans (hv.mono HV.out.size)); clear hv g0 g1; obtain ⟨g0, g1⟩ := HF.out _ HV.out)
      | (go_at_call 47; (try rw [← hW0]); refine (H47.out _ HV.out).mono ?_; rintro e w5 ⟨rfl, hv⟩; (try clear hW0); replace HV := Lib.hid (HV.out.trans (hv.mono HV.out.size)); clear hv g0 g1; obtain ⟨g0, g1⟩ := HF.out _ HV.out)
      | (go_at_call 28; (try rw [← hW0]); refine (H28.out _ HV.out).mono ?_; rintro e w5 ⟨rfl, hv⟩; (try clear hW0); replace HV := Lib.hid (HV.out.trans (hv.mono HV.out.size)); clear hv g0 g1; obtain ⟨g0, g1⟩ := HF.out _ HV.out; have r5 := HND.out _ HV.out)
      | (go_at_call 19; (try rw [← hW0]); refine (H2.out _ HV.out).mono ?_; rintro e w5 ⟨rfl, hv⟩; (try clear hW0); replace HV := Lib.hid (HV.out.trans (hv.mono HV.out.size)); clear hv g0 g1; obtain ⟨g0, g1⟩ := HF.out _ HV.out)
      | (go_at_call 16; (try rw [← hW0]); refine (HKN.out _ HV.out).mono ?_; rintro e w5 ⟨rfl, hv⟩; (try clear hW0); replace HV := Lib.hid (HV.out.trans (hv.mono HV.out.size)); clear hv g0 g1; obtain ⟨g0, g1⟩ := HF.out _ HV.out))
    go_ret
    exact ⟨rfl, HA.out.trans (HV.out.mono HA.out.size)⟩
  | true =>
  rw [hq2] at H2
  cases hq3 : gatsB lc C u q with
  | false =>
    rw [hq3] at H3
    clear hq2 hq3
    go_enter Tryz.func14, Tryz.ntmps14
    go_wp2_with (first
      | (go_at_call 22; (try rw [← hW0]); refine (HRI.out _ HV.out).mono ?_; rintro e w5 ⟨rfl, hv⟩; (try clear hW0); replace HV := Lib.hid (HV.out.trans (hv.mono HV.out.size)); clear hv g0 g1; obtain ⟨g0, g1⟩ := HF.out _ HV.out)
      | (go_at_call 47; (try rw [← hW0]); refine (H47.out _ HV.out).mono ?_; rintro e w5 ⟨rfl, hv⟩; (try clear hW0); replace HV := Lib.hid (HV.out.trans (hv.mono HV.out.size)); clear hv g0 g1; obtain ⟨g0, g1⟩ := HF.out _ HV.out)
      | (go_at_call 28; (try rw [← hW0]); refine (H28.out _ HV.out).mono ?_; rintro e w5 ⟨rfl, hv⟩; (try clear hW0); replace HV := Lib.hid (HV.out.trans (hv.mono HV.out.size)); clear hv g0 g1; obtain ⟨g0, g1⟩ := HF.out _ HV.out; have r5 := HND.out _ HV.out)
      | (go_at_call 19; have hB := M1.out; clear hB M1; (try rw [← hW0]); refine (H2.out _ HV.out).mono ?_; rintro e w5 ⟨rfl, hv⟩; (try clear hW0); replace HV := Lib.hid (HV.out.trans (hv.mono HV.out.size)); clear hv g0 g1; obtain ⟨g0, g1⟩ := HF.out _ HV.out)
      | (go_at_call 19; (try rw [← hW0]); refine (H3.out _ HV.out).mono ?_; rintro e w5 ⟨rfl, hv⟩; (try clear hW0); replace HV := Lib.hid (HV.out.trans (hv.mono HV.out.size)); clear hv g0 g1; obtain ⟨g0, g1⟩ := HF.out _ HV.out)
      | (go_at_call 16; (try rw [← hW0]); refine (HKN.out _ HV.out).mono ?_; rintro e w5 ⟨rfl, hv⟩; (try clear hW0); replace HV := Lib.hid (HV.out.trans (hv.mono HV.out.size)); clear hv g0 g1; obtain ⟨g0, g1⟩ := HF.out _ HV.out))
    go_ret
    exact ⟨rfl, HA.out.trans (HV.out.mono HA.out.size)⟩
  | true =>
  exact (HALL.out ⟨HRB.out, hn, hq10, HQ4.out, by omega, by omega, by omega, HQ5.out, by rw [Int.toNat_natCast]; omega, hq2, hq3⟩).elim
end Go.Kn
