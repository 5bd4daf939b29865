/- Contracts of functions that the laws of this seat call, or the evaluator of closed calls and its runs. Conditions: as each theorem states them. -/
import Derived.Test.YtddlghdglknloaaGreatDoorL4
import Derived.Test.YtddlghdglknloaaGreatDoorM6
import Derived.Test.YtddlghdglknloaaGreatDoorQ4
import Derived.Test.YtddlghdglknloaaGreatDoorP4
import Derived.Test.YtddlghdglknloaaGreatDoorKN
set_option linter.unusedVariables false
set_option linter.unusedSimpArgs false
namespace Go.Kn
open Go Go.Proofs Go.RowKit

theorem wordV_three {lp : Nat} {P : Nat → P8} {lc : Nat} {C : Nat → C8} {op : Nat → Bool} (h : fedV lp P lc C op false = true) : wordV lp P lc C op = 3 := by unfold wordV; rw [h]; rfl
theorem wordV_else {lp : Nat} {P : Nat → P8} {lc : Nat} {C : Nat → C8} {op : Nat → Bool} (h : fedV lp P lc C op false = false) : (wordV lp P lc C op == 3) = false := by unfold wordV; rw [h]; simp only [Bool.false_eq_true, if_false]; split <;> rfl
theorem fedq_w (pa ca sa : Option Addr) (lp cp lc cc m sc : Nat) (P : Nat → P8) (C : Nat → C8) (s : Nat → Int) (u : Int) (w : World) (HP : NetP lp P lc C) (HG : gatsB lc C s m = true) (hu : wordV lp P lc C (opnF s m) = u) (hm : m ≤ 1000000) (H : Hid (Ne8 w pa ca lp lc P C)) (HO : Hid (IntSl w sa m s)) :
    Calls Tryz.prog 23 #[.agg #[.slice pa lp cp, .slice ca lc cc], .slice sa m sc] w fun e w' => e = .returned (.tuple #[.int .i64 u, .int .i64 0]) ∧ Below w.heap.size w w' := by
  have hq : fedQ lp P lc C s m = true := by unfold fedQ; rw [netV_iff.2 HP, HG]; rfl
  have h := fed_w pa ca sa lp cp lc cc m sc P C s w (by have := HP.l7; omega) (by have := HP.c10; omega) hm H HO
  rw [hq, hu] at h
  simpa only [if_true] using h

def rgB (lp : Nat) (P : Nat → P8) (lc : Nat) (C : Nat → C8) (s : Nat → Int) (m : Nat) : Bool := decide (lp ≤ 9 ∧ lc ≤ 13) && (decide (m ≤ 10) && (netV lp P lc C && gatsB lc C s m))
theorem rgB_t {lp : Nat} {P : Nat → P8} {lc : Nat} {C : Nat → C8} {s : Nat → Int} {m : Nat} (h : rgB lp P lc C s m = true) : lp ≤ 9 ∧ lc ≤ 13 ∧ m ≤ 10 ∧ netV lp P lc C = true ∧ gatsB lc C s m = true := by
  simp only [rgB, Bool.and_eq_true, decide_eq_true_eq] at h
  exact ⟨h.1.1, h.1.2, h.2.1, h.2.2.1, h.2.2.2⟩

set_option maxRecDepth 100000 in
set_option maxHeartbeats 4000000 in
theorem right_b (pa ca sa : Option Addr) (lp cp lc cc m sc : Nat) (P : Nat → P8) (C : Nat → C8) (s : Nat → Int) (w : World) (hm : m ≤ maxLen) (H : Hid (Ne8 w pa ca lp lc P C)) (HO : Hid (IntSl w sa m s)) :
    Calls Tryz.prog 22 #[.agg #[.slice pa lp cp, .slice ca lc cc], .slice sa m sc] w fun e w' => e = .returned (.bool (rgB lp P lc C s m)) ∧ Below w.heap.size w w' := by
  obtain ⟨W0, hW0⟩ : ∃ W0, W0 = w.alloc (.cells #[.slice pa lp cp, .slice ca lc cc] 25) := ⟨_, rfl⟩
  have hA : Below w.heap.size w W0 := by rw [hW0]; exact (Below.refl _ _).alloc (Nat.le_refl _) _
  have HF : Hid (∀ w2, Below W0.heap.size W0 w2 → w2.cell? ⟨w.heap.size, 0, none⟩ = some (.slice pa lp cp) ∧ w2.cell? ⟨w.heap.size, 1, none⟩ = some (.slice ca lc cc)) := Lib.hid fun w2 h => by
    rw [hW0] at h
    exact ⟨(box_cells h).1, (box_cells h).2.1⟩
  have HN : Hid (∀ w2, Below W0.heap.size W0 w2 → Hid (Ne8 w2 pa ca lp lc P C)) := Lib.hid fun w2 h => Lib.hid (H.out.below (hA.trans (h.mono hA.size)))
  have HOS : Hid (∀ w2, Below W0.heap.size W0 w2 → Hid (IntSl w2 sa m s)) := Lib.hid fun w2 h => Lib.hid (HO.out.below (hA.trans (h.mono hA.size)))
  have HSH : Hid (Calls Tryz.prog 15 #[.agg #[.slice pa lp cp, .slice ca lc cc]] W0 fun e w' => e = .returned (.bool (decide (lp ≤ 9 ∧ lc ≤ 13))) ∧ Below W0.heap.size W0 w') := Lib.hid (short_w pa ca lp cp lc cc W0)
  have HA := Lib.hid hA
  obtain ⟨f0, f1⟩ := HF.out _ (Below.refl _ _)
  rw [hW0] at f0 f1
  clear hA H HO
  by_cases hsh : lp ≤ 9 ∧ lc ≤ 13
  case neg =>
    have hd : decide (lp ≤ 9 ∧ lc ≤ 13) = false := decide_eq_false hsh
    rw [hd] at HSH
    have hrb : rgB lp P lc C s m = false := by unfold rgB; rw [hd]; rfl
    rw [hrb]
    clear hd hsh hrb
    go_enter Tryz.func22, Tryz.ntmps22
    go_wp2_with (go_at_call 15; rw [← hW0]; refine HSH.out.mono ?_; rintro e w5 ⟨rfl, hv⟩)
    go_ret
    exact ⟨rfl, HA.out.trans (hv.mono HA.out.size)⟩
  case pos =>
    have hd : decide (lp ≤ 9 ∧ lc ≤ 13) = true := decide_eq_true hsh
    rw [hd] at HSH
    have hrg : rgB lp P lc C s m = (decide (m ≤ 10) && (netV lp P lc C && gatsB lc C s m)) := by unfold rgB; rw [hd]; rfl
    rw [hrg]
    clear hd hrg
    obtain ⟨hs1, hs2⟩ := hsh
    by_cases hm10 : m ≤ 10
    case neg =>
      have n1 : ¬ ((m : Int) ≤ 10) := by omega
      have hdm : decide (m ≤ 10) = false := decide_eq_false hm10
      rw [hdm, Bool.false_and]
      clear hdm
      go_enter Tryz.func22, Tryz.ntmps22
      go_wp2_with (go_at_call 15; rw [← hW0]; refine HSH.out.mono ?_; rintro e w5 ⟨rfl, hv⟩)
      go_ret
      exact ⟨rfl, HA.out.trans (hv.mono HA.out.size)⟩
    case pos =>
      have n1 : ((m : Int) ≤ 10) := by omega
      have hdm : decide (m ≤ 10) = true := decide_eq_true hm10
      rw [hdm, Bool.true_and]
      clear hdm
      have H1 : Hid (∀ w2, Below W0.heap.size W0 w2 → Calls Tryz.prog 18 #[.agg #[.slice pa lp cp, .slice ca lc cc]] w2 fun e w' => e = .returned (.bool (netV lp P lc C)) ∧ Below w2.heap.size w2 w') := Lib.hid fun w2 h => rnet_w pa ca lp cp lc cc P C w2 (by omega) (by omega) (HN.out _ h)
      have H2 : Hid (∀ w2, Below W0.heap.size W0 w2 → Calls Tryz.prog 19 #[.agg #[.slice pa lp cp, .slice ca lc cc], .slice sa m sc] w2 fun e w' => e = .returned (.bool (gatsB lc C s m)) ∧ Below w2.heap.size w2 w') := Lib.hid fun w2 h => rsome_w pa ca sa lp cp lc cc m sc P C s w2 (by omega) (by omega) (HN.out _ h) (HOS.out _ h)
      obtain ⟨q1, hq1⟩ : ∃ q, netV lp P lc C = q := ⟨_, rfl⟩
      obtain ⟨q2, hq2⟩ : ∃ q, gatsB lc C s m = q := ⟨_, rfl⟩
      rw [hq1] at H1
      rw [hq2] at H2
      rw [hq1, hq2]
      clear hq1 hq2
      cases q1 with
      | false =>
        rw [Bool.false_and]
        go_enter Tryz.func22, Tryz.ntmps22
        go_wp2_with (first
          | (go_at_call 15; rw [← hW0]; refine HSH.out.mono ?_; rintro e w5 ⟨rfl, hv⟩; clear hW0 f0 f1; have HV5 := Lib.hid hv; obtain ⟨g0, g1⟩ := HF.out _ hv; clear hv)
          | (go_at_call 18; refine (H1.out _ HV5.out).mono ?_; rintro e w6 ⟨rfl, hv⟩; have HV6 := Lib.hid (HV5.out.trans (hv.mono HV5.out.size)); clear hv))
        go_ret
        exact ⟨rfl, HA.out.trans (HV6.out.mono HA.out.size)⟩
      | true =>
        rw [Bool.true_and]
        go_enter Tryz.func22, Tryz.ntmps22
        go_wp2_with (first
          | (go_at_call 15; rw [← hW0]; refine HSH.out.mono ?_; rintro e w5 ⟨rfl, hv⟩; clear hW0 f0 f1; have HV5 := Lib.hid hv; obtain ⟨g0, g1⟩ := HF.out _ hv; clear hv)
          | (go_at_call 18; refine (H1.out _ HV5.out).mono ?_; rintro e w6 ⟨rfl, hv⟩; have HV6 := Lib.hid (HV5.out.trans (hv.mono HV5.out.size)); clear hv g0 g1; obtain ⟨g0, g1⟩ := HF.out _ HV6.out)
          | (go_at_call 19; refine (H2.out _ HV6.out).mono ?_; rintro e w7 ⟨rfl, hv⟩; have HV7 := Lib.hid (HV6.out.trans (hv.mono HV6.out.size)); clear hv))
        go_ret
        exact ⟨rfl, HA.out.trans (HV7.out.mono HA.out.size)⟩
end Go.Kn

namespace Go.Kn
open Go Go.Proofs Go.RowKit

/-- a gate more that is open never makes a network less fed -/
theorem fed_more {lp : Nat} {P : Nat → P8} {lc : Nat} {C : Nat → C8} {op op' : Nat → Bool} {b : Bool} (h : NetP lp P lc C) (hm : ∀ c, c < lc → (C c).ga = true → op c = true → op' c = true) (hf : fedV lp P lc C op b = true) : fedV lp P lc C op' b = true := by
  rw [fed_iff] at hf ⊢
  intro L hL
  have h1 := hf L hL
  unfold spareV at h1 ⊢
  have h2 : sumN (fun k => if inV C L k then carV C op k else 0) lc ≤ sumN (fun k => if inV C L k then carV C op' k else 0) lc := sumN_le fun i hi => by
    split
    · have hc := h.c hi
      unfold carV
      cases hg : (C i).ga with
      | false => simp
      | true =>
        cases ho : op i with
        | false => simp only [Bool.not_false, Bool.and_true, if_true]; split <;> omega
        | true => rw [hm i hi hg ho]; simp
    · exact Int.le_refl _
  omega
theorem clsB_iff {q : Nat → Bool} {t : Nat → Int} {n : Nat} : clsB q t n = true ↔ ∀ i, i < n → q (t i).toNat = false := by
  unfold clsB
  rw [allN_iff]
  constructor
  · intro h i hi; simpa using h i hi
  · intro h i hi; simpa using h i hi
theorem clsB_op' {lc : Nat} {C : Nat → C8} {op op' : Nat → Bool} {t : Nat → Int} {n : Nat} (h : EqO lc C op op') (ht : gatsB lc C t n = true) : clsB op t n = clsB op' t n := by
  unfold clsB
  refine allN_congr n fun i hi => ?_
  have := gatsB_inc ht i hi
  rw [h (t i).toNat (by omega) this.2.2.2]
theorem emF_at {lc : Nat} {C : Nat → C8} {t : Nat → Int} {n : Nat} (ht : gatsB lc C t n = true) {c : Nat} (hc : c < lc) (hg : (C c).ga = true) : emF lc C t n c = !anyB t (c : Int) n := by
  unfold emF
  rw [tog_any ht _ c n (Nat.le_refl _), opnF_any gatL_ok c _ (Nat.le_refl _), lgI_any]
  have : c ∈ gatL C lc := gatL_mem.2 ⟨hc, hg⟩
  simp [this]
/-- positions in which some gates are closed are within those in which all others are open -/
theorem cls_em {lp : Nat} {P : Nat → P8} {lc : Nat} {C : Nat → C8} {op : Nat → Bool} {t : Nat → Int} {n : Nat} (h : NetP lp P lc C) (ht : gatsB lc C t n = true) (hc : clsB op t n = true) (hf : fedV lp P lc C op false = true) : fedV lp P lc C (emF lc C t n) false = true := by
  refine fed_more h (fun c hcl hg ho => ?_) hf
  rw [emF_at ht hcl hg]
  cases hb : anyB t (c : Int) n with
  | false => rfl
  | true =>
    obtain ⟨i, hi, e⟩ := anyB_iff.1 hb
    have := clsB_iff.1 hc i hi
    rw [e, Int.toNat_natCast, ho] at this
    cases this
/-- there are moves just if the channels can be emptied -/
theorem mov_some {lp : Nat} {P : Nat → P8} {lc : Nat} {C : Nat → C8} {s t : Nat → Int} {m n : Nat} (h : NetP lp P lc C) (hs : gatsB lc C s m = true) (ht : gatsB lc C t n = true) : (movM lp P lc C s m t n).isSome = fedV lp P lc C (emF lc C t n) false := by
  rw [Bool.eq_iff_iff]
  constructor
  · intro h1
    obtain ⟨L, hL⟩ := Option.isSome_iff_exists.1 h1
    have h2 := ((bestF_is _ _).2 L hL).1
    unfold movB at h2
    rw [Bool.and_eq_true] at h2
    exact cls_em h ht h2.1 h2.2
  · intro hf
    obtain ⟨L, hLd⟩ : ∃ L, L = (gatL C lc).filter fun (c : Nat) => anyB s (c : Int) m != emF lc C t n c := ⟨_, rfl⟩
    have hsub : L.Sublist (gatL C lc) := by rw [hLd]; exact List.filter_sublist
    have he : EqO lc C (togF (opnF s m) (lgI L) L.length) (emF lc C t n) := fun c hc hg => by
      rw [tog_any (sub_ok hsub) _ c _ (Nat.le_refl _), opnF_any hs c _ (Nat.le_refl _), lgI_any]
      have h1 : decide (c ∈ L) = (anyB s (c : Int) m != emF lc C t n c) := by
        rw [Bool.eq_iff_iff, decide_eq_true_eq, hLd, List.mem_filter]
        have : c ∈ gatL C lc := gatL_mem.2 ⟨hc, hg⟩
        simp [this]
      rw [h1]
      cases anyB s (c : Int) m <;> cases emF lc C t n c <;> rfl
    cases hm : movM lp P lc C s m t n with
    | some x => rfl
    | none =>
      have h2 := best_none hm L hsub
      unfold movB at h2
      rw [clsB_op' he ht, fedV_op he, hf, Bool.and_true] at h2
      have h3 : clsB (emF lc C t n) t n = true := clsB_iff.2 fun i hi => by
        have hg := gatsB_inc ht i hi
        rw [emF_at ht (by omega) hg.2.2.2, show (((t i).toNat : Nat) : Int) = t i by omega, anyB_yes hi rfl]; rfl
      rw [h3] at h2; cases h2
end Go.Kn

namespace Go.Kn
open Go Go.Proofs Go.RowKit

theorem vit_mem {lp : Nat} {P : Nat → P8} {lc : Nat} {C : Nat → C8} {X : Nat} (hx : X < lc) (hg : (C X).ga = true) : anyB (lgI (vitL lp P lc C)) (X : Int) (vitL lp P lc C).length = !canV lp P lc C X := by
  rw [lgI_any, Bool.eq_iff_iff, decide_eq_true_eq]
  unfold vitL
  rw [List.mem_filter]
  have : X ∈ gatL C lc := gatL_mem.2 ⟨hx, hg⟩
  simp [this]

set_option maxRecDepth 100000 in
set_option maxHeartbeats 6000000 in
theorem lawpv_w (pa ca : Option Addr) (lp cp lc cc : Nat) (P : Nat → P8) (C : Nat → C8) (sa ta oa : Option Addr) (m sc n tc q oc : Nat) (s t u : Nat → Int) (x : Int) (w : World) (H : Hid (Ne8 w pa ca lp lc P C)) (HO : Hid (IntSl w sa m s)) (hml : m ≤ maxLen) (HT : Hid (IntSl w ta n t)) (hnl : n ≤ maxLen) (HU : Hid (IntSl w oa q u)) (hql : q ≤ maxLen) (K : Hid KnownOk) (hpw : Hid (Pw w)) :
    Calls Tryz.prog 13 #[.agg #[.slice pa lp cp, .slice ca lc cc], .slice sa m sc, .slice ta n tc, .slice oa q oc, .int .i64 x] w fun e w' => e = .returned (.bool true) ∧ Below w.heap.size w w' := by
  obtain ⟨W0, hW0⟩ : ∃ W0, W0 = w.alloc (.cells #[.slice pa lp cp, .slice ca lc cc] 25) := ⟨_, rfl⟩
  have hA : Below w.heap.size w W0 := by rw [hW0]; exact (Below.refl _ _).alloc (Nat.le_refl _) _
  have HF : Hid (∀ w2, Below W0.heap.size W0 w2 → w2.cell? ⟨w.heap.size, 0, none⟩ = some (.slice pa lp cp) ∧ w2.cell? ⟨w.heap.size, 1, none⟩ = some (.slice ca lc cc)) := Lib.hid fun w2 h => by
    rw [hW0] at h
    exact ⟨(box_cells h).1, (box_cells h).2.1⟩
  have HN : Hid (∀ w2, Below W0.heap.size W0 w2 → Hid (Ne8 w2 pa ca lp lc P C)) := Lib.hid fun w2 h => Lib.hid (H.out.below (hA.trans (h.mono hA.size)))
  have HOS : Hid (∀ w2, Below W0.heap.size W0 w2 → Hid (IntSl w2 sa m s)) := Lib.hid fun w2 h => Lib.hid (HO.out.below (hA.trans (h.mono hA.size)))
  have HTS : Hid (∀ w2, Below W0.heap.size W0 w2 → Hid (IntSl w2 ta n t)) := Lib.hid fun w2 h => Lib.hid (HT.out.below (hA.trans (h.mono hA.size)))
  have HUS : Hid (∀ w2, Below W0.heap.size W0 w2 → Hid (IntSl w2 oa q u)) := Lib.hid fun w2 h => Lib.hid (HU.out.below (hA.trans (h.mono hA.size)))
  have HKN : Hid (∀ w2, Below W0.heap.size W0 w2 → Calls Tryz.prog 16 #[] w2 fun e w' => e = .returned (.bool true) ∧ Below w2.heap.size w2 w') := Lib.hid fun w2 h => K.out w2 (hpw.out.on (hA.trans (h.mono hA.size)))
  have HSH : Hid (∀ w2, Below W0.heap.size W0 w2 → Calls Tryz.prog 15 #[.agg #[.slice pa lp cp, .slice ca lc cc]] w2 fun e w' => e = .returned (.bool (decide (lp ≤ 9 ∧ lc ≤ 13))) ∧ Below w2.heap.size w2 w') := Lib.hid fun w2 h => short_w pa ca lp cp lc cc w2
  have HRI : Hid (∀ w2, Below W0.heap.size W0 w2 → Calls Tryz.prog 22 #[.agg #[.slice pa lp cp, .slice ca lc cc], .slice sa m sc] w2 fun e w' => e = .returned (.bool (rgB lp P lc C s m)) ∧ Below w2.heap.size w2 w') := Lib.hid fun w2 h => right_b pa ca sa lp cp lc cc m sc P C s w2 hml (HN.out _ h) (HOS.out _ h)
  have HA := Lib.hid hA
  have HV : Hid (Below W0.heap.size W0 W0) := Lib.hid (Below.refl _ _)
  obtain ⟨g0, g1⟩ := HF.out _ (Below.refl _ _)
  rw [hW0] at g0 g1
  clear hA H HO HT HU
  have M1 := Lib.hid True.intro
  have M2 := Lib.hid True.intro
  cases hrb : rgB lp P lc C s m with
  | false =>
    rw [hrb] at HRI
    clear hrb
    go_enter Tryz.func13, Tryz.ntmps13
    go_wp2_with (first
      | (go_at_call 22; (try rw [← hW0]); refine (HRI.out _ HV.out).mono ?_; rintro e w5 ⟨rfl, hv⟩; (try clear hW0); replace HV := Lib.hid (HV.out.trans (hv.mono HV.out.size)); clear hv g0 g1; obtain ⟨g0, g1⟩ := HF.out _ HV.out)
      | (go_at_call 16; (try rw [← hW0]); refine (HKN.out _ HV.out).mono ?_; rintro e w5 ⟨rfl, hv⟩; (try clear hW0); replace HV := Lib.hid (HV.out.trans (hv.mono HV.out.size)); clear hv g0 g1; obtain ⟨g0, g1⟩ := HF.out _ HV.out))
    go_ret
    exact ⟨rfl, HA.out.trans (HV.out.mono HA.out.size)⟩
  | true =>
    rw [hrb] at HRI
    obtain ⟨hs1, hs2, hm, hnv, hgs⟩ := rgB_t hrb
    clear hrb
    have HG := Lib.hid hgs
    have HP := Lib.hid (netV_iff.1 hnv)
    clear hnv hgs
    by_cases hn : n ≤ 10
    case neg =>
      have n1 : (10 : Int) < (n : Int) := by omega
      go_enter Tryz.func13, Tryz.ntmps13
      go_wp2_with (first
        | (go_at_call 22; (try rw [← hW0]); refine (HRI.out _ HV.out).mono ?_; rintro e w5 ⟨rfl, hv⟩; (try clear hW0); replace HV := Lib.hid (HV.out.trans (hv.mono HV.out.size)); clear hv g0 g1; obtain ⟨g0, g1⟩ := HF.out _ HV.out)
        | (go_at_call 16; (try rw [← hW0]); refine (HKN.out _ HV.out).mono ?_; rintro e w5 ⟨rfl, hv⟩; (try clear hW0); replace HV := Lib.hid (HV.out.trans (hv.mono HV.out.size)); clear hv g0 g1; obtain ⟨g0, g1⟩ := HF.out _ HV.out))
      go_ret
      exact ⟨rfl, HA.out.trans (HV.out.mono HA.out.size)⟩
    case pos =>
    have n1 : ¬ (10 : Int) < (n : Int) := by omega
    by_cases hq10 : q ≤ 10
    case neg =>
      have n2 : (10 : Int) < (q : Int) := by omega
      go_enter Tryz.func13, Tryz.ntmps13
      go_wp2_with (first
        | (go_at_call 22; (try rw [← hW0]); refine (HRI.out _ HV.out).mono ?_; rintro e w5 ⟨rfl, hv⟩; (try clear hW0); replace HV := Lib.hid (HV.out.trans (hv.mono HV.out.size)); clear hv g0 g1; obtain ⟨g0, g1⟩ := HF.out _ HV.out)
        | (go_at_call 16; (try rw [← hW0]); refine (HKN.out _ HV.out).mono ?_; rintro e w5 ⟨rfl, hv⟩; (try clear hW0); replace HV := Lib.hid (HV.out.trans (hv.mono HV.out.size)); clear hv g0 g1; obtain ⟨g0, g1⟩ := HF.out _ HV.out))
      go_ret
      exact ⟨rfl, HA.out.trans (HV.out.mono HA.out.size)⟩
    case pos =>
      have n2 : ¬ (10 : Int) < (q : Int) := by omega
      have H2 : Hid (∀ w2, Below W0.heap.size W0 w2 → Calls Tryz.prog 19 #[.agg #[.slice pa lp cp, .slice ca lc cc], .slice ta n tc] w2 fun e w' => e = .returned (.bool (gatsB lc C t n)) ∧ Below w2.heap.size w2 w') := Lib.hid fun w2 h => rsome_w pa ca ta lp cp lc cc n tc P C t w2 (by omega) (by omega) (HN.out _ h) (HTS.out _ h)
      have H3 : Hid (∀ w2, Below W0.heap.size W0 w2 → Calls Tryz.prog 19 #[.agg #[.slice pa lp cp, .slice ca lc cc], .slice oa q oc] w2 fun e w' => e = .returned (.bool (gatsB lc C u q)) ∧ Below w2.heap.size w2 w') := Lib.hid fun w2 h => rsome_w pa ca oa lp cp lc cc q oc P C u w2 (by omega) (by omega) (HN.out _ h) (HUS.out _ h)
      have H4 : Hid (∀ w2, Below W0.heap.size W0 w2 → Calls Tryz.prog 47 #[.agg #[.slice pa lp cp, .slice ca lc cc], .int .i64 x] w2 fun e w' => e = .returned (.bool (gatB lc C x)) ∧ Below w2.heap.size w2 w') := Lib.hid fun w2 h => rgate_w pa ca lp cp lc cc P C x w2 (by omega) (HN.out _ h)
      cases hq2 : gatsB lc C t n with
      | false =>
        rw [hq2] at H2
        clear hq2
        go_enter Tryz.func13, Tryz.ntmps13
        go_wp2_with (first
          | (go_at_call 22; (try rw [← hW0]); refine (HRI.out _ HV.out).mono ?_; rintro e w5 ⟨rfl, hv⟩; (try clear hW0); replace HV := Lib.hid (HV.out.trans (hv.mono HV.out.size)); clear hv g0 g1; obtain ⟨g0, g1⟩ := HF.out _ HV.out)
          | (go_at_call 19; (try rw [← hW0]); refine (H2.out _ HV.out).mono ?_; rintro e w5 ⟨rfl, hv⟩; (try clear hW0); replace HV := Lib.hid (HV.out.trans (hv.mono HV.out.size)); clear hv g0 g1; obtain ⟨g0, g1⟩ := HF.out _ HV.out)
          | (go_at_call 16; (try rw [← hW0]); refine (HKN.out _ HV.out).mono ?_; rintro e w5 ⟨rfl, hv⟩; (try clear hW0); replace HV := Lib.hid (HV.out.trans (hv.mono HV.out.size)); clear hv g0 g1; obtain ⟨g0, g1⟩ := HF.out _ HV.out))
        go_ret
        exact ⟨rfl, HA.out.trans (HV.out.mono HA.out.size)⟩
      | true =>
      rw [hq2] at H2
      cases hq3 : gatsB lc C u q with
      | false =>
        rw [hq3] at H3
        clear hq2 hq3
        go_enter Tryz.func13, Tryz.ntmps13
        go_wp2_with (first
          | (go_at_call 22; (try rw [← hW0]); refine (HRI.out _ HV.out).mono ?_; rintro e w5 ⟨rfl, hv⟩; (try clear hW0); replace HV := Lib.hid (HV.out.trans (hv.mono HV.out.size)); clear hv g0 g1; obtain ⟨g0, g1⟩ := HF.out _ HV.out)
          | (go_at_call 19; have hB := M1.out; clear hB M1; (try rw [← hW0]); refine (H2.out _ HV.out).mono ?_; rintro e w5 ⟨rfl, hv⟩; (try clear hW0); replace HV := Lib.hid (HV.out.trans (hv.mono HV.out.size)); clear hv g0 g1; obtain ⟨g0, g1⟩ := HF.out _ HV.out)
          | (go_at_call 19; (try rw [← hW0]); refine (H3.out _ HV.out).mono ?_; rintro e w5 ⟨rfl, hv⟩; (try clear hW0); replace HV := Lib.hid (HV.out.trans (hv.mono HV.out.size)); clear hv g0 g1; obtain ⟨g0, g1⟩ := HF.out _ HV.out)
          | (go_at_call 16; (try rw [← hW0]); refine (HKN.out _ HV.out).mono ?_; rintro e w5 ⟨rfl, hv⟩; (try clear hW0); replace HV := Lib.hid (HV.out.trans (hv.mono HV.out.size)); clear hv g0 g1; obtain ⟨g0, g1⟩ := HF.out _ HV.out))
        go_ret
        exact ⟨rfl, HA.out.trans (HV.out.mono HA.out.size)⟩
      | true =>
      rw [hq3] at H3
      cases hq4 : gatB lc C x with
      | false =>
        rw [hq4] at H4
        clear hq2 hq3 hq4
        go_enter Tryz.func13, Tryz.ntmps13
        go_wp2_with (first
          | (go_at_call 22; (try rw [← hW0]); refine (HRI.out _ HV.out).mono ?_; rintro e w5 ⟨rfl, hv⟩; (try clear hW0); replace HV := Lib.hid (HV.out.trans (hv.mono HV.out.size)); clear hv g0 g1; obtain ⟨g0, g1⟩ := HF.out _ HV.out)
          | (go_at_call 19; have hB := M1.out; clear hB M1; (try rw [← hW0]); refine (H2.out _ HV.out).mono ?_; rintro e w5 ⟨rfl, hv⟩; (try clear hW0); replace HV := Lib.hid (HV.out.trans (hv.mono HV.out.size)); clear hv g0 g1; obtain ⟨g0, g1⟩ := HF.out _ HV.out)
          | (go_at_call 19; (try rw [← hW0]); refine (H3.out _ HV.out).mono ?_; rintro e w5 ⟨rfl, hv⟩; (try clear hW0); replace HV := Lib.hid (HV.out.trans (hv.mono HV.out.size)); clear hv g0 g1; obtain ⟨g0, g1⟩ := HF.out _ HV.out)
          | (go_at_call 47; (try rw [← hW0]); refine (H4.out _ HV.out).mono ?_; rintro e w5 ⟨rfl, hv⟩; (try clear hW0); replace HV := Lib.hid (HV.out.trans (hv.mono HV.out.size)); clear hv g0 g1; obtain ⟨g0, g1⟩ := HF.out _ HV.out)
          | (go_at_call 16; (try rw [← hW0]); refine (HKN.out _ HV.out).mono ?_; rintro e w5 ⟨rfl, hv⟩; (try clear hW0); replace HV := Lib.hid (HV.out.trans (hv.mono HV.out.size)); clear hv g0 g1; obtain ⟨g0, g1⟩ := HF.out _ HV.out))
        go_ret
        exact ⟨rfl, HA.out.trans (HV.out.mono HA.out.size)⟩
      | true =>
        rw [hq4] at H4
        obtain ⟨hx0, hx1⟩ := gatB_bd hq4
        have hxg : (C x.toNat).ga = true := by unfold gatB at hq4; rw [Bool.and_eq_true] at hq4; exact hq4.2
        obtain ⟨X, rfl⟩ : ∃ X : Nat, x = (X : Int) := ⟨x.toNat, by omega⟩
        rw [Int.toNat_natCast] at hxg
        have hX : X < lc := by omega
        have HG2 := Lib.hid hq2
        have HG3 := Lib.hid hq3
        clear hq2 hq3 hq4 hx0 hx1
        have hc10 := HP.out.c10
        have hl7 := HP.out.l7
        have HPF : Hid (∀ w2, Below W0.heap.size W0 w2 → Calls Tryz.prog 43 #[.agg #[.slice pa lp cp, .slice ca lc cc], .slice ta n tc] w2 fun e w' => (∃ v, e = .returned (.tuple #[v, .int .i64 (if fedV lp P lc C (emF lc C t n) false then 5 else 0)])) ∧ Below w2.heap.size w2 w') := Lib.hid fun w2 h => (proof_ok pa ca ta lp cp lc cc n tc P C t w2 HP.out HG2.out (by omega) (HN.out _ h) (HTS.out _ h)).mono fun e w' ⟨⟨v, he, _⟩, hv⟩ => ⟨⟨v, by rw [he, cutL_fed]; cases fedV lp P lc C (emF lc C t n) false <;> rfl⟩, hv⟩
        have HMV : Hid (∀ w2, Below W0.heap.size W0 w2 → Calls Tryz.prog 38 #[.agg #[.slice pa lp cp, .slice ca lc cc], .slice sa m sc, .slice ta n tc] w2 fun e w' => (∃ v, e = .returned (.tuple #[v, .int .i64 (if fedV lp P lc C (emF lc C t n) false then 0 else 5)])) ∧ Below w2.heap.size w2 w') := Lib.hid fun w2 h => (moves_ok pa ca sa ta lp cp lc cc m sc n tc P C s t w2 HP.out HG.out HG2.out (by omega) (by omega) (HN.out _ h) (HOS.out _ h) (HTS.out _ h)).mono fun e w' ⟨⟨v, he, _⟩, hv⟩ => ⟨⟨v, by rw [he, mov_some HP.out HG.out HG2.out]⟩, hv⟩
        have HFD : Hid (∀ w2, Below W0.heap.size W0 w2 → Calls Tryz.prog 23 #[.agg #[.slice pa lp cp, .slice ca lc cc], .slice oa q oc] w2 fun e w' => e = .returned (.tuple #[.int .i64 (wordV lp P lc C (opnF u q)), .int .i64 0]) ∧ Below w2.heap.size w2 w') := Lib.hid fun w2 h => fedq_w pa ca oa lp cp lc cc q oc P C u _ w2 HP.out HG3.out rfl (by omega) (HN.out _ h) (HUS.out _ h)
        have HP1 : Hid (∀ (b : Nat) w2, Below W0.heap.size W0 w2 → b < w2.heap.size → w2.cell? ⟨b, 0, none⟩ = some (.int .i64 (X : Int)) → Calls Tryz.prog 43 #[.agg #[.slice pa lp cp, .slice ca lc cc], .slice (some ⟨b, 0, none⟩) 1 1] w2 fun e w' => (∃ v, e = .returned (.tuple #[v, .int .i64 (if canV lp P lc C X then 5 else 0)])) ∧ Below w2.heap.size w2 w') := Lib.hid fun b w2 h hb hc =>
          (proof_ok pa ca (some ⟨b, 0, none⟩) lp cp lc cc 1 1 P C (lgI [X]) w2 HP.out (one_gate hX hxg) (by omega) (HN.out _ h) (Lib.hid (.inr ⟨b, 0, rfl, hb, fun i hi => by obtain rfl : i = 0 := (by omega); exact hc⟩))).mono fun e w' ⟨⟨v, he, _⟩, hv⟩ => ⟨⟨v, by rw [he, cutL_fed]; unfold canV; cases fedV lp P lc C (emF lc C (lgI [X]) 1) false <;> rfl⟩, hv⟩
        have HVI : Hid (∀ w2, Below W0.heap.size W0 w2 → Calls Tryz.prog 44 #[.agg #[.slice pa lp cp, .slice ca lc cc]] w2 fun e w' => (∃ sa sc, e = .returned (.tuple #[.slice sa (vitL lp P lc C).length sc, .int .i64 0]) ∧ IntSl w' sa (vitL lp P lc C).length (lgI (vitL lp P lc C))) ∧ Below w2.heap.size w2 w') := Lib.hid fun w2 h => vital_w pa ca lp cp lc cc P C w2 HP (HN.out _ h)
        have hvl : (vitL lp P lc C).length ≤ 7 := by
          have h1 := List.length_filter_le (fun x => !canV lp P lc C x) (gatL C lc)
          have h2 : (gatL C lc).length ≤ 7 := by rw [gatL_len]; exact HP.out.g7
          unfold vitL; omega
        have HLV : Hid (∀ (a : Option Addr) (c1 : Nat) w2, IntSl w2 a (vitL lp P lc C).length (lgI (vitL lp P lc C)) → Calls Tryz.prog 40 #[.slice a (vitL lp P lc C).length c1, .int .i64 (X : Int)] w2 fun e w' => e = .returned (.bool (!canV lp P lc C X)) ∧ w2 = w') := Lib.hid fun a c1 w2 h1 => by
          have h2 := rlisted_w a (vitL lp P lc C).length c1 (lgI (vitL lp P lc C)) (X : Int) w2 (by omega) (Lib.hid h1)
          rw [vit_mem hX hxg] at h2; exact h2
        have HLO : Hid (∀ (i : Nat) w2, Below W0.heap.size W0 w2 → Calls Tryz.prog 40 #[.slice oa q oc, .int .i64 (t i)] w2 fun e w' => e = .returned (.bool (anyB u (t i) q)) ∧ w2 = w') := Lib.hid fun i w2 h => rlisted_w oa q oc u (t i) w2 (by omega) (HUS.out _ h)
        have HCW : Hid (allN (fun i => !anyB u (t i) q) n = true → fedV lp P lc C (emF lc C t n) false = false → (wordV lp P lc C (opnF u q) == 3) = false) := Lib.hid fun h1 h2 => by
          refine wordV_else ?_
          cases hf : fedV lp P lc C (opnF u q) false with
          | false => rfl
          | true =>
            have h3 : clsB (opnF u q) t n = true := clsB_iff.2 fun i hi => by
              have hg := gatsB_inc HG2.out i hi
              rw [opnF_any HG3.out _ q (Nat.le_refl _), show (((t i).toNat : Nat) : Int) = t i by omega]
              have := (allN_iff n).1 h1 i hi
              simpa using this
            rw [cls_em HP.out HG2.out h3 hf] at h2; cases h2
        obtain ⟨vn, hvn⟩ : ∃ n, (vitL lp P lc C).length = n := ⟨_, rfl⟩
        rw [hvn] at HVI HLV hvl
        obtain ⟨vf, hvf⟩ : ∃ n, lgI (vitL lp P lc C) = n := ⟨_, rfl⟩
        rw [hvf] at HVI HLV
        obtain ⟨w1, hw1⟩ : ∃ v, wordV lp P lc C (opnF u q) = v := ⟨_, rfl⟩
        rw [hw1] at HFD HCW
        obtain ⟨b1, hb1⟩ : ∃ b, fedV lp P lc C (emF lc C t n) false = b := ⟨_, rfl⟩
        rw [hb1] at HPF HMV HCW
        obtain ⟨b2, hb2⟩ : ∃ b, canV lp P lc C X = b := ⟨_, rfl⟩
        rw [hb2] at HP1 HLV
        have n3 : ¬ (7 : Int) < (vn : Int) := by omega
        clear hvn hvf hw1 hb1 hb2 hvl
        have HTN : Hid (∀ w2, Below W0.heap.size W0 w2 → IntSl w2 ta n t) := Lib.hid fun w2 h => (HTS.out w2 h).out
        obtain ⟨cls, hcls⟩ : ∃ f, f = allN (fun i => !anyB u (t i) q) := ⟨_, rfl⟩
        have HC0 : Hid (cls 0 = true) := Lib.hid (by rw [hcls]; rfl)
        have HCN : Hid (∀ k b, cls k = true → anyB u (t k) q = b → cls (k + 1) = !b) := Lib.hid fun k b h1 h2 => by rw [hcls] at h1 ⊢; simp [allN, h1, h2]
        have HCF : Hid (∀ k, cls k = false → cls (k + 1) = false) := Lib.hid fun k h1 => by rw [hcls] at h1 ⊢; simp [allN, h1]
        rw [← hcls] at HCW
        clear hcls
        cases b1 <;> cases b2
        all_goals
          simp only [Bool.false_eq_true, if_false, if_true, Bool.not_true, Bool.not_false] at HPF HMV HP1 HLV
          go_enter Tryz.func13, Tryz.ntmps13
          go_wp2_with (first
            | (go_at_call 22; (try rw [← hW0]); refine (HRI.out _ HV.out).mono ?_; rintro e w5 ⟨rfl, hv⟩; (try clear hW0); replace HV := Lib.hid (HV.out.trans (hv.mono HV.out.size)); clear hv g0 g1; obtain ⟨g0, g1⟩ := HF.out _ HV.out)
            | (go_at_call 19; have hB := M1.out; clear hB M1; (try rw [← hW0]); refine (H2.out _ HV.out).mono ?_; rintro e w5 ⟨rfl, hv⟩; (try clear hW0); replace HV := Lib.hid (HV.out.trans (hv.mono HV.out.size)); clear hv g0 g1; obtain ⟨g0, g1⟩ := HF.out _ HV.out)
            | (go_at_call 19; (try rw [← hW0]); refine (H3.out _ HV.out).mono ?_; rintro e w5 ⟨rfl, hv⟩; (try clear hW0); replace HV := Lib.hid (HV.out.trans (hv.mono HV.out.size)); clear hv g0 g1; obtain ⟨g0, g1⟩ := HF.out _ HV.out)
            | (go_at_call 47; (try rw [← hW0]); refine (H4.out _ HV.out).mono ?_; rintro e w5 ⟨rfl, hv⟩; (try clear hW0); replace HV := Lib.hid (HV.out.trans (hv.mono HV.out.size)); clear hv g0 g1; obtain ⟨g0, g1⟩ := HF.out _ HV.out)
            | (go_at_call 43; have hB := M2.out; clear hB M2; (try rw [← hW0]); refine (HPF.out _ HV.out).mono ?_; rintro e w5 ⟨⟨v, rfl⟩, hv⟩; (try clear hW0); replace HV := Lib.hid (HV.out.trans (hv.mono HV.out.size)); clear hv g0 g1; obtain ⟨g0, g1⟩ := HF.out _ HV.out)
            | (go_at_call 38; (try rw [← hW0]); refine (HMV.out _ HV.out).mono ?_; rintro e w5 ⟨⟨v, rfl⟩, hv⟩; (try clear hW0); replace HV := Lib.hid (HV.out.trans (hv.mono HV.out.size)); clear hv g0 g1; obtain ⟨g0, g1⟩ := HF.out _ HV.out)
            | (go_at_call 23; (try rw [← hW0]); refine (HFD.out _ HV.out).mono ?_; rintro e w5 ⟨rfl, hv⟩; (try clear hW0); replace HV := Lib.hid (HV.out.trans (hv.mono HV.out.size)); clear hv g0 g1; obtain ⟨g0, g1⟩ := HF.out _ HV.out; have g5 := HF.out _ (HV.out.alloc HV.out.size (.cells #[.int .i64 (X : Int)] 3)); obtain ⟨g5, g6⟩ := g5)
            | (go_at_call 43; (try rw [← hW0]); refine (HP1.out w5.heap.size _ (HV.out.alloc HV.out.size _) (by simp) (al_top rfl _ _)).mono ?_; rintro e w5 ⟨⟨v, rfl⟩, hv⟩; (try clear hW0); replace HV := Lib.hid ((HV.out.alloc HV.out.size _).trans (hv.mono (HV.out.alloc HV.out.size _).size)); clear hv g0 g1 g5 g6; obtain ⟨g0, g1⟩ := HF.out _ HV.out)
            | (go_at_call 44; (try rw [← hW0]); refine (HVI.out _ HV.out).mono ?_; rintro e w5 ⟨⟨va, vc, rfl, hs⟩, hv⟩; (try clear hW0); have HC := Lib.hid hs; clear hs; replace HV := Lib.hid (HV.out.trans (hv.mono HV.out.size)); clear hv g0 g1; obtain ⟨g0, g1⟩ := HF.out _ HV.out)
            | (go_at_call 40; refine (HLV.out va vc _ HC.out).mono ?_; rintro e w6 ⟨rfl, rfl⟩))
          clear g0 g1
          go_loopw [21, 22] (fun cv ii wr => ∃ k : Nat, k ≤ n ∧ ii = .int .i64 (k : Int) ∧ cv = .bool (cls k) ∧ Below W0.heap.size W0 wr) (fun _ ii _ => n - (Go.RowKit.intOf ii).toNat)
          case atStart => exact ⟨0, Nat.zero_le _, rfl, by rw [HC0.out], HV.out⟩
          case round =>
            obtain ⟨k, hk, rfl, rfl, hbr⟩ := hrel
            have HBR := Lib.hid hbr
            clear hbr
            by_cases hlt : k < n
            case pos =>
              have n4 : (0 : Int) ≤ (k : Int) := by omega
              have n5 : (k : Int) < (n : Int) := by omega
              obtain ⟨A, O, rfl, hA1, hN1⟩ := (HTN.out _ HBR.out).resolve_left (by omega)
              have y1 := hN1 k hlt
              have HLK := Lib.hid (HLO.out k)
              have HNK := Lib.hid (HCN.out k)
              have HFK := Lib.hid (HCF.out k)
              obtain ⟨z, hz⟩ : ∃ z, t k = z := ⟨_, rfl⟩
              rw [hz] at y1 HLK HNK
              obtain ⟨bb, hbb⟩ : ∃ b, anyB u z q = b := ⟨_, rfl⟩
              rw [hbb] at HLK HNK
              obtain ⟨ck, hck⟩ : ∃ b, cls k = b := ⟨_, rfl⟩
              rw [hck] at HNK HFK ⊢
              clear hN1 hz hbb hck
              cases ck with
              | false =>
                have HN2 := Lib.hid (HFK.out rfl)
                go_wp2
                go_roundw
                case rel => exact ⟨k + 1, by omega, by go_num, by rw [HN2.out], HBR.out⟩
                case measure => simp [Go.RowKit.intOf]; omega
              | true =>
                have HN2 := Lib.hid (HNK.out _ rfl rfl)
                go_wp2_with (go_at_call 40; refine (HLK.out _ HBR.out).mono ?_; rintro e w6 ⟨rfl, rfl⟩)
                go_roundw
                case rel => exact ⟨k + 1, by omega, by go_num, by rw [HN2.out], HBR.out⟩
                case measure => simp [Go.RowKit.intOf]; omega
            case neg =>
              obtain rfl : k = n := by omega
              have HKB := Lib.hid (HKN.out _ HBR.out)
              obtain ⟨ck, hck⟩ : ∃ b, cls k = b := ⟨_, rfl⟩
              rw [hck] at HCW ⊢
              clear hck
              cases ck with
              | false =>
                go_wp2_with (go_at_call 16; refine HKB.out.mono ?_; rintro e w9 ⟨rfl, hv9⟩)
                go_ret
                exact ⟨rfl, HA.out.trans ((HBR.out.trans (hv9.mono HBR.out.size)).mono HA.out.size)⟩
              | true =>
                first
                  | (have h3 := HCW.out (by first | rfl | trivial) (by first | rfl | trivial)
                     have h4 : (w1 != 3) = true := by rw [bne, h3]; rfl
                     go_wp2_with (go_at_call 16; refine HKB.out.mono ?_; rintro e w9 ⟨rfl, hv9⟩)
                     go_ret
                     exact ⟨rfl, HA.out.trans ((HBR.out.trans (hv9.mono HBR.out.size)).mono HA.out.size)⟩)
                  | (go_wp2_with (go_at_call 16; refine HKB.out.mono ?_; rintro e w9 ⟨rfl, hv9⟩)
                     go_ret
                     exact ⟨rfl, HA.out.trans ((HBR.out.trans (hv9.mono HBR.out.size)).mono HA.out.size)⟩)
end Go.Kn
