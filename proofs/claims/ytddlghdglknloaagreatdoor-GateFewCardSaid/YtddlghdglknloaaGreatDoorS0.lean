/- Contracts of functions that the laws of this seat call, or the evaluator of closed calls and its runs. Conditions: as each theorem states them. -/
import Derived.Test.YtddlghdglknloaaGreatDoorL4
import Derived.Test.YtddlghdglknloaaGreatDoorM6
import Derived.Test.YtddlghdglknloaaGreatDoorQ4
import Derived.Test.YtddlghdglknloaaGreatDoorQ3B
import Derived.Test.YtddlghdglknloaaGreatDoorKN
set_option linter.unusedVariables false
set_option linter.unusedSimpArgs false
namespace Go.Kn
open Go Go.Proofs Go.RowKit

theorem wordV_three {lp : Nat} {P : Nat → P8} {lc : Nat} {C : Nat → C8} {op : Nat → Bool} (h : fedV lp P lc C op false = true) : wordV lp P lc C op = 3 := by unfold wordV; rw [h]; rfl
theorem wordV_else {lp : Nat} {P : Nat → P8} {lc : Nat} {C : Nat → C8} {op : Nat → Bool} (h : fedV lp P lc C op false = false) : (wordV lp P lc C op == 3) = false := by unfold wordV; rw [h]; simp only [Bool.false_eq_true, if_false]; split <;> rfl
theorem fedq_w (pa ca sa : Option Addr) (lp cp lc cc m sc : Nat) (P : Nat → P8) (C : Nat → C8) (s : Nat → Int) (u : Int) (w : World) (HP : NetP lp P lc C) (HG : gatsB lc C s m = true) (hu : wordV lp P lc C (opnF s m) = u) (hm : m ≤ 1000000) (H : Hid (Ne8 w pa ca lp lc P C)) (HO : Hid (IntSl w sa m s)) :
    Calls Tryz.prog 23 #[.agg #[.slice pa lp cp, .slice ca lc cc], .slice sa m sc] w fun e w' => e = .returned (.tuple #[.int .i64 u, .int .i64 0]) ∧ Below w.heap.size w w' := by
  have hq : fedQ lp P lc C s m = true := by unfold fedQ; rw [netV_iff.2 HP, HG]; rfl
  have h := fed_w pa ca sa lp cp lc cc m sc P C s w (by have := HP.l7; omega) (by have := HP.c10; omega) hm H HO
  rw [hq, hu] at h
  simpa only [if_true] using h

def rgB (lp : Nat) (P : Nat → P8) (lc : Nat) (C : Nat → C8) (s : Nat → Int) (m : Nat) : Bool := decide (lp ≤ 9 ∧ lc ≤ 13) && (decide (m ≤ 10) && (netV lp P lc C && gatsB lc C s m))
theorem rgB_t {lp : Nat} {P : Nat → P8} {lc : Nat} {C : Nat → C8} {s : Nat → Int} {m : Nat} (h : rgB lp P lc C s m = true) : lp ≤ 9 ∧ lc ≤ 13 ∧ m ≤ 10 ∧ netV lp P lc C = true ∧ gatsB lc C s m = true := by
  simp only [rgB, Bool.and_eq_true, decide_eq_true_eq] at h
  exact ⟨h.1.1, h.1.2, h.2.1, h.2.2.1, h.2.2.2⟩

set_option maxRecDepth 100000 in
set_option maxHeartbeats 4000000 in
theorem right_b (pa ca sa : Option Addr) (lp cp lc cc m sc : Nat) (P : Nat → P8) (C : Nat → C8) (s : Nat → Int) (w : World) (hm : m ≤ maxLen) (H : Hid (Ne8 w pa ca lp lc P C)) (HO : Hid (IntSl w sa m s)) :
    Calls Tryz.prog 22 #[.agg #[.slice pa lp cp, .slice ca lc cc], .slice sa m sc] w fun e w' => e = .returned (.bool (rgB lp P lc C s m)) ∧ Below w.heap.size w w' := by
  obtain ⟨W0, hW0⟩ : ∃ W0, W0 = w.alloc (.cells #[.slice pa lp cp, .slice ca lc cc] 25) := ⟨_, rfl⟩
  have hA : Below w.heap.size w W0 := by rw [hW0]; exact (Below.refl _ _).alloc (Nat.le_refl _) _
  have HF : Hid (∀ w2, Below W0.heap.size W0 w2 → w2.cell? ⟨w.heap.size, 0, none⟩ = some (.slice pa lp cp) ∧ w2.cell? ⟨w.heap.size, 1, none⟩ = some (.slice ca lc cc)) := Lib.hid fun w2 h => by
    rw [hW0] at h
    exact ⟨(box_cells h).1, (box_cells h).2.1⟩
  have HN : Hid (∀ w2, Below W0.heap.size W0 w2 → Hid (Ne8 w2 pa ca lp lc P C)) := Lib.hid fun w2 h => Lib.hid (H.out.below (hA.trans (h.mono hA.size)))
  have HOS : Hid (∀ w2, Below W0.heap.size W0 w2 → Hid (IntSl w2 sa m s)) := Lib.hid fun w2 h => Lib.hid (HO.out.below (hA.trans (h.mono hA.size)))
  have HSH : Hid (Calls Tryz.prog 15 #[.agg #[.slice pa lp cp, .slice ca lc cc]] W0 fun e w' => e = .returned (.bool (decide (lp ≤ 9 ∧ lc ≤ 13))) ∧ Below W0.heap.size W0 w') := Lib.hid (short_w pa ca lp cp lc cc W0)
  have HA := Lib.hid hA
  obtain ⟨f0, f1⟩ := HF.out _ (Below.refl _ _)
  rw [hW0] at f0 f1
  clear hA H HO
  by_cases hsh : lp ≤ 9 ∧ lc ≤ 13
  case neg =>
    have hd : decide (lp ≤ 9 ∧ lc ≤ 13) = false := decide_eq_false hsh
    rw [hd] at HSH
    have hrb : rgB lp P lc C s m = false := by unfold rgB; rw [hd]; rfl
    rw [hrb]
    clear hd hsh hrb
    go_enter Tryz.func22, Tryz.ntmps22
    go_wp2_with (go_at_call 15; rw [← hW0]; refine HSH.out.mono ?_; rintro e w5 ⟨rfl, hv⟩)
    go_ret
    exact ⟨rfl, HA.out.trans (hv.mono HA.out.size)⟩
  case pos =>
    have hd : decide (lp ≤ 9 ∧ lc ≤ 13) = true := decide_eq_true hsh
    rw [hd] at HSH
    have hrg : rgB lp P lc C s m = (decide (m ≤ 10) && (netV lp P lc C && gatsB lc C s m)) := by unfold rgB; rw [hd]; rfl
    rw [hrg]
    clear hd hrg
    obtain ⟨hs1, hs2⟩ := hsh
    by_cases hm10 : m ≤ 10
    case neg =>
      have n1 : ¬ ((m : Int) ≤ 10) := by omega
      have hdm : decide (m ≤ 10) = false := decide_eq_false hm10
      rw [hdm, Bool.false_and]
      clear hdm
      go_enter Tryz.func22, Tryz.ntmps22
      go_wp2_with (go_at_call 15; rw [← hW0]; refine HSH.out.mono ?_; rintro e w5 ⟨rfl, hv⟩)
      go_ret
      exact ⟨rfl, HA.out.trans (hv.mono HA.out.size)⟩
    case pos =>
      have n1 : ((m : Int) ≤ 10) := by omega
      have hdm : decide (m ≤ 10) = true := decide_eq_true hm10
      rw [hdm, Bool.true_and]
      clear hdm
      have H1 : Hid (∀ w2, Below W0.heap.size W0 w2 → Calls Tryz.prog 18 #[.agg #[.slice pa lp cp, .slice ca lc cc]] w2 fun e w' => e = .returned (.bool (netV lp P lc C)) ∧ Below w2.heap.size w2 w') := Lib.hid fun w2 h => rnet_w pa ca lp cp lc cc P C w2 (by omega) (by omega) (HN.out _ h)
      have H2 : Hid (∀ w2, Below W0.heap.size W0 w2 → Calls Tryz.prog 19 #[.agg #[.slice pa lp cp, .slice ca lc cc], .slice sa m sc] w2 fun e w' => e = .returned (.bool (gatsB lc C s m)) ∧ Below w2.heap.size w2 w') := Lib.hid fun w2 h => rsome_w pa ca sa lp cp lc cc m sc P C s w2 (by omega) (by omega) (HN.out _ h) (HOS.out _ h)
      obtain ⟨q1, hq1⟩ : ∃ q, netV lp P lc C = q := ⟨_, rfl⟩
      obtain ⟨q2, hq2⟩ : ∃ q, gatsB lc C s m = q := ⟨_, rfl⟩
      rw [hq1] at H1
      rw [hq2] at H2
      rw [hq1, hq2]
      clear hq1 hq2
      cases q1 with
      | false =>
        rw [Bool.false_and]
        go_enter Tryz.func22, Tryz.ntmps22
        go_wp2_with (first
          | (go_at_call 15; rw [← hW0]; refine HSH.out.mono ?_; rintro e w5 ⟨rfl, hv⟩; clear hW0 f0 f1; have HV5 := Lib.hid hv; obtain ⟨g0, g1⟩ := HF.out _ hv; clear hv)
          | (go_at_call 18; refine (H1.out _ HV5.out).mono ?_; rintro e w6 ⟨rfl, hv⟩; have HV6 := Lib.hid (HV5.out.trans (hv.mono HV5.out.size)); clear hv))
        go_ret
        exact ⟨rfl, HA.out.trans (HV6.out.mono HA.out.size)⟩
      | true =>
        rw [Bool.true_and]
        go_enter Tryz.func22, Tryz.ntmps22
        go_wp2_with (first
          | (go_at_call 15; rw [← hW0]; refine HSH.out.mono ?_; rintro e w5 ⟨rfl, hv⟩; clear hW0 f0 f1; have HV5 := Lib.hid hv; obtain ⟨g0, g1⟩ := HF.out _ hv; clear hv)
          | (go_at_call 18; refine (H1.out _ HV5.out).mono ?_; rintro e w6 ⟨rfl, hv⟩; have HV6 := Lib.hid (HV5.out.trans (hv.mono HV5.out.size)); clear hv g0 g1; obtain ⟨g0, g1⟩ := HF.out _ HV6.out)
          | (go_at_call 19; refine (H2.out _ HV6.out).mono ?_; rintro e w7 ⟨rfl, hv⟩; have HV7 := Lib.hid (HV6.out.trans (hv.mono HV6.out.size)); clear hv))
        go_ret
        exact ⟨rfl, HA.out.trans (HV7.out.mono HA.out.size)⟩
end Go.Kn

namespace Go.Kn
open Go Go.Proofs Go.RowKit

/-- a gate more that is open never makes a network less fed -/
theorem fed_more {lp : Nat} {P : Nat → P8} {lc : Nat} {C : Nat → C8} {op op' : Nat → Bool} {b : Bool} (h : NetP lp P lc C) (hm : ∀ c, c < lc → (C c).ga = true → op c = true → op' c = true) (hf : fedV lp P lc C op b = true) : fedV lp P lc C op' b = true := by
  rw [fed_iff] at hf ⊢
  intro L hL
  have h1 := hf L hL
  unfold spareV at h1 ⊢
  have h2 : sumN (fun k => if inV C L k then carV C op k else 0) lc ≤ sumN (fun k => if inV C L k then carV C op' k else 0) lc := sumN_le fun i hi => by
    split
    · have hc := h.c hi
      unfold carV
      cases hg : (C i).ga with
      | false => simp
      | true =>
        cases ho : op i with
        | false => simp only [Bool.not_false, Bool.and_true, if_true]; split <;> omega
        | true => rw [hm i hi hg ho]; simp
    · exact Int.le_refl _
  omega
theorem clsB_iff {q : Nat → Bool} {t : Nat → Int} {n : Nat} : clsB q t n = true ↔ ∀ i, i < n → q (t i).toNat = false := by
  unfold clsB
  rw [allN_iff]
  constructor
  · intro h i hi; simpa using h i hi
  · intro h i hi; simpa using h i hi
theorem clsB_op' {lc : Nat} {C : Nat → C8} {op op' : Nat → Bool} {t : Nat → Int} {n : Nat} (h : EqO lc C op op') (ht : gatsB lc C t n = true) : clsB op t n = clsB op' t n := by
  unfold clsB
  refine allN_congr n fun i hi => ?_
  have := gatsB_inc ht i hi
  rw [h (t i).toNat (by omega) this.2.2.2]
theorem emF_at {lc : Nat} {C : Nat → C8} {t : Nat → Int} {n : Nat} (ht : gatsB lc C t n = true) {c : Nat} (hc : c < lc) (hg : (C c).ga = true) : emF lc C t n c = !anyB t (c : Int) n := by
  unfold emF
  rw [tog_any ht _ c n (Nat.le_refl _), opnF_any gatL_ok c _ (Nat.le_refl _), lgI_any]
  have : c ∈ gatL C lc := gatL_mem.2 ⟨hc, hg⟩
  simp [this]
/-- positions in which some gates are closed are within those in which all others are open -/
theorem cls_em {lp : Nat} {P : Nat → P8} {lc : Nat} {C : Nat → C8} {op : Nat → Bool} {t : Nat → Int} {n : Nat} (h : NetP lp P lc C) (ht : gatsB lc C t n = true) (hc : clsB op t n = true) (hf : fedV lp P lc C op false = true) : fedV lp P lc C (emF lc C t n) false = true := by
  refine fed_more h (fun c hcl hg ho => ?_) hf
  rw [emF_at ht hcl hg]
  cases hb : anyB t (c : Int) n with
  | false => rfl
  | true =>
    obtain ⟨i, hi, e⟩ := anyB_iff.1 hb
    have := clsB_iff.1 hc i hi
    rw [e, Int.toNat_natCast, ho] at this
    cases this
/-- there are moves just if the channels can be emptied -/
theorem mov_some {lp : Nat} {P : Nat → P8} {lc : Nat} {C : Nat → C8} {s t : Nat → Int} {m n : Nat} (h : NetP lp P lc C) (hs : gatsB lc C s m = true) (ht : gatsB lc C t n = true) : (movM lp P lc C s m t n).isSome = fedV lp P lc C (emF lc C t n) false := by
  rw [Bool.eq_iff_iff]
  constructor
  · intro h1
    obtain ⟨L, hL⟩ := Option.isSome_iff_exists.1 h1
    have h2 := ((bestF_is _ _).2 L hL).1
    unfold movB at h2
    rw [Bool.and_eq_true] at h2
    exact cls_em h ht h2.1 h2.2
  · intro hf
    obtain ⟨L, hLd⟩ : ∃ L, L = (gatL C lc).filter fun (c : Nat) => anyB s (c : Int) m != emF lc C t n c := ⟨_, rfl⟩
    have hsub : L.Sublist (gatL C lc) := by rw [hLd]; exact List.filter_sublist
    have he : EqO lc C (togF (opnF s m) (lgI L) L.length) (emF lc C t n) := fun c hc hg => by
      rw [tog_any (sub_ok hsub) _ c _ (Nat.le_refl _), opnF_any hs c _ (Nat.le_refl _), lgI_any]
      have h1 : decide (c ∈ L) = (anyB s (c : Int) m != emF lc C t n c) := by
        rw [Bool.eq_iff_iff, decide_eq_true_eq, hLd, List.mem_filter]
        have : c ∈ gatL C lc := gatL_mem.2 ⟨hc, hg⟩
        simp [this]
      rw [h1]
      cases anyB s (c : Int) m <;> cases emF lc C t n c <;> rfl
    cases hm : movM lp P lc C s m t n with
    | some x => rfl
    | none =>
      have h2 := best_none hm L hsub
      unfold movB at h2
      rw [clsB_op' he ht, fedV_op he, hf, Bool.and_true] at h2
      have h3 : clsB (emF lc C t n) t n = true := clsB_iff.2 fun i hi => by
        have hg := gatsB_inc ht i hi
        rw [emF_at ht (by omega) hg.2.2.2, show (((t i).toNat : Nat) : Int) = t i by omega, anyB_yes hi rfl]; rfl
      rw [h3] at h2; cases h2
end Go.Kn

namespace Go.Kn
open Go Go.Proofs Go.RowKit

theorem befL_drop {A B : List Nat} : ∀ k, (∀ i, i < k → lgI A i = lgI B i) → k ≤ A.length → k ≤ B.length → befL A B = befL (A.drop k) (B.drop k)
  | 0, _, _, _ => by simp
  | k + 1, h, h1, h2 => by
    rw [befL_drop k (fun i hi => h i (by omega)) (by omega) (by omega)]
    rw [List.drop_eq_getElem_cons (show k < A.length by omega), List.drop_eq_getElem_cons (show k < B.length by omega)]
    have he := h k (by omega)
    rw [lgI_get (by omega), lgI_get (by omega)] at he
    simp only [befL]
    rw [if_pos (by omega)]

set_option maxRecDepth 100000 in
set_option maxHeartbeats 1000000 in
theorem rbefore_w (sa sb : Option Addr) (a b c1 c2 : Nat) (A B : List Nat) (w : World) (hla : A.length = a) (hlb : B.length = b) (ha : a ≤ 1000000) (hb : b ≤ 1000000) (H1 : Hid (IntSl w sa a (lgI A))) (H2 : Hid (IntSl w sb b (lgI B))) :
    Calls Tryz.prog 27 #[.slice sa a c1, .slice sb b c2] w fun e w' => e = .returned (.bool (befL A B)) ∧ Below w.heap.size w w' := by
  have HLA := Lib.hid hla
  have HLB := Lib.hid hlb
  clear hla hlb
  go_enter Tryz.func27, Tryz.ntmps27
  go_wp2
  go_loopw [5] (fun i wr => ∃ k : Nat, k ≤ a ∧ k ≤ b ∧ i = .int .i64 k ∧ befL A B = befL (A.drop k) (B.drop k) ∧ Below w.heap.size w wr) (fun i _ => a - (Go.RowKit.intOf i).toNat)
  case atStart => exact ⟨0, Nat.zero_le _, Nat.zero_le _, rfl, by simp, Below.refl _ _⟩
  case round =>
    obtain ⟨k, hk, hkb, rfl, hbe, hbw⟩ := hrel
    have HBE := Lib.hid hbe
    clear hbe
    have hA0 := HLA.out
    have hB0 := HLB.out
    by_cases hlt : k < a
    · by_cases hlb : k < b
      · obtain ⟨A1, O, rfl, hA, h1⟩ := H1.out.resolve_left (by omega)
        obtain ⟨B1, U, rfl, hB, h2⟩ := H2.out.resolve_left (by omega)
        have y0 := (h1.below hA hbw) k hlt
        have y1 := (h2.below hB hbw) k hlb
        rw [lgI_get (by omega)] at y0 y1
        have HD : Hid (befL A B = if A[k] = B[k] then befL (A.drop (k + 1)) (B.drop (k + 1)) else decide (A[k] < B[k])) := Lib.hid (by
          rw [HBE.out, List.drop_eq_getElem_cons (show k < A.length by omega), List.drop_eq_getElem_cons (show k < B.length by omega)]; rfl)
        obtain ⟨x, hx⟩ : ∃ x, A[k] = x := ⟨_, rfl⟩
        obtain ⟨y, hy⟩ : ∃ y, B[k] = y := ⟨_, rfl⟩
        rw [hx] at y0
        rw [hy] at y1
        rw [hx, hy] at HD
        clear h1 h2 hx hy hA0 hB0
        have n1 : (0 : Int) ≤ (k : Int) := by omega
        have n2 : (k : Int) < (a : Int) := by omega
        have n3 : (k : Int) < (b : Int) := by omega
        by_cases e : x = y
        · subst e
          have HD2 : Hid (befL A B = befL (A.drop (k + 1)) (B.drop (k + 1))) := Lib.hid (by rw [HD.out]; simp)
          clear HD HBE
          go_wp2
          go_quiet (fail)
          go_wp2
          go_roundw
          case rel => exact ⟨k + 1, by omega, by omega, by go_num, HD2.out, below_drewM hbw _⟩
          case measure => simp [Go.RowKit.intOf]; omega
        · have HD2 : Hid (befL A B = decide ((x : Int) < (y : Int))) := Lib.hid (by rw [HD.out, if_neg e]; simp)
          have q1 : ((x : Int) == (y : Int)) = false := by rw [beq_eq_false_iff_ne]; omega
          have q2 : ((x : Int) != (y : Int)) = true := by rw [bne, q1]; rfl
          clear HD HBE e
          by_cases n5 : (x : Int) < (y : Int)
          all_goals
            go_wp2
            go_quiet (fail)
            go_wp2
            go_quiet (fail)
            go_wp2
            go_ret
            exact ⟨by rw [HD2.out]; simp [n5], below_drewM (below_drewM hbw _) _⟩
      · have hd : befL A B = false := by
          rw [HBE.out, List.drop_of_length_le (show B.length ≤ k by omega)]; cases A.drop k <;> rfl
        have HD2 := Lib.hid hd
        clear hd
        have n3 : ¬ (k : Int) < (b : Int) := by omega
        have n2 : (k : Int) < (a : Int) := by omega
        have n4 : ¬ (a : Int) < (b : Int) := by omega
        clear hA0 hB0
        go_wp2
        go_ret
        exact ⟨by rw [HD2.out]; rfl, hbw⟩
    · obtain rfl : k = a := by omega
      have hd : befL A B = decide ((k : Int) < (b : Int)) := by
        rw [HBE.out, List.drop_of_length_le (show A.length ≤ k by omega)]
        by_cases h : k < b
        · rw [List.drop_eq_getElem_cons (show k < B.length by omega)]; simp [befL]; omega
        · rw [List.drop_of_length_le (show B.length ≤ k by omega)]; simp [befL]; omega
      have HD2 := Lib.hid hd
      clear hd hA0 hB0
      have n2 : ¬ (k : Int) < (k : Int) := by omega
      by_cases n5 : (k : Int) < (b : Int)
      all_goals
        go_wp2
        go_ret
        exact ⟨by rw [HD2.out]; simp <;> omega, hbw⟩
end Go.Kn

namespace Go.Kn
open Go Go.Proofs Go.RowKit

theorem lst_op {lc : Nat} {C : Nat → C8} {u : Nat → Int} {q : Nat} (hu : gatsB lc C u q = true) : EqO lc C (opnF (lgI (lstN u q)) (lstN u q).length) (opnF u q) := fun c _ _ => by
  have h0 := sub_ok (gats_sub hu)
  rw [opnF_any h0 c _ (Nat.le_refl _), opnF_any hu c _ (Nat.le_refl _), lgI_any, Bool.eq_iff_iff, decide_eq_true_eq, lst_any hu]
/-- positions that somebody proposes are no shorter, nor as short and before -/
theorem few_rival {lp : Nat} {P : Nat → P8} {lc : Nat} {C : Nat → C8} {u : Nat → Int} {q : Nat} (hu : gatsB lc C u q = true) (hf : fedV lp P lc C (opnF u q) false = true) : ∃ L, fewL lp P lc C = some L ∧ L.length ≤ q ∧ (q = L.length → befL (lstN u q) L = false) := by
  have h0 : fedV lp P lc C (opnF (lgI (lstN u q)) (lstN u q).length) false = true := by rw [fedV_op (lst_op hu)]; exact hf
  cases hl : fewL lp P lc C with
  | none =>
    have := best_none hl _ (gats_sub hu)
    exact absurd (h0.symm.trans this) (by simp)
  | some L =>
    obtain ⟨_, _, b3⟩ := best_first gatL_inc hl
    obtain ⟨c1, c2⟩ := b3 _ (gats_sub hu) h0
    rw [lstN_len] at c1 c2
    exact ⟨L, rfl, c1, c2⟩
/-- moves that somebody proposes are no fewer, nor as few and before -/
theorem mov_rival {lp : Nat} {P : Nat → P8} {lc : Nat} {C : Nat → C8} {s t y : Nat → Int} {m n r : Nat} (hs : gatsB lc C s m = true) (ht : gatsB lc C t n = true) (hy : gatsB lc C y r = true) (hc : clsB (opnF (lgI (movL s m y r lc)) (movL s m y r lc).length) t n = true) (hf : fedV lp P lc C (opnF (lgI (movL s m y r lc)) (movL s m y r lc).length) false = true) : ∃ L, movM lp P lc C s m t n = some L ∧ L.length ≤ r ∧ (r = L.length → befL (lstN y r) L = false) := by
  have he : EqO lc C (opnF (lgI (movL s m y r lc)) (movL s m y r lc).length) (togF (opnF s m) (lgI (lstN y r)) (lstN y r).length) := fun c hc hg => by
    rw [mov_op hs hy c hc hg, tog_any hy _ c _ (Nat.le_refl _), tog_any (sub_ok (gats_sub hy)) _ c _ (Nat.le_refl _), lgI_any]
    congr 1
    rw [Bool.eq_iff_iff, decide_eq_true_eq]; exact lst_any hy c
  have h0 : movB lp P lc C s m t n (lstN y r) = true := by
    unfold movB
    rw [← clsB_op' he ht, ← fedV_op he, hc, hf]; rfl
  cases hl : movM lp P lc C s m t n with
  | none =>
    have := best_none hl _ (gats_sub hy)
    rw [h0] at this; cases this
  | some L =>
    obtain ⟨_, _, b3⟩ := best_first gatL_inc hl
    obtain ⟨c1, c2⟩ := b3 _ (gats_sub hy) h0
    rw [lstN_len] at c1 c2
    exact ⟨L, rfl, c1, c2⟩

/-- what is returned of a search, in one form -/
theorem cut_uni {w : World} {v : Value} {o : Option (List Nat)} (h : CutAt w v o) : ∃ la c1, v = .slice la (o.getD []).length c1 ∧ IntSl w la (o.getD []).length (lgI (o.getD [])) := by
  cases o with
  | none => exact ⟨none, 0, h, .inl rfl⟩
  | some L => obtain ⟨sa, c, h1, h2⟩ := h; exact ⟨sa, c, h1, h2⟩
end Go.Kn
