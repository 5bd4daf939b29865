/- Contracts of functions that the laws of this seat call, or the evaluator of closed calls and its runs. Conditions: as each theorem states them. -/
import Derived.Test.YtpbhpgebaopdoaaGreatDoorJ3
import Derived.Test.YtpbhpgebaopdoaaGreatDoorJ1
import Derived.Test.YtpbhpgebaopdoaaGreatDoorKN
set_option linter.unusedVariables false
set_option linter.unusedSimpArgs false
namespace Go.Kn
open Go Go.Proofs Go.RowKit

/-- whether what flows in a channel can -/
def okF (C : Nat → C8) (s : Nat → Int) (m : Nat) (f : Nat → Int) (c : Nat) : Bool := decide (f c ≤ (C c).cu) && ((!(C c).ga || anyB s (c : Int) m) || decide (f c = 0))
/-- what is left at a point when the first channels have flowed -/
def netF (P : Nat → P8) (C : Nat → C8) (f : Nat → Int) (p : Nat) : Nat → Int
  | 0 => leftV P false p
  | k + 1 => (if (C k).to = (p : Int) then netF P C f p k + f k else netF P C f p k) - (if (C k).fr = (p : Int) then f k else 0)
theorem netF_acc {lp : Nat} {P : Nat → P8} {lc : Nat} {C : Nat → C8} (h : NetP lp P lc C) {f : Nat → Int} {p : Nat} : ∀ k, k ≤ lc → netF P C f p k = accF P C f k p
  | 0, _ => rfl
  | k + 1, hk => by
    have hc := h.c (show k < lc by omega)
    have ih := netF_acc h (f := f) (p := p) k (by omega)
    simp only [netF, accF, updI, ih]
    by_cases h1 : (C k).to = (p : Int) <;> by_cases h2 : (C k).fr = (p : Int)
    · omega
    · have e1 : p = (C k).to.toNat := by omega
      have e2 : ¬ p = (C k).fr.toNat := by omega
      rw [if_pos h1, if_neg h2, if_pos e1, ← e1, if_neg e2]; omega
    · have e1 : ¬ p = (C k).to.toNat := by omega
      have e2 : p = (C k).fr.toNat := by omega
      rw [if_neg h1, if_pos h2, if_neg e1, if_pos e2, ← e2]
    · have e1 : ¬ p = (C k).to.toNat := by omega
      have e2 : ¬ p = (C k).fr.toNat := by omega
      rw [if_neg h1, if_neg h2, if_neg e1, if_neg e2]; omega
theorem gatsB_inc {lc : Nat} {C : Nat → C8} {s : Nat → Int} : ∀ {m : Nat}, gatsB lc C s m = true → ∀ i, i < m → frm8 s i ≤ s i ∧ 0 ≤ s i ∧ s i < lc ∧ (C (s i).toNat).ga = true
  | 0, _, i, hi => by omega
  | m + 1, h, i, hi => by
    simp only [gatsB, Bool.and_eq_true, Bool.not_eq_true', decide_eq_false_iff_not] at h
    by_cases e : i = m
    · subst e
      have := gatB_bd h.2
      have hg : (C (s i).toNat).ga = true := by have h2 := h.2; simp only [gatB, Bool.and_eq_true] at h2; exact h2.2
      exact ⟨by omega, this.1, this.2, hg⟩
    · exact gatsB_inc h.1.1 i (by omega)
theorem gatsB_lt {lc : Nat} {C : Nat → C8} {s : Nat → Int} {m : Nat} (h : gatsB lc C s m = true) : ∀ i j, i < j → j < m → s i < s j := by
  intro i j hij hj
  induction j with
  | zero => omega
  | succ j ih =>
    have h1 := (gatsB_inc h (j + 1) hj).1
    simp only [frm8] at h1
    by_cases e : i = j
    · subst e; omega
    · have := ih (by omega) (by omega); omega
theorem opnF_any {lc : Nat} {C : Nat → C8} {s : Nat → Int} {m : Nat} (h : gatsB lc C s m = true) (c : Nat) : ∀ k, k ≤ m → opnF s k c = anyB s (c : Int) k
  | 0, _ => rfl
  | k + 1, hk => by
    have ih := opnF_any h c k (by omega)
    unfold opnF at ih ⊢
    show (if (c : Int) = s k then _ else _) = (anyB s (c : Int) k || decide (s k = (c : Int)))
    by_cases e : (c : Int) = s k
    · have hno : anyB s (c : Int) k = false := by
        cases hb : anyB s (c : Int) k with
        | false => rfl
        | true =>
          obtain ⟨i, h1, h2⟩ := anyB_iff.1 hb
          have := gatsB_lt h i k h1 (by omega)
          omega
      rw [if_pos e, ih, hno]; simp [e]
    · rw [if_neg e, ih]
      have : ¬ s k = (c : Int) := fun h => e h.symm
      simp [this]
theorem okF_car {lp : Nat} {P : Nat → P8} {lc : Nat} {C : Nat → C8} (h : NetP lp P lc C) {s : Nat → Int} {m : Nat} (hg : gatsB lc C s m = true) {f : Nat → Int} {c : Nat} (hc : c < lc) (hf : 0 ≤ f c) : okF C s m f c = decide (f c ≤ carV C (opnF s m) c) := by
  have hcc := h.c hc
  have ho := opnF_any hg c m (Nat.le_refl _)
  unfold okF carV
  rw [ho]
  rw [Bool.eq_iff_iff]
  cases (C c).ga <;> cases anyB s (c : Int) m <;> simp <;> omega
theorem allN_congr {A B : Nat → Bool} : ∀ k, (∀ i, i < k → A i = B i) → allN A k = allN B k
  | 0, _ => rfl
  | k + 1, h => by simp only [allN]; rw [allN_congr k (fun i hi => h i (by omega)), h k (by omega)]
/-- whether flows feed a network, as the specification tells it -/
def rfdV (lp : Nat) (P : Nat → P8) (lc : Nat) (C : Nat → C8) (s : Nat → Int) (m : Nat) (f : Nat → Int) : Bool := allN (okF C s m f) lc && allN (fun p => decide (0 ≤ netF P C f p lc)) lp
theorem rfdV_eq {lp : Nat} {P : Nat → P8} {lc : Nat} {C : Nat → C8} (h : NetP lp P lc C) {s : Nat → Int} {m : Nat} (hg : gatsB lc C s m = true) {f : Nat → Int} (hf : ∀ i, i < lc → 0 ≤ f i ∧ f i ≤ 10000) : rfdV lp P lc C s m f = fbV lp P lc C (opnF s m) f := by
  unfold rfdV fbV
  rw [allN_congr lc (fun i hi => okF_car h hg hi (hf i hi).1), allN_congr lp (fun p _ => by rw [netF_acc h lc (Nat.le_refl _)])]
theorem netF_bd {lp : Nat} {P : Nat → P8} {lc : Nat} {C : Nat → C8} (h : NetP lp P lc C) {f : Nat → Int} (hf : ∀ i, i < lc → 0 ≤ f i ∧ f i ≤ 10000) {k p : Nat} (hk : k ≤ lc) (hp : p < lp) : -110000 ≤ netF P C f p k ∧ netF P C f p k ≤ 110000 := by
  have := accF_bd h hf k hk p hp
  have := h.c10
  rw [netF_acc h k hk]
  omega

end Go.Kn

namespace Go.Kn
open Go Go.Proofs Go.RowKit

set_option maxRecDepth 100000 in
set_option maxHeartbeats 2000000 in
theorem short_w (pa ca : Option Addr) (lp cp lc cc : Nat) (w : World) : Calls Tryz.prog 9 #[.agg #[.slice pa lp cp, .slice ca lc cc]] w fun e w' => e = .returned (.bool (decide (lp ≤ 9 ∧ lc ≤ 13))) ∧ Below w.heap.size w w' := by
  by_cases h1 : lp ≤ 9
  · have n1 : ((lp : Int) ≤ 9) := by omega
    by_cases h2 : lc ≤ 13
    all_goals
      first
        | have n2 : ((lc : Int) ≤ 13) := by omega
        | have n2 : ¬ ((lc : Int) ≤ 13) := by omega
      go_enter Tryz.func9, Tryz.ntmps9
      go_wp2
      go_ret
      exact ⟨by simp [h1, h2]; try omega, (Below.refl _ _).alloc (Nat.le_refl _) _⟩
  · have n1 : ¬ ((lp : Int) ≤ 9) := by omega
    go_enter Tryz.func9, Tryz.ntmps9
    go_wp2
    go_ret
    exact ⟨by simp [h1], (Below.refl _ _).alloc (Nat.le_refl _) _⟩

/-- what Feeds asks of its arguments -/
def fdQ (lp : Nat) (P : Nat → P8) (lc : Nat) (C : Nat → C8) (s : Nat → Int) (m : Nat) (f : Nat → Int) (n : Nat) : Bool := netV lp P lc C && gatsB lc C s m && flowB lc f n
theorem flowB_iff {lc n : Nat} {f : Nat → Int} : flowB lc f n = true ↔ n = lc ∧ ∀ i, i < n → 0 ≤ f i ∧ f i ≤ 10000 := by
  simp [flowB, allN_iff, fromB]

set_option maxRecDepth 100000 in
set_option maxHeartbeats 4000000 in
theorem feeds_w (pa ca sa fa : Option Addr) (lp cp lc cc m sc n fc : Nat) (P : Nat → P8) (C : Nat → C8) (s f : Nat → Int) (w : World) (hlp : lp ≤ 1000000) (hlc : lc ≤ 1000000) (hm : m ≤ 1000000) (hn : n ≤ 1000000) (H : Hid (Ne8 w pa ca lp lc P C)) (HO : Hid (IntSl w sa m s)) (HS : Hid (IntSl w fa n f)) :
    Calls Tryz.prog 39 #[.agg #[.slice pa lp cp, .slice ca lc cc], .slice sa m sc, .slice fa n fc] w fun e w' => e = .returned (.tuple #[.bool (fdQ lp P lc C s m f n && fbV lp P lc C (opnF s m) f), .int .i64 (if fdQ lp P lc C s m f n then 0 else 2)]) ∧ Below w.heap.size w w' := by
  obtain ⟨W0, hW0⟩ : ∃ W0, W0 = w.alloc (.cells #[.slice pa lp cp, .slice ca lc cc] 25) := ⟨_, rfl⟩
  have hA : Below w.heap.size w W0 := by rw [hW0]; exact (Below.refl _ _).alloc (Nat.le_refl _) _
  have HF : Hid (∀ w2, Below W0.heap.size W0 w2 → w2.cell? ⟨w.heap.size, 0, none⟩ = some (.slice pa lp cp) ∧ w2.cell? ⟨w.heap.size, 1, none⟩ = some (.slice ca lc cc)) := Lib.hid fun w2 h => by
    rw [hW0] at h
    exact ⟨(box_cells h).1, (box_cells h).2.1⟩
  have HN : Hid (∀ w2, Below W0.heap.size W0 w2 → Ne8 w2 pa ca lp lc P C) := Lib.hid fun w2 h => H.out.below (hA.trans (h.mono hA.size))
  have HOS : Hid (∀ w2, Below W0.heap.size W0 w2 → IntSl w2 sa m s) := Lib.hid fun w2 h => HO.out.below (hA.trans (h.mono hA.size))
  have HFS : Hid (∀ w2, Below W0.heap.size W0 w2 → IntSl w2 fa n f) := Lib.hid fun w2 h => HS.out.below (hA.trans (h.mono hA.size))
  have H1 : Hid (Calls Tryz.prog 49 #[.agg #[.slice pa lp cp, .slice ca lc cc]] W0 fun e w' => e = .returned (.bool (netV lp P lc C)) ∧ Below W0.heap.size W0 w') := Lib.hid (isNet_w pa ca lp cp lc cc P C W0 hlp hlc (Lib.hid (HN.out _ (Below.refl _ _))))
  have H2 : Hid (∀ w2, Below W0.heap.size W0 w2 → Calls Tryz.prog 50 #[.agg #[.slice pa lp cp, .slice ca lc cc], .slice sa m sc] w2 fun e w' => e = .returned (.bool (gatsB lc C s m)) ∧ Below w2.heap.size w2 w') := Lib.hid fun w2 h => areGates_w pa ca sa lp cp lc cc m sc P C s w2 hlc hm (Lib.hid (HN.out _ h)) (Lib.hid (HOS.out _ h))
  have H3 : Hid (∀ w2, Below W0.heap.size W0 w2 → Calls Tryz.prog 82 #[.agg #[.slice pa lp cp, .slice ca lc cc], .slice fa n fc] w2 fun e w' => e = .returned (.bool (flowB lc f n)) ∧ Below w2.heap.size w2 w') := Lib.hid fun w2 h => areFlows_w pa ca fa lp cp lc cc n fc f w2 hn (Lib.hid (HFS.out _ h))
  have HA := Lib.hid hA
  obtain ⟨f0, f1⟩ := HF.out _ (Below.refl _ _)
  rw [hW0] at f0 f1
  clear hA H HO HS
  obtain ⟨q1, hq1⟩ : ∃ q, netV lp P lc C = q := ⟨_, rfl⟩
  obtain ⟨q2, hq2⟩ : ∃ q, gatsB lc C s m = q := ⟨_, rfl⟩
  obtain ⟨q3, hq3⟩ : ∃ q, flowB lc f n = q := ⟨_, rfl⟩
  have HQ1 := Lib.hid hq1
  have HQ2 := Lib.hid hq2
  have HQ3 := Lib.hid hq3
  have HQ : Hid (fdQ lp P lc C s m f n = (q1 && q2 && q3)) := Lib.hid (by rw [← hq1, ← hq2, ← hq3]; rfl)
  rw [HQ.out]
  rw [hq1] at H1
  rw [hq2] at H2
  rw [hq3] at H3
  clear hq1 hq2 hq3 HQ
  cases q1 with
  | false =>
    go_enter Tryz.func39, Tryz.ntmps39
    go_wp2_with (go_at_call 49; rw [← hW0]; refine H1.out.mono ?_; rintro e w5 ⟨rfl, hv⟩)
    refine bodyPost_ret (v := .tuple #[.bool false, .int .i64 2]) (by simp [results, Tryz.results39, go_sem]) rfl ⟨rfl, HA.out.trans (hv.mono HA.out.size)⟩
  | true =>
    cases q2 with
    | false =>
      go_enter Tryz.func39, Tryz.ntmps39
      go_wp2_with (first
        | (go_at_call 49; rw [← hW0]; refine H1.out.mono ?_; rintro e w5 ⟨rfl, hv⟩; clear hW0 f0 f1; have HV5 := Lib.hid hv; obtain ⟨g0, g1⟩ := HF.out _ hv; clear hv)
        | (go_at_call 50; refine (H2.out _ HV5.out).mono ?_; rintro e w6 ⟨rfl, hv⟩; have HV6 := Lib.hid (HV5.out.trans (hv.mono HV5.out.size)); clear hv))
      refine bodyPost_ret (v := .tuple #[.bool false, .int .i64 2]) (by simp [results, Tryz.results39, go_sem]) rfl ⟨rfl, HA.out.trans (HV6.out.mono HA.out.size)⟩
    | true =>
      cases q3 with
      | false =>
        go_enter Tryz.func39, Tryz.ntmps39
        go_wp2_with (first
          | (go_at_call 49; rw [← hW0]; refine H1.out.mono ?_; rintro e w5 ⟨rfl, hv⟩; clear hW0 f0 f1; have HV5 := Lib.hid hv; obtain ⟨g0, g1⟩ := HF.out _ hv; clear hv)
          | (go_at_call 50; refine (H2.out _ HV5.out).mono ?_; rintro e w6 ⟨rfl, hv⟩; have HV6 := Lib.hid (HV5.out.trans (hv.mono HV5.out.size)); clear hv g0 g1; obtain ⟨g0, g1⟩ := HF.out _ HV6.out)
          | (go_at_call 82; refine (H3.out _ HV6.out).mono ?_; rintro e w7 ⟨rfl, hv⟩; have HV7 := Lib.hid (HV6.out.trans (hv.mono HV6.out.size)); clear hv))
        refine bodyPost_ret (v := .tuple #[.bool false, .int .i64 2]) (by simp [results, Tryz.results39, go_sem]) rfl ⟨rfl, HA.out.trans (HV7.out.mono HA.out.size)⟩
      | true =>
        obtain ⟨e1, e2⟩ := flowB_iff.1 HQ3.out
        subst e1
        have HP := Lib.hid (netV_iff.1 HQ1.out)
        have hn10 := HP.out.c10
        have HFB := Lib.hid e2
        have HOB : Hid (∀ i, i < m → 0 ≤ s i ∧ s i < 10) := Lib.hid fun i hi => by have := gatsB_inc HQ2.out i hi; omega
        have H4 : Hid (∀ w2, Below W0.heap.size W0 w2 → Calls Tryz.prog 80 #[.agg #[.slice pa lp cp, .slice ca n cc], .slice sa m sc] w2 fun e w' => e = .returned (.agg (opC pa ca lp cp n cc (opnF s m))) ∧ Below w2.heap.size w2 w') := Lib.hid fun w2 h => withOpen_w pa ca sa lp cp n cc m sc s w2 hm HOB (Lib.hid (HOS.out _ h))
        have H5 : Hid (∀ w2, Below W0.heap.size W0 w2 → Calls Tryz.prog 83 #[.agg (opC pa ca lp cp n cc (opnF s m)), .slice fa n fc] w2 fun e w' => e = .returned (.bool (fbV lp P n C (opnF s m) f)) ∧ Below w2.heap.size w2 w') := Lib.hid fun w2 h => fedBy_w pa ca fa lp cp n cc fc P C (opnF s m) f w2 HP HFB (Lib.hid (HN.out _ h)) (Lib.hid (HFS.out _ h))
        obtain ⟨v, hv⟩ : ∃ v, fbV lp P n C (opnF s m) f = v := ⟨_, rfl⟩
        obtain ⟨oc, hoc⟩ : ∃ v, opC pa ca lp cp n cc (opnF s m) = v := ⟨_, rfl⟩
        rw [hv, hoc] at H5
        rw [hoc] at H4
        rw [hv]
        clear hv hoc e2
        go_enter Tryz.func39, Tryz.ntmps39
        go_wp2_with (first
          | (go_at_call 49; rw [← hW0]; refine H1.out.mono ?_; rintro e w5 ⟨rfl, hv⟩; clear hW0 f0 f1; have HV5 := Lib.hid hv; obtain ⟨g0, g1⟩ := HF.out _ hv; clear hv)
          | (go_at_call 50; refine (H2.out _ HV5.out).mono ?_; rintro e w6 ⟨rfl, hv⟩; have HV6 := Lib.hid (HV5.out.trans (hv.mono HV5.out.size)); clear hv g0 g1; obtain ⟨g0, g1⟩ := HF.out _ HV6.out)
          | (go_at_call 82; refine (H3.out _ HV6.out).mono ?_; rintro e w7 ⟨rfl, hv⟩; have HV7 := Lib.hid (HV6.out.trans (hv.mono HV6.out.size)); clear hv g0 g1; obtain ⟨g0, g1⟩ := HF.out _ HV7.out)
          | (go_at_call 80; refine (H4.out _ HV7.out).mono ?_; rintro e w8 ⟨rfl, hv⟩; have HV8 := Lib.hid (HV7.out.trans (hv.mono HV7.out.size)); clear hv g0 g1)
          | (go_at_call 83; refine (H5.out _ HV8.out).mono ?_; rintro e w9 ⟨rfl, hv⟩; have HV9 := Lib.hid (HV8.out.trans (hv.mono HV8.out.size)); clear hv))
        refine bodyPost_ret (v := .tuple #[.bool v, .int .i64 0]) (by simp [results, Tryz.results39, go_sem]) rfl ⟨by simp, HA.out.trans (HV9.out.mono HA.out.size)⟩
end Go.Kn
