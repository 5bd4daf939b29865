/- Contracts of functions that the laws of this seat call, or the evaluator of closed calls and its runs. Conditions: as each theorem states them. -/
import Derived.Test.YtddlghdglknloaaGreatDoorL4
import Derived.Test.YtddlghdglknloaaGreatDoorM6
import Derived.Test.YtddlghdglknloaaGreatDoorP1
import Derived.Test.YtddlghdglknloaaGreatDoorKN
set_option linter.unusedVariables false
set_option linter.unusedSimpArgs false
namespace Go.Kn
open Go Go.Proofs Go.RowKit

theorem wordV_three {lp : Nat} {P : Nat → P8} {lc : Nat} {C : Nat → C8} {op : Nat → Bool} (h : fedV lp P lc C op false = true) : wordV lp P lc C op = 3 := by unfold wordV; rw [h]; rfl
theorem wordV_else {lp : Nat} {P : Nat → P8} {lc : Nat} {C : Nat → C8} {op : Nat → Bool} (h : fedV lp P lc C op false = false) : (wordV lp P lc C op == 3) = false := by unfold wordV; rw [h]; simp only [Bool.false_eq_true, if_false]; split <;> rfl
theorem fedq_w (pa ca sa : Option Addr) (lp cp lc cc m sc : Nat) (P : Nat → P8) (C : Nat → C8) (s : Nat → Int) (u : Int) (w : World) (HP : NetP lp P lc C) (HG : gatsB lc C s m = true) (hu : wordV lp P lc C (opnF s m) = u) (hm : m ≤ 1000000) (H : Hid (Ne8 w pa ca lp lc P C)) (HO : Hid (IntSl w sa m s)) :
    Calls Tryz.prog 23 #[.agg #[.slice pa lp cp, .slice ca lc cc], .slice sa m sc] w fun e w' => e = .returned (.tuple #[.int .i64 u, .int .i64 0]) ∧ Below w.heap.size w w' := by
  have hq : fedQ lp P lc C s m = true := by unfold fedQ; rw [netV_iff.2 HP, HG]; rfl
  have h := fed_w pa ca sa lp cp lc cc m sc P C s w (by have := HP.l7; omega) (by have := HP.c10; omega) hm H HO
  rw [hq, hu] at h
  simpa only [if_true] using h

def rgB (lp : Nat) (P : Nat → P8) (lc : Nat) (C : Nat → C8) (s : Nat → Int) (m : Nat) : Bool := decide (lp ≤ 9 ∧ lc ≤ 13) && (decide (m ≤ 10) && (netV lp P lc C && gatsB lc C s m))
theorem rgB_t {lp : Nat} {P : Nat → P8} {lc : Nat} {C : Nat → C8} {s : Nat → Int} {m : Nat} (h : rgB lp P lc C s m = true) : lp ≤ 9 ∧ lc ≤ 13 ∧ m ≤ 10 ∧ netV lp P lc C = true ∧ gatsB lc C s m = true := by
  simp only [rgB, Bool.and_eq_true, decide_eq_true_eq] at h
  exact ⟨h.1.1, h.1.2, h.2.1, h.2.2.1, h.2.2.2⟩

set_option maxRecDepth 100000 in
set_option maxHeartbeats 4000000 in
theorem right_b (pa ca sa : Option Addr) (lp cp lc cc m sc : Nat) (P : Nat → P8) (C : Nat → C8) (s : Nat → Int) (w : World) (hm : m ≤ maxLen) (H : Hid (Ne8 w pa ca lp lc P C)) (HO : Hid (IntSl w sa m s)) :
    Calls Tryz.prog 22 #[.agg #[.slice pa lp cp, .slice ca lc cc], .slice sa m sc] w fun e w' => e = .returned (.bool (rgB lp P lc C s m)) ∧ Below w.heap.size w w' := by
  obtain ⟨W0, hW0⟩ : ∃ W0, W0 = w.alloc (.cells #[.slice pa lp cp, .slice ca lc cc] 25) := ⟨_, rfl⟩
  have hA : Below w.heap.size w W0 := by rw [hW0]; exact (Below.refl _ _).alloc (Nat.le_refl _) _
  have HF : Hid (∀ w2, Below W0.heap.size W0 w2 → w2.cell? ⟨w.heap.size, 0, none⟩ = some (.slice pa lp cp) ∧ w2.cell? ⟨w.heap.size, 1, none⟩ = some (.slice ca lc cc)) := Lib.hid fun w2 h => by
    rw [hW0] at h
    exact ⟨(box_cells h).1, (box_cells h).2.1⟩
  have HN : Hid (∀ w2, Below W0.heap.size W0 w2 → Hid (Ne8 w2 pa ca lp lc P C)) := Lib.hid fun w2 h => Lib.hid (H.out.below (hA.trans (h.mono hA.size)))
  have HOS : Hid (∀ w2, Below W0.heap.size W0 w2 → Hid (IntSl w2 sa m s)) := Lib.hid fun w2 h => Lib.hid (HO.out.below (hA.trans (h.mono hA.size)))
  have HSH : Hid (Calls Tryz.prog 15 #[.agg #[.slice pa lp cp, .slice ca lc cc]] W0 fun e w' => e = .returned (.bool (decide (lp ≤ 9 ∧ lc ≤ 13))) ∧ Below W0.heap.size W0 w') := Lib.hid (short_w pa ca lp cp lc cc W0)
  have HA := Lib.hid hA
  obtain ⟨f0, f1⟩ := HF.out _ (Below.refl _ _)
  rw [hW0] at f0 f1
  clear hA H HO
  by_cases hsh : lp ≤ 9 ∧ lc ≤ 13
  case neg =>
    have hd : decide (lp ≤ 9 ∧ lc ≤ 13) = false := decide_eq_false hsh
    rw [hd] at HSH
    have hrb : rgB lp P lc C s m = false := by unfold rgB; rw [hd]; rfl
    rw [hrb]
    clear hd hsh hrb
    go_enter Tryz.func22, Tryz.ntmps22
    go_wp2_with (go_at_call 15; rw [← hW0]; refine HSH.out.mono ?_; rintro e w5 ⟨rfl, hv⟩)
    go_ret
    exact ⟨rfl, HA.out.trans (hv.mono HA.out.size)⟩
  case pos =>
    have hd : decide (lp ≤ 9 ∧ lc ≤ 13) = true := decide_eq_true hsh
    rw [hd] at HSH
    have hrg : rgB lp P lc C s m = (decide (m ≤ 10) && (netV lp P lc C && gatsB lc C s m)) := by unfold rgB; rw [hd]; rfl
    rw [hrg]
    clear hd hrg
    obtain ⟨hs1, hs2⟩ := hsh
    by_cases hm10 : m ≤ 10
    case neg =>
      have n1 : ¬ ((m : Int) ≤ 10) := by omega
      have hdm : decide (m ≤ 10) = false := decide_eq_false hm10
      rw [hdm, Bool.false_and]
      clear hdm
      go_enter Tryz.func22, Tryz.ntmps22
      go_wp2_with (go_at_call 15; rw [← hW0]; refine HSH.out.mono ?_; rintro e w5 ⟨rfl, hv⟩)
      go_ret
      exact ⟨rfl, HA.out.trans (hv.mono HA.out.size)⟩
    case pos =>
      have n1 : ((m : Int) ≤ 10) := by omega
      have hdm : decide (m ≤ 10) = true := decide_eq_true hm10
      rw [hdm, Bool.true_and]
      clear hdm
      have H1 : Hid (∀ w2, Below W0.heap.size W0 w2 → Calls Tryz.prog 18 #[.agg #[.slice pa lp cp, .slice ca lc cc]] w2 fun e w' => e = .returned (.bool (netV lp P lc C)) ∧ Below w2.heap.size w2 w') := Lib.hid fun w2 h => rnet_w pa ca lp cp lc cc P C w2 (by omega) (by omega) (HN.out _ h)
      have H2 : Hid (∀ w2, Below W0.heap.size W0 w2 → Calls Tryz.prog 19 #[.agg #[.slice pa lp cp, .slice ca lc cc], .slice sa m sc] w2 fun e w' => e = .returned (.bool (gatsB lc C s m)) ∧ Below w2.heap.size w2 w') := Lib.hid fun w2 h => rsome_w pa ca sa lp cp lc cc m sc P C s w2 (by omega) (by omega) (HN.out _ h) (HOS.out _ h)
      obtain ⟨q1, hq1⟩ : ∃ q, netV lp P lc C = q := ⟨_, rfl⟩
      obtain ⟨q2, hq2⟩ : ∃ q, gatsB lc C s m = q := ⟨_, rfl⟩
      rw [hq1] at H1
      rw [hq2] at H2
      rw [hq1, hq2]
      clear hq1 hq2
      cases q1 with
      | false =>
        rw [Bool.false_and]
        go_enter Tryz.func22, Tryz.ntmps22
        go_wp2_with (first
          | (go_at_call 15; rw [← hW0]; refine HSH.out.mono ?_; rintro e w5 ⟨rfl, hv⟩; clear hW0 f0 f1; have HV5 := Lib.hid hv; obtain ⟨g0, g1⟩ := HF.out _ hv; clear hv)
          | (go_at_call 18; refine (H1.out _ HV5.out).mono ?_; rintro e w6 ⟨rfl, hv⟩; have HV6 := Lib.hid (HV5.out.trans (hv.mono HV5.out.size)); clear hv))
        go_ret
        exact ⟨rfl, HA.out.trans (HV6.out.mono HA.out.size)⟩
      | true =>
        rw [Bool.true_and]
        go_enter Tryz.func22, Tryz.ntmps22
        go_wp2_with (first
          | (go_at_call 15; rw [← hW0]; refine HSH.out.mono ?_; rintro e w5 ⟨rfl, hv⟩; clear hW0 f0 f1; have HV5 := Lib.hid hv; obtain ⟨g0, g1⟩ := HF.out _ hv; clear hv)
          | (go_at_call 18; refine (H1.out _ HV5.out).mono ?_; rintro e w6 ⟨rfl, hv⟩; have HV6 := Lib.hid (HV5.out.trans (hv.mono HV5.out.size)); clear hv g0 g1; obtain ⟨g0, g1⟩ := HF.out _ HV6.out)
          | (go_at_call 19; refine (H2.out _ HV6.out).mono ?_; rintro e w7 ⟨rfl, hv⟩; have HV7 := Lib.hid (HV6.out.trans (hv.mono HV6.out.size)); clear hv))
        go_ret
        exact ⟨rfl, HA.out.trans (HV7.out.mono HA.out.size)⟩
end Go.Kn

namespace Go.Kn
open Go Go.Proofs Go.RowKit

theorem fed_more {lp : Nat} {P : Nat → P8} {lc : Nat} {C : Nat → C8} {op op' : Nat → Bool} {b : Bool} (h : NetP lp P lc C) (hm : ∀ c, c < lc → (C c).ga = true → op c = true → op' c = true) (hf : fedV lp P lc C op b = true) : fedV lp P lc C op' b = true := by
  rw [fed_iff] at hf ⊢
  intro L hL
  have h1 := hf L hL
  unfold spareV at h1 ⊢
  have h2 : sumN (fun k => if inV C L k then carV C op k else 0) lc ≤ sumN (fun k => if inV C L k then carV C op' k else 0) lc := sumN_le fun i hi => by
    split
    · have hc := h.c hi
      unfold carV
      cases hg : (C i).ga with
      | false => simp
      | true =>
        cases ho : op i with
        | false => simp only [Bool.not_false, Bool.and_true, if_true]; split <;> omega
        | true => rw [hm i hi hg ho]; simp
    · exact Int.le_refl _
  omega

theorem emF_at {lc : Nat} {C : Nat → C8} {t : Nat → Int} {n : Nat} (ht : gatsB lc C t n = true) {c : Nat} (hc : c < lc) (hg : (C c).ga = true) : emF lc C t n c = !anyB t (c : Int) n := by
  unfold emF
  rw [tog_any ht _ c n (Nat.le_refl _), opnF_any gatL_ok c _ (Nat.le_refl _), lgI_any]
  have : c ∈ gatL C lc := gatL_mem.2 ⟨hc, hg⟩
  simp [this]
end Go.Kn

namespace Go.Kn
open Go Go.Proofs Go.RowKit

/-- points of which one has another need -/
def updN (P : Nat → P8) (p : Nat) (v : Int) : Nat → P8 := fun i => if i = p then ⟨(P i).lo, (P i).hi, v⟩ else P i
theorem updN_lo {P : Nat → P8} {p i : Nat} {v : Int} : (updN P p v i).lo = (P i).lo := by unfold updN; split <;> rfl
theorem updN_hi {P : Nat → P8} {p i : Nat} {v : Int} : (updN P p v i).hi = (P i).hi := by unfold updN; split <;> rfl
theorem updN_nd {P : Nat → P8} {p i : Nat} {v : Int} : (updN P p v i).nd = if i = p then v else (P i).nd := by unfold updN; split <;> rfl
theorem NetP.upd {lp : Nat} {P : Nat → P8} {lc : Nat} {C : Nat → C8} (h : NetP lp P lc C) {p : Nat} {v : Int} (hv : 0 ≤ v ∧ v ≤ 10000) : NetP lp (updN P p v) lc C := by
  refine ⟨h.l1, h.l7, h.c10, fun i hi => ?_, h.ch, h.g7⟩
  have := h.p hi
  simp only [ptB, fromB, updN_lo, updN_hi, updN_nd, Bool.and_eq_true, decide_eq_true_eq]
  split <;> omega

/-- the cells of points, one behind another -/
def ptCell (P : Nat → P8) (j : Nat) : Value := if j % 3 = 0 then .int .i64 (P (j / 3)).lo else if j % 3 = 1 then .int .i64 (P (j / 3)).hi else .int .i64 (P (j / 3)).nd
def ptCells (P : Nat → P8) (lp : Nat) : List Value := (List.range (lp * 3)).map (ptCell P)
theorem ptCell_at {w : World} {A O lp : Nat} {P : Nat → P8} (h : PtAt w A O lp P) {j : Nat} (hj : j < lp * 3) : w.cell? ⟨A, O + j, none⟩ = some (ptCell P j) := by
  obtain ⟨h0, h1, h2⟩ := h (j / 3) (by omega)
  unfold ptCell
  by_cases e0 : j % 3 = 0
  · rw [if_pos e0]
    have : O + j = O + j / 3 * 3 := by omega
    rw [this]; exact h0
  · rw [if_neg e0]
    by_cases e1 : j % 3 = 1
    · rw [if_pos e1]
      have : O + j = O + j / 3 * 3 + 1 := by omega
      rw [this]; exact h1
    · rw [if_neg e1]
      have : O + j = O + j / 3 * 3 + 2 := by omega
      rw [this]; exact h2
theorem ptAt_of {w : World} {g lp : Nat} {P : Nat → P8} (h : ∀ j, j < lp * 3 → w.cell? ⟨g, j, none⟩ = some (ptCell P j)) : PtAt w g 0 lp P := by
  intro i hi
  have h0 := h (i * 3) (by omega)
  have h1 := h (i * 3 + 1) (by omega)
  have h2 := h (i * 3 + 2) (by omega)
  unfold ptCell at h0 h1 h2
  rw [if_pos (by omega), show i * 3 / 3 = i by omega] at h0
  rw [if_neg (by omega), if_pos (by omega), show (i * 3 + 1) / 3 = i by omega] at h1
  rw [if_neg (by omega), if_neg (by omega), show (i * 3 + 2) / 3 = i by omega] at h2
  rw [Nat.zero_add]
  exact ⟨h0, h1, h2⟩
theorem pt_owned {w : World} {base lp : Nat} {v : Value} {P : Nat → P8} (h : w.ownsRow base 37 3 v lp (ptCells P lp)) (h0 : 0 < lp) : ∃ g cap, v = .slice (some ⟨g, 0, none⟩) lp cap ∧ base ≤ g ∧ g < w.heap.size ∧ (∀ j, j < lp * 3 → w.cell? ⟨g, j, none⟩ = some (ptCell P j)) ∧ ∀ j, j < lp * 3 → w.frozen? ⟨g, j, none⟩ = false := by
  rcases h.2 with ⟨h1, h2⟩ | ⟨g, cap, cur, h1, hb, hg, hn, hc, hs, hx⟩
  · omega
  · refine ⟨g, cap, h1, hb, (Array.getElem?_eq_some_iff.1 hg).1, fun j hj => ?_, fun j hj => by simp [World.frozen?, hg]⟩
    have e1 : (ptCells P lp)[j]? = some (ptCell P j) := by simp [ptCells, hj]
    rw [← hx, List.getElem?_take, if_pos hj] at e1
    simp only [Array.getElem?_toList] at e1
    simp [World.cell?, hg, e1]
theorem info37 : (Tryz.prog.info? 37).map (fun i => (i.zero, i.size, i.bytes)) = some (some (.agg #[.int .i64 0, .int .i64 0, .int .i64 0]), 3, 24) := by kernel_rfl
theorem info68 : (Tryz.prog.info? 68).map (fun i => (i.zero, i.size, i.bytes)) = some (some (.agg #[.int .i64 0, .int .i64 0, .int .i64 0, .bool false]), 4, 32) := by kernel_rfl

/-! channels, one behind another -/
def chCell (C : Nat → C8) (j : Nat) : Value := if j % 4 = 0 then .int .i64 (C (j / 4)).fr else if j % 4 = 1 then .int .i64 (C (j / 4)).to else if j % 4 = 2 then .int .i64 (C (j / 4)).cu else .bool (C (j / 4)).ga
def chCells (C : Nat → C8) (lc : Nat) : List Value := (List.range (lc * 4)).map (chCell C)
theorem chCell_at {w : World} {A O lc : Nat} {C : Nat → C8} (h : ChAt w A O lc C) {j : Nat} (hj : j < lc * 4) : w.cell? ⟨A, O + j, none⟩ = some (chCell C j) := by
  obtain ⟨h0, h1, h2, h3⟩ := h (j / 4) (by omega)
  unfold chCell
  by_cases e0 : j % 4 = 0
  · rw [if_pos e0]
    have : O + j = O + j / 4 * 4 := by omega
    rw [this]; exact h0
  · rw [if_neg e0]
    by_cases e1 : j % 4 = 1
    · rw [if_pos e1]
      have : O + j = O + j / 4 * 4 + 1 := by omega
      rw [this]; exact h1
    · rw [if_neg e1]
      by_cases e2 : j % 4 = 2
      · rw [if_pos e2]
        have : O + j = O + j / 4 * 4 + 2 := by omega
        rw [this]; exact h2
      · rw [if_neg e2]
        have : O + j = O + j / 4 * 4 + 3 := by omega
        rw [this]; exact h3
theorem chAt_of {w : World} {g lc : Nat} {C : Nat → C8} (h : ∀ j, j < lc * 4 → w.cell? ⟨g, j, none⟩ = some (chCell C j)) : ChAt w g 0 lc C := by
  intro i hi
  have h0 := h (i * 4) (by omega)
  have h1 := h (i * 4 + 1) (by omega)
  have h2 := h (i * 4 + 2) (by omega)
  have h3 := h (i * 4 + 3) (by omega)
  unfold chCell at h0 h1 h2 h3
  rw [if_pos (by omega), show i * 4 / 4 = i by omega] at h0
  rw [if_neg (by omega), if_pos (by omega), show (i * 4 + 1) / 4 = i by omega] at h1
  rw [if_neg (by omega), if_neg (by omega), if_pos (by omega), show (i * 4 + 2) / 4 = i by omega] at h2
  rw [if_neg (by omega), if_neg (by omega), if_neg (by omega), show (i * 4 + 3) / 4 = i by omega] at h3
  rw [Nat.zero_add]
  exact ⟨h0, h1, h2, h3⟩
theorem ch_owned {w : World} {base lc : Nat} {v : Value} {C : Nat → C8} (h : w.ownsRow base 68 4 v lc (chCells C lc)) (h0 : 0 < lc) : ∃ g cap, v = .slice (some ⟨g, 0, none⟩) lc cap ∧ base ≤ g ∧ g < w.heap.size ∧ (∀ j, j < lc * 4 → w.cell? ⟨g, j, none⟩ = some (chCell C j)) ∧ ∀ j, j < lc * 4 → w.frozen? ⟨g, j, none⟩ = false := by
  rcases h.2 with ⟨h1, h2⟩ | ⟨g, cap, cur, h1, hb, hg, hn, hc, hs, hx⟩
  · omega
  · refine ⟨g, cap, h1, hb, (Array.getElem?_eq_some_iff.1 hg).1, fun j hj => ?_, fun j hj => by simp [World.frozen?, hg]⟩
    have e1 : (chCells C lc)[j]? = some (chCell C j) := by simp [chCells, hj]
    rw [← hx, List.getElem?_take, if_pos hj] at e1
    simp only [Array.getElem?_toList] at e1
    simp [World.cell?, hg, e1]
theorem pt_lies {w : World} {A O lp : Nat} {P : Nat → P8} (h : PtAt w A O lp P) : ∀ (j : Nat) (u : Value), (ptCells P lp)[j]? = some u → w.cell? ((⟨A, O, none⟩ : Addr).add j) = some u := fun j u hu => by
  have hj : j < lp * 3 := by
    rcases Nat.lt_or_ge j (lp * 3) with h | h
    · exact h
    · rw [List.getElem?_eq_none (by simpa [ptCells] using h)] at hu; cases hu
  have e : u = ptCell P j := by simpa [ptCells, hj] using hu.symm
  have hc := ptCell_at h hj
  rw [e]
  by_cases hj0 : j = 0
  · subst hj0; simpa [Addr.add] using hc
  · simpa [Addr.add, hj0] using hc
theorem ch_lies {w : World} {A O lc : Nat} {C : Nat → C8} (h : ChAt w A O lc C) : ∀ (j : Nat) (u : Value), (chCells C lc)[j]? = some u → w.cell? ((⟨A, O, none⟩ : Addr).add j) = some u := fun j u hu => by
  have hj : j < lc * 4 := by
    rcases Nat.lt_or_ge j (lc * 4) with h | h
    · exact h
    · rw [List.getElem?_eq_none (by simpa [chCells] using h)] at hu; cases hu
  have e : u = chCell C j := by simpa [chCells, hj] using hu.symm
  have hc := chCell_at h hj
  rw [e]
  by_cases hj0 : j = 0
  · subst hj0; simpa [Addr.add] using hc
  · simpa [Addr.add, hj0] using hc
theorem pt_one {P : Nat → P8} {lp : Nat} : ∀ u ∈ ptCells P lp, u.oneCell' = true := by
  intro u hu; simp [ptCells] at hu; obtain ⟨a, _, rfl⟩ := hu; unfold ptCell; split <;> (try split) <;> rfl
theorem ch_one {C : Nat → C8} {lc : Nat} : ∀ u ∈ chCells C lc, u.oneCell' = true := by
  intro u hu; simp [chCells] at hu; obtain ⟨a, _, rfl⟩ := hu; unfold chCell; split <;> (try split) <;> (try split) <;> rfl

/-! a channel that carries more, a need that is less -/
def updC (C : Nat → C8) (c : Nat) (v : Int) : Nat → C8 := fun i => if i = c then ⟨(C i).fr, (C i).to, v, (C i).ga⟩ else C i
theorem updC_fr {C : Nat → C8} {c i : Nat} {v : Int} : (updC C c v i).fr = (C i).fr := by unfold updC; split <;> rfl
theorem updC_to {C : Nat → C8} {c i : Nat} {v : Int} : (updC C c v i).to = (C i).to := by unfold updC; split <;> rfl
theorem updC_ga {C : Nat → C8} {c i : Nat} {v : Int} : (updC C c v i).ga = (C i).ga := by unfold updC; split <;> rfl
theorem updC_cu {C : Nat → C8} {c i : Nat} {v : Int} : (updC C c v i).cu = if i = c then v else (C i).cu := by unfold updC; split <;> rfl
theorem cntN_congr {p q : Nat → Bool} : ∀ k, (∀ i, i < k → p i = q i) → cntN p k = cntN q k
  | 0, _ => rfl
  | k + 1, h => by simp only [cntN]; rw [cntN_congr k fun i hi => h i (by omega), h k (by omega)]
theorem NetP.updC {lp : Nat} {P : Nat → P8} {lc : Nat} {C : Nat → C8} (h : NetP lp P lc C) {c : Nat} {v : Int} (hv : 0 ≤ v ∧ v ≤ 10000) : NetP lp P lc (updC C c v) := by
  refine ⟨h.l1, h.l7, h.c10, h.pt, fun i hi => ?_, ?_⟩
  · have := h.c hi
    simp only [chB, fromB, updC_fr, updC_to, updC_cu, Bool.and_eq_true, decide_eq_true_eq]
    split <;> omega
  · rw [cntN_congr lc fun i _ => updC_ga]; exact h.g7
theorem gatsB_updC {lc : Nat} {C : Nat → C8} {c : Nat} {v : Int} {s : Nat → Int} : ∀ m, gatsB lc (updC C c v) s m = gatsB lc C s m
  | 0 => rfl
  | m + 1 => by simp only [gatsB, gatsB_updC m, gatB, updC_ga]
theorem fed_both {lp : Nat} {P : Nat → P8} {lc : Nat} {C : Nat → C8} {op : Nat → Bool} {b : Bool} {p c : Nat} {nd cu : Int} (h : NetP lp P lc C) (hp : nd ≤ (P p).nd) (hc : c < lc → (C c).cu ≤ cu) (hf : fedV lp P lc C op b = true) : fedV lp (updN P p nd) lc (updC C c cu) op b = true := by
  rw [fed_iff] at hf ⊢
  intro L hL
  have h1 := hf L hL
  unfold spareV at h1 ⊢
  have h2 : sumL (leftV P b) L ≤ sumL (leftV (updN P p nd) b) L := by
    clear h1 hL hf
    induction L with
    | nil => simp [sumL]
    | cons x L ih =>
      have : leftV P b x ≤ leftV (updN P p nd) b x := by
        simp only [leftV, updN_lo, updN_hi, updN_nd]
        by_cases e : x = p
        · rw [if_pos e]; subst e; omega
        · rw [if_neg e]; exact Int.le_refl _
      simp only [sumL]; omega
  have h3 : sumN (fun k => if inV C L k then carV C op k else 0) lc ≤ sumN (fun k => if inV (Go.Kn.updC C c cu) L k then carV (Go.Kn.updC C c cu) op k else 0) lc := sumN_le fun i hi => by
    have e : inV (Go.Kn.updC C c cu) L i = inV C L i := by unfold inV; rw [updC_to, updC_fr]
    rw [e]
    split
    · unfold carV
      rw [updC_ga]
      split
      · exact Int.le_refl _
      · rw [updC_cu]
        split
        · rename_i e2; subst e2; exact hc hi
        · exact Int.le_refl _
    · exact Int.le_refl _
  omega
theorem word_le {lp lp' : Nat} {P P' : Nat → P8} {lc lc' : Nat} {C C' : Nat → C8} {op op' : Nat → Bool} (h1 : fedV lp P lc C op false = true → fedV lp' P' lc' C' op' false = true) (h2 : fedV lp P lc C op true = true → fedV lp' P' lc' C' op' true = true) : wordV lp P lc C op ≤ wordV lp' P' lc' C' op' := by
  unfold wordV
  cases a : fedV lp P lc C op false <;> cases b : fedV lp P lc C op true <;> cases c : fedV lp' P' lc' C' op' false <;> cases d : fedV lp' P' lc' C' op' true <;> simp_all
theorem em_sub {lp : Nat} {P : Nat → P8} {lc : Nat} {C : Nat → C8} {t u : Nat → Int} {n q : Nat} (h : NetP lp P lc C) (ht : gatsB lc C t n = true) (hu : gatsB lc C u q = true) (hs : allN (fun k => anyB t (u k) n) q = true) (hf : fedV lp P lc C (emF lc C t n) false = true) : fedV lp P lc C (emF lc C u q) false = true := by
  refine fed_more h (fun c hc hg ho => ?_) hf
  rw [emF_at ht hc hg] at ho
  rw [emF_at hu hc hg]
  cases hb : anyB u (c : Int) q with
  | false => rfl
  | true =>
    obtain ⟨i, hi, e⟩ := anyB_iff.1 hb
    have := (allN_iff q).1 hs i hi
    rw [e] at this
    rw [this] at ho; simp at ho
theorem one_gate2 {lc : Nat} {C : Nat → C8} {x : Nat} (h : x < lc) (hg : (C x).ga = true) : gatsB lc C (lgI [x]) 1 = true := gats_list (L := [x]) (by simp) fun y hy => by simp at hy; subst hy; exact ⟨h, hg⟩
/-- open positions with one gate more -/
theorem more_op {lc : Nat} {C : Nat → C8} {s : Nat → Int} {m X : Nat} (hs : gatsB lc C s m = true) (hX : X < lc) (hg : (C X).ga = true) (hno : anyB s (X : Int) m = false) : ∀ c, c < lc → (C c).ga = true → opnF s m c = true → opnF (lgI (movL s m (lgI [X]) 1 lc)) (movL s m (lgI [X]) 1 lc).length c = true := fun c hc hgc ho => by
  rw [mov_op hs (one_gate2 hX hg) c hc hgc, tog_any (one_gate2 hX hg) _ c 1 (Nat.le_refl _), ho]
  have e : anyB (lgI [X]) (c : Int) 1 = false := by
    cases h : anyB (lgI [X]) (c : Int) 1 with
    | false => rfl
    | true =>
      obtain ⟨i, hi, e⟩ := anyB_iff.1 h
      obtain rfl : i = 0 := by omega
      have e3 : (X : Int) = (c : Int) := e
      have e4 : X = c := by omega
      subst e4
      rw [opnF_any hs _ m (Nat.le_refl _), hno] at ho; cases ho
  rw [e]; rfl
end Go.Kn
