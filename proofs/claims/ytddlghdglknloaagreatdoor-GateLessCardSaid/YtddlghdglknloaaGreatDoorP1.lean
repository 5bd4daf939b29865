/- Contracts of functions that the laws of this seat call, or the evaluator of closed calls and its runs. Conditions: as each theorem states them. -/
import Derived.Test.YtddlghdglknloaaGreatDoorM6
import Derived.Shelf.RegionOpen
set_option linter.unusedVariables false
set_option linter.unusedSimpArgs false
namespace Go.Kn
open Go Go.Proofs Go.RowKit

/-- the positions in which all gates but some are open -/
def emF (lc : Nat) (C : Nat → C8) (s : Nat → Int) (m : Nat) : Nat → Bool := togF (opnF (lgI (gatL C lc)) (gatL C lc).length) s m
theorem gatL_bd {lc : Nat} {C : Nat → C8} (h : lc ≤ 10) {i : Nat} (hi : i < (gatL C lc).length) : 0 ≤ lgI (gatL C lc) i ∧ lgI (gatL C lc) i < 10 := by
  rw [lgI_get hi]
  have h1 : (gatL C lc)[i] ∈ gatL C lc := List.getElem_mem _
  unfold gatL at h1
  have := List.mem_range.1 (List.mem_filter.1 h1).1
  simp only [gatL] at *
  omega
theorem dayNew2 {w : World} {base q : Nat} {v : Value} {l : List Nat} (h : w.ownsRow base 3 1 v q (l.map iv1)) (hl : l.length = q) : ∃ sa sc, v = .slice sa q sc ∧ IntSl w sa q (lgI l) ∧ True := by
  obtain ⟨sa, cc, h1, h2, _⟩ := dayNew h
  exact ⟨sa, cc, h1, h2, trivial⟩

set_option maxRecDepth 100000 in
set_option maxHeartbeats 4000000 in
theorem emptied_w (pa ca sa : Option Addr) (lp cp lc cc m sc : Nat) (P : Nat → P8) (C : Nat → C8) (s : Nat → Int) (w : World) (hc10 : lc ≤ 10) (hm : m ≤ 1000000) (HB : Hid (∀ i, i < m → 0 ≤ s i ∧ s i < 10)) (H : Hid (Ne8 w pa ca lp lc P C)) (HS : Hid (IntSl w sa m s)) :
    Calls Tryz.prog 87 #[.agg #[.slice pa lp cp, .slice ca lc cc], .slice sa m sc] w fun e w' => e = .returned (.agg (opC pa ca lp cp lc cc (emF lc C s m))) ∧ Below w.heap.size w w' := by
  obtain ⟨W1, hW1⟩ : ∃ W1, W1 = w.alloc (.cells #[.slice pa lp cp, .slice ca lc cc] 25) := ⟨_, rfl⟩
  have hb1 : Below w.heap.size w W1 := by rw [hW1]; exact (Below.refl _ _).alloc (Nat.le_refl _) _
  have hz1 : W1.heap.size = w.heap.size + 1 := by rw [hW1]; simp
  obtain ⟨W0, hW0⟩ : ∃ W0, W0 = W1.alloc (.cells #[.slice none 0 0, .slice none 0 0, .bool false, .bool false, .bool false, .bool false, .bool false, .bool false, .bool false, .bool false, .bool false, .bool false] 81) := ⟨_, rfl⟩
  have hA : Below w.heap.size w W0 := by rw [hW0]; exact hb1.alloc hb1.size _
  have hz : W0.heap.size = w.heap.size + 2 := by rw [hW0]; simp [hz1]
  have hR : Cel W0 (w.heap.size + 1) 12 (opG none none 0 0 0 0 fun _ => false) := by
    rw [hW0, ← hz1]
    refine ⟨twelve ?_ ?_ ?_ ?_ ?_ ?_ ?_ ?_ ?_ ?_ ?_ ?_, twelve ?_ ?_ ?_ ?_ ?_ ?_ ?_ ?_ ?_ ?_ ?_ ?_⟩ <;> simp [opG]
  have hF : ∀ w2, Below W0.heap.size W0 w2 → w2.cell? ⟨w.heap.size, 0, none⟩ = some (.slice pa lp cp) ∧ w2.cell? ⟨w.heap.size, 1, none⟩ = some (.slice ca lc cc) := fun w2 h => by
    have h1 : Below W1.heap.size W1 w2 := by rw [hW0] at h; exact below_al h
    rw [hW1] at h1
    exact ⟨(box_cells h1).1, (box_cells h1).2.1⟩
  have HF := Lib.hid hF
  have HG : Hid (∀ w2, Below W0.heap.size W0 w2 → Calls Tryz.prog 79 #[.agg #[.slice pa lp cp, .slice ca lc cc]] w2 fun e w' => (∃ v, e = .returned v ∧ w'.ownsRow w2.heap.size 3 1 v (gatL C lc).length ((gatL C lc).map iv1)) ∧ Below w2.heap.size w2 w') := Lib.hid fun w2 h => gatesOf_w pa ca lp cp lc cc P C w2 (by omega) (Lib.hid (H.out.below (hA.trans (h.mono hA.size))))
  have HM : Hid (∀ ga gc w2, IntSl w2 ga (gatL C lc).length (lgI (gatL C lc)) → Calls Tryz.prog 81 #[.slice ga (gatL C lc).length gc] w2 fun e w' => e = .returned (opV (opnF (lgI (gatL C lc)) (gatL C lc).length)) ∧ Below w2.heap.size w2 w') := Lib.hid fun ga gc w2 h => posOf_w ga (gatL C lc).length gc (lgI (gatL C lc)) w2 (by have := gatL_le (C := C) lc; omega) (Lib.hid fun i hi => gatL_bd hc10 hi) (Lib.hid h)
  have HMO : Hid (∀ w2, Below W0.heap.size W0 w2 → Calls Tryz.prog 83 #[opV (opnF (lgI (gatL C lc)) (gatL C lc).length), .slice sa m sc] w2 fun e w' => e = .returned (opV (emF lc C s m)) ∧ Below w2.heap.size w2 w') := Lib.hid fun w2 h => moved_w sa m sc _ s w2 hm HB (Lib.hid (HS.out.below (hA.trans (h.mono hA.size))))
  obtain ⟨gl, hgl⟩ : ∃ l, gatL C lc = l := ⟨_, rfl⟩
  obtain ⟨q, hq⟩ : ∃ q, emF lc C s m = q := ⟨_, rfl⟩
  rw [hgl] at HG HM HMO
  rw [hq] at HMO ⊢
  obtain ⟨q0, hq0⟩ : ∃ q, opnF (lgI gl) gl.length = q := ⟨_, rfl⟩
  rw [hq0] at HM HMO
  obtain ⟨gn, hgn⟩ : ∃ n, gl.length = n := ⟨_, rfl⟩
  have HGN := Lib.hid hgn
  rw [hgn] at HG HM
  simp only [opV] at HM HMO
  simp only [opC]
  have HR := Lib.hid hR
  have HA := Lib.hid hA
  have HZ := Lib.hid hz
  have HRF := Lib.hid (Below.refl W0.heap.size W0)
  obtain ⟨x0, x1⟩ := HF.out _ HRF.out
  clear hA hz hR hq HS hF hb1 hz1 H hgl hq0 hgn
  have HV := Lib.hid (below_drew HRF.out)
  go_enter Tryz.func87, Tryz.ntmps87
  go_wp2
  rw [← hW1, ← hW0]
  clear hW1 hW0
  go_region_law ((first
    | (go_simp; go_at_call 79; refine (HG.out _ HV.out).mono ?_; rintro e w3 ⟨⟨v, rfl, ho⟩, hv⟩; obtain ⟨ga, gc, rfl, hsl, hge⟩ := dayNew2 ho HGN.out; have HSL := Lib.hid (HM.out ga gc w3 hsl); replace HV := Lib.hid (HV.out.trans (hv.mono HV.out.size)); clear hv ho hsl hge; obtain ⟨x0, x1⟩ := HF.out _ HV.out)
    | (go_simp; go_at_call 81; refine HSL.out.mono ?_; rintro e w4 ⟨rfl, hv⟩; replace HV := Lib.hid (HV.out.trans (hv.mono HV.out.size)); clear hv; obtain ⟨x0, x1⟩ := HF.out _ HV.out)
    | (go_simp; go_at_call 83; refine (HMO.out _ HV.out).mono ?_; rintro e wr ⟨rfl, hv⟩; replace HV := Lib.hid (HV.out.trans (hv.mono HV.out.size)); clear hv; obtain ⟨g0, g1⟩ := HF.out _ HV.out; have HR1 := Lib.hid (HR.out.below (by have := HZ.out; omega) HV.out); have r0 := HR1.out.c 0 (by decide); have r1 := HR1.out.c 1 (by decide); have r2 := HR1.out.c 2 (by decide); have r3 := HR1.out.c 3 (by decide); have r4 := HR1.out.c 4 (by decide); have r5 := HR1.out.c 5 (by decide); have r6 := HR1.out.c 6 (by decide); have r7 := HR1.out.c 7 (by decide); have r8 := HR1.out.c 8 (by decide); have r9 := HR1.out.c 9 (by decide); have r10 := HR1.out.c 10 (by decide); have r11 := HR1.out.c 11 (by decide); have f0 := HR1.out.f 0 (by decide); have f1 := HR1.out.f 1 (by decide); have f2 := HR1.out.f 2 (by decide); have f3 := HR1.out.f 3 (by decide); have f4 := HR1.out.f 4 (by decide); have f5 := HR1.out.f 5 (by decide); have f6 := HR1.out.f 6 (by decide); have f7 := HR1.out.f 7 (by decide); have f8 := HR1.out.f 8 (by decide); have f9 := HR1.out.f 9 (by decide); have f10 := HR1.out.f 10 (by decide); have f11 := HR1.out.f 11 (by decide))))
  all_goals
    obtain ⟨W9, hW9⟩ : ∃ W9, W9 = o12_set wr (w.heap.size + 1) pa ca lp cp lc cc q := ⟨_, rfl⟩
    have HT9 : Cel W9 (w.heap.size + 1) 12 (opG pa ca lp cp lc cc q) := by rw [hW9]; exact HR1.out.write _ _ _ _ _ _ _
    have HF9 : Frx [w.heap.size + 1] W0 W9 := by rw [hW9]; exact (Frx.of_below HV.out).trans (o12_frx (by simp))
    unfold o12_set at hW9
    rw [← hW9]
    clear hW9 r0 r1 r2 r3 r4 r5 r6 r7 r8 r9 r10 r11 f0 f1 f2 f3 f4 f5 f6 f7 f8 f9 f10 f11
    have d0 := HT9.c 0 (by decide)
    have d1 := HT9.c 1 (by decide)
    have d2 := HT9.c 2 (by decide)
    have d3 := HT9.c 3 (by decide)
    have d4 := HT9.c 4 (by decide)
    have d5 := HT9.c 5 (by decide)
    have d6 := HT9.c 6 (by decide)
    have d7 := HT9.c 7 (by decide)
    have d8 := HT9.c 8 (by decide)
    have d9 := HT9.c 9 (by decide)
    have d10 := HT9.c 10 (by decide)
    have d11 := HT9.c 11 (by decide)
    simp only [opG] at d0 d1 d2 d3 d4 d5 d6 d7 d8 d9 d10 d11
    go_wp2
    refine bodyPost_ret (v := .agg #[.slice pa lp cp, .slice ca lc cc, .bool (q 0), .bool (q 1), .bool (q 2), .bool (q 3), .bool (q 4), .bool (q 5), .bool (q 6), .bool (q 7), .bool (q 8), .bool (q 9)]) (by simp [results, Tryz.results87, go_sem, d0, d1, d2, d3, d4, d5, d6, d7, d8, d9, d10, d11]) rfl ⟨rfl, HA.out.trans ?_⟩
    exact HF9.below (by have := HZ.out; omega) (by simp)
end Go.Kn

namespace Go.Kn
open Go Go.Proofs Go.RowKit

theorem own_any {w : World} {base n : Nat} {v : Value} {l : List Nat} (h : w.ownsRow base 3 1 v n (l.map iv1)) : ∃ sa cap, v = .slice sa n cap ∧ n ≤ cap ∧ IntSl w sa n (lgI l) := by
  rcases Nat.eq_zero_or_pos n with h0 | h0
  · subst h0
    rcases h.2 with ⟨rfl, _⟩ | ⟨g, cap, cur, rfl, _⟩
    · exact ⟨none, 0, rfl, Nat.le_refl _, .inl rfl⟩
    · exact ⟨_, cap, rfl, Nat.zero_le _, .inl rfl⟩
  · obtain ⟨g, cap, rfl, hcap, hio⟩ := ownOf h h0
    exact ⟨_, cap, rfl, hcap, .inr ⟨g, 0, rfl, hio.lt, hio.at_⟩⟩
theorem tog_any {lc : Nat} {C : Nat → C8} {s : Nat → Int} {m : Nat} (h : gatsB lc C s m = true) (p : Nat → Bool) (c : Nat) : ∀ k, k ≤ m → togF p s k c = (p c != anyB s (c : Int) k)
  | 0, _ => by simp [togF, anyB]
  | k + 1, hk => by
    have ih := tog_any h p c k (by omega)
    show (if (c : Int) = s k then _ else _) = (p c != (anyB s (c : Int) k || decide (s k = (c : Int))))
    by_cases e : (c : Int) = s k
    · have hno : anyB s (c : Int) k = false := by
        cases hb : anyB s (c : Int) k with
        | false => rfl
        | true =>
          obtain ⟨i, h1, h2⟩ := anyB_iff.1 hb
          have := gatsB_lt h i k h1 (by omega)
          omega
      rw [if_pos e, ih, hno]; simp [e]
    · rw [if_neg e, ih]
      have : ¬ s k = (c : Int) := fun h => e h.symm
      simp [this]
/-- positions after some gates were moved, as a list -/
def movL (s : Nat → Int) (m : Nat) (t : Nat → Int) (n : Nat) (k : Nat) : List Nat := (List.range k).filter fun c => anyB s (c : Int) m != anyB t (c : Int) n
theorem movL_yes {s t : Nat → Int} {m n k : Nat} (h : (anyB s (k : Int) m != anyB t (k : Int) n) = true) : movL s m t n (k + 1) = movL s m t n k ++ [k] := by simp only [movL, List.range_succ, List.filter_append]; simp [h]
theorem movL_no {s t : Nat → Int} {m n k : Nat} (h : (anyB s (k : Int) m != anyB t (k : Int) n) = false) : movL s m t n (k + 1) = movL s m t n k := by simp only [movL, List.range_succ, List.filter_append]; simp [h]
theorem movL_le {s t : Nat → Int} {m n : Nat} (k : Nat) : (movL s m t n k).length ≤ k := by
  have := List.length_filter_le (fun c : Nat => anyB s (c : Int) m != anyB t (c : Int) n) (List.range k)
  simpa [movL] using this
theorem lgI_any {L : List Nat} {c : Nat} : anyB (lgI L) (c : Int) L.length = decide (c ∈ L) := by rw [← memI_any, memI_nat]
/-- a list of gates, in increasing order -/
theorem gats_list {lc : Nat} {C : Nat → C8} {L : List Nat} (hp : L.Pairwise (· < ·)) (hL : ∀ x ∈ L, x < lc ∧ (C x).ga = true) : gatsB lc C (lgI L) L.length = true := by
  refine gatsB_of (fun i hi => ?_) fun i hi => ?_
  · rw [lgI_get hi]
    obtain ⟨h1, h2⟩ := hL _ (List.getElem_mem hi)
    simp only [gatB, fromB, Int.toNat_natCast, h2, Bool.and_true, decide_eq_true_eq]
    omega
  · rw [lgI_get (by omega), lgI_get hi]
    have := List.pairwise_iff_getElem.1 hp i (i + 1) (by omega) hi (by omega)
    omega
theorem gatL_mem {C : Nat → C8} {k x : Nat} : x ∈ gatL C k ↔ x < k ∧ (C x).ga = true := by simp [gatL]
theorem gatL_inc {C : Nat → C8} {k : Nat} : (gatL C k).Pairwise (· < ·) := (range_inc k).sublist List.filter_sublist
theorem gatL_ok {lc : Nat} {C : Nat → C8} : gatsB lc C (lgI (gatL C lc)) (gatL C lc).length = true := gats_list gatL_inc fun x hx => gatL_mem.1 hx
theorem sub_ok {lc : Nat} {C : Nat → C8} {L : List Nat} (h : L.Sublist (gatL C lc)) : gatsB lc C (lgI L) L.length = true := gats_list (gatL_inc.sublist h) fun x hx => gatL_mem.1 (h.subset hx)
theorem any_gate {lc : Nat} {C : Nat → C8} {s : Nat → Int} {m : Nat} (h : gatsB lc C s m = true) {c : Nat} (hc : anyB s (c : Int) m = true) : c < lc ∧ (C c).ga = true := by
  obtain ⟨i, hi, e⟩ := anyB_iff.1 hc
  have := gatsB_inc h i hi
  rw [e] at this
  refine ⟨by omega, by simpa using this.2.2.2⟩
theorem mov_ok {lc : Nat} {C : Nat → C8} {s t : Nat → Int} {m n : Nat} (h1 : gatsB lc C s m = true) (h2 : gatsB lc C t n = true) : gatsB lc C (lgI (movL s m t n lc)) (movL s m t n lc).length = true := by
  refine gats_list ((range_inc lc).sublist List.filter_sublist) fun x hx => ?_
  simp only [movL, List.mem_filter, List.mem_range] at hx
  refine ⟨hx.1, ?_⟩
  have hx2 := hx.2
  cases ha : anyB s (x : Int) m with
  | true => exact (any_gate h1 ha).2
  | false =>
    cases hb : anyB t (x : Int) n with
    | true => exact (any_gate h2 hb).2
    | false => rw [ha, hb] at hx2; simp at hx2
theorem mov_any {s t : Nat → Int} {m n lc c : Nat} (hc : c < lc) : anyB (lgI (movL s m t n lc)) (c : Int) (movL s m t n lc).length = (anyB s (c : Int) m != anyB t (c : Int) n) := by
  rw [lgI_any, Bool.eq_iff_iff]
  simp only [decide_eq_true_eq, movL, List.mem_filter, List.mem_range, hc, true_and]
theorem lst_any {lc : Nat} {C : Nat → C8} {s : Nat → Int} {m : Nat} (h : gatsB lc C s m = true) (c : Nat) : (anyB s (c : Int) m = true) ↔ c ∈ lstN s m := by
  rw [anyB_iff, lstN_mem]
  constructor
  · rintro ⟨i, hi, e⟩; exact ⟨i, hi, by omega⟩
  · rintro ⟨i, hi, e⟩; have := gatsB_inc h i hi; exact ⟨i, hi, by omega⟩
theorem gats_sub {lc : Nat} {C : Nat → C8} {s : Nat → Int} {m : Nat} (h : gatsB lc C s m = true) : (lstN s m).Sublist (gatL C lc) := by
  have h1 : (lstN s m).Sublist (List.range lc) := sub_range (inc_list h) fun x hx => by
    obtain ⟨i, hi, rfl⟩ := lstN_mem.1 hx
    have := gatsB_inc h i hi
    omega
  have h2 := h1.filter (fun i => (C i).ga)
  rwa [List.filter_eq_self.2 fun x hx => by
    obtain ⟨i, hi, rfl⟩ := lstN_mem.1 hx
    exact (gatsB_inc h i hi).2.2.2] at h2
/-! positions matter at channels with gates alone -/
def EqO (lc : Nat) (C : Nat → C8) (op op' : Nat → Bool) : Prop := ∀ c, c < lc → (C c).ga = true → op c = op' c
theorem sumN_congr {g h : Nat → Int} : ∀ {k : Nat}, (∀ i, i < k → g i = h i) → sumN g k = sumN h k
  | 0, _ => rfl
  | k + 1, hh => by simp only [sumN]; rw [hh k (by omega), sumN_congr fun i hi => hh i (by omega)]
theorem spareV_op {P : Nat → P8} {lc : Nat} {C : Nat → C8} {op op' : Nat → Bool} (h : EqO lc C op op') {b : Bool} {L : List Nat} : spareV P lc C op b L = spareV P lc C op' b L := by
  unfold spareV
  congr 1
  refine sumN_congr fun i hi => ?_
  split
  · unfold carV
    cases hg : (C i).ga with
    | false => rfl
    | true => rw [h i hi hg]
  · rfl
theorem fedV_op {lp : Nat} {P : Nat → P8} {lc : Nat} {C : Nat → C8} {op op' : Nat → Bool} (h : EqO lc C op op') {b : Bool} : fedV lp P lc C op b = fedV lp P lc C op' b := by
  unfold fedV; congr 1; funext L; rw [spareV_op h]
theorem cutL_op {lp : Nat} {P : Nat → P8} {lc : Nat} {C : Nat → C8} {op op' : Nat → Bool} (h : EqO lc C op op') {b : Bool} : cutL lp P lc C op b = cutL lp P lc C op' b := by
  unfold cutL; congr 1; funext L; rw [spareV_op h]
theorem wordV_op {lp : Nat} {P : Nat → P8} {lc : Nat} {C : Nat → C8} {op op' : Nat → Bool} (h : EqO lc C op op') : wordV lp P lc C op = wordV lp P lc C op' := by
  unfold wordV; rw [fedV_op h, fedV_op h]
/-- the list of all gates but some, as positions -/
theorem rest_op {lc : Nat} {C : Nat → C8} {s : Nat → Int} {m : Nat} (h : gatsB lc C s m = true) : EqO lc C (opnF (lgI (movL (lgI (gatL C lc)) (gatL C lc).length s m lc)) (movL (lgI (gatL C lc)) (gatL C lc).length s m lc).length) (emF lc C s m) := fun c hc _ => by
  rw [opnF_any (mov_ok gatL_ok h) c _ (Nat.le_refl _), mov_any hc]
  unfold emF
  rw [tog_any h _ c m (Nat.le_refl _), opnF_any gatL_ok c _ (Nat.le_refl _)]
/-- moved positions, as a list -/
theorem mov_op {lc : Nat} {C : Nat → C8} {s t : Nat → Int} {m n : Nat} (h1 : gatsB lc C s m = true) (h2 : gatsB lc C t n = true) : EqO lc C (opnF (lgI (movL s m t n lc)) (movL s m t n lc).length) (togF (opnF s m) t n) := fun c hc _ => by
  rw [opnF_any (mov_ok h1 h2) c _ (Nat.le_refl _), mov_any hc, tog_any h2 _ c n (Nat.le_refl _), opnF_any h1 c _ (Nat.le_refl _)]

set_option maxRecDepth 100000 in
set_option maxHeartbeats 4000000 in
theorem rgates_w (pa ca : Option Addr) (lp cp lc cc : Nat) (P : Nat → P8) (C : Nat → C8) (w : World) (hlc : lc ≤ 1000) (H : Hid (Ne8 w pa ca lp lc P C)) :
    Calls Tryz.prog 85 #[.agg #[.slice pa lp cp, .slice ca lc cc]] w fun r w' => (∃ sa sc, r = .returned (.slice sa (gatL C lc).length sc) ∧ (gatL C lc).length ≤ sc ∧ IntSl w' sa (gatL C lc).length (lgI (gatL C lc))) ∧ Below w.heap.size w w' := by
  obtain ⟨i0, hi0, hz0, hz1, hz2⟩ := info_parts info3'
  obtain ⟨W0, hW0⟩ : ∃ W0, W0 = w.alloc (.cells #[.slice pa lp cp, .slice ca lc cc] 25) := ⟨_, rfl⟩
  have hA : Below w.heap.size w W0 := by rw [hW0]; exact (Below.refl _ _).alloc (Nat.le_refl _) _
  have HF : Hid (∀ w2, Below W0.heap.size W0 w2 → w2.cell? ⟨w.heap.size, 0, none⟩ = some (.slice pa lp cp) ∧ w2.cell? ⟨w.heap.size, 1, none⟩ = some (.slice ca lc cc)) := Lib.hid fun w2 h => by
    rw [hW0] at h
    exact ⟨(box_cells h).1, (box_cells h).2.1⟩
  have HGT : Hid (∀ k : Nat, k < lc → ∀ w2, Below W0.heap.size W0 w2 → Calls Tryz.prog 47 #[.agg #[.slice pa lp cp, .slice ca lc cc], .int .i64 (k : Int)] w2 fun e w' => e = .returned (.bool (C k).ga) ∧ Below w2.heap.size w2 w') := Lib.hid fun k hk w2 h => by
    have h1 := rgate_w pa ca lp cp lc cc P C (k : Int) w2 (by omega) (Lib.hid (H.out.below (hA.trans (h.mono hA.size))))
    have h2 : gatB lc C (k : Int) = (C k).ga := by
      have : fromB 0 ((lc : Int) - 1) (k : Int) = true := by simp [fromB]; omega
      simp [gatB, this]
    rw [h2] at h1; exact h1
  have HA := Lib.hid hA
  obtain ⟨g0, g1⟩ := HF.out _ (Below.refl _ _)
  rw [hW0] at g0 g1
  clear hA H
  go_enter Tryz.func85, Tryz.ntmps85
  go_wp2
  rw [← hW0]
  clear hW0 g0 g1
  go_loopw [3, 4] (fun v ii wr => ∃ k : Nat, k ≤ lc ∧ ii = .int .i64 (k : Int) ∧ wr.ownsRow W0.heap.size 3 1 v (gatL C k).length ((gatL C k).map iv1) ∧ Below W0.heap.size W0 wr) (fun _ ii _ => lc - (Go.RowKit.intOf ii).toNat)
  case atStart => exact ⟨0, Nat.zero_le _, rfl, ⟨rfl, .inl ⟨rfl, rfl⟩⟩, Below.refl _ _⟩
  case round =>
    obtain ⟨k, hk, rfl, hown, hbr⟩ := hrel
    have HOW := Lib.hid hown
    have HBR := Lib.hid hbr
    obtain ⟨g0, g1⟩ := HF.out _ hbr
    clear hown hbr
    by_cases hlt : k < lc
    case pos =>
      have n1 : (0 : Int) ≤ (k : Int) := by omega
      have n2 : (k : Int) < (lc : Int) := by omega
      have hle := gatL_le (C := C) k
      obtain ⟨q, hq⟩ : ∃ q, (gatL C k).length = q := ⟨_, rfl⟩
      rw [hq] at HOW hle
      have HQ := Lib.hid hq
      have HG1 := Lib.hid (HGT.out k hlt)
      obtain ⟨ga, hga⟩ : ∃ b, (C k).ga = b := ⟨_, rfl⟩
      rw [hga] at HG1
      have HG := Lib.hid hga
      clear hq hga
      cases ga with
      | false =>
        have HNX := Lib.hid (gatL_no HG.out)
        go_wp2_with (go_at_call 47; refine (HG1.out _ HBR.out).mono ?_; rintro e w5 ⟨rfl, hv⟩)
        go_roundw
        case rel => exact ⟨k + 1, by omega, by go_num, by rw [HNX.out, HQ.out]; exact owns_below HOW.out hv, HBR.out.trans (hv.mono HBR.out.size)⟩
        case measure => simp [Go.RowKit.intOf]; omega
      | true =>
        have HNX := Lib.hid (gatL_yes HG.out)
        go_wp2_with (first
          | (go_at_call 47; refine (HG1.out _ HBR.out).mono ?_; rintro e w5 ⟨rfl, hv⟩; have HB5 := Lib.hid (HBR.out.trans (hv.mono HBR.out.size)); have HO5 := Lib.hid (owns_below HOW.out hv); clear hv g0 g1)
          | (at_builtin; refine wpList_append_own_at _ rfl (.tmp 15) (.tmp 17) 26 rfl W0.heap.size 3 i0 (.int .i64 0) 1 8 Tryz.underlying26 hi0 hz0 hz1 hz2 rfl (by decide) _ q _ rfl (HO5.out.alloc _) ⟨_, 0, none⟩ 1 1 [.int .i64 (k : Int)] rfl rfl (lies_any (by first | exact al_top rfl _ _ | exact al_top (by simp) _ _)) (by intro u hu; simp at hu; subst hu; rfl) (by unfold maxLen; omega) (by omega) (by have := HB5.out.size; simp at this ⊢; omega) ?_; intro v7 w7' hown7 hgrow7 _ hloc7))
        go_roundw
        case rel => exact ⟨k + 1, by omega, by go_num, by rw [HNX.out, List.length_append, HQ.out, List.map_append]; exact hown7, (HB5.out.alloc HB5.out.size _).grown hgrow7 (by have := HB5.out.size; simp at this ⊢; omega) (fun r e => own_ge HO5.out r e)⟩
        case measure => simp [Go.RowKit.intOf]; omega
    case neg =>
      obtain rfl : k = lc := by omega
      obtain ⟨sa, sc, rfl, h1, h2⟩ := own_any HOW.out
      go_wp2
      go_ret
      exact ⟨⟨sa, sc, rfl, h1, h2⟩, HA.out.trans (HBR.out.mono HA.out.size)⟩
end Go.Kn
