/- Contracts of functions that the laws of this seat call, or the evaluator of closed calls and its runs. Conditions: as each theorem states them. -/
import Derived.Test.YtddlghdglknloaaGreatDoorJ0
set_option linter.unusedVariables false
set_option linter.unusedSimpArgs false
namespace Go.Kn
open Go Go.Proofs Go.RowKit

/-- from which number on the next one of a list is -/
def frm8 (s : Nat → Int) : Nat → Int
  | 0 => 0
  | k + 1 => s k + 1
def gatB (lc : Nat) (C : Nat → C8) (x : Int) : Bool := fromB 0 ((lc : Int) - 1) x && (C x.toNat).ga
/-- whether the first of a list are gates, in increasing order -/
def gatsB (lc : Nat) (C : Nat → C8) (s : Nat → Int) : Nat → Bool
  | 0 => true
  | k + 1 => gatsB lc C s k && !decide (s k < frm8 s k) && gatB lc C (s k)
theorem gatsB_no {lc : Nat} {C : Nat → C8} {s : Nat → Int} {k m : Nat} (hk : k < m) (h : gatsB lc C s (k + 1) = false) : gatsB lc C s m = false := by
  induction m with
  | zero => omega
  | succ m ih =>
    by_cases e : k = m
    · rw [← e]; exact h
    · simp [gatsB, ih (by omega)]
theorem gatB_bd {lc : Nat} {C : Nat → C8} {x : Int} (h : gatB lc C x = true) : 0 ≤ x ∧ x < lc := by
  simp only [gatB, fromB, Bool.and_eq_true, decide_eq_true_eq] at h
  omega

set_option maxRecDepth 100000 in
set_option maxHeartbeats 4000000 in
theorem areGates_w (pa ca sa : Option Addr) (lp cp lc cc m sc : Nat) (P : Nat → P8) (C : Nat → C8) (s : Nat → Int) (w : World) (hlc : lc ≤ 1000000) (hm : m ≤ 1000000) (H : Hid (Ne8 w pa ca lp lc P C)) (HS : Hid (IntSl w sa m s)) :
    Calls Tryz.prog 57 #[.agg #[.slice pa lp cp, .slice ca lc cc], .slice sa m sc] w fun e w' => e = .returned (.bool (gatsB lc C s m)) ∧ Below w.heap.size w w' := by
  obtain ⟨W0, hW0⟩ : ∃ W0, W0 = w.alloc (.cells #[.slice pa lp cp, .slice ca lc cc] 25) := ⟨_, rfl⟩
  have hA : Below w.heap.size w W0 := by rw [hW0]; exact (Below.refl _ _).alloc (Nat.le_refl _) _
  have HF : Hid (∀ w2, Below W0.heap.size W0 w2 → w2.cell? ⟨w.heap.size, 0, none⟩ = some (.slice pa lp cp) ∧ w2.cell? ⟨w.heap.size, 1, none⟩ = some (.slice ca lc cc)) := Lib.hid fun w2 h => by
    rw [hW0] at h
    exact ⟨(box_cells h).1, (box_cells h).2.1⟩
  have HSL : Hid (∀ w2, Below W0.heap.size W0 w2 → IntSl w2 sa m s) := Lib.hid fun w2 h => HS.out.below (hA.trans (h.mono hA.size))
  have HG : Hid (∀ x w2, Below W0.heap.size W0 w2 → Calls Tryz.prog 109 #[.agg #[.slice pa lp cp, .slice ca lc cc], .int .i64 x] w2 fun e w' => e = .returned (.bool (gatB lc C x)) ∧ Below w2.heap.size w2 w') :=
    Lib.hid fun x w2 h => isGate_w pa ca lp cp lc cc P C x w2 hlc (Lib.hid (H.out.below (hA.trans (h.mono hA.size))))
  have HA := Lib.hid hA
  clear hA H HS
  go_enter Tryz.func57, Tryz.ntmps57
  go_wp2
  rw [← hW0]
  clear hW0
  go_loopw [5, 10] (fun v ii wr => ∃ k : Nat, k ≤ m ∧ ii = .int .i64 (k : Int) ∧ v = .int .i64 (frm8 s k) ∧ gatsB lc C s k = true ∧ Below W0.heap.size W0 wr) (fun _ ii _ => m - (Go.RowKit.intOf ii).toNat)
  case atStart => exact ⟨0, Nat.zero_le _, rfl, rfl, rfl, Below.refl _ _⟩
  case round =>
    obtain ⟨k, hk, rfl, rfl, hg, hbr⟩ := hrel
    have HG0 := Lib.hid hg
    have HBR := Lib.hid hbr
    clear hg hbr
    by_cases hlt : k < m
    case pos =>
      obtain ⟨A, O, rfl, hA, hN⟩ := (HSL.out _ HBR.out).resolve_left (by omega)
      have y1 := hN k hlt
      obtain ⟨f0, f1⟩ := HF.out _ HBR.out
      have n1 : (0 : Int) ≤ (k : Int) := by omega
      have n2 : (k : Int) < (m : Int) := by omega
      have HST : Hid (gatsB lc C s (k + 1) = (!decide (s k < frm8 s k) && gatB lc C (s k))) := Lib.hid (by simp [gatsB, HG0.out])
      have HFR : Hid (frm8 s (k + 1) = s k + 1) := Lib.hid rfl
      have HBD : Hid (gatB lc C (s k) = true → 0 ≤ s k ∧ s k < lc) := Lib.hid gatB_bd
      have HNO : Hid (gatsB lc C s (k + 1) = false → gatsB lc C s m = false) := Lib.hid (gatsB_no hlt)
      obtain ⟨v, hv⟩ : ∃ v, s k = v := ⟨_, rfl⟩
      obtain ⟨f, hf⟩ : ∃ f, frm8 s k = f := ⟨_, rfl⟩
      rw [hv] at y1 HST HFR HBD
      rw [hf] at HST ⊢
      have HGX := Lib.hid (HG.out v _ HBR.out)
      clear hN hv hf
      by_cases hlf : v < f
      · have hd : gatsB lc C s (k + 1) = false := by rw [HST.out]; simp [hlf]
        have HD := Lib.hid (HNO.out hd)
        clear hd
        go_wp2
        go_ret
        exact ⟨by rw [HD.out]; rfl, HA.out.trans (HBR.out.mono HA.out.size)⟩
      · have hd : gatsB lc C s (k + 1) = gatB lc C v := by rw [HST.out]; simp [hlf]
        have HD := Lib.hid hd
        clear hd
        cases hgb : gatB lc C v with
        | false =>
          have HD2 := Lib.hid (HNO.out (HD.out.trans hgb))
          rw [hgb] at HGX
          clear hgb
          go_wp2_with (go_at_call 109; refine HGX.out.mono ?_; rintro e w5 ⟨rfl, hv⟩)
          go_ret
          exact ⟨by rw [HD2.out]; rfl, HA.out.trans ((HBR.out.trans (hv.mono HBR.out.size)).mono HA.out.size)⟩
        | true =>
          have HD2 := Lib.hid (HD.out.trans hgb)
          obtain ⟨b0, b1⟩ := HBD.out hgb
          rw [hgb] at HGX
          clear hgb
          have n3 : v + 1 ≤ 1000001 := by omega
          go_wp2_with (go_at_call 109; refine HGX.out.mono ?_; rintro e w5 ⟨rfl, hv⟩; have HV := Lib.hid (HBR.out.trans (hv.mono HBR.out.size)); clear hv)
          go_roundw
          case rel => exact ⟨k + 1, by omega, by go_num, by rw [HFR.out], HD2.out, HV.out⟩
          case measure => simp [Go.RowKit.intOf]; omega
    case neg =>
      obtain rfl : k = m := by omega
      go_wp2
      go_ret
      exact ⟨by rw [HG0.out]; rfl, HA.out.trans (HBR.out.mono HA.out.size)⟩

/-- whether a list is one of flows -/
def flowB (lc : Nat) (f : Nat → Int) (n : Nat) : Bool := decide (n = lc) && allN (fun i => fromB 0 10000 (f i)) n
set_option maxRecDepth 100000 in
set_option maxHeartbeats 4000000 in
theorem areFlows_w (pa ca fa : Option Addr) (lp cp lc cc n fc : Nat) (f : Nat → Int) (w : World) (hn : n ≤ 1000000) (HS : Hid (IntSl w fa n f)) :
    Calls Tryz.prog 58 #[.agg #[.slice pa lp cp, .slice ca lc cc], .slice fa n fc] w fun e w' => e = .returned (.bool (flowB lc f n)) ∧ Below w.heap.size w w' := by
  have hA : Below w.heap.size w (w.alloc (.cells #[.slice pa lp cp, .slice ca lc cc] 25)) := (Below.refl _ _).alloc (Nat.le_refl _) _
  have HI : Hid (Calls Tryz.prog 110 #[.slice fa n fc, .func (.func 111) #[] #[]] (w.alloc (.cells #[.slice pa lp cp, .slice ca lc cc] 25)) fun e w' => e = .returned (.bool (allN (fun i => fromB 0 10000 (f i)) n)) ∧ Below (w.alloc (.cells #[.slice pa lp cp, .slice ca lc cc] 25)).heap.size (w.alloc (.cells #[.slice pa lp cp, .slice ca lc cc] 25)) w') :=
    Lib.hid (allI_w fa n fc f _ _ hn (Lib.hid (HS.out.below hA)) (Lib.hid fun d w2 _ _ => areCups_w (f d) w2))
  have HV : Hid (flowB lc f n = (decide (n = lc) && allN (fun i => fromB 0 10000 (f i)) n)) := Lib.hid rfl
  rw [HV.out]
  obtain ⟨b, hb⟩ : ∃ b, allN (fun i => fromB 0 10000 (f i)) n = b := ⟨_, rfl⟩
  rw [hb] at HI ⊢
  clear hb HV hA
  by_cases he : n = lc
  · subst he
    go_enter Tryz.func58, Tryz.ntmps58
    go_wp2_with (go_at_call 110; refine HI.out.mono ?_; rintro e w5 ⟨rfl, hv⟩)
    go_ret
    exact ⟨by simp, below_al hv⟩
  · have q0 : ((n : Int) == (lc : Int)) = false := by rw [beq_eq_false_iff_ne]; omega
    have hd : decide (n = lc) = false := by simp [he]
    rw [hd]
    clear hd
    go_enter Tryz.func58, Tryz.ntmps58
    go_wp2
    go_ret
    exact ⟨rfl, (Below.refl _ _).alloc (Nat.le_refl _) _⟩
end Go.Kn

namespace Go.Kn
open Go Go.Proofs Go.RowKit

/-- positions after some gates were moved -/
def togF (p : Nat → Bool) (s : Nat → Int) : Nat → Nat → Bool
  | 0 => p
  | k + 1 => fun j => if (j : Int) = s k then !togF p s k j else togF p s k j

/-- ten bools in a block of one's own -/
structure Ten (w : World) (B : Nat) (q : Nat → Bool) : Prop where
  c : ∀ j, j < 10 → w.cell? ⟨B, j, none⟩ = some (.bool (q j))
  f : ∀ j, j < 10 → w.frozen? ⟨B, j, none⟩ = false
theorem Ten.set {w : World} {B j : Nat} {q : Nat → Bool} (h : Ten w B q) (hj : j < 10) (b : Bool) : Ten (w.setCell ⟨B, j, none⟩ (.bool b)) B (fun i => if i = j then b else q i) := by
  refine ⟨fun i hi => ?_, fun i hi => by simpa using h.f i hi⟩
  by_cases e : i = j
  · subst e
    rw [if_pos rfl]
    exact World.cell?_setCell_same' _ _ _ (by rw [h.c i hi]; rfl)
  · rw [if_neg e]
    exact (World.cell?_setCell_other _ _ _ _ (by intro e2; cases e2; exact e rfl)).trans (h.c i hi)
theorem Ten.congr {w : World} {B : Nat} {q q' : Nat → Bool} (h : Ten w B q) (he : ∀ j, j < 10 → q j = q' j) : Ten w B q' := ⟨fun j hj => by rw [← he j hj]; exact h.c j hj, h.f⟩

/-- ten bools are written, one after another -/
def ten_set (w : World) (B : Nat) (q : Nat → Bool) : World := ((((((((((w.setCell ⟨B, 0, none⟩ (.bool (q 0))).setCell ⟨B, 1, none⟩ (.bool (q 1))).setCell ⟨B, 2, none⟩ (.bool (q 2))).setCell ⟨B, 3, none⟩ (.bool (q 3))).setCell ⟨B, 4, none⟩ (.bool (q 4))).setCell ⟨B, 5, none⟩ (.bool (q 5))).setCell ⟨B, 6, none⟩ (.bool (q 6))).setCell ⟨B, 7, none⟩ (.bool (q 7))).setCell ⟨B, 8, none⟩ (.bool (q 8))).setCell ⟨B, 9, none⟩ (.bool (q 9)))
theorem ten_frx {w : World} {X : List Nat} {B : Nat} {q : Nat → Bool} (hB : B ∈ X) : Frx X w (ten_set w B q) :=
  ((((((((((Frx.setCell X w B 0 _ hB).trans (Frx.setCell X _ B 1 _ hB)).trans (Frx.setCell X _ B 2 _ hB)).trans (Frx.setCell X _ B 3 _ hB)).trans (Frx.setCell X _ B 4 _ hB)).trans (Frx.setCell X _ B 5 _ hB)).trans (Frx.setCell X _ B 6 _ hB)).trans (Frx.setCell X _ B 7 _ hB)).trans (Frx.setCell X _ B 8 _ hB)).trans (Frx.setCell X _ B 9 _ hB))
theorem Ten.write {w : World} {B : Nat} {q q' : Nat → Bool} (h : Ten w B q') : Ten (ten_set w B q) B q :=
  ((((((((((h.set (j := 0) (by decide) (q 0)).set (j := 1) (by decide) (q 1)).set (j := 2) (by decide) (q 2)).set (j := 3) (by decide) (q 3)).set (j := 4) (by decide) (q 4)).set (j := 5) (by decide) (q 5)).set (j := 6) (by decide) (q 6)).set (j := 7) (by decide) (q 7)).set (j := 8) (by decide) (q 8)).set (j := 9) (by decide) (q 9)).congr (ten rfl rfl rfl rfl rfl rfl rfl rfl rfl rfl)

set_option maxRecDepth 100000 in
set_option maxHeartbeats 4000000 in
theorem moved_w (sa : Option Addr) (m sc : Nat) (p : Nat → Bool) (s : Nat → Int) (w : World) (hm : m ≤ 1000000) (HB : Hid (∀ i, i < m → 0 ≤ s i ∧ s i < 10)) (HS : Hid (IntSl w sa m s)) :
    Calls Tryz.prog 83 #[opV p, .slice sa m sc] w fun e w' => e = .returned (opV (togF p s m)) ∧ Below w.heap.size w w' := by
  simp only [opV]
  obtain ⟨W0, hW0⟩ : ∃ W0, W0 = (w.alloc (.cells #[.bool (p 0), .bool (p 1), .bool (p 2), .bool (p 3), .bool (p 4), .bool (p 5), .bool (p 6), .bool (p 7), .bool (p 8), .bool (p 9)] 79)).alloc (.cells #[.bool false, .bool false, .bool false, .bool false, .bool false, .bool false, .bool false, .bool false, .bool false, .bool false] 79) := ⟨_, rfl⟩
  have hA : Below w.heap.size w W0 := by rw [hW0]; exact ((Below.refl _ _).alloc (Nat.le_refl _) _).alloc (by simp) _
  have hz : W0.heap.size = w.heap.size + 2 := by rw [hW0]; simp
  have hbb : Below (w.alloc (.cells #[.bool (p 0), .bool (p 1), .bool (p 2), .bool (p 3), .bool (p 4), .bool (p 5), .bool (p 6), .bool (p 7), .bool (p 8), .bool (p 9)] 79)).heap.size (w.alloc (.cells #[.bool (p 0), .bool (p 1), .bool (p 2), .bool (p 3), .bool (p 4), .bool (p 5), .bool (p 6), .bool (p 7), .bool (p 8), .bool (p 9)] 79)) W0 := by rw [hW0]; exact (Below.refl _ _).alloc (Nat.le_refl _) _
  have hT : Ten W0 w.heap.size p := by
    refine ⟨ten ?_ ?_ ?_ ?_ ?_ ?_ ?_ ?_ ?_ ?_, ten ?_ ?_ ?_ ?_ ?_ ?_ ?_ ?_ ?_ ?_⟩
    all_goals first
      | exact ((bcell hbb).1 _ _ (by simp)).trans (by simp)
      | exact ((bcell hbb).2 _ _ (by simp)).trans (by simp)
  have hR : Ten W0 (w.heap.size + 1) fun _ => false := by
    have e : (w.alloc (.cells #[.bool (p 0), .bool (p 1), .bool (p 2), .bool (p 3), .bool (p 4), .bool (p 5), .bool (p 6), .bool (p 7), .bool (p 8), .bool (p 9)] 79)).heap.size = w.heap.size + 1 := by simp
    rw [hW0, ← e]
    refine ⟨ten ?_ ?_ ?_ ?_ ?_ ?_ ?_ ?_ ?_ ?_, ten ?_ ?_ ?_ ?_ ?_ ?_ ?_ ?_ ?_ ?_⟩ <;> simp
  obtain ⟨q, hq⟩ : ∃ q, togF p s m = q := ⟨_, rfl⟩
  rw [hq]
  have HQ := Lib.hid hq
  clear hq
  have HT0 := Lib.hid hT
  have HR0 := Lib.hid hR
  have HZ := Lib.hid hz
  have HA := Lib.hid hA
  have HSL : Hid (∀ w2, Frx [w.heap.size] W0 w2 → IntSl w2 sa m s) := Lib.hid fun w2 h => by
    rcases HS.out with h0 | ⟨A, O, e, hlt, hn⟩
    · exact .inl h0
    · refine .inr ⟨A, O, e, by have := h.size; omega, fun i hi => (h.cell (by omega) (by simp; omega)).trans (((bcell HA.out).1 _ _ hlt).trans (hn i hi))⟩
  clear hA hz hbb hT hR HS
  go_enter Tryz.func83, Tryz.ntmps83
  go_wp2
  rw [← hW0]
  clear hW0
  go_loopw [9] (fun ii wr => ∃ k : Nat, k ≤ m ∧ ii = .int .i64 (k : Int) ∧ Ten wr w.heap.size (togF p s k) ∧ Frx [w.heap.size] W0 wr) (fun ii _ => m - (Go.RowKit.intOf ii).toNat)
  case atStart => exact ⟨0, Nat.zero_le _, rfl, HT0.out, Frx.refl _ _⟩
  case round =>
    obtain ⟨k, hk, rfl, ht, hf⟩ := hrel
    have HT := Lib.hid ht
    have HF := Lib.hid hf
    clear ht hf
    by_cases hlt : k < m
    case pos =>
      obtain ⟨A, O, rfl, hA, hN⟩ := (HSL.out _ HF.out).resolve_left (by omega)
      have y1 := hN k hlt
      obtain ⟨b0, b1⟩ := HB.out k hlt
      have n1 : (0 : Int) ≤ (k : Int) := by omega
      have n2 : (k : Int) < (m : Int) := by omega
      obtain ⟨j, hj⟩ : ∃ j : Nat, s k = (j : Int) := ⟨(s k).toNat, by omega⟩
      have hj10 : j < 10 := by omega
      have HST : Hid (togF p s (k + 1) = fun i => if i = j then !togF p s k i else togF p s k i) := Lib.hid (by
        funext i
        show (if (i : Int) = s k then _ else _) = _
        rw [hj]
        by_cases e : i = j
        · subst e; simp
        · rw [if_neg e, if_neg (by omega)])
      rw [hj] at y1
      have x1 := HT.out.c j hj10
      have x2 := HT.out.f j hj10
      obtain ⟨b, hb⟩ : ∃ b, togF p s k j = b := ⟨_, rfl⟩
      rw [hb] at x1
      have HTN : Hid (Ten (wr.setCell ⟨w.heap.size, j, none⟩ (.bool (!b))) w.heap.size (togF p s (k + 1))) := Lib.hid ((HT.out.set hj10 (!b)).congr fun i _ => by rw [HST.out]; by_cases e : i = j <;> simp [e, hb])
      have n3 : (0 : Int) ≤ (j : Int) := by omega
      have n4 : (j : Int) < 10 := by omega
      clear hN hb b0 b1 hj
      go_wp2
      go_roundw
      case rel => exact ⟨k + 1, by omega, by go_num, HTN.out, HF.out.trans (Frx.setCell _ _ _ _ _ (by simp))⟩
      case measure => simp [Go.RowKit.intOf]; omega
    case neg =>
      obtain rfl : k = m := by omega
      have c0 := HT.out.c 0 (by decide)
      have c1 := HT.out.c 1 (by decide)
      have c2 := HT.out.c 2 (by decide)
      have c3 := HT.out.c 3 (by decide)
      have c4 := HT.out.c 4 (by decide)
      have c5 := HT.out.c 5 (by decide)
      have c6 := HT.out.c 6 (by decide)
      have c7 := HT.out.c 7 (by decide)
      have c8 := HT.out.c 8 (by decide)
      have c9 := HT.out.c 9 (by decide)
      have hzz := HZ.out
      have HR1 : Hid (Ten wr (w.heap.size + 1) fun _ => false) := Lib.hid ⟨fun j hj => (HF.out.cell (by omega) (by simp)).trans (HR0.out.c j hj), fun j hj => (HF.out.froz (by omega) (by simp)).trans (HR0.out.f j hj)⟩
      have r0 := HR1.out.c 0 (by decide)
      have f0 := HR1.out.f 0 (by decide)
      have f1 := HR1.out.f 1 (by decide)
      have f2 := HR1.out.f 2 (by decide)
      have f3 := HR1.out.f 3 (by decide)
      have f4 := HR1.out.f 4 (by decide)
      have f5 := HR1.out.f 5 (by decide)
      have f6 := HR1.out.f 6 (by decide)
      have f7 := HR1.out.f 7 (by decide)
      have f8 := HR1.out.f 8 (by decide)
      have f9 := HR1.out.f 9 (by decide)
      have r1 := HR1.out.c 1 (by decide)
      have r2 := HR1.out.c 2 (by decide)
      have r3 := HR1.out.c 3 (by decide)
      have r4 := HR1.out.c 4 (by decide)
      have r5 := HR1.out.c 5 (by decide)
      have r6 := HR1.out.c 6 (by decide)
      have r7 := HR1.out.c 7 (by decide)
      have r8 := HR1.out.c 8 (by decide)
      have r9 := HR1.out.c 9 (by decide)
      rw [HQ.out] at c0 c1 c2 c3 c4 c5 c6 c7 c8 c9
      clear hzz
      go_wp2
      obtain ⟨W9, hW9⟩ : ∃ W9, W9 = ten_set wr (w.heap.size + 1) q := ⟨_, rfl⟩
      have HT9 : Ten W9 (w.heap.size + 1) q := by rw [hW9]; exact HR1.out.write
      have HF9 : Frx [w.heap.size, w.heap.size + 1] W0 W9 := by rw [hW9]; exact (HF.out.sub (by simp)).trans (ten_frx (by simp))
      unfold ten_set at hW9
      rw [← hW9]
      have d0 := HT9.c 0 (by decide)
      have d1 := HT9.c 1 (by decide)
      have d2 := HT9.c 2 (by decide)
      have d3 := HT9.c 3 (by decide)
      have d4 := HT9.c 4 (by decide)
      have d5 := HT9.c 5 (by decide)
      have d6 := HT9.c 6 (by decide)
      have d7 := HT9.c 7 (by decide)
      have d8 := HT9.c 8 (by decide)
      have d9 := HT9.c 9 (by decide)
      refine bodyPost_ret (v := .agg #[.bool (q 0), .bool (q 1), .bool (q 2), .bool (q 3), .bool (q 4), .bool (q 5), .bool (q 6), .bool (q 7), .bool (q 8), .bool (q 9)]) (by simp [results, Tryz.results83, go_sem, d0, d1, d2, d3, d4, d5, d6, d7, d8, d9]) rfl ⟨rfl, HA.out.trans ?_⟩
      exact HF9.below (by have := HZ.out; omega) (by simp)
end Go.Kn

namespace Go.Kn
open Go Go.Proofs Go.RowKit

/-- positions with these gates open -/
def opnF (s : Nat → Int) (m : Nat) : Nat → Bool := togF (fun _ => false) s m

theorem Ten.below {w w1 : World} {B : Nat} {q : Nat → Bool} (h : Ten w B q) (hB : B < w.heap.size) (hb : Below w.heap.size w w1) : Ten w1 B q :=
  ⟨fun j hj => ((bcell hb).1 _ _ hB).trans (h.c j hj), fun j hj => ((bcell hb).2 _ _ hB).trans (h.f j hj)⟩

set_option maxRecDepth 100000 in
set_option maxHeartbeats 4000000 in
theorem posOf_w (sa : Option Addr) (m sc : Nat) (s : Nat → Int) (w : World) (hm : m ≤ 1000000) (HB : Hid (∀ i, i < m → 0 ≤ s i ∧ s i < 10)) (HS : Hid (IntSl w sa m s)) :
    Calls Tryz.prog 81 #[.slice sa m sc] w fun e w' => e = .returned (opV (opnF s m)) ∧ Below w.heap.size w w' := by
  obtain ⟨W0, hW0⟩ : ∃ W0, W0 = w.alloc (.cells #[.bool false, .bool false, .bool false, .bool false, .bool false, .bool false, .bool false, .bool false, .bool false, .bool false] 79) := ⟨_, rfl⟩
  have hA : Below w.heap.size w W0 := by rw [hW0]; exact (Below.refl _ _).alloc (Nat.le_refl _) _
  have hz : W0.heap.size = w.heap.size + 1 := by rw [hW0]; simp
  have hR : Ten W0 w.heap.size fun _ => false := by
    rw [hW0]
    refine ⟨ten ?_ ?_ ?_ ?_ ?_ ?_ ?_ ?_ ?_ ?_, ten ?_ ?_ ?_ ?_ ?_ ?_ ?_ ?_ ?_ ?_⟩ <;> simp
  have HM := Lib.hid (moved_w sa m sc (fun _ => false) s W0 hm HB (Lib.hid (HS.out.below hA)))
  obtain ⟨q, hq⟩ : ∃ q, opnF s m = q := ⟨_, rfl⟩
  have hq2 : togF (fun _ => false) s m = q := hq
  rw [hq]
  rw [hq2] at HM
  simp only [opV] at HM ⊢
  have HR := Lib.hid hR
  have HA := Lib.hid hA
  have HZ := Lib.hid hz
  clear hA hz hR hq hq2 HS
  go_enter Tryz.func81, Tryz.ntmps81
  go_wp2_with (go_at_call 83; rw [← hW0]; clear hW0; refine HM.out.mono ?_; rintro e wr ⟨rfl, hv⟩; have HV := Lib.hid hv; clear hv; have HR1 := Lib.hid (HR.out.below (by have := HZ.out; omega) HV.out); have r0 := HR1.out.c 0 (by decide); have r1 := HR1.out.c 1 (by decide); have r2 := HR1.out.c 2 (by decide); have r3 := HR1.out.c 3 (by decide); have r4 := HR1.out.c 4 (by decide); have r5 := HR1.out.c 5 (by decide); have r6 := HR1.out.c 6 (by decide); have r7 := HR1.out.c 7 (by decide); have r8 := HR1.out.c 8 (by decide); have r9 := HR1.out.c 9 (by decide); have f0 := HR1.out.f 0 (by decide); have f1 := HR1.out.f 1 (by decide); have f2 := HR1.out.f 2 (by decide); have f3 := HR1.out.f 3 (by decide); have f4 := HR1.out.f 4 (by decide); have f5 := HR1.out.f 5 (by decide); have f6 := HR1.out.f 6 (by decide); have f7 := HR1.out.f 7 (by decide); have f8 := HR1.out.f 8 (by decide); have f9 := HR1.out.f 9 (by decide))
  obtain ⟨W9, hW9⟩ : ∃ W9, W9 = ten_set wr w.heap.size q := ⟨_, rfl⟩
  have HT9 : Ten W9 w.heap.size q := by rw [hW9]; exact HR1.out.write
  have HF9 : Frx [w.heap.size] W0 W9 := by rw [hW9]; exact (Frx.of_below HV.out).trans (ten_frx (by simp))
  unfold ten_set at hW9
  rw [← hW9]
  have d0 := HT9.c 0 (by decide)
  have d1 := HT9.c 1 (by decide)
  have d2 := HT9.c 2 (by decide)
  have d3 := HT9.c 3 (by decide)
  have d4 := HT9.c 4 (by decide)
  have d5 := HT9.c 5 (by decide)
  have d6 := HT9.c 6 (by decide)
  have d7 := HT9.c 7 (by decide)
  have d8 := HT9.c 8 (by decide)
  have d9 := HT9.c 9 (by decide)
  refine bodyPost_ret (v := .agg #[.bool (q 0), .bool (q 1), .bool (q 2), .bool (q 3), .bool (q 4), .bool (q 5), .bool (q 6), .bool (q 7), .bool (q 8), .bool (q 9)]) (by simp [results, Tryz.results81, go_sem, d0, d1, d2, d3, d4, d5, d6, d7, d8, d9]) rfl ⟨rfl, HA.out.trans ?_⟩
  exact HF9.below (by have := HZ.out; omega) (by simp)

/-- cells of a block of one's own -/
structure Cel (w : World) (B n : Nat) (c : Nat → Value) : Prop where
  c : ∀ j, j < n → w.cell? ⟨B, j, none⟩ = some (c j)
  f : ∀ j, j < n → w.frozen? ⟨B, j, none⟩ = false
theorem Cel.set {w : World} {B n j : Nat} {c : Nat → Value} (h : Cel w B n c) (hj : j < n) (v : Value) : Cel (w.setCell ⟨B, j, none⟩ v) B n (fun i => if i = j then v else c i) := by
  refine ⟨fun i hi => ?_, fun i hi => by simpa using h.f i hi⟩
  by_cases e : i = j
  · subst e
    rw [if_pos rfl]
    exact World.cell?_setCell_same' _ _ _ (by rw [h.c i hi]; rfl)
  · rw [if_neg e]
    exact (World.cell?_setCell_other _ _ _ _ (by intro e2; cases e2; exact e rfl)).trans (h.c i hi)
theorem Cel.congr {w : World} {B n : Nat} {q q' : Nat → Value} (h : Cel w B n q) (he : ∀ j, j < n → q j = q' j) : Cel w B n q' := ⟨fun j hj => by rw [← he j hj]; exact h.c j hj, h.f⟩
theorem Cel.below {w w1 : World} {B n : Nat} {q : Nat → Value} (h : Cel w B n q) (hB : B < w.heap.size) (hb : Below w.heap.size w w1) : Cel w1 B n q :=
  ⟨fun j hj => ((bcell hb).1 _ _ hB).trans (h.c j hj), fun j hj => ((bcell hb).2 _ _ hB).trans (h.f j hj)⟩
theorem twelve {p : Nat → Prop} (h0 : p 0) (h1 : p 1) (h2 : p 2) (h3 : p 3) (h4 : p 4) (h5 : p 5) (h6 : p 6) (h7 : p 7) (h8 : p 8) (h9 : p 9) (h10 : p 10) (h11 : p 11) : ∀ j, j < 12 → p j := fun j hj => by
  match j, hj with
  | 0, _ => exact h0
  | 1, _ => exact h1
  | 2, _ => exact h2
  | 3, _ => exact h3
  | 4, _ => exact h4
  | 5, _ => exact h5
  | 6, _ => exact h6
  | 7, _ => exact h7
  | 8, _ => exact h8
  | 9, _ => exact h9
  | 10, _ => exact h10
  | 11, _ => exact h11
/-- the cells of a network with positions -/
def opG (pa ca : Option Addr) (lp cp lc cc : Nat) (q : Nat → Bool) : Nat → Value
  | 0 => .slice pa lp cp
  | 1 => .slice ca lc cc
  | j + 2 => .bool (q j)
def o12_set (w : World) (B : Nat) (pa ca : Option Addr) (lp cp lc cc : Nat) (q : Nat → Bool) : World :=
  ((((((((((((w.setCell ⟨B, 0, none⟩ (.slice pa lp cp)).setCell ⟨B, 1, none⟩ (.slice ca lc cc)).setCell ⟨B, 2, none⟩ (.bool (q 0))).setCell ⟨B, 3, none⟩ (.bool (q 1))).setCell ⟨B, 4, none⟩ (.bool (q 2))).setCell ⟨B, 5, none⟩ (.bool (q 3))).setCell ⟨B, 6, none⟩ (.bool (q 4))).setCell ⟨B, 7, none⟩ (.bool (q 5))).setCell ⟨B, 8, none⟩ (.bool (q 6))).setCell ⟨B, 9, none⟩ (.bool (q 7))).setCell ⟨B, 10, none⟩ (.bool (q 8))).setCell ⟨B, 11, none⟩ (.bool (q 9)))
theorem Cel.write {w : World} {B : Nat} {c : Nat → Value} (h : Cel w B 12 c) (pa ca : Option Addr) (lp cp lc cc : Nat) (q : Nat → Bool) : Cel (o12_set w B pa ca lp cp lc cc q) B 12 (opG pa ca lp cp lc cc q) :=
  ((((((((((((h.set (j := 0) (by decide) _).set (j := 1) (by decide) _).set (j := 2) (by decide) _).set (j := 3) (by decide) _).set (j := 4) (by decide) _).set (j := 5) (by decide) _).set (j := 6) (by decide) _).set (j := 7) (by decide) _).set (j := 8) (by decide) _).set (j := 9) (by decide) _).set (j := 10) (by decide) _).set (j := 11) (by decide) _).congr (twelve rfl rfl rfl rfl rfl rfl rfl rfl rfl rfl rfl rfl)
theorem o12_frx {w : World} {X : List Nat} {B : Nat} {pa ca : Option Addr} {lp cp lc cc : Nat} {q : Nat → Bool} (hB : B ∈ X) : Frx X w (o12_set w B pa ca lp cp lc cc q) :=
  (((((((((((Frx.setCell X w B 0 _ hB).trans (Frx.setCell X _ B 1 _ hB)).trans (Frx.setCell X _ B 2 _ hB)).trans (Frx.setCell X _ B 3 _ hB)).trans (Frx.setCell X _ B 4 _ hB)).trans (Frx.setCell X _ B 5 _ hB)).trans (Frx.setCell X _ B 6 _ hB)).trans (Frx.setCell X _ B 7 _ hB)).trans (Frx.setCell X _ B 8 _ hB)).trans (Frx.setCell X _ B 9 _ hB)).trans (Frx.setCell X _ B 10 _ hB)).trans (Frx.setCell X _ B 11 _ hB)

set_option maxRecDepth 100000 in
set_option maxHeartbeats 4000000 in
theorem withOpen_w (pa ca sa : Option Addr) (lp cp lc cc m sc : Nat) (s : Nat → Int) (w : World) (hm : m ≤ 1000000) (HB : Hid (∀ i, i < m → 0 ≤ s i ∧ s i < 10)) (HS : Hid (IntSl w sa m s)) :
    Calls Tryz.prog 59 #[.agg #[.slice pa lp cp, .slice ca lc cc], .slice sa m sc] w fun e w' => e = .returned (.agg (opC pa ca lp cp lc cc (opnF s m))) ∧ Below w.heap.size w w' := by
  obtain ⟨W1, hW1⟩ : ∃ W1, W1 = w.alloc (.cells #[.slice pa lp cp, .slice ca lc cc] 25) := ⟨_, rfl⟩
  have hb1 : Below w.heap.size w W1 := by rw [hW1]; exact (Below.refl _ _).alloc (Nat.le_refl _) _
  have hz1 : W1.heap.size = w.heap.size + 1 := by rw [hW1]; simp
  obtain ⟨W0, hW0⟩ : ∃ W0, W0 = W1.alloc (.cells #[.slice none 0 0, .slice none 0 0, .bool false, .bool false, .bool false, .bool false, .bool false, .bool false, .bool false, .bool false, .bool false, .bool false] 81) := ⟨_, rfl⟩
  have hA : Below w.heap.size w W0 := by rw [hW0]; exact hb1.alloc hb1.size _
  have hz : W0.heap.size = w.heap.size + 2 := by rw [hW0]; simp [hz1]
  have hR : Cel W0 (w.heap.size + 1) 12 (opG none none 0 0 0 0 fun _ => false) := by
    rw [hW0, ← hz1]
    refine ⟨twelve ?_ ?_ ?_ ?_ ?_ ?_ ?_ ?_ ?_ ?_ ?_ ?_, twelve ?_ ?_ ?_ ?_ ?_ ?_ ?_ ?_ ?_ ?_ ?_ ?_⟩ <;> simp [opG]
  have hF : ∀ w2, Below W0.heap.size W0 w2 → w2.cell? ⟨w.heap.size, 0, none⟩ = some (.slice pa lp cp) ∧ w2.cell? ⟨w.heap.size, 1, none⟩ = some (.slice ca lc cc) := fun w2 h => by
    have h1 : Below W1.heap.size W1 w2 := by rw [hW0] at h; exact below_al h
    rw [hW1] at h1
    exact ⟨(box_cells h1).1, (box_cells h1).2.1⟩
  have HF := Lib.hid hF
  have HM : Hid (∀ w2, Below W0.heap.size W0 w2 → Calls Tryz.prog 81 #[.slice sa m sc] w2 fun e w' => e = .returned (opV (opnF s m)) ∧ Below w2.heap.size w2 w') := Lib.hid fun w2 h => posOf_w sa m sc s w2 hm HB (Lib.hid (HS.out.below (hA.trans (h.mono hA.size))))
  obtain ⟨q, hq⟩ : ∃ q, opnF s m = q := ⟨_, rfl⟩
  rw [hq] at HM ⊢
  simp only [opV] at HM
  simp only [opC]
  have HR := Lib.hid hR
  have HA := Lib.hid hA
  have HZ := Lib.hid hz
  have HRF := Lib.hid (Below.refl W0.heap.size W0)
  obtain ⟨x0, x1⟩ := HF.out _ HRF.out
  clear hA hz hR hq HS hF hb1 hz1
  have HD := Lib.hid (below_drew HRF.out)
  go_enter Tryz.func59, Tryz.ntmps59
  go_wp2
  rw [← hW1, ← hW0]
  clear hW1 hW0
  go_region_law ((first
    | (go_simp; go_at_call 81; refine (HM.out _ HD.out).mono ?_; rintro e wr ⟨rfl, hv⟩; have HV := Lib.hid (HD.out.trans (hv.mono HD.out.size)); clear hv; obtain ⟨g0, g1⟩ := HF.out _ HV.out; have HR1 := Lib.hid (HR.out.below (by have := HZ.out; omega) HV.out); have r0 := HR1.out.c 0 (by decide); have r1 := HR1.out.c 1 (by decide); have r2 := HR1.out.c 2 (by decide); have r3 := HR1.out.c 3 (by decide); have r4 := HR1.out.c 4 (by decide); have r5 := HR1.out.c 5 (by decide); have r6 := HR1.out.c 6 (by decide); have r7 := HR1.out.c 7 (by decide); have r8 := HR1.out.c 8 (by decide); have r9 := HR1.out.c 9 (by decide); have r10 := HR1.out.c 10 (by decide); have r11 := HR1.out.c 11 (by decide); have f0 := HR1.out.f 0 (by decide); have f1 := HR1.out.f 1 (by decide); have f2 := HR1.out.f 2 (by decide); have f3 := HR1.out.f 3 (by decide); have f4 := HR1.out.f 4 (by decide); have f5 := HR1.out.f 5 (by decide); have f6 := HR1.out.f 6 (by decide); have f7 := HR1.out.f 7 (by decide); have f8 := HR1.out.f 8 (by decide); have f9 := HR1.out.f 9 (by decide); have f10 := HR1.out.f 10 (by decide); have f11 := HR1.out.f 11 (by decide))))
  all_goals
    obtain ⟨W9, hW9⟩ : ∃ W9, W9 = o12_set wr (w.heap.size + 1) pa ca lp cp lc cc q := ⟨_, rfl⟩
    have HT9 : Cel W9 (w.heap.size + 1) 12 (opG pa ca lp cp lc cc q) := by rw [hW9]; exact HR1.out.write _ _ _ _ _ _ _
    have HF9 : Frx [w.heap.size + 1] W0 W9 := by rw [hW9]; exact (Frx.of_below HV.out).trans (o12_frx (by simp))
    unfold o12_set at hW9
    rw [← hW9]
    clear hW9 r0 r1 r2 r3 r4 r5 r6 r7 r8 r9 r10 r11 f0 f1 f2 f3 f4 f5 f6 f7 f8 f9 f10 f11
    have d0 := HT9.c 0 (by decide)
    have d1 := HT9.c 1 (by decide)
    have d2 := HT9.c 2 (by decide)
    have d3 := HT9.c 3 (by decide)
    have d4 := HT9.c 4 (by decide)
    have d5 := HT9.c 5 (by decide)
    have d6 := HT9.c 6 (by decide)
    have d7 := HT9.c 7 (by decide)
    have d8 := HT9.c 8 (by decide)
    have d9 := HT9.c 9 (by decide)
    have d10 := HT9.c 10 (by decide)
    have d11 := HT9.c 11 (by decide)
    simp only [opG] at d0 d1 d2 d3 d4 d5 d6 d7 d8 d9 d10 d11
    go_wp2
    refine bodyPost_ret (v := .agg #[.slice pa lp cp, .slice ca lc cc, .bool (q 0), .bool (q 1), .bool (q 2), .bool (q 3), .bool (q 4), .bool (q 5), .bool (q 6), .bool (q 7), .bool (q 8), .bool (q 9)]) (by simp [results, Tryz.results59, go_sem, d0, d1, d2, d3, d4, d5, d6, d7, d8, d9, d10, d11]) rfl ⟨rfl, HA.out.trans ?_⟩
    exact HF9.below (by have := HZ.out; omega) (by simp)
end Go.Kn

namespace Go.Kn
open Go Go.Proofs Go.RowKit

/-- what is left at each point when the first channels have flowed -/
def accF (P : Nat → P8) (C : Nat → C8) (f : Nat → Int) : Nat → Nat → Int
  | 0 => leftV P false
  | k + 1 => updI (updI (accF P C f k) (C k).fr.toNat (accF P C f k (C k).fr.toNat - f k)) (C k).to.toNat (updI (accF P C f k) (C k).fr.toNat (accF P C f k (C k).fr.toNat - f k) (C k).to.toNat + f k)
theorem accF_bd {lp : Nat} {P : Nat → P8} {lc : Nat} {C : Nat → C8} (h : NetP lp P lc C) {f : Nat → Int} (hf : ∀ i, i < lc → 0 ≤ f i ∧ f i ≤ 10000) : ∀ k, k ≤ lc → ∀ i, i < lp → -(10000 + 10000 * (k : Int)) ≤ accF P C f k i ∧ accF P C f k i ≤ 10000 + 10000 * (k : Int)
  | 0, _, i, hi => by
    have := h.p hi
    simp only [accF, leftV, Bool.false_eq_true, if_false]
    omega
  | k + 1, hk, i, hi => by
    have hc := h.c (show k < lc by omega)
    have hfk := hf k (by omega)
    have i1 := accF_bd h hf k (by omega)
    have a1 := i1 i hi
    have a2 := i1 (C k).fr.toNat (by omega)
    have a3 := i1 (C k).to.toNat (by omega)
    simp only [accF, updI]
    push_cast
    split <;> split <;> (try split) <;> omega
def fbV (lp : Nat) (P : Nat → P8) (lc : Nat) (C : Nat → C8) (op : Nat → Bool) (f : Nat → Int) : Bool :=
  allN (fun k => decide (f k ≤ carV C op k)) lc && allN (fun i => decide (0 ≤ accF P C f lc i)) lp
end Go.Kn

namespace Go.Kn
open Go Go.Proofs Go.RowKit

theorem IntOwn.drew {w : World} {base g n : Nat} {s : Nat → Int} (h : IntOwn w base g n s) : IntOwn w.drew base g n s := ⟨h.lo, h.lt, fun i hi => h.at_ i hi, fun i hi => h.fr i hi⟩
theorem IntOwn.sl {w : World} {base g n : Nat} {s : Nat → Int} (h : IntOwn w base g n s) : IntSl w (some ⟨g, 0, none⟩) n s := .inr ⟨g, 0, rfl, h.lt, h.at_⟩

set_option maxRecDepth 100000 in
set_option maxHeartbeats 8000000 in
theorem fedBy_w (pa ca fa : Option Addr) (lp cp lc cc fc : Nat) (P : Nat → P8) (C : Nat → C8) (op : Nat → Bool) (f : Nat → Int) (w : World) (HP : Hid (NetP lp P lc C)) (HFB : Hid (∀ i, i < lc → 0 ≤ f i ∧ f i ≤ 10000)) (H : Hid (Ne8 w pa ca lp lc P C)) (HS : Hid (IntSl w fa lc f)) :
    Calls Tryz.prog 60 #[.agg (opC pa ca lp cp lc cc op), .slice fa lc fc] w fun r w' => r = .returned (.bool (fbV lp P lc C op f)) ∧ Below w.heap.size w w' := by
  obtain ⟨i0, hi0, hz0, hz1, hz2⟩ := info_parts info3'
  have hc10 := HP.out.c10
  have hl7 := HP.out.l7
  have hl1 := HP.out.l1
  obtain ⟨W0, hW0⟩ : ∃ W0, W0 = w.alloc (.cells (opC pa ca lp cp lc cc op) 81) := ⟨_, rfl⟩
  have hA : Below w.heap.size w W0 := by rw [hW0]; exact (Below.refl _ _).alloc (Nat.le_refl _) _
  have BX : Hid (∀ w2, Below W0.heap.size W0 w2 → B12 w2 w.heap.size pa ca lp cp lc cc op) := Lib.hid fun w2 h => (show B12 W0 w.heap.size pa ca lp cp lc cc op by rw [hW0]; exact B12.new _ _ _ _ _ _ _ _).below h
  have HN : Hid (∀ w2, Below W0.heap.size W0 w2 → Hid (Ne8 w2 pa ca lp lc P C)) := Lib.hid fun w2 h => Lib.hid (H.out.below (hA.trans (h.mono hA.size)))
  have HSL : Hid (∀ w2, Below W0.heap.size W0 w2 → IntSl w2 fa lc f) := Lib.hid fun w2 h => HS.out.below (hA.trans (h.mono hA.size))
  have HA := Lib.hid hA
  have HV : Hid (fbV lp P lc C op f = (allN (fun k => decide (f k ≤ carV C op k)) lc && allN (fun i => decide (0 ≤ accF P C f lc i)) lp)) := Lib.hid rfl
  clear hA H HS
  go_enter Tryz.func60, Tryz.ntmps60
  simp only [opC] at hW0 ⊢
  go_wp2
  rw [← hW0]
  clear hW0
  go_loopw [5, 13] (fun v ii wr => ∃ k : Nat, k ≤ lp ∧ ii = .int .i64 (k : Int) ∧ wr.ownsRow W0.heap.size 3 1 v k ((upto (leftV P false) k).map (Value.int .i64)) ∧ Below W0.heap.size W0 wr) (fun _ ii _ => lp - (Go.RowKit.intOf ii).toNat)
  case atStart => exact ⟨0, Nat.zero_le _, rfl, ⟨rfl, .inl ⟨rfl, rfl⟩⟩, Below.refl _ _⟩
  case round =>
    obtain ⟨k, hk, rfl, hown, hbr⟩ := hrel
    have HOW := Lib.hid hown
    have HBR := Lib.hid hbr
    clear hown
    obtain ⟨x0, x1, x2, x3, x4, x5, x6, x7, x8, x9, x10, x11, x12⟩ := BX.out _ hbr
    clear hbr
    by_cases hlt : k < lp
    case pos =>
      have n1 : (0 : Int) ≤ (k : Int) := by omega
      have n2 : (k : Int) < (lp : Int) := by omega
      have HTK : Hid (upto (leftV P false) (k + 1) = upto (leftV P false) k ++ [leftV P false k]) := Lib.hid (upto_succ _ _)
      have HLF : Hid (Calls Tryz.prog 112 #[.agg (opC pa ca lp cp lc cc op), .int .i64 (k : Int), .int .i64 0] wr fun r w' => r = .returned (.int .i64 (leftV P false k)) ∧ Below wr.heap.size wr w') := Lib.hid (left_w pa ca lp cp lc cc k P C op false wr hlt (by omega) (Lib.hid (by have := HP.out.p hlt; omega)) (HN.out _ HBR.out))
      simp only [opC] at HLF
      go_wp2_with (first
        | (go_at_call 112; refine HLF.out.mono ?_; rintro r w5 ⟨rfl, hv⟩; have HV5 := Lib.hid hv; clear hv x0 x1 x2 x3 x4 x5 x6 x7 x8 x9 x10 x11 x12; have HO5 := Lib.hid (owns_below HOW.out HV5.out); have HB5 := Lib.hid (HBR.out.trans (HV5.out.mono HBR.out.size)))
        | (at_builtin; refine wpList_append_own_at _ rfl (.tmp 16) (.tmp 20) 26 rfl W0.heap.size 3 i0 (.int .i64 0) 1 8 Tryz.underlying26 hi0 hz0 hz1 hz2 rfl (by decide) _ k _ rfl (HO5.out.alloc _) ⟨_, 0, none⟩ 1 1 [.int .i64 (leftV P false k)] rfl rfl (lies_any (by first | exact al_top rfl _ _ | exact al_top (by simp) _ _)) (by intro u hu; simp at hu; subst hu; rfl) (by unfold maxLen; omega) (by omega) (by have := HB5.out.size; simp; omega) ?_; intro v7 w7 hown7 hgrow7 _ hloc7))
      go_roundw
      case rel => exact ⟨k + 1, by omega, by go_num, by rw [HTK.out, List.map_append]; exact hown7, (HB5.out.alloc HB5.out.size _).grown hgrow7 (by have := HB5.out.size; simp; omega) (fun r e => own_ge HO5.out r e)⟩
      case measure => simp [Go.RowKit.intOf]; omega
    case neg =>
      obtain rfl : k = lp := by omega
      obtain ⟨g, gc, rfl, hio⟩ := IntOwn.of HOW.out (by omega)
      have HIO := Lib.hid hio
      clear hio
      go_wp2
      clear x0 x1 x2 x3 x4 x5 x6 x7 x8 x9 x10 x11 x12
      go_loopw [27] (fun ii w2 => ∃ j : Nat, j ≤ lc ∧ ii = .int .i64 (j : Int) ∧ IntOwn w2 W0.heap.size g k (accF P C f j) ∧ allN (fun k => decide (f k ≤ carV C op k)) j = true ∧ Below W0.heap.size W0 w2) (fun ii _ => lc - (Go.RowKit.intOf ii).toNat)
      case atStart => exact ⟨0, Nat.zero_le _, rfl, HIO.out, rfl, HBR.out⟩
      case round =>
        obtain ⟨j, hj, rfl, hio, hal, hbr⟩ := hrel
        have HI2 := Lib.hid hio
        have HB2 := Lib.hid hbr
        have HAL := Lib.hid hal
        clear hio hal
        obtain ⟨x0, x1, x2, x3, x4, x5, x6, x7, x8, x9, x10, x11, x12⟩ := BX.out _ hbr
        clear hbr
        by_cases hlt : j < lc
        case pos =>
          obtain ⟨A, O, rfl, hA, hN⟩ := (HN.out _ HB2.out).out.hc.resolve_left (by omega)
          obtain ⟨y0, y1, y2, y3⟩ := hN j hlt
          obtain ⟨FA, FO, rfl, hFA, hFN⟩ := (HSL.out _ (Below.refl _ _)).resolve_left (by omega)
          have hcj := HP.out.c hlt
          have hfj := HFB.out j hlt
          have hbd := accF_bd HP.out HFB.out j (by omega)
          have HACC : Hid (accF P C f (j + 1) = updI (updI (accF P C f j) (C j).fr.toNat (accF P C f j (C j).fr.toNat - f j)) (C j).to.toNat (updI (accF P C f j) (C j).fr.toNat (accF P C f j (C j).fr.toNat - f j) (C j).to.toNat + f j)) := Lib.hid rfl
          have n1 : (0 : Int) ≤ (j : Int) := by omega
          have n2 : (j : Int) < (lc : Int) := by omega
          have HCA : Hid (∀ w3, Below W0.heap.size W0 w3 → Calls Tryz.prog 113 #[.agg (opC pa (some ⟨A, O, none⟩) k cp lc cc op), .int .i64 (j : Int)] w3 fun e w' => e = .returned (.int .i64 (carV C op j)) ∧ Below w3.heap.size w3 w') := Lib.hid fun w3 h => carries_w pa (some ⟨A, O, none⟩) k cp lc cc j P C op w3 hlt hc10 (HN.out _ h)
          simp only [opC] at HCA
          have HNX : Hid (f j ≤ carV C op j → allN (fun k => decide (f k ≤ carV C op k)) (j + 1) = true) := Lib.hid fun h => allN_next HAL.out (by simpa using h)
          have HNO : Hid (¬ (f j ≤ carV C op j) → allN (fun k => decide (f k ≤ carV C op k)) lc = false) := Lib.hid fun h => allN_no hlt (by simpa using h)
          obtain ⟨cv, hcv⟩ : ∃ cv, carV C op j = cv := ⟨_, rfl⟩
          rw [hcv] at HCA HNX HNO
          obtain ⟨⟨fr, to, cu, ga⟩, hcc⟩ : ∃ c, C j = c := ⟨_, rfl⟩
          rw [hcc] at y0 y1 y2 y3 hcj HACC
          dsimp only at y0 y1 y2 y3 hcj HACC
          obtain ⟨a, ha⟩ : ∃ a : Nat, fr = (a : Int) := ⟨fr.toNat, by omega⟩
          obtain ⟨b, hb⟩ : ∃ b : Nat, to = (b : Int) := ⟨to.toNat, by omega⟩
          subst ha; subst hb
          have hak : a < k := by omega
          have hbk : b < k := by omega
          have hab : a ≠ b := by omega
          have hb1 := hbd a hak
          have hb2 := hbd b hbk
          simp only [Int.toNat_natCast] at HACC
          obtain ⟨va, hva⟩ : ∃ v, accF P C f j a = v := ⟨_, rfl⟩
          obtain ⟨vb, hvb⟩ : ∃ v, accF P C f j b = v := ⟨_, rfl⟩
          obtain ⟨fj, hfe⟩ : ∃ v, f j = v := ⟨_, rfl⟩
          have HVA := Lib.hid hva
          have HVB := Lib.hid hvb
          have yf := hFN j hlt
          rw [hva] at hb1 HACC
          rw [hvb] at hb2
          rw [hfe] at hfj HACC HNX HNO yf
          have HUB : Hid (updI (accF P C f j) a (va - fj) b = vb) := Lib.hid (by unfold updI; rw [if_neg (fun h => hab h.symm)]; exact hvb)
          rw [HUB.out] at HACC
          obtain ⟨W1, hW1⟩ : ∃ W1, W1 = wr.alloc (.cells #[.int .i64 (a : Int), .int .i64 (b : Int), .int .i64 cu, .bool ga] 68) := ⟨_, rfl⟩
          have hw1 : Below wr.heap.size wr W1 := by rw [hW1]; exact (Below.refl _ _).alloc (Nat.le_refl _) _
          have HB1 := Lib.hid (HB2.out.trans (hw1.mono HB2.out.size))
          have hs1 : wr.heap.size < W1.heap.size := by rw [hW1]; simp
          have z0 : W1.cell? ⟨wr.heap.size, 0, none⟩ = some (.int .i64 (a : Int)) := by rw [hW1]; simp
          have z1 : W1.cell? ⟨wr.heap.size, 1, none⟩ = some (.int .i64 (b : Int)) := by rw [hW1]; simp
          have hI1 := HI2.out.below hw1
          have HX : Hid (∀ w3, Below W1.heap.size W1 w3 → B12 w3 w.heap.size pa (some ⟨A, O, none⟩) k cp lc cc op ∧ w3.cell? ⟨FA, FO + j, none⟩ = some (.int .i64 fj) ∧ w3.cell? ⟨wr.heap.size, 0, none⟩ = some (.int .i64 (a : Int)) ∧ w3.cell? ⟨wr.heap.size, 1, none⟩ = some (.int .i64 (b : Int)) ∧ IntOwn w3 W0.heap.size g k (accF P C f j) ∧ Below W0.heap.size W0 w3) := Lib.hid fun w3 h => by
            have h0 := HB1.out.trans (h.mono HB1.out.size)
            exact ⟨BX.out _ h0, ((bcell h0).1 _ _ hFA).trans yf, ((bcell h).1 _ _ hs1).trans z0, ((bcell h).1 _ _ hs1).trans z1, hI1.below h, h0⟩
          have HD := Lib.hid (below_drew (Below.refl W1.heap.size W1))
          clear hN hcc hcv hFN hfe hbd hva hvb hA hab hw1 x0 x1 x2 x3 x4 x5 x6 x7 x8 x9 x10 x11 x12 hI1
          go_wp2
          rw [← hW1]
          clear hW1 y0 y1 y2 y3 z0 z1
          obtain ⟨⟨x0, x1, x2, x3, x4, x5, x6, x7, x8, x9, x10, x11, x12⟩, yf1, _, _, _, _⟩ := HX.out _ (Below.refl _ _)
          go_region_law ((first
            | (go_simp; go_at_call 113; refine (HCA.out _ (HX.out _ HD.out).2.2.2.2.2).mono ?_; rintro e w5 ⟨rfl, hv⟩; have HV5 := Lib.hid (HD.out.trans (hv.mono HD.out.size)); clear hv; obtain ⟨⟨p0, p1, p2, p3, p4, p5, p6, p7, p8, p9, p10, p11, p12⟩, yf5, z50, z51, hI5, hB5⟩ := HX.out _ HV5.out)))
          all_goals
            have HI5 := Lib.hid hI5
            have HB5 := Lib.hid hB5
            clear hI5 hB5 p0 p1 p2 p3 p4 p5 p6 p7 p8 p9 p10 p11 p12 x0 x1 x2 x3 x4 x5 x6 x7 x8 x9 x10 x11 x12 yf1
            by_cases hle : fj ≤ cv
            case neg =>
              have HNO2 := Lib.hid (HNO.out (by omega))
              go_wp2
              go_ret
              exact ⟨by rw [HV.out, HNO2.out]; rfl, HA.out.trans (HB5.out.mono HA.out.size)⟩
            case pos =>
              have HNX2 := Lib.hid (HNX.out hle)
              have c0 := HI5.out.at_ a hak
              have c1 := HI5.out.fr a hak
              rw [HVA.out, Nat.zero_add] at c0
              have n3 : (0 : Int) ≤ (a : Int) := by omega
              have n4 : (a : Int) < (k : Int) := by omega
              have n5 : (0 : Int) ≤ (b : Int) := by omega
              have n6 : (b : Int) < (k : Int) := by omega
              go_wp2
              go_region_law ((first | fail))
              all_goals
                obtain ⟨W6, hW6⟩ : ∃ W6, W6 = (w5.setCell ⟨g, a, none⟩ (.int .i64 (IntKind.i64.wrap (va - fj)))).drew := ⟨_, rfl⟩
                have hwr : IntKind.i64.wrap (va - fj) = va - fj := by rw [IntKind.wrap_i64]; omega
                have hI6 : IntOwn W6 W0.heap.size g k (updI (accF P C f j) a (va - fj)) := by rw [hW6, hwr]; exact (HI5.out.set hak _).drew
                have hB6 : Below W0.heap.size W0 W6 := by rw [hW6]; exact below_drew (HB5.out.trans ((Frx.setCell [g] w5 g a _ (by simp)).below HB5.out.size (by simp; exact HI5.out.lo)))
                have k1 : W6.cell? ⟨wr.heap.size, 1, none⟩ = some (.int .i64 (b : Int)) := by
                  rw [hW6]; exact (World.cell?_setCell_other _ _ _ _ (by intro e; cases e; exact Nat.lt_irrefl _ HI2.out.lt)).trans z51
                have k2 := ((bcell hB6).1 _ (FO + j) hFA).trans yf
                have k3 := hI6.at_ b hbk
                rw [HUB.out, Nat.zero_add] at k3
                have k4 := hI6.fr b hbk
                rw [← hW6]
                have HI6 := Lib.hid hI6
                have HB6 := Lib.hid hB6
                clear hW6 hwr hI6 hB6 c0 c1 yf5 z50 z51
                go_wp2
                go_region_law ((first | fail))
                all_goals
                  obtain ⟨W7, hW7⟩ : ∃ W7, W7 = (W6.setCell ⟨g, b, none⟩ (.int .i64 (IntKind.i64.wrap (vb + fj)))).drew := ⟨_, rfl⟩
                  have hwr : IntKind.i64.wrap (vb + fj) = vb + fj := by rw [IntKind.wrap_i64]; omega
                  have hI7 : IntOwn W7 W0.heap.size g k (accF P C f (j + 1)) := by rw [hW7, hwr, HACC.out]; exact (HI6.out.set hbk _).drew
                  have hB7 : Below W0.heap.size W0 W7 := by rw [hW7]; exact below_drew (HB6.out.trans ((Frx.setCell [g] W6 g b _ (by simp)).below HB6.out.size (by simp; exact HI6.out.lo)))
                  rw [← hW7]
                  have HI7 := Lib.hid hI7
                  have HB7 := Lib.hid hB7
                  clear hW7 hwr hI7 hB7 k1 k2 k3 k4
                  go_wp2
                  go_roundw
                  case rel => exact ⟨j + 1, by omega, by go_num, HI7.out, HNX2.out, HB7.out⟩
                  case measure => simp [Go.RowKit.intOf]; omega
        case neg =>
          obtain rfl : j = lc := by omega
          have HJ := Lib.hid (allJ_w (some ⟨g, 0, none⟩) k gc (accF P C f j) (fun i => decide (0 ≤ accF P C f j i)) wr (by omega) (Lib.hid HI2.out.sl) (Lib.hid fun d w3 _ _ => notNeg_w (accF P C f j d) w3))
          obtain ⟨b, hb⟩ : ∃ b, allN (fun i => decide (0 ≤ accF P C f j i)) k = b := ⟨_, rfl⟩
          have HBB := Lib.hid hb
          rw [hb] at HJ
          clear hb
          go_wp2_with (go_at_call 110; refine HJ.out.mono ?_; rintro e w5 ⟨rfl, hv⟩)
          go_ret
          exact ⟨by rw [HV.out, HAL.out, HBB.out]; rfl, HA.out.trans ((HB2.out.trans (hv.mono HB2.out.size)).mono HA.out.size)⟩
end Go.Kn
