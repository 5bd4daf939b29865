/- Contracts of functions that the laws of this seat call, or the evaluator of closed calls and its runs. Conditions: as each theorem states them. -/
import Derived.Test.YtddlghdglknloaaGreatDoorL3
import Derived.Test.YtddlghdglknloaaGreatDoorJ4
set_option linter.unusedVariables false
set_option linter.unusedSimpArgs false
namespace Go.Kn
open Go Go.Proofs Go.RowKit

set_option maxRecDepth 100000 in
set_option maxHeartbeats 4000000 in
theorem rsurely_w (pa ca sa : Option Addr) (lp cp lc cc m sc : Nat) (P : Nat → P8) (C : Nat → C8) (s : Nat → Int) (w : World) (HP : Hid (NetP lp P lc C)) (HG : Hid (gatsB lc C s m = true)) (hm : m ≤ 1000) (H : Hid (Ne8 w pa ca lp lc P C)) (HO : Hid (IntSl w sa m s)) :
    Calls Tryz.prog 35 #[.agg #[.slice pa lp cp, .slice ca lc cc], .slice sa m sc] w fun e w' => e = .returned (.bool (fedV lp P lc C (opnF s m) false)) ∧ Below w.heap.size w w' := by
  have hA : Below w.heap.size w (w.alloc (.cells #[.slice pa lp cp, .slice ca lc cc] 25)) := (Below.refl _ _).alloc (Nat.le_refl _) _
  have HC := Lib.hid (rcut_w pa ca sa lp cp lc cc m sc P C s false (w.alloc (.cells #[.slice pa lp cp, .slice ca lc cc] 25)) HP HG hm (Lib.hid (H.out.below hA)) (Lib.hid (HO.out.below hA)))
  have HE : Hid ((cutL lp P lc C (opnF s m) false).isSome = !fedV lp P lc C (opnF s m) false) := Lib.hid cutL_fed
  rw [HE.out] at HC
  obtain ⟨b, hb⟩ : ∃ b, fedV lp P lc C (opnF s m) false = b := ⟨_, rfl⟩
  rw [hb] at HC ⊢
  have HA := Lib.hid hA
  clear hA hb HE H HO
  go_enter Tryz.func35, Tryz.ntmps35
  go_wp2_with (go_at_call 33; refine HC.out.mono ?_; rintro e w5 ⟨⟨v, rfl, _⟩, hv⟩)
  go_ret
  exact ⟨by simp, below_al hv⟩

/-- whether a network is fed, as a word -/
def wordV (lp : Nat) (P : Nat → P8) (lc : Nat) (C : Nat → C8) (op : Nat → Bool) : Int := if fedV lp P lc C op false then 3 else if fedV lp P lc C op true then 2 else 1

set_option maxRecDepth 100000 in
set_option maxHeartbeats 4000000 in
theorem rfed_w (pa ca sa : Option Addr) (lp cp lc cc m sc : Nat) (P : Nat → P8) (C : Nat → C8) (s : Nat → Int) (w : World) (HP : Hid (NetP lp P lc C)) (HG : Hid (gatsB lc C s m = true)) (hm : m ≤ 1000) (H : Hid (Ne8 w pa ca lp lc P C)) (HO : Hid (IntSl w sa m s)) :
    Calls Tryz.prog 32 #[.agg #[.slice pa lp cp, .slice ca lc cc], .slice sa m sc] w fun e w' => e = .returned (.int .i64 (wordV lp P lc C (opnF s m))) ∧ Below w.heap.size w w' := by
  obtain ⟨W0, hW0⟩ : ∃ W0, W0 = w.alloc (.cells #[.slice pa lp cp, .slice ca lc cc] 25) := ⟨_, rfl⟩
  have hA : Below w.heap.size w W0 := by rw [hW0]; exact (Below.refl _ _).alloc (Nat.le_refl _) _
  have HF : Hid (∀ w2, Below W0.heap.size W0 w2 → w2.cell? ⟨w.heap.size, 0, none⟩ = some (.slice pa lp cp) ∧ w2.cell? ⟨w.heap.size, 1, none⟩ = some (.slice ca lc cc)) := Lib.hid fun w2 h => by
    rw [hW0] at h
    exact ⟨(box_cells h).1, (box_cells h).2.1⟩
  have HS : Hid (Calls Tryz.prog 35 #[.agg #[.slice pa lp cp, .slice ca lc cc], .slice sa m sc] W0 fun e w' => e = .returned (.bool (fedV lp P lc C (opnF s m) false)) ∧ Below W0.heap.size W0 w') := Lib.hid (rsurely_w pa ca sa lp cp lc cc m sc P C s W0 HP HG hm (Lib.hid (H.out.below hA)) (Lib.hid (HO.out.below hA)))
  have HC : Hid (∀ w2, Below W0.heap.size W0 w2 → Calls Tryz.prog 33 #[.agg #[.slice pa lp cp, .slice ca lc cc], .slice sa m sc, .bool true] w2 fun e w' => (∃ v, e = .returned (.tuple #[v, .bool (!fedV lp P lc C (opnF s m) true)])) ∧ Below w2.heap.size w2 w') := Lib.hid fun w2 h => by
    have h1 := rcut_w pa ca sa lp cp lc cc m sc P C s true w2 HP HG hm (Lib.hid (H.out.below (hA.trans (h.mono hA.size)))) (Lib.hid (HO.out.below (hA.trans (h.mono hA.size))))
    rw [cutL_fed] at h1
    exact h1.mono fun e w' ⟨⟨v, he, _⟩, hb⟩ => ⟨⟨v, he⟩, hb⟩
  have HA := Lib.hid hA
  obtain ⟨f0, f1⟩ := HF.out _ (Below.refl _ _)
  rw [hW0] at f0 f1
  obtain ⟨b1, hb1⟩ : ∃ b, fedV lp P lc C (opnF s m) false = b := ⟨_, rfl⟩
  obtain ⟨b2, hb2⟩ : ∃ b, fedV lp P lc C (opnF s m) true = b := ⟨_, rfl⟩
  have HW : Hid (wordV lp P lc C (opnF s m) = if b1 then 3 else if b2 then 2 else 1) := Lib.hid (by unfold wordV; rw [hb1, hb2])
  rw [HW.out]
  rw [hb1] at HS
  rw [hb2] at HC
  clear hA hb1 hb2 H HO HW
  cases b1 with
  | true =>
    go_enter Tryz.func32, Tryz.ntmps32
    go_wp2_with (go_at_call 35; rw [← hW0]; refine HS.out.mono ?_; rintro e w5 ⟨rfl, hv⟩)
    go_ret
    exact ⟨rfl, HA.out.trans (hv.mono HA.out.size)⟩
  | false =>
    cases b2
    all_goals
      go_enter Tryz.func32, Tryz.ntmps32
      go_wp2_with (first
        | (go_at_call 35; rw [← hW0]; refine HS.out.mono ?_; rintro e w5 ⟨rfl, hv⟩; clear hW0 f0 f1; obtain ⟨g0, g1⟩ := HF.out _ hv; have HV5 := Lib.hid hv; clear hv)
        | (go_at_call 33; refine (HC.out _ HV5.out).mono ?_; rintro e w6 ⟨⟨v, rfl⟩, hv⟩; have HV6 := Lib.hid (HV5.out.trans (hv.mono HV5.out.size)); clear hv))
      go_ret
      exact ⟨rfl, HA.out.trans (HV6.out.mono HA.out.size)⟩

set_option maxRecDepth 100000 in
set_option maxHeartbeats 4000000 in
theorem check_w (pa ca : Option Addr) (lp cp lc cc : Nat) (P : Nat → P8) (C : Nat → C8) (w : World) (hlp : lp ≤ 1000000) (hlc : lc ≤ 1000000) (H : Hid (Ne8 w pa ca lp lc P C)) :
    Calls Tryz.prog 31 #[.agg #[.slice pa lp cp, .slice ca lc cc]] w fun e w' => e = .returned (.int .i64 (if netV lp P lc C then 0 else 2)) ∧ Below w.heap.size w w' := by
  have hA : Below w.heap.size w (w.alloc (.cells #[.slice pa lp cp, .slice ca lc cc] 25)) := (Below.refl _ _).alloc (Nat.le_refl _) _
  have HC := Lib.hid (isNet_w pa ca lp cp lc cc P C (w.alloc (.cells #[.slice pa lp cp, .slice ca lc cc] 25)) hlp hlc (Lib.hid (H.out.below hA)))
  obtain ⟨b, hb⟩ : ∃ b, netV lp P lc C = b := ⟨_, rfl⟩
  rw [hb] at HC ⊢
  clear hA hb H
  cases b
  all_goals
    go_enter Tryz.func31, Tryz.ntmps31
    go_wp2_with (go_at_call 56; refine HC.out.mono ?_; rintro e w5 ⟨rfl, hv⟩)
    go_ret
    exact ⟨rfl, below_al hv⟩

/-- what Fed asks of its arguments -/
def fedQ (lp : Nat) (P : Nat → P8) (lc : Nat) (C : Nat → C8) (s : Nat → Int) (m : Nat) : Bool := netV lp P lc C && gatsB lc C s m
end Go.Kn

namespace Go.Kn
open Go Go.Proofs Go.RowKit

set_option maxRecDepth 100000 in
set_option maxHeartbeats 8000000 in
theorem fed_w (pa ca sa : Option Addr) (lp cp lc cc m sc : Nat) (P : Nat → P8) (C : Nat → C8) (s : Nat → Int) (w : World) (hlp : lp ≤ 1000000) (hlc : lc ≤ 1000000) (hm : m ≤ 1000000) (H : Hid (Ne8 w pa ca lp lc P C)) (HO : Hid (IntSl w sa m s)) :
    Calls Tryz.prog 23 #[.agg #[.slice pa lp cp, .slice ca lc cc], .slice sa m sc] w fun e w' => e = .returned (.tuple #[.int .i64 (if fedQ lp P lc C s m then wordV lp P lc C (opnF s m) else 0), .int .i64 (if fedQ lp P lc C s m then 0 else 2)]) ∧ Below w.heap.size w w' := by
  obtain ⟨W0, hW0⟩ : ∃ W0, W0 = w.alloc (.cells #[.slice pa lp cp, .slice ca lc cc] 25) := ⟨_, rfl⟩
  have hA : Below w.heap.size w W0 := by rw [hW0]; exact (Below.refl _ _).alloc (Nat.le_refl _) _
  have HF : Hid (∀ w2, Below W0.heap.size W0 w2 → w2.cell? ⟨w.heap.size, 0, none⟩ = some (.slice pa lp cp) ∧ w2.cell? ⟨w.heap.size, 1, none⟩ = some (.slice ca lc cc)) := Lib.hid fun w2 h => by
    rw [hW0] at h
    exact ⟨(box_cells h).1, (box_cells h).2.1⟩
  have HN : Hid (∀ w2, Below W0.heap.size W0 w2 → Ne8 w2 pa ca lp lc P C) := Lib.hid fun w2 h => H.out.below (hA.trans (h.mono hA.size))
  have HOS : Hid (∀ w2, Below W0.heap.size W0 w2 → IntSl w2 sa m s) := Lib.hid fun w2 h => HO.out.below (hA.trans (h.mono hA.size))
  have H1 : Hid (Calls Tryz.prog 56 #[.agg #[.slice pa lp cp, .slice ca lc cc]] W0 fun e w' => e = .returned (.bool (netV lp P lc C)) ∧ Below W0.heap.size W0 w') := Lib.hid (isNet_w pa ca lp cp lc cc P C W0 hlp hlc (Lib.hid (HN.out _ (Below.refl _ _))))
  have H2 : Hid (∀ w2, Below W0.heap.size W0 w2 → Calls Tryz.prog 57 #[.agg #[.slice pa lp cp, .slice ca lc cc], .slice sa m sc] w2 fun e w' => e = .returned (.bool (gatsB lc C s m)) ∧ Below w2.heap.size w2 w') := Lib.hid fun w2 h => areGates_w pa ca sa lp cp lc cc m sc P C s w2 hlc hm (Lib.hid (HN.out _ h)) (Lib.hid (HOS.out _ h))
  have HA := Lib.hid hA
  obtain ⟨f0, f1⟩ := HF.out _ (Below.refl _ _)
  rw [hW0] at f0 f1
  clear hA H HO
  obtain ⟨q1, hq1⟩ : ∃ q, netV lp P lc C = q := ⟨_, rfl⟩
  obtain ⟨q2, hq2⟩ : ∃ q, gatsB lc C s m = q := ⟨_, rfl⟩
  have HQ1 := Lib.hid hq1
  have HQ2 := Lib.hid hq2
  have HQ : Hid (fedQ lp P lc C s m = (q1 && q2)) := Lib.hid (by rw [← hq1, ← hq2]; rfl)
  rw [HQ.out]
  rw [hq1] at H1
  rw [hq2] at H2
  clear hq1 hq2 HQ
  cases q1 with
  | false =>
    go_enter Tryz.func23, Tryz.ntmps23
    go_wp2_with (go_at_call 56; rw [← hW0]; refine H1.out.mono ?_; rintro e w5 ⟨rfl, hv⟩)
    refine bodyPost_ret (v := .tuple #[.int .i64 0, .int .i64 2]) (by simp [results, Tryz.results23, go_sem]) rfl ⟨by simp, HA.out.trans (hv.mono HA.out.size)⟩
  | true =>
    cases q2 with
    | false =>
      go_enter Tryz.func23, Tryz.ntmps23
      go_wp2_with (first
        | (go_at_call 56; rw [← hW0]; refine H1.out.mono ?_; rintro e w5 ⟨rfl, hv⟩; clear hW0 f0 f1; have HV5 := Lib.hid hv; obtain ⟨g0, g1⟩ := HF.out _ hv; clear hv)
        | (go_at_call 57; refine (H2.out _ HV5.out).mono ?_; rintro e w6 ⟨rfl, hv⟩; have HV6 := Lib.hid (HV5.out.trans (hv.mono HV5.out.size)); clear hv))
      refine bodyPost_ret (v := .tuple #[.int .i64 0, .int .i64 2]) (by simp [results, Tryz.results23, go_sem]) rfl ⟨by simp, HA.out.trans (HV6.out.mono HA.out.size)⟩
    | true =>
      have HP := Lib.hid (netV_iff.1 HQ1.out)
      have hc10 := HP.out.c10
      have HOB : Hid (∀ i, i < m → 0 ≤ s i ∧ s i < 10) := Lib.hid fun i hi => by have := gatsB_inc HQ2.out i hi; omega
      have H4 : Hid (∀ w2, Below W0.heap.size W0 w2 → Calls Tryz.prog 59 #[.agg #[.slice pa lp cp, .slice ca lc cc], .slice sa m sc] w2 fun e w' => e = .returned (.agg (opC pa ca lp cp lc cc (opnF s m))) ∧ Below w2.heap.size w2 w') := Lib.hid fun w2 h => withOpen_w pa ca sa lp cp lc cc m sc s w2 hm HOB (Lib.hid (HOS.out _ h))
      have H5 : Hid (∀ w2, Below W0.heap.size W0 w2 → Calls Tryz.prog 64 #[.agg (opC pa ca lp cp lc cc (opnF s m)), .int .i64 0] w2 fun e w' => e = .returned (.bool (fedV lp P lc C (opnF s m) false)) ∧ Below w2.heap.size w2 w') := Lib.hid fun w2 h => isFed_w pa ca lp cp lc cc P C (opnF s m) false w2 (Lib.hid HP.out.b) (Lib.hid (HN.out _ h))
      have H6 : Hid (∀ w2, Below W0.heap.size W0 w2 → Calls Tryz.prog 64 #[.agg (opC pa ca lp cp lc cc (opnF s m)), .int .i64 1] w2 fun e w' => e = .returned (.bool (fedV lp P lc C (opnF s m) true)) ∧ Below w2.heap.size w2 w') := Lib.hid fun w2 h => isFed_w pa ca lp cp lc cc P C (opnF s m) true w2 (Lib.hid HP.out.b) (Lib.hid (HN.out _ h))
      have HW : Hid (wordV lp P lc C (opnF s m) = if fedV lp P lc C (opnF s m) false then 3 else if fedV lp P lc C (opnF s m) true then 2 else 1) := Lib.hid rfl
      rw [HW.out]
      obtain ⟨b1, hb1⟩ : ∃ b, fedV lp P lc C (opnF s m) false = b := ⟨_, rfl⟩
      obtain ⟨b2, hb2⟩ : ∃ b, fedV lp P lc C (opnF s m) true = b := ⟨_, rfl⟩
      rw [hb1] at H5
      rw [hb2] at H6
      rw [hb1, hb2]
      obtain ⟨op, hop⟩ : ∃ op, opnF s m = op := ⟨_, rfl⟩
      rw [hop] at H4 H5 H6
      have HBX : Hid (∀ (w8 w2 : World), Below (w8.alloc (.cells (opC pa ca lp cp lc cc op) 81)).heap.size (w8.alloc (.cells (opC pa ca lp cp lc cc op) 81)) w2 → B12 w2 w8.heap.size pa ca lp cp lc cc op) := Lib.hid fun w8 w2 h => (B12.new w8 pa ca lp cp lc cc op).below h
      simp only [opC] at H4 H5 H6 HBX
      clear hb1 hb2 hop HW
      have A1 := Lib.hid trivial
      cases b1 with
      | true =>
        go_enter Tryz.func23, Tryz.ntmps23
        go_wp2_with (first
          | (go_at_call 56; rw [← hW0]; refine H1.out.mono ?_; rintro e w5 ⟨rfl, hv⟩; clear hW0 f0 f1; have HV5 := Lib.hid hv; obtain ⟨g0, g1⟩ := HF.out _ hv; clear hv)
          | (go_at_call 57; refine (H2.out _ HV5.out).mono ?_; rintro e w6 ⟨rfl, hv⟩; have HV6 := Lib.hid (HV5.out.trans (hv.mono HV5.out.size)); clear hv g0 g1; obtain ⟨g0, g1⟩ := HF.out _ HV6.out)
          | (go_at_call 59; refine (H4.out _ HV6.out).mono ?_; rintro e w8 ⟨rfl, hv⟩; have HV8 := Lib.hid (HV6.out.trans (hv.mono HV6.out.size)); clear hv g0 g1; have HBY := Lib.hid (HBX.out w8))
          | (go_at_call 64; have hB := A1.out; clear hB A1; refine (H5.out _ (HV8.out.alloc HV8.out.size _)).mono ?_; rintro e w9 ⟨rfl, hv⟩; obtain ⟨x0, x1, x2, x3, x4, x5, x6, x7, x8, x9, x10, x11, x12⟩ := HBY.out _ hv; have HV9 := Lib.hid ((HV8.out.alloc HV8.out.size _).trans (hv.mono (HV8.out.alloc HV8.out.size _).size)); clear hv)
          | (go_at_call 64; refine (H6.out _ HV9.out).mono ?_; rintro e w10 ⟨rfl, hv⟩; have HV10 := Lib.hid (HV9.out.trans (hv.mono HV9.out.size)); clear hv))
        exact bodyPost_ret (v := .tuple #[.int .i64 3, .int .i64 0]) (by simp [results, Tryz.results23, go_sem]) rfl ⟨by simp, HA.out.trans (HV9.out.mono HA.out.size)⟩
      | false =>
        cases b2 with
        | true =>
          go_enter Tryz.func23, Tryz.ntmps23
          go_wp2_with (first
            | (go_at_call 56; rw [← hW0]; refine H1.out.mono ?_; rintro e w5 ⟨rfl, hv⟩; clear hW0 f0 f1; have HV5 := Lib.hid hv; obtain ⟨g0, g1⟩ := HF.out _ hv; clear hv)
            | (go_at_call 57; refine (H2.out _ HV5.out).mono ?_; rintro e w6 ⟨rfl, hv⟩; have HV6 := Lib.hid (HV5.out.trans (hv.mono HV5.out.size)); clear hv g0 g1; obtain ⟨g0, g1⟩ := HF.out _ HV6.out)
            | (go_at_call 59; refine (H4.out _ HV6.out).mono ?_; rintro e w8 ⟨rfl, hv⟩; have HV8 := Lib.hid (HV6.out.trans (hv.mono HV6.out.size)); clear hv g0 g1; have HBY := Lib.hid (HBX.out w8))
            | (go_at_call 64; have hB := A1.out; clear hB A1; refine (H5.out _ (HV8.out.alloc HV8.out.size _)).mono ?_; rintro e w9 ⟨rfl, hv⟩; obtain ⟨x0, x1, x2, x3, x4, x5, x6, x7, x8, x9, x10, x11, x12⟩ := HBY.out _ hv; have HV9 := Lib.hid ((HV8.out.alloc HV8.out.size _).trans (hv.mono (HV8.out.alloc HV8.out.size _).size)); clear hv)
            | (go_at_call 64; refine (H6.out _ HV9.out).mono ?_; rintro e w10 ⟨rfl, hv⟩; have HV10 := Lib.hid (HV9.out.trans (hv.mono HV9.out.size)); clear hv))
          exact bodyPost_ret (v := .tuple #[.int .i64 2, .int .i64 0]) (by simp [results, Tryz.results23, go_sem]) rfl ⟨by simp, HA.out.trans (HV10.out.mono HA.out.size)⟩
        | false =>
          go_enter Tryz.func23, Tryz.ntmps23
          go_wp2_with (first
            | (go_at_call 56; rw [← hW0]; refine H1.out.mono ?_; rintro e w5 ⟨rfl, hv⟩; clear hW0 f0 f1; have HV5 := Lib.hid hv; obtain ⟨g0, g1⟩ := HF.out _ hv; clear hv)
            | (go_at_call 57; refine (H2.out _ HV5.out).mono ?_; rintro e w6 ⟨rfl, hv⟩; have HV6 := Lib.hid (HV5.out.trans (hv.mono HV5.out.size)); clear hv g0 g1; obtain ⟨g0, g1⟩ := HF.out _ HV6.out)
            | (go_at_call 59; refine (H4.out _ HV6.out).mono ?_; rintro e w8 ⟨rfl, hv⟩; have HV8 := Lib.hid (HV6.out.trans (hv.mono HV6.out.size)); clear hv g0 g1; have HBY := Lib.hid (HBX.out w8))
            | (go_at_call 64; have hB := A1.out; clear hB A1; refine (H5.out _ (HV8.out.alloc HV8.out.size _)).mono ?_; rintro e w9 ⟨rfl, hv⟩; obtain ⟨x0, x1, x2, x3, x4, x5, x6, x7, x8, x9, x10, x11, x12⟩ := HBY.out _ hv; have HV9 := Lib.hid ((HV8.out.alloc HV8.out.size _).trans (hv.mono (HV8.out.alloc HV8.out.size _).size)); clear hv)
            | (go_at_call 64; refine (H6.out _ HV9.out).mono ?_; rintro e w10 ⟨rfl, hv⟩; have HV10 := Lib.hid (HV9.out.trans (hv.mono HV9.out.size)); clear hv))
          exact bodyPost_ret (v := .tuple #[.int .i64 1, .int .i64 0]) (by simp [results, Tryz.results23, go_sem]) rfl ⟨by simp, HA.out.trans (HV10.out.mono HA.out.size)⟩
end Go.Kn
