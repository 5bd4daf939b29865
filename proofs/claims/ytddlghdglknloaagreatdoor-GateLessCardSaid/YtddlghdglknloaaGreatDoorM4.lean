/- Contracts of functions that the laws of this seat call, or the evaluator of closed calls and its runs. Conditions: as each theorem states them. -/
import Derived.Test.YtddlghdglknloaaGreatDoorM1
import Derived.Test.YtddlghdglknloaaGreatDoorM3
import Derived.Test.YtddlghdglknloaaGreatDoorM5G
import Derived.Test.YtddlghdglknloaaGreatDoorM2
set_option linter.unusedVariables false
set_option linter.unusedSimpArgs false
namespace Go.Kn
open Go Go.Proofs Go.RowKit

set_option maxRecDepth 100000 in
set_option maxHeartbeats 2000000 in
/-- firstCut's right: the list has less than nothing to spare -/
theorem s116_w (pa ca sa : Option Addr) (lp cp lc cc m sc ob : Nat) (P : Nat → P8) (C : Nat → C8) (op : Nat → Bool) (L : List Nat) (w : World) (HB : Hid (NetB lp P lc C)) (hl : L.length = m) (hm : m ≤ 20) (hL : Hid (∀ y ∈ L, y < lp)) (H : Hid (Ne8 w pa ca lp lc P C)) (HO : Hid (B12 w ob pa ca lp cp lc cc op)) (HS : Hid (IntSl w sa m (lgI L))) :
    Calls Tryz.prog 116 #[.slice sa m sc, .pointer (some ⟨ob, 0, none⟩)] w fun r w' => r = .returned (.bool (decide (spareV P lc C op false L < 0))) ∧ Below w.heap.size w w' := by
  have HG := Lib.hid (spare_w pa ca sa lp cp lc cc m sc P C op false L w HB hl hm hL H HS)
  simp only [Bool.false_eq_true, if_false] at HG
  simp only [opC] at HG
  obtain ⟨x0, x1, x2, x3, x4, x5, x6, x7, x8, x9, x10, x11, _⟩ := HO.out
  obtain ⟨v, hv⟩ : ∃ v, spareV P lc C op false L = v := ⟨_, rfl⟩
  rw [hv] at HG ⊢
  clear hv
  by_cases h : v < 0
  · have hd : decide (v < 0) = true := decide_eq_true h
    rw [hd]
    clear hd
    go_enter Tryz.func116, Tryz.ntmps116
    go_wp2_with (go_at_call 74; refine HG.out.mono ?_; rintro r w2 ⟨rfl, hb⟩)
    go_ret
    exact ⟨by first | rfl | simp [h], hb⟩
  · have hd : decide (v < 0) = false := decide_eq_false h
    rw [hd]
    clear hd
    go_enter Tryz.func116, Tryz.ntmps116
    go_wp2_with (go_at_call 74; refine HG.out.mono ?_; rintro r w2 ⟨rfl, hb⟩)
    go_ret
    exact ⟨by first | rfl | simp [h], hb⟩

set_option maxRecDepth 100000 in
set_option maxHeartbeats 2000000 in
theorem cut_bad (pa ca sa : Option Addr) (lp cp lc cc m sc : Nat) (P : Nat → P8) (C : Nat → C8) (s : Nat → Int) (w : World) (hlp : lp ≤ 1000000) (hlc : lc ≤ 1000000) (hm : m ≤ 1000000) (H : Hid (Ne8 w pa ca lp lc P C)) (HO : Hid (IntSl w sa m s)) (hq : fedQ lp P lc C s m = false) :
    Calls Tryz.prog 24 #[.agg #[.slice pa lp cp, .slice ca lc cc], .slice sa m sc] w fun e w' => e = .returned (.tuple #[.slice none 0 0, .int .i64 2]) ∧ Below w.heap.size w w' := by
  obtain ⟨W0, hW0⟩ : ∃ W0, W0 = w.alloc (.cells #[.slice pa lp cp, .slice ca lc cc] 25) := ⟨_, rfl⟩
  have hA : Below w.heap.size w W0 := by rw [hW0]; exact (Below.refl _ _).alloc (Nat.le_refl _) _
  have HF : Hid (∀ w2, Below W0.heap.size W0 w2 → w2.cell? ⟨w.heap.size, 0, none⟩ = some (.slice pa lp cp) ∧ w2.cell? ⟨w.heap.size, 1, none⟩ = some (.slice ca lc cc)) := Lib.hid fun w2 h => by
    rw [hW0] at h
    exact ⟨(box_cells h).1, (box_cells h).2.1⟩
  have HN : Hid (∀ w2, Below W0.heap.size W0 w2 → Hid (Ne8 w2 pa ca lp lc P C)) := Lib.hid fun w2 h => Lib.hid (H.out.below (hA.trans (h.mono hA.size)))
  have HOS : Hid (∀ w2, Below W0.heap.size W0 w2 → Hid (IntSl w2 sa m s)) := Lib.hid fun w2 h => Lib.hid (HO.out.below (hA.trans (h.mono hA.size)))
  have H1 : Hid (Calls Tryz.prog 56 #[.agg #[.slice pa lp cp, .slice ca lc cc]] W0 fun e w' => e = .returned (.bool (netV lp P lc C)) ∧ Below W0.heap.size W0 w') := Lib.hid (isNet_w pa ca lp cp lc cc P C W0 hlp hlc (HN.out _ (Below.refl _ _)))
  have H2 : Hid (∀ w2, Below W0.heap.size W0 w2 → Calls Tryz.prog 57 #[.agg #[.slice pa lp cp, .slice ca lc cc], .slice sa m sc] w2 fun e w' => e = .returned (.bool (gatsB lc C s m)) ∧ Below w2.heap.size w2 w') := Lib.hid fun w2 h => areGates_w pa ca sa lp cp lc cc m sc P C s w2 hlc hm (HN.out _ h) (HOS.out _ h)
  have HA := Lib.hid hA
  obtain ⟨f0, f1⟩ := HF.out _ (Below.refl _ _)
  rw [hW0] at f0 f1
  unfold fedQ at hq
  obtain ⟨q1, hq1⟩ : ∃ q, netV lp P lc C = q := ⟨_, rfl⟩
  obtain ⟨q2, hq2⟩ : ∃ q, gatsB lc C s m = q := ⟨_, rfl⟩
  rw [hq1] at H1 hq
  rw [hq2] at H2 hq
  clear hA H HO hq1 hq2
  cases q1 with
  | false =>
    clear hq
    go_enter Tryz.func24, Tryz.ntmps24
    go_wp2_with (go_at_call 56; rw [← hW0]; refine H1.out.mono ?_; rintro e w5 ⟨rfl, hv⟩)
    exact bodyPost_ret (v := .tuple #[.slice none 0 0, .int .i64 2]) (by simp [results, Tryz.results24, go_sem]) rfl ⟨rfl, HA.out.trans (hv.mono HA.out.size)⟩
  | true =>
    obtain rfl : q2 = false := by simpa using hq
    clear hq
    go_enter Tryz.func24, Tryz.ntmps24
    go_wp2_with (first
      | (go_at_call 56; rw [← hW0]; refine H1.out.mono ?_; rintro e w5 ⟨rfl, hv⟩; clear hW0 f0 f1; have HV5 := Lib.hid hv; obtain ⟨g0, g1⟩ := HF.out _ hv; clear hv)
      | (go_at_call 57; refine (H2.out _ HV5.out).mono ?_; rintro e w6 ⟨rfl, hv⟩; have HV6 := Lib.hid (HV5.out.trans (hv.mono HV5.out.size)); clear hv))
    exact bodyPost_ret (v := .tuple #[.slice none 0 0, .int .i64 2]) (by simp [results, Tryz.results24, go_sem]) rfl ⟨rfl, HA.out.trans (HV6.out.mono HA.out.size)⟩
end Go.Kn

namespace Go.Kn
open Go Go.Proofs Go.RowKit

set_option maxRecDepth 100000 in
theorem those_w (na : Option Addr) (n cn : Nat) (cap : Value) (w : World) :
    Calls Tryz.prog 126 #[.slice na n cn, .func (.func 116) #[] #[cap]] w fun e w' => e = .returned (.func (.func 148) #[] #[.pointer (some ⟨w.heap.size, 0, none⟩), .pointer (some ⟨w.heap.size + 1, 0, none⟩)]) ∧ w' = (w.alloc (.cells #[.slice na n cn] 26)).alloc (.cells #[.func (.func 116) #[] #[cap]] 83) := by
  have hmf : ∀ (fn : Fn) (first cap : Array Value) (w : World), (Instr.makeFunc fn first cap).run Tryz.prog w = .ok (.func fn first cap) w := fun _ _ _ _ => rfl
  go_enter Tryz.func126, Tryz.ntmps126
  go_wp2
  go_ret
  first | exact ⟨rfl, rfl⟩ | simp

set_option maxRecDepth 100000 in
set_option maxHeartbeats 1000000 in
/-- the first of the shortest lists that are right -/
theorem shortC_w (R : List Nat → Bool) (n cn : Nat) (cap : Value) (na : Option Addr) (N : List Nat) (w : World) (hnum : Hid (NumK w (fun _ => False) na n N)) (hnl : N.length = n) (hn20 : n ≤ 20)
    (hRi : Hid (∀ x W1, AtL W1 w.heap.size x → x.c.Sublist N → KpR (fun _ => False) w W1 → Calls Tryz.prog 116 #[x.v, cap] W1 fun r w' => r = .returned (.bool (R x.c)) ∧ Below W1.heap.size W1 w')) :
    Calls Tryz.prog 78 #[.slice na n cn, .func (.func 116) #[] #[cap]] w fun e W' => (∃ v, e = .returned (.tuple #[v, .bool (bestF R (allLs N)).isSome]) ∧ CutAt W' v (bestF R (allLs N))) ∧ Below w.heap.size w W' := by
  have HT := Lib.hid (those_w na n cn cap w)
  obtain ⟨W0, hW0⟩ : ∃ W0, W0 = (w.alloc (.cells #[.slice na n cn] 26)).alloc (.cells #[.func (.func 116) #[] #[cap]] 83) := ⟨_, rfl⟩
  have hA : Below w.heap.size w W0 := by rw [hW0]; exact ((Below.refl _ _).alloc (Nat.le_refl _) _).alloc (by simp) _
  have hz : W0.heap.size = w.heap.size + 1 + 1 := by rw [hW0]; simp
  have c0 : W0.cell? ⟨w.heap.size, 0, none⟩ = some (.slice na n cn) := by rw [hW0]; exact (World.cell?_alloc_lt _ _ _ (by simp)).trans (al_top rfl _ _)
  have c1 : W0.cell? ⟨w.heap.size + 1, 0, none⟩ = some (.func (.func 116) #[] #[cap]) := by rw [hW0]; exact al_top (by simp) _ _
  have HB := Lib.hid (best_w R n cn w.heap.size (w.heap.size + 1) cap na N W0 (by omega) (by omega) c0 c1 (Lib.hid (by
    rcases hnum.out with h | ⟨A, O, ha, hA', hk, hN⟩
    · exact .inl h
    · exact .inr ⟨A, O, ha, by omega, hk, hN.below hA' hA⟩)) hnl hn20 (Lib.hid fun x W1 hx hs hk => hRi.out x W1 (hx.low (by omega)) hs ⟨by have := hk.1; omega, fun k h hf => (hk.2 k (by omega) hf).trans (hA.block k h)⟩))
  rw [← hW0] at HT
  have HA := Lib.hid hA
  clear hW0 hA hz c0 c1
  go_enter Tryz.func78, Tryz.ntmps78
  go_wp2_with (first
    | (go_at_call 126; refine HT.out.mono ?_; rintro e w5 ⟨rfl, rfl⟩)
    | (go_at_call 125; refine HB.out.mono ?_; rintro e w6 ⟨⟨v, rfl, hc⟩, hv⟩; have HC := Lib.hid hc; have HV := Lib.hid hv; clear hc hv))
  exact bodyPost_ret (v := .tuple #[v, .bool (bestF R (allLs N)).isSome]) (by simp [results, Tryz.results78, go_sem]) rfl ⟨⟨v, rfl, HC.out⟩, HA.out.trans (HV.out.mono HA.out.size)⟩
end Go.Kn

namespace Go.Kn
open Go Go.Proofs Go.RowKit

set_option maxRecDepth 100000 in
set_option maxHeartbeats 4000000 in
/-- the first cut -/
theorem firstCut_w (pa ca : Option Addr) (lp cp lc cc : Nat) (P : Nat → P8) (C : Nat → C8) (op : Nat → Bool) (w : World) (HB : Hid (NetB lp P lc C)) (H : Hid (Ne8 w pa ca lp lc P C)) :
    Calls Tryz.prog 66 #[.agg (opC pa ca lp cp lc cc op)] w fun e W' => (∃ v, e = .returned (.tuple #[v, .bool (cutL lp P lc C op false).isSome]) ∧ CutAt W' v (cutL lp P lc C op false)) ∧ Below w.heap.size w W' := by
  have hl7 := HB.out.l7
  have hmf : ∀ (fn : Fn) (first cap : Array Value) (w : World), (Instr.makeFunc fn first cap).run Tryz.prog w = .ok (.func fn first cap) w := fun _ _ _ _ => rfl
  obtain ⟨W0, hW0⟩ : ∃ W0, W0 = w.alloc (.cells (opC pa ca lp cp lc cc op) 81) := ⟨_, rfl⟩
  have hA : Below w.heap.size w W0 := by rw [hW0]; exact (Below.refl _ _).alloc (Nat.le_refl _) _
  have BX : Hid (∀ w2, Below W0.heap.size W0 w2 → B12 w2 w.heap.size pa ca lp cp lc cc op) := Lib.hid fun w2 h => (show B12 W0 w.heap.size pa ca lp cp lc cc op by rw [hW0]; exact B12.new _ _ _ _ _ _ _ _).below h
  have HN : Hid (∀ w2, Below W0.heap.size W0 w2 → Ne8 w2 pa ca lp lc P C) := Lib.hid fun w2 h => H.out.below (hA.trans (h.mono hA.size))
  have HA := Lib.hid hA
  have HPT := Lib.hid (points_w pa ca lp cp lc cc op W0 (by omega))
  have HSC : Hid (∀ (sa : Option Addr) (sc : Nat) w2, Below W0.heap.size W0 w2 → IntSl w2 sa lp (lgI (List.range lp)) → Calls Tryz.prog 78 #[.slice sa lp sc, .func (.func 116) #[] #[.pointer (some ⟨w.heap.size, 0, none⟩)]] w2 fun e W' => (∃ v, e = .returned (.tuple #[v, .bool (cutL lp P lc C op false).isSome]) ∧ CutAt W' v (cutL lp P lc C op false)) ∧ Below w2.heap.size w2 W') :=
    Lib.hid fun sa sc w2 h hs => by
      have h1 := shortC_w (fun L => decide (spareV P lc C op false L < 0)) lp sc (.pointer (some ⟨w.heap.size, 0, none⟩)) sa (List.range lp) w2 (Lib.hid (by
        rcases hs with h | ⟨A, O, ha, hA, hN⟩
        · exact .inl h
        · exact .inr ⟨A, O, ha, hA, fun h => h, hN⟩)) (by simp) (by omega) (Lib.hid fun x W1 hx hsub hk => by
          have hle := hsub.length_le
          simp only [List.length_range] at hle
          exact s116_w pa ca x.a lp cp lc cc x.c.length x.cap w.heap.size P C op x.c W1 HB rfl (by omega) (Lib.hid fun y hy => List.mem_range.1 (hsub.subset hy)) (Lib.hid ((HN.out w2 h).blocks hk)) (Lib.hid ((BX.out w2 h).blocks hk)) (Lib.hid hx.1))
      rw [cutL_best] at h1
      exact h1
  obtain ⟨cu, hcu⟩ : ∃ cu, cutL lp P lc C op false = cu := ⟨_, rfl⟩
  rw [hcu] at HSC ⊢
  simp only [opC] at HPT hW0 ⊢
  clear hA H hcu BX HN
  go_enter Tryz.func66, Tryz.ntmps66
  go_wp2_with (first
    | (go_at_call 72; rw [← hW0]; refine HPT.out.mono ?_; rintro r w5 ⟨⟨v5, rfl, ho5⟩, hv5⟩; obtain ⟨sa, sc, rfl, hsl, hge⟩ := dayNew ho5; have HSL := Lib.hid (HSC.out sa sc w5 hv5 hsl); have HV5 := Lib.hid hv5; clear hsl hge ho5 hv5 hW0)
    | (go_at_call 78; refine HSL.out.mono ?_; rintro r w6 ⟨⟨v, rfl, hc⟩, hv⟩; have HC6 := Lib.hid hc; have HV6 := Lib.hid (HV5.out.trans (hv.mono HV5.out.size)); clear hc hv))
  exact bodyPost_ret (v := .tuple #[v, .bool cu.isSome]) (by simp [results, Tryz.results66, go_sem]) rfl ⟨⟨v, rfl, HC6.out⟩, HA.out.trans (HV6.out.mono HA.out.size)⟩
end Go.Kn

namespace Go.Kn
open Go Go.Proofs Go.RowKit

set_option maxRecDepth 100000 in
set_option maxHeartbeats 4000000 in
/-- gate.Cut where all is as defined -/
theorem cut_ok (pa ca sa : Option Addr) (lp cp lc cc m sc : Nat) (P : Nat → P8) (C : Nat → C8) (s : Nat → Int) (w : World) (HP : NetP lp P lc C) (HG : gatsB lc C s m = true) (hm : m ≤ 1000000) (H : Hid (Ne8 w pa ca lp lc P C)) (HO : Hid (IntSl w sa m s)) :
    Calls Tryz.prog 24 #[.agg #[.slice pa lp cp, .slice ca lc cc], .slice sa m sc] w fun e w' => (∃ v, e = .returned (.tuple #[v, .int .i64 (if (cutL lp P lc C (opnF s m) false).isSome then 0 else 5)]) ∧ CutAt w' v (cutL lp P lc C (opnF s m) false)) ∧ Below w.heap.size w w' := by
  have hl7 := HP.l7
  have hc10 := HP.c10
  obtain ⟨W0, hW0⟩ : ∃ W0, W0 = w.alloc (.cells #[.slice pa lp cp, .slice ca lc cc] 25) := ⟨_, rfl⟩
  have hA : Below w.heap.size w W0 := by rw [hW0]; exact (Below.refl _ _).alloc (Nat.le_refl _) _
  have HF : Hid (∀ w2, Below W0.heap.size W0 w2 → w2.cell? ⟨w.heap.size, 0, none⟩ = some (.slice pa lp cp) ∧ w2.cell? ⟨w.heap.size, 1, none⟩ = some (.slice ca lc cc)) := Lib.hid fun w2 h => by
    rw [hW0] at h
    exact ⟨(box_cells h).1, (box_cells h).2.1⟩
  have HN : Hid (∀ w2, Below W0.heap.size W0 w2 → Hid (Ne8 w2 pa ca lp lc P C)) := Lib.hid fun w2 h => Lib.hid (H.out.below (hA.trans (h.mono hA.size)))
  have HOS : Hid (∀ w2, Below W0.heap.size W0 w2 → Hid (IntSl w2 sa m s)) := Lib.hid fun w2 h => Lib.hid (HO.out.below (hA.trans (h.mono hA.size)))
  have H1 : Hid (Calls Tryz.prog 56 #[.agg #[.slice pa lp cp, .slice ca lc cc]] W0 fun e w' => e = .returned (.bool true) ∧ Below W0.heap.size W0 w') := Lib.hid (by
    have h1 := isNet_w pa ca lp cp lc cc P C W0 (by omega) (by omega) (HN.out _ (Below.refl _ _))
    rw [netV_iff.2 HP] at h1; exact h1)
  have H2 : Hid (∀ w2, Below W0.heap.size W0 w2 → Calls Tryz.prog 57 #[.agg #[.slice pa lp cp, .slice ca lc cc], .slice sa m sc] w2 fun e w' => e = .returned (.bool true) ∧ Below w2.heap.size w2 w') := Lib.hid fun w2 h => by
    have h1 := areGates_w pa ca sa lp cp lc cc m sc P C s w2 (by omega) hm (HN.out _ h) (HOS.out _ h)
    rw [HG] at h1; exact h1
  have HOB : Hid (∀ i, i < m → 0 ≤ s i ∧ s i < 10) := Lib.hid fun i hi => by have := gatsB_inc HG i hi; omega
  have H4 : Hid (∀ w2, Below W0.heap.size W0 w2 → Calls Tryz.prog 59 #[.agg #[.slice pa lp cp, .slice ca lc cc], .slice sa m sc] w2 fun e w' => e = .returned (.agg (opC pa ca lp cp lc cc (opnF s m))) ∧ Below w2.heap.size w2 w') := Lib.hid fun w2 h => withOpen_w pa ca sa lp cp lc cc m sc s w2 hm HOB (HOS.out _ h)
  have H5 : Hid (∀ w2, Below W0.heap.size W0 w2 → Calls Tryz.prog 66 #[.agg (opC pa ca lp cp lc cc (opnF s m))] w2 fun e w' => (∃ v, e = .returned (.tuple #[v, .bool (cutL lp P lc C (opnF s m) false).isSome]) ∧ CutAt w' v (cutL lp P lc C (opnF s m) false)) ∧ Below w2.heap.size w2 w') := Lib.hid fun w2 h => firstCut_w pa ca lp cp lc cc P C (opnF s m) w2 (Lib.hid HP.b) (HN.out _ h)
  have HA := Lib.hid hA
  obtain ⟨f0, f1⟩ := HF.out _ (Below.refl _ _)
  rw [hW0] at f0 f1
  obtain ⟨op, hop⟩ : ∃ op, opnF s m = op := ⟨_, rfl⟩
  rw [hop] at H4 H5 ⊢
  obtain ⟨cu, hcu⟩ : ∃ cu, cutL lp P lc C op false = cu := ⟨_, rfl⟩
  rw [hcu] at H5 ⊢
  simp only [opC] at H4 H5
  clear hA H HO hop hcu HG HP
  have HOR : Hid (∀ v w, Calls Tryz.prog 65 #[v, .bool cu.isSome] w fun e w' => e = .returned (.tuple #[if cu.isSome then v else .slice none 0 0, .int .i64 (if cu.isSome then 0 else 5)]) ∧ w' = w) := Lib.hid fun v w => orNone_w v cu.isSome w
  cases cu with
  | none =>
    simp only [Option.isSome_none, Bool.false_eq_true, if_false] at H5 HOR ⊢
    go_enter Tryz.func24, Tryz.ntmps24
    go_wp2_with (first
      | (go_at_call 56; rw [← hW0]; refine H1.out.mono ?_; rintro e w5 ⟨rfl, hv⟩; clear hW0 f0 f1; have HV5 := Lib.hid hv; obtain ⟨g0, g1⟩ := HF.out _ hv; clear hv)
      | (go_at_call 57; refine (H2.out _ HV5.out).mono ?_; rintro e w6 ⟨rfl, hv⟩; have HV6 := Lib.hid (HV5.out.trans (hv.mono HV5.out.size)); clear hv g0 g1; obtain ⟨g0, g1⟩ := HF.out _ HV6.out)
      | (go_at_call 59; refine (H4.out _ HV6.out).mono ?_; rintro e w8 ⟨rfl, hv⟩; have HV8 := Lib.hid (HV6.out.trans (hv.mono HV6.out.size)); clear hv g0 g1)
      | (go_at_call 66; refine (H5.out _ HV8.out).mono ?_; rintro e w9 ⟨⟨v, rfl, hc⟩, hv⟩; have HC9 := Lib.hid hc; have HV9 := Lib.hid (HV8.out.trans (hv.mono HV8.out.size)); clear hc hv)
      | (go_at_call 65; refine (HOR.out v w9).mono ?_; rintro e w10 ⟨rfl, rfl⟩))
    exact bodyPost_ret (v := .tuple #[.slice none 0 0, .int .i64 5]) (by simp [results, Tryz.results24, go_sem]) rfl ⟨⟨_, rfl, rfl⟩, HA.out.trans (HV9.out.mono HA.out.size)⟩
  | some L =>
    simp only [Option.isSome_some, if_true] at H5 HOR ⊢
    go_enter Tryz.func24, Tryz.ntmps24
    go_wp2_with (first
      | (go_at_call 56; rw [← hW0]; refine H1.out.mono ?_; rintro e w5 ⟨rfl, hv⟩; clear hW0 f0 f1; have HV5 := Lib.hid hv; obtain ⟨g0, g1⟩ := HF.out _ hv; clear hv)
      | (go_at_call 57; refine (H2.out _ HV5.out).mono ?_; rintro e w6 ⟨rfl, hv⟩; have HV6 := Lib.hid (HV5.out.trans (hv.mono HV5.out.size)); clear hv g0 g1; obtain ⟨g0, g1⟩ := HF.out _ HV6.out)
      | (go_at_call 59; refine (H4.out _ HV6.out).mono ?_; rintro e w8 ⟨rfl, hv⟩; have HV8 := Lib.hid (HV6.out.trans (hv.mono HV6.out.size)); clear hv g0 g1)
      | (go_at_call 66; refine (H5.out _ HV8.out).mono ?_; rintro e w9 ⟨⟨v, rfl, hc⟩, hv⟩; have HC9 := Lib.hid hc; have HV9 := Lib.hid (HV8.out.trans (hv.mono HV8.out.size)); clear hc hv)
      | (go_at_call 65; refine (HOR.out v w9).mono ?_; rintro e w10 ⟨rfl, rfl⟩))
    exact bodyPost_ret (v := .tuple #[v, .int .i64 0]) (by simp [results, Tryz.results24, go_sem]) rfl ⟨⟨_, rfl, HC9.out⟩, HA.out.trans (HV9.out.mono HA.out.size)⟩
end Go.Kn
