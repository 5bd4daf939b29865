/- Contracts of functions that the laws of this seat call, or the evaluator of closed calls and its runs. Conditions: as each theorem states them. -/
import Derived.Test.YtddlghdglknloaaGreatDoorQ3
import Derived.Test.YtddlghdglknloaaGreatDoorP2
import Derived.Test.YtddlghdglknloaaGreatDoorM5G
import Derived.Test.YtddlghdglknloaaGreatDoorQ2
set_option linter.unusedVariables false
set_option linter.unusedSimpArgs false
namespace Go.Kn
open Go Go.Proofs Go.RowKit

/-- the shortest positions with which a network is surely fed -/
def fewL (lp : Nat) (P : Nat → P8) (lc : Nat) (C : Nat → C8) : Option (List Nat) := bestF (fun L => fedV lp P lc C (opnF (lgI L) L.length) false) (allLs (gatL C lc))
/-- whether gates that are moved empty channels -/
def movB (lp : Nat) (P : Nat → P8) (lc : Nat) (C : Nat → C8) (s : Nat → Int) (m : Nat) (t : Nat → Int) (n : Nat) (L : List Nat) : Bool := clsB (togF (opnF s m) (lgI L) L.length) t n && fedV lp P lc C (togF (opnF s m) (lgI L) L.length) false
/-- the fewest moves -/
def movM (lp : Nat) (P : Nat → P8) (lc : Nat) (C : Nat → C8) (s : Nat → Int) (m : Nat) (t : Nat → Int) (n : Nat) : Option (List Nat) := bestF (movB lp P lc C s m t n) (allLs (gatL C lc))
theorem own_any2 {w : World} {base n : Nat} {v : Value} {l : List Nat} (h : w.ownsRow base 3 1 v n (l.map iv1)) : ∃ sa cap, v = .slice sa n cap ∧ True ∧ IntSl w sa n (lgI l) := by
  obtain ⟨sa, cap, h1, _, h2⟩ := own_any h
  exact ⟨sa, cap, h1, trivial, h2⟩
theorem sub_lt {C : Nat → C8} {lc : Nat} {L : List Nat} (h : L.Sublist (gatL C lc)) : ∀ y ∈ L, y < lc := fun y hy => (gatL_mem.1 (h.subset hy)).1
theorem KpR.cell {w W1 : World} (k : KpR (fun _ => False) w W1) {b o : Nat} (hb : b < w.heap.size) : W1.cell? ⟨b, o, none⟩ = w.cell? ⟨b, o, none⟩ := World.cell?_of_block (w := w) (k.2 b hb (fun x => x))
end Go.Kn

namespace Go.Kn
open Go Go.Proofs Go.RowKit

set_option maxRecDepth 100000 in
set_option maxHeartbeats 4000000 in
/-- Moves where something is not as defined -/
theorem moves_bad (pa ca sa ta : Option Addr) (lp cp lc cc m sc n tc : Nat) (P : Nat → P8) (C : Nat → C8) (s t : Nat → Int) (w : World) (hlp : lp ≤ 1000000) (hlc : lc ≤ 1000000) (hm : m ≤ 1000000) (hn : n ≤ 1000000) (H : Hid (Ne8 w pa ca lp lc P C)) (HO : Hid (IntSl w sa m s)) (HT : Hid (IntSl w ta n t)) (hq : (netV lp P lc C && (gatsB lc C s m && gatsB lc C t n)) = false) :
    Calls Tryz.prog 38 #[.agg #[.slice pa lp cp, .slice ca lc cc], .slice sa m sc, .slice ta n tc] w fun e w' => e = .returned (.tuple #[.slice none 0 0, .int .i64 2]) ∧ Below w.heap.size w w' := by
  obtain ⟨W1, hW1⟩ : ∃ W1, W1 = w.alloc (.cells #[.slice pa lp cp, .slice ca lc cc] 25) := ⟨_, rfl⟩
  have hb1 : Below w.heap.size w W1 := by rw [hW1]; exact (Below.refl _ _).alloc (Nat.le_refl _) _
  have hz1 : W1.heap.size = w.heap.size + 1 := by rw [hW1]; simp
  obtain ⟨W0, hW0⟩ : ∃ W0, W0 = W1.alloc (.cells #[.slice ta n tc] 26) := ⟨_, rfl⟩
  have hA : Below w.heap.size w W0 := by rw [hW0]; exact hb1.alloc hb1.size _
  have hz0 : W0.heap.size = w.heap.size + 2 := by rw [hW0]; simp [hz1]
  have HF : Hid (∀ w2, Below W0.heap.size W0 w2 → w2.cell? ⟨w.heap.size, 0, none⟩ = some (.slice pa lp cp) ∧ w2.cell? ⟨w.heap.size, 1, none⟩ = some (.slice ca lc cc) ∧ w2.cell? ⟨w.heap.size + 1, 0, none⟩ = some (.slice ta n tc)) := Lib.hid fun w2 h => by
    have h1 : Below W1.heap.size W1 w2 := by rw [hW0] at h; exact below_al h
    have c2 : W0.cell? ⟨w.heap.size + 1, 0, none⟩ = some (.slice ta n tc) := by rw [hW0, ← hz1]; exact al_top rfl _ _
    rw [hW1] at h1
    exact ⟨(box_cells h1).1, (box_cells h1).2.1, ((bcell h).1 _ _ (by omega)).trans c2⟩
  have HN : Hid (∀ w2, Below W0.heap.size W0 w2 → Hid (Ne8 w2 pa ca lp lc P C)) := Lib.hid fun w2 h => Lib.hid (H.out.below (hA.trans (h.mono hA.size)))
  have HOS : Hid (∀ w2, Below W0.heap.size W0 w2 → Hid (IntSl w2 sa m s)) := Lib.hid fun w2 h => Lib.hid (HO.out.below (hA.trans (h.mono hA.size)))
  have HTS : Hid (∀ w2, Below W0.heap.size W0 w2 → Hid (IntSl w2 ta n t)) := Lib.hid fun w2 h => Lib.hid (HT.out.below (hA.trans (h.mono hA.size)))
  have H1 : Hid (∀ w2, Below W0.heap.size W0 w2 → Calls Tryz.prog 56 #[.agg #[.slice pa lp cp, .slice ca lc cc]] w2 fun e w' => e = .returned (.bool (netV lp P lc C)) ∧ Below w2.heap.size w2 w') := Lib.hid fun w2 h => isNet_w pa ca lp cp lc cc P C w2 (by omega) (by omega) (HN.out _ h)
  have H2 : Hid (∀ w2, Below W0.heap.size W0 w2 → Calls Tryz.prog 57 #[.agg #[.slice pa lp cp, .slice ca lc cc], .slice sa m sc] w2 fun e w' => e = .returned (.bool (gatsB lc C s m)) ∧ Below w2.heap.size w2 w') := Lib.hid fun w2 h => areGates_w pa ca sa lp cp lc cc m sc P C s w2 (by omega) (by omega) (HN.out _ h) (HOS.out _ h)
  have H3 : Hid (∀ w2, Below W0.heap.size W0 w2 → Calls Tryz.prog 57 #[.agg #[.slice pa lp cp, .slice ca lc cc], .slice ta n tc] w2 fun e w' => e = .returned (.bool (gatsB lc C t n)) ∧ Below w2.heap.size w2 w') := Lib.hid fun w2 h => areGates_w pa ca ta lp cp lc cc n tc P C t w2 (by omega) (by omega) (HN.out _ h) (HTS.out _ h)
  have HA := Lib.hid hA
  have HZ := Lib.hid hz0
  obtain ⟨g0, g1, g2⟩ := HF.out _ (Below.refl _ _)
  rw [hW0, hW1] at g0 g1
  have g3 : W1.alloc (.cells #[.slice ta n tc] 26) = W0 := hW0.symm
  have M1 := Lib.hid True.intro
  obtain ⟨q1, hq1⟩ : ∃ q, netV lp P lc C = q := ⟨_, rfl⟩
  obtain ⟨q2, hq2⟩ : ∃ q, gatsB lc C s m = q := ⟨_, rfl⟩
  obtain ⟨q3, hq3⟩ : ∃ q, gatsB lc C t n = q := ⟨_, rfl⟩
  rw [hq1] at H1 hq
  rw [hq2] at H2 hq
  rw [hq3] at H3 hq
  clear hA H HO HT hq1 hq2 hq3 hb1 hz1 hz0
  cases q1 with
  | false =>
    clear hq
    go_enter Tryz.func38, Tryz.ntmps38
    go_wp2_with (first
      | (go_at_call 56; rw [← hW1, ← hW0]; refine (H1.out _ (Below.refl _ _)).mono ?_; rintro e w5 ⟨rfl, hv⟩; clear hW0 hW1 g0 g1 g2 g3; have HV := Lib.hid hv; clear hv; obtain ⟨g0, g1, g2⟩ := HF.out _ HV.out))
    exact bodyPost_ret (v := .tuple #[.slice none 0 0, .int .i64 2]) (by simp [results, Tryz.results38, go_sem]) rfl ⟨rfl, HA.out.trans (HV.out.mono HA.out.size)⟩
  | true =>
  cases q2 with
  | false =>
    clear hq
    go_enter Tryz.func38, Tryz.ntmps38
    go_wp2_with (first
      | (go_at_call 56; rw [← hW1, ← hW0]; refine (H1.out _ (Below.refl _ _)).mono ?_; rintro e w5 ⟨rfl, hv⟩; clear hW0 hW1 g0 g1 g2 g3; have HV := Lib.hid hv; clear hv; obtain ⟨g0, g1, g2⟩ := HF.out _ HV.out)
      | (go_at_call 57; refine (H2.out _ HV.out).mono ?_; rintro e w5 ⟨rfl, hv⟩; replace HV := Lib.hid (HV.out.trans (hv.mono HV.out.size)); clear hv g0 g1 g2; obtain ⟨g0, g1, g2⟩ := HF.out _ HV.out))
    exact bodyPost_ret (v := .tuple #[.slice none 0 0, .int .i64 2]) (by simp [results, Tryz.results38, go_sem]) rfl ⟨rfl, HA.out.trans (HV.out.mono HA.out.size)⟩
  | true =>
    obtain rfl : q3 = false := by simpa using hq
    clear hq
    go_enter Tryz.func38, Tryz.ntmps38
    go_wp2_with (first
      | (go_at_call 56; rw [← hW1, ← hW0]; refine (H1.out _ (Below.refl _ _)).mono ?_; rintro e w5 ⟨rfl, hv⟩; clear hW0 hW1 g0 g1 g2 g3; have HV := Lib.hid hv; clear hv; obtain ⟨g0, g1, g2⟩ := HF.out _ HV.out)
      | (go_at_call 57; have hB := M1.out; clear hB M1; refine (H2.out _ HV.out).mono ?_; rintro e w5 ⟨rfl, hv⟩; replace HV := Lib.hid (HV.out.trans (hv.mono HV.out.size)); clear hv g0 g1 g2; obtain ⟨g0, g1, g2⟩ := HF.out _ HV.out)
      | (go_at_call 57; refine (H3.out _ HV.out).mono ?_; rintro e w5 ⟨rfl, hv⟩; replace HV := Lib.hid (HV.out.trans (hv.mono HV.out.size)); clear hv g0 g1 g2; obtain ⟨g0, g1, g2⟩ := HF.out _ HV.out))
    exact bodyPost_ret (v := .tuple #[.slice none 0 0, .int .i64 2]) (by simp [results, Tryz.results38, go_sem]) rfl ⟨rfl, HA.out.trans (HV.out.mono HA.out.size)⟩

set_option maxRecDepth 100000 in
set_option maxHeartbeats 4000000 in
/-- Moves where all is as defined -/
theorem moves_ok (pa ca sa ta : Option Addr) (lp cp lc cc m sc n tc : Nat) (P : Nat → P8) (C : Nat → C8) (s t : Nat → Int) (w : World) (HP : NetP lp P lc C) (HG : gatsB lc C s m = true) (HG2 : gatsB lc C t n = true) (hm : m ≤ 1000000) (hn : n ≤ 1000000) (H : Hid (Ne8 w pa ca lp lc P C)) (HO : Hid (IntSl w sa m s)) (HT : Hid (IntSl w ta n t)) :
    Calls Tryz.prog 38 #[.agg #[.slice pa lp cp, .slice ca lc cc], .slice sa m sc, .slice ta n tc] w fun e w' => (∃ v, e = .returned (.tuple #[v, .int .i64 (if (movM lp P lc C s m t n).isSome then 0 else 5)]) ∧ CutAt w' v (movM lp P lc C s m t n)) ∧ Below w.heap.size w w' := by
  have hl7 := HP.l7
  have hc10 := HP.c10
  have hmf : ∀ (fn : Fn) (first cap : Array Value) (w : World), (Instr.makeFunc fn first cap).run Tryz.prog w = .ok (.func fn first cap) w := fun _ _ _ _ => rfl
  obtain ⟨W1, hW1⟩ : ∃ W1, W1 = w.alloc (.cells #[.slice pa lp cp, .slice ca lc cc] 25) := ⟨_, rfl⟩
  have hb1 : Below w.heap.size w W1 := by rw [hW1]; exact (Below.refl _ _).alloc (Nat.le_refl _) _
  have hz1 : W1.heap.size = w.heap.size + 1 := by rw [hW1]; simp
  obtain ⟨W0, hW0⟩ : ∃ W0, W0 = W1.alloc (.cells #[.slice ta n tc] 26) := ⟨_, rfl⟩
  have hA : Below w.heap.size w W0 := by rw [hW0]; exact hb1.alloc hb1.size _
  have hz0 : W0.heap.size = w.heap.size + 2 := by rw [hW0]; simp [hz1]
  have HF : Hid (∀ w2, Below W0.heap.size W0 w2 → w2.cell? ⟨w.heap.size, 0, none⟩ = some (.slice pa lp cp) ∧ w2.cell? ⟨w.heap.size, 1, none⟩ = some (.slice ca lc cc) ∧ w2.cell? ⟨w.heap.size + 1, 0, none⟩ = some (.slice ta n tc)) := Lib.hid fun w2 h => by
    have h1 : Below W1.heap.size W1 w2 := by rw [hW0] at h; exact below_al h
    have c2 : W0.cell? ⟨w.heap.size + 1, 0, none⟩ = some (.slice ta n tc) := by rw [hW0, ← hz1]; exact al_top rfl _ _
    rw [hW1] at h1
    exact ⟨(box_cells h1).1, (box_cells h1).2.1, ((bcell h).1 _ _ (by omega)).trans c2⟩
  have HN : Hid (∀ w2, Below W0.heap.size W0 w2 → Hid (Ne8 w2 pa ca lp lc P C)) := Lib.hid fun w2 h => Lib.hid (H.out.below (hA.trans (h.mono hA.size)))
  have HOS : Hid (∀ w2, Below W0.heap.size W0 w2 → Hid (IntSl w2 sa m s)) := Lib.hid fun w2 h => Lib.hid (HO.out.below (hA.trans (h.mono hA.size)))
  have HTS : Hid (∀ w2, Below W0.heap.size W0 w2 → Hid (IntSl w2 ta n t)) := Lib.hid fun w2 h => Lib.hid (HT.out.below (hA.trans (h.mono hA.size)))
  have H1 : Hid (∀ w2, Below W0.heap.size W0 w2 → Calls Tryz.prog 56 #[.agg #[.slice pa lp cp, .slice ca lc cc]] w2 fun e w' => e = .returned (.bool (netV lp P lc C)) ∧ Below w2.heap.size w2 w') := Lib.hid fun w2 h => isNet_w pa ca lp cp lc cc P C w2 (by omega) (by omega) (HN.out _ h)
  have H2 : Hid (∀ w2, Below W0.heap.size W0 w2 → Calls Tryz.prog 57 #[.agg #[.slice pa lp cp, .slice ca lc cc], .slice sa m sc] w2 fun e w' => e = .returned (.bool (gatsB lc C s m)) ∧ Below w2.heap.size w2 w') := Lib.hid fun w2 h => areGates_w pa ca sa lp cp lc cc m sc P C s w2 (by omega) (by omega) (HN.out _ h) (HOS.out _ h)
  have H3 : Hid (∀ w2, Below W0.heap.size W0 w2 → Calls Tryz.prog 57 #[.agg #[.slice pa lp cp, .slice ca lc cc], .slice ta n tc] w2 fun e w' => e = .returned (.bool (gatsB lc C t n)) ∧ Below w2.heap.size w2 w') := Lib.hid fun w2 h => areGates_w pa ca ta lp cp lc cc n tc P C t w2 (by omega) (by omega) (HN.out _ h) (HTS.out _ h)
  have HA := Lib.hid hA
  have HZ := Lib.hid hz0
  obtain ⟨g0, g1, g2⟩ := HF.out _ (Below.refl _ _)
  rw [hW0, hW1] at g0 g1
  have g3 : W1.alloc (.cells #[.slice ta n tc] 26) = W0 := hW0.symm
  have M1 := Lib.hid True.intro
  rw [netV_iff.2 HP] at H1
  rw [HG] at H2
  rw [HG2] at H3
  have HOB : Hid (∀ i, i < m → 0 ≤ s i ∧ s i < 10) := Lib.hid fun i hi => by have := gatsB_inc HG i hi; omega
  have HTB : Hid (∀ i, i < n → 0 ≤ t i ∧ t i < 10) := Lib.hid fun i hi => by have := gatsB_inc HG2 i hi; omega
  have H4 : Hid (∀ w2, Below W0.heap.size W0 w2 → Calls Tryz.prog 81 #[.slice sa m sc] w2 fun e w' => e = .returned (opV (opnF s m)) ∧ Below w2.heap.size w2 w') := Lib.hid fun w2 h => posOf_w sa m sc s w2 hm HOB (HOS.out _ h)
  have H5 : Hid (∀ w2, Below W0.heap.size W0 w2 → Calls Tryz.prog 79 #[.agg #[.slice pa lp cp, .slice ca lc cc]] w2 fun e w' => (∃ v, e = .returned v ∧ w'.ownsRow w2.heap.size 3 1 v (gatL C lc).length ((gatL C lc).map iv1)) ∧ Below w2.heap.size w2 w') := Lib.hid fun w2 h => gatesOf_w pa ca lp cp lc cc P C w2 (by omega) (HN.out _ h)
  have HSC : Hid (∀ (pb : Nat) (ga : Option Addr) (gc : Nat) w2, Below W0.heap.size W0 w2 → (∀ j, j < 10 → w2.cell? ⟨pb, j, none⟩ = some (.bool (opnF s m j))) → IntSl w2 ga (gatL C lc).length (lgI (gatL C lc)) → Calls Tryz.prog 78 #[.slice ga (gatL C lc).length gc, .func (.func 82) #[] #[.pointer (some ⟨w.heap.size, 0, none⟩), .pointer (some ⟨pb, 0, none⟩), .pointer (some ⟨w.heap.size + 1, 0, none⟩)]] w2 fun e W' => (∃ v, e = .returned (.tuple #[v, .bool (movM lp P lc C s m t n).isSome]) ∧ CutAt W' v (movM lp P lc C s m t n)) ∧ Below w2.heap.size w2 W') :=
    Lib.hid fun pb ga gc w2 h hp hs => shortC_w82 (movB lp P lc C s m t n) (gatL C lc).length gc (.pointer (some ⟨w.heap.size, 0, none⟩)) (.pointer (some ⟨pb, 0, none⟩)) (.pointer (some ⟨w.heap.size + 1, 0, none⟩)) ga (gatL C lc) w2 (Lib.hid (by
        rcases hs with h | ⟨A, O, ha, hA, hN⟩
        · exact .inl h
        · exact .inr ⟨A, O, ha, hA, fun h => h, hN⟩)) rfl (by have := gatL_le (C := C) lc; omega) (Lib.hid fun x W1 hx hsub hk => by
          have hle := hsub.length_le
          have hg := gatL_le (C := C) lc
          obtain ⟨c0, c1, c2⟩ := HF.out _ h
          have hsz := h.size
          have hpb : pb < w2.heap.size := cell_lt (hp 0 (by decide))
          refine s82_w pa ca x.a ta lp cp lc cc x.c.length x.cap n tc w.heap.size pb (w.heap.size + 1) P C (opnF s m) (lgI x.c) t W1 (Lib.hid HP.b) (by omega) hn (Lib.hid fun i hi => ?_) HTB (Lib.hid ((HN.out w2 h).out.blocks hk)) ((hk.cell (by omega)).trans c0) ((hk.cell (by omega)).trans c1) (Lib.hid fun j hj => (hk.cell hpb).trans (hp j hj)) ((hk.cell (by omega)).trans c2) (Lib.hid hx.1) (Lib.hid ?_)
          · rw [lgI_get hi]
            have := sub_lt hsub _ (List.getElem_mem hi)
            omega
          · rcases (HTS.out w2 h).out with h2 | ⟨A, O, e, hA, hN⟩
            · exact .inl h2
            · exact .inr ⟨A, O, e, Nat.lt_of_lt_of_le hA hk.1, fun i hi => (hk.cell hA).trans (hN i hi)⟩)
  obtain ⟨cu, hcu⟩ : ∃ cu, movM lp P lc C s m t n = cu := ⟨_, rfl⟩
  rw [hcu] at HSC ⊢
  obtain ⟨gl, hgl⟩ : ∃ l, gatL C lc = l := ⟨_, rfl⟩
  rw [hgl] at HSC H5
  obtain ⟨gn, hgn⟩ : ∃ n, gl.length = n := ⟨_, rfl⟩
  rw [hgn] at HSC H5
  obtain ⟨q, hq⟩ : ∃ q, opnF s m = q := ⟨_, rfl⟩
  rw [hq] at HSC H4
  simp only [opV] at H4
  have HBP : Hid (∀ w8 w2 : World, Below (w8.alloc (.cells #[.bool (q 0), .bool (q 1), .bool (q 2), .bool (q 3), .bool (q 4), .bool (q 5), .bool (q 6), .bool (q 7), .bool (q 8), .bool (q 9)] 79)).heap.size (w8.alloc (.cells #[.bool (q 0), .bool (q 1), .bool (q 2), .bool (q 3), .bool (q 4), .bool (q 5), .bool (q 6), .bool (q 7), .bool (q 8), .bool (q 9)] 79)) w2 → ∀ j, j < 10 → w2.cell? ⟨w8.heap.size, j, none⟩ = some (.bool (q j))) := Lib.hid fun w8 w2 h => by
    refine ten ?_ ?_ ?_ ?_ ?_ ?_ ?_ ?_ ?_ ?_
    all_goals exact ((bcell h).1 _ _ (by simp)).trans (al_get rfl rfl)
  have HOR : Hid (∀ v w, Calls Tryz.prog 65 #[v, .bool cu.isSome] w fun e w' => e = .returned (.tuple #[if cu.isSome then v else .slice none 0 0, .int .i64 (if cu.isSome then 0 else 5)]) ∧ w' = w) := Lib.hid fun v w => orNone_w v cu.isSome w
  clear hA H HO HT hcu hgl hgn hq HG HG2 HP hb1 hz1 hz0 HOB HTB
  cases cu with
  | none =>
    simp only [Option.isSome_none, Bool.false_eq_true, if_false] at HSC HOR ⊢
    go_enter Tryz.func38, Tryz.ntmps38
    go_wp2_with (first
      | (go_at_call 56; rw [← hW1, ← hW0]; refine (H1.out _ (Below.refl _ _)).mono ?_; rintro e w5 ⟨rfl, hv⟩; clear hW0 hW1 g0 g1 g2 g3; have HV := Lib.hid hv; clear hv; obtain ⟨g0, g1, g2⟩ := HF.out _ HV.out)
      | (go_at_call 57; have hB := M1.out; clear hB M1; refine (H2.out _ HV.out).mono ?_; rintro e w5 ⟨rfl, hv⟩; replace HV := Lib.hid (HV.out.trans (hv.mono HV.out.size)); clear hv g0 g1 g2; obtain ⟨g0, g1, g2⟩ := HF.out _ HV.out)
      | (go_at_call 57; refine (H3.out _ HV.out).mono ?_; rintro e w5 ⟨rfl, hv⟩; replace HV := Lib.hid (HV.out.trans (hv.mono HV.out.size)); clear hv g0 g1 g2; obtain ⟨g0, g1, g2⟩ := HF.out _ HV.out)
      | (go_at_call 81; refine (H4.out _ HV.out).mono ?_; rintro e w8 ⟨rfl, hv⟩; replace HV := Lib.hid (HV.out.trans (hv.mono HV.out.size)); clear hv g0 g1 g2; obtain ⟨g0, g1, g2⟩ := HF.out _ HV.out; have HVA := Lib.hid (HV.out.alloc HV.out.size (.cells #[.bool (q 0), .bool (q 1), .bool (q 2), .bool (q 3), .bool (q 4), .bool (q 5), .bool (q 6), .bool (q 7), .bool (q 8), .bool (q 9)] 79)); obtain ⟨k0, k1, k2⟩ := HF.out _ HVA.out)
      | (go_at_call 79; refine (H5.out _ HVA.out).mono ?_; rintro e w6 ⟨⟨v, rfl, ho⟩, hv⟩; have HV6 := Lib.hid (HVA.out.trans (hv.mono HVA.out.size)); obtain ⟨ga, gc, rfl, _, hs⟩ := own_any2 ho; have HS6 := Lib.hid (HSC.out w8.heap.size ga gc w6 HV6.out (HBP.out w8 w6 hv) hs); clear ho hv hs g0 g1 g2 k0 k1 k2)
      | (go_at_call 78; refine HS6.out.mono ?_; rintro e w7 ⟨⟨v2, rfl, hc⟩, hv⟩; have HC7 := Lib.hid hc; have HV7 := Lib.hid (HV6.out.trans (hv.mono HV6.out.size)); clear hc hv)
      | (go_at_call 65; refine (HOR.out v2 w7).mono ?_; rintro e w10 ⟨rfl, rfl⟩))
    exact bodyPost_ret (v := .tuple #[.slice none 0 0, .int .i64 5]) (by simp [results, Tryz.results38, go_sem]) rfl ⟨⟨_, rfl, rfl⟩, HA.out.trans (HV7.out.mono HA.out.size)⟩
  | some L =>
    simp only [Option.isSome_some, if_true] at HSC HOR ⊢
    go_enter Tryz.func38, Tryz.ntmps38
    go_wp2_with (first
      | (go_at_call 56; rw [← hW1, ← hW0]; refine (H1.out _ (Below.refl _ _)).mono ?_; rintro e w5 ⟨rfl, hv⟩; clear hW0 hW1 g0 g1 g2 g3; have HV := Lib.hid hv; clear hv; obtain ⟨g0, g1, g2⟩ := HF.out _ HV.out)
      | (go_at_call 57; have hB := M1.out; clear hB M1; refine (H2.out _ HV.out).mono ?_; rintro e w5 ⟨rfl, hv⟩; replace HV := Lib.hid (HV.out.trans (hv.mono HV.out.size)); clear hv g0 g1 g2; obtain ⟨g0, g1, g2⟩ := HF.out _ HV.out)
      | (go_at_call 57; refine (H3.out _ HV.out).mono ?_; rintro e w5 ⟨rfl, hv⟩; replace HV := Lib.hid (HV.out.trans (hv.mono HV.out.size)); clear hv g0 g1 g2; obtain ⟨g0, g1, g2⟩ := HF.out _ HV.out)
      | (go_at_call 81; refine (H4.out _ HV.out).mono ?_; rintro e w8 ⟨rfl, hv⟩; replace HV := Lib.hid (HV.out.trans (hv.mono HV.out.size)); clear hv g0 g1 g2; obtain ⟨g0, g1, g2⟩ := HF.out _ HV.out; have HVA := Lib.hid (HV.out.alloc HV.out.size (.cells #[.bool (q 0), .bool (q 1), .bool (q 2), .bool (q 3), .bool (q 4), .bool (q 5), .bool (q 6), .bool (q 7), .bool (q 8), .bool (q 9)] 79)); obtain ⟨k0, k1, k2⟩ := HF.out _ HVA.out)
      | (go_at_call 79; refine (H5.out _ HVA.out).mono ?_; rintro e w6 ⟨⟨v, rfl, ho⟩, hv⟩; have HV6 := Lib.hid (HVA.out.trans (hv.mono HVA.out.size)); obtain ⟨ga, gc, rfl, _, hs⟩ := own_any2 ho; have HS6 := Lib.hid (HSC.out w8.heap.size ga gc w6 HV6.out (HBP.out w8 w6 hv) hs); clear ho hv hs g0 g1 g2 k0 k1 k2)
      | (go_at_call 78; refine HS6.out.mono ?_; rintro e w7 ⟨⟨v2, rfl, hc⟩, hv⟩; have HC7 := Lib.hid hc; have HV7 := Lib.hid (HV6.out.trans (hv.mono HV6.out.size)); clear hc hv)
      | (go_at_call 65; refine (HOR.out v2 w7).mono ?_; rintro e w10 ⟨rfl, rfl⟩))
    exact bodyPost_ret (v := .tuple #[v2, .int .i64 0]) (by simp [results, Tryz.results38, go_sem]) rfl ⟨⟨_, rfl, HC7.out⟩, HA.out.trans (HV7.out.mono HA.out.size)⟩
end Go.Kn
