/- Contracts of functions that the laws of this seat call, or the evaluator of closed calls and its runs. Conditions: as each theorem states them. -/
import Derived.Test.YtddlghdglknloaaGreatDoorL6
set_option linter.unusedVariables false
set_option linter.unusedSimpArgs false
namespace Go.Kn
open Go Go.Proofs Go.RowKit

theorem keeps_set {N : Nat} {W W' : World} (hb : Below W.heap.size W W') {k o : Nat} {v : Value} (hk : k < N) : KeepsFrom N W (W'.setCell ⟨k, o, none⟩ v) :=
  ⟨by simpa using hb.size, fun j o' hj h _ => (Below.heap_setCell _ _ _ _ (by show j ≠ k; omega)).trans ((hb.block j (Array.getElem?_eq_some_iff.1 h).1).trans h)⟩

set_option maxRecDepth 100000 in
set_option maxHeartbeats 8000000 in
/-- Most goes through all lists -/
theorem most_ok (pa ca sa : Option Addr) (lp cp lc cc m sc p : Nat) (P : Nat → P8) (C : Nat → C8) (s : Nat → Int) (w : World) (HP : Hid (NetP lp P lc C)) (HG : Hid (gatsB lc C s m = true)) (hp : p < lp) (hfed : fedV lp P lc C (opnF s m) false = true) (hm : m ≤ 1000000) (H : Hid (Ne8 w pa ca lp lc P C)) (HO : Hid (IntSl w sa m s)) :
    Calls Tryz.prog 29 #[.agg #[.slice pa lp cp, .slice ca lc cc], .slice sa m sc, .int .i64 (p : Int)] w fun e w' => e = .returned (.tuple #[.int .i64 (mosF P lc C (opnF s m) p (allLs (List.range lp))), .int .i64 0]) ∧ Below w.heap.size w w' := by
  have hmf : ∀ (fn : Fn) (first cap : Array Value) (w : World), (Instr.makeFunc fn first cap).run Tryz.prog w = .ok (.func fn first cap) w := fun _ _ _ _ => rfl
  have hl7 := HP.out.l7
  have hc10 := HP.out.c10
  obtain ⟨W0, hW0⟩ : ∃ W0, W0 = (w.alloc (.cells #[.slice pa lp cp, .slice ca lc cc] 25)).alloc (.cells #[.int .i64 (p : Int)] 3) := ⟨_, rfl⟩
  have hA : Below w.heap.size w W0 := by rw [hW0]; exact ((Below.refl _ _).alloc (Nat.le_refl _) _).alloc (by simp) _
  have HF : Hid (∀ w2, Below W0.heap.size W0 w2 → w2.cell? ⟨w.heap.size, 0, none⟩ = some (.slice pa lp cp) ∧ w2.cell? ⟨w.heap.size, 1, none⟩ = some (.slice ca lc cc) ∧ w2.cell? ⟨w.heap.size + 1, 0, none⟩ = some (.int .i64 (p : Int))) := Lib.hid fun w2 h => by
    have h1 : Below (w.alloc (.cells #[.slice pa lp cp, .slice ca lc cc] 25)).heap.size (w.alloc (.cells #[.slice pa lp cp, .slice ca lc cc] 25)) w2 := by rw [hW0] at h; exact below_al h
    refine ⟨(box_cells h1).1, (box_cells h1).2.1, ((bcell h).1 _ _ (by rw [hW0]; simp)).trans ?_⟩
    rw [hW0]; exact al_top (by simp) _ _
  have HN : Hid (∀ w2, Below W0.heap.size W0 w2 → Ne8 w2 pa ca lp lc P C) := Lib.hid fun w2 h => H.out.below (hA.trans (h.mono hA.size))
  have HOS : Hid (∀ w2, Below W0.heap.size W0 w2 → IntSl w2 sa m s) := Lib.hid fun w2 h => HO.out.below (hA.trans (h.mono hA.size))
  have H1 : Hid (Calls Tryz.prog 56 #[.agg #[.slice pa lp cp, .slice ca lc cc]] W0 fun e w' => e = .returned (.bool true) ∧ Below W0.heap.size W0 w') := Lib.hid (by
    have := isNet_w pa ca lp cp lc cc P C W0 (by omega) (by omega) (Lib.hid (HN.out _ (Below.refl _ _)))
    rw [netV_iff.2 HP.out] at this; exact this)
  have H2 : Hid (∀ w2, Below W0.heap.size W0 w2 → Calls Tryz.prog 57 #[.agg #[.slice pa lp cp, .slice ca lc cc], .slice sa m sc] w2 fun e w' => e = .returned (.bool true) ∧ Below w2.heap.size w2 w') := Lib.hid fun w2 h => by
    have := areGates_w pa ca sa lp cp lc cc m sc P C s w2 (by omega) hm (Lib.hid (HN.out _ h)) (Lib.hid (HOS.out _ h))
    rw [HG.out] at this; exact this
  have H3 : Hid (∀ w2, Below W0.heap.size W0 w2 → Calls Tryz.prog 67 #[.agg #[.slice pa lp cp, .slice ca lc cc], .int .i64 (p : Int)] w2 fun e w' => e = .returned (.bool true) ∧ Below w2.heap.size w2 w') := Lib.hid fun w2 h => by
    have := isPoint_w pa ca lp cp lc cc (p : Int) w2 (by omega)
    have hb : fromB 0 ((lp : Int) - 1) (p : Int) = true := by simp [fromB]; omega
    rw [hb] at this; exact this
  have HOB : Hid (∀ i, i < m → 0 ≤ s i ∧ s i < 10) := Lib.hid fun i hi => by have := gatsB_inc HG.out i hi; omega
  have H4 : Hid (∀ w2, Below W0.heap.size W0 w2 → Calls Tryz.prog 59 #[.agg #[.slice pa lp cp, .slice ca lc cc], .slice sa m sc] w2 fun e w' => e = .returned (.agg (opC pa ca lp cp lc cc (opnF s m))) ∧ Below w2.heap.size w2 w') := Lib.hid fun w2 h => withOpen_w pa ca sa lp cp lc cc m sc s w2 hm HOB (Lib.hid (HOS.out _ h))
  obtain ⟨op, hop⟩ : ∃ op, opnF s m = op := ⟨_, rfl⟩
  rw [hop] at hfed H4 ⊢
  have H5 : Hid (∀ w8, Below W0.heap.size W0 w8 → Calls Tryz.prog 68 #[.func (.func 69) #[] #[.pointer (some ⟨w8.heap.size, 0, none⟩)]] (w8.alloc (.cells (opC pa ca lp cp lc cc op) 81)) fun r w' => Below (w8.alloc (.cells (opC pa ca lp cp lc cc op) 81)).heap.size (w8.alloc (.cells (opC pa ca lp cp lc cc op) 81)) w' ∧ r = .returned (.int .i64 0)) := Lib.hid fun w8 h => by
    have h1 := att69_w pa ca lp cp lc cc w8.heap.size P C op (w8.alloc (.cells (opC pa ca lp cp lc cc op) 81)) (Lib.hid HP.out.b) (Lib.hid (HN.out _ (h.alloc h.size _))) (Lib.hid (B12.new w8 pa ca lp cp lc cc op))
    rw [hfed] at h1
    simpa using h1
  have HBX : Hid (∀ (w8 w2 : World), Below (w8.alloc (.cells (opC pa ca lp cp lc cc op) 81)).heap.size (w8.alloc (.cells (opC pa ca lp cp lc cc op) 81)) w2 → B12 w2 w8.heap.size pa ca lp cp lc cc op) := Lib.hid fun w8 w2 h => (B12.new w8 pa ca lp cp lc cc op).below h
  have HPT : Hid (∀ w2, Calls Tryz.prog 72 #[.agg (opC pa ca lp cp lc cc op)] w2 fun r w' => (∃ v, r = .returned v ∧ w'.ownsRow w2.heap.size 3 1 v lp ((List.range lp).map iv1)) ∧ Below w2.heap.size w2 w') := Lib.hid fun w2 => points_w pa ca lp cp lc cc op w2 (by omega)
  have HA := Lib.hid hA
  simp only [opC] at H4 H5 HBX HPT
  obtain ⟨f0, f1, f2⟩ := HF.out _ (Below.refl _ _)
  rw [hW0] at f0 f1 f2
  clear hA H HO hop hfed
  refine (callsIn_wide (n := 6)).1 ?_
  refine callsIn_of_wp_marks Tryz.func29 rfl trivial ?_ rfl
  simp only [Tryz.ntmps29, List.size_toArray, List.length_cons, List.length_nil, Nat.reduceAdd, Nat.reduceSub, Array.replicate_succ, Array.replicate_zero, List.push_toArray, List.append_toArray, List.nil_append, List.cons_append]
  gi_wp2_with (first
    | (refine ⟨trivial, ?_⟩; gi_at_call 56; rw [← hW0]; refine (callsIn_wide.2 H1.out).mono ?_; rintro e w5 ⟨rfl, hv⟩; clear hW0 f0 f1 f2; have HV5 := Lib.hid hv; obtain ⟨g0, g1, g2⟩ := HF.out _ hv; clear hv)
    | (refine ⟨trivial, ?_⟩; gi_at_call 57; refine (callsIn_wide.2 (H2.out _ HV5.out)).mono ?_; rintro e w6 ⟨rfl, hv⟩; have HV6 := Lib.hid (HV5.out.trans (hv.mono HV5.out.size)); clear hv g0 g1 g2; obtain ⟨g0, g1, g2⟩ := HF.out _ HV6.out)
    | (refine ⟨trivial, ?_⟩; gi_at_call 67; refine (callsIn_wide.2 (H3.out _ HV6.out)).mono ?_; rintro e w7 ⟨rfl, hv⟩; have HV7 := Lib.hid (HV6.out.trans (hv.mono HV6.out.size)); clear hv g0 g1 g2; obtain ⟨g0, g1, g2⟩ := HF.out _ HV7.out)
    | (refine ⟨trivial, ?_⟩; gi_at_call 59; refine (callsIn_wide.2 (H4.out _ HV7.out)).mono ?_; rintro e w8 ⟨rfl, hv⟩; have HV8 := Lib.hid (HV7.out.trans (hv.mono HV7.out.size)); clear hv g0 g1 g2; have HBY := Lib.hid (HBX.out w8))
    | (refine ⟨trivial, ?_⟩; gi_at_call 68; refine (callsIn_wide.2 (H5.out _ HV8.out)).mono ?_; rintro e w9 ⟨hv, rfl⟩; have HB9 := Lib.hid hv; have HV9 := Lib.hid ((HV8.out.alloc HV8.out.size _).trans (hv.mono (HV8.out.alloc HV8.out.size _).size)); obtain ⟨WN, hWN⟩ : ∃ WN, WN = w9.alloc (.cells #[.int .i64 10000] 3) := ⟨_, rfl⟩; obtain ⟨x0, x1, x2, x3, x4, x5, x6, x7, x8, x9, x10, x11, x12⟩ := HBY.out _ (hv.alloc hv.size (.cells #[.int .i64 10000] 3)); clear hv)
    | (refine ⟨trivial, ?_⟩; gi_at_call 72; rw [← hWN]; refine (callsIn_wide.2 (HPT.out _)).mono ?_; rintro r w10 ⟨⟨v5, rfl, ho5⟩, hv5⟩; obtain ⟨na, nc, rfl, hsl, hge⟩ := dayNew ho5; have HSL := Lib.hid hsl; have HGE := Lib.hid hge; have HV10 := Lib.hid hv5; clear hsl hge ho5 hv5 x0 x1 x2 x3 x4 x5 x6 x7 x8 x9 x10 x11 x12)
    | (refine ⟨trivial, ?_⟩; gi_at_call 71; refine (callsIn_wide.2 (lists_w na lp nc w10)).mono ?_; rintro r w11 ⟨rfl, hw11⟩; have HW11 := Lib.hid hw11; clear hw11))
  obtain ⟨nb, hnb⟩ : ∃ nb, nb = w9.heap.size := ⟨_, rfl⟩
  have hzN : WN.heap.size = nb + 1 := by rw [hWN, hnb]; simp
  have hN0 : WN.cell? ⟨nb, 0, none⟩ = some (.int .i64 10000) := by rw [hWN, hnb]; exact al_top rfl _ _
  have hN1 : WN.frozen? ⟨nb, 0, none⟩ = false := by rw [hWN, hnb]; simp
  have hBN : Below W0.heap.size W0 WN := by rw [hWN]; exact HV9.out.alloc HV9.out.size _
  have hob : w8.heap.size < w9.heap.size := by have := HB9.out.size; simp at this; omega
  have hB11 : Below w10.heap.size w10 w11 := by rw [HW11.out]; exact (Below.refl _ _).alloc (Nat.le_refl _) _
  have hBW : Below WN.heap.size WN w11 := HV10.out.trans (hB11.mono HV10.out.size)
  have hB6 : Below W0.heap.size W0 w11 := hBN.trans (hBW.mono hBN.size)
  have hz6 : w11.heap.size = w10.heap.size + 1 := by rw [HW11.out]; simp
  have hnbx : w11.cell? ⟨w10.heap.size, 0, none⟩ = some (.slice na lp nc) := by rw [HW11.out]; exact al_top rfl _ _
  have hnum : IntSl w11 na lp (lgI (List.range lp)) := HSL.out.below hB11
  have h10 : WN.heap.size ≤ w10.heap.size := HV10.out.size
  have hc0 : w11.cell? ⟨nb, 0, none⟩ = some (.int .i64 10000) := ((bcell hBW).1 _ _ (by omega)).trans hN0
  have hc1 : w11.frozen? ⟨nb, 0, none⟩ = false := ((bcell hBW).2 _ _ (by omega)).trans hN1
  have BO : Hid (∀ w2, Frx [nb] w11 w2 → B12 w2 w8.heap.size pa ca lp cp lc cc op) := Lib.hid fun w2 h => by
    have hb9 : Below (w8.alloc (.cells (opC pa ca lp cp lc cc op) 81)).heap.size (w8.alloc (.cells (opC pa ca lp cp lc cc op) 81)) w2 := by
      refine (HB9.out.trans ?_)
      have h1 : Below w9.heap.size w9 w11 := by
        have : Below w9.heap.size w9 WN := by rw [hWN]; exact (Below.refl _ _).alloc (Nat.le_refl _) _
        exact this.trans (hBW.mono this.size)
      have h2 : Below w9.heap.size w11 w2 := h.below (by have := h1.size; omega) (by simp [hnb])
      exact (h1.trans h2).mono HB9.out.size
    have := HBX.out w8 w2 (by simpa only [opC] using hb9)
    exact this
  have BF : Hid (∀ w2, Frx [nb] w11 w2 → Below W0.heap.size W0 w2) := Lib.hid fun w2 h => by
    have hle : W0.heap.size ≤ nb := by have := HV9.out.size; omega
    exact hB6.trans (h.below hB6.size (by simpa using hle))
  have HNB := Lib.hid hnbx
  have HNUM := Lib.hid hnum
  have HC0 := Lib.hid hc0
  have HC1 := Lib.hid hc1
  have HZ6 := Lib.hid hz6
  have HNZ : Hid (nb < w10.heap.size ∧ ∀ b o, na = some ⟨b, o, none⟩ → nb < b) := Lib.hid ⟨by omega, fun b o e => by have := HGE.out b o e; omega⟩
  have hpt : ∃ pt, pt = w.heap.size := ⟨_, rfl⟩
  clear hzN hN0 hN1 hBN hob hB11 hBW hB6 hz6 hnbx hnum h10 hc0 hc1 hpt
  rw [← hnb]
  clear hWN hnb
  refine rangeFunc_pan7 (α := Ls) (fun a0 x => { tmps := (a0.tmps.setIfInBounds 38 x.v).setIfInBounds 11 x.v, defers := [] }) (encs := fun x : Ls => #[x.v]) (Kp := KpR fun k => k = nb ∨ (w11.heap.size ≤ k ∧ k < w11.heap.size + 2)) (Wr := Below (w11.heap.size + 2)) (S := fun xs _ => xs.map Ls.c = allLs (List.range lp)) (Nx := fun _ x W => AtL W (w11.heap.size + 2) x ∧ x.c.Sublist (List.range lp)) rfl (by decide) (gf := 119) (lb := #[.pointer (some ⟨w10.heap.size, 0, none⟩)]) rfl trivial (fun _ _ => rfl)
    ?seq (fun h k => h.trans k) (fun W o => KpR.putObj _ _ _ _ (.inr ⟨by omega, by omega⟩)) (fun _ _ _ h => h) (fun _ => rfl) (fun A B h k h1 h2 => h.block k h2) (fun pre W => Frx [nb] w11 W ∧ W.cell? ⟨nb, 0, none⟩ = some (.int .i64 (mosF P lc C op p (pre.map Ls.c))) ∧ W.frozen? ⟨nb, 0, none⟩ = false) ?iw ?ib ⟨Frx.refl _ _, HC0.out, HC1.out⟩
    (fun ch W => False) ?nx (fun W => KpR.refl _ _) ?assign ?body ?done ?pan
  case seq =>
    intro l J Jp W hz hb hWr hY h0
    have hnz := HNZ.out
    refine (lists_it (w11.heap.size + 2) (fun k => k = nb ∨ (w11.heap.size ≤ k ∧ k < w11.heap.size + 2)) (fun k h => by have := HZ6.out; rcases h with h | h <;> omega) l lp nc w10.heap.size na (List.range lp) J Jp W (by omega) (by have := HZ6.out; omega) (fun h => by have := HZ6.out; rcases h with h | h <;> omega) ((hb.cell (p := ⟨w10.heap.size, 0, none⟩) (by have := HZ6.out; show w10.heap.size < _; omega)).trans HNB.out) ?_ (by simp) (by omega) hWr (fun k pre x W1 hx hs hj => yieldAt_any k (hY pre x W1 ⟨by rw [← hz]; exact hx, hs⟩ hj)) h0).mono ?_
    · rcases HNUM.out with h | ⟨A, O, ha, hA, hN⟩
      · exact .inl h
      · exact .inr ⟨A, O, ha, by have := hb.size; omega, fun h => by have := hnz.2 A O ha; rcases h with h | h <;> omega, hN.below hA hb⟩
    · rintro r W' (⟨hv, xs, ⟨h1, _⟩, h3⟩ | h)
      · exact .inl ⟨hv, xs, h1, h3⟩
      · exact .inr h
  case iw =>
    rintro pre A' B' ⟨h1, h2, h3⟩ hb
    have hz := HZ6.out
    have hnz := HNZ.out
    have := h1.size
    exact ⟨⟨hb.os.trans h1.os, hb.tape.trans h1.tape, hb.output.trans h1.output, Nat.le_trans h1.size hb.size, fun k hk hx => (hb.block k (by omega)).trans (h1.block k hk hx)⟩, (hb.cell (p := ⟨nb, 0, none⟩) (by show nb < _; omega)).trans h2, (hb.frozen (p := ⟨nb, 0, none⟩) (by show nb < _; omega)).trans h3⟩
  case ib =>
    rintro pre A' B' ⟨h1, h2, h3⟩ hb
    have hz := HZ6.out
    have hnz := HNZ.out
    exact ⟨h1.then_below hb, (hb.cell (p := ⟨nb, 0, none⟩) (by show nb < _; omega)).trans h2, (hb.frozen (p := ⟨nb, 0, none⟩) (by show nb < _; omega)).trans h3⟩
  case nx =>
    rintro pre x W o ⟨h1, h2⟩
    exact ⟨h1.blocks (by simp) fun b o' ha hlt h0 => World.putObj_heap_other (by have := h1.2 b o' ha; omega), h2⟩
  case assign =>
    rintro l x W K hK
    have hsa := @Oper.semAt_some
    gi_wp2
  case body =>
    rintro l pre x a' W ha hw ⟨hx, hsub⟩ ⟨hfx, hcn, hfn⟩
    simp only [List.setIfInBounds_toArray, List.set_cons_zero, List.set_cons_succ] at ha
    subst ha
    have hnz := HNZ.out
    have hz6 := HZ6.out
    have hfs := hfx.size
    obtain ⟨_, _, t2⟩ := HF.out _ (BF.out _ hfx)
    have hxl : x.c.length ≤ 7 := by have := hsub.length_le; simp at this; omega
    have hxy : ∀ y ∈ x.c, y < lp := fun y hy => List.mem_range.1 (hsub.subset hy)
    have HCO := Lib.hid (contains_w x.a x.c.length x.cap x.c (p : Int) W rfl (by omega) (Lib.hid hx.1))
    have HFX : Hid (∀ w2, Below W.heap.size W w2 → Frx [nb] w11 w2) := Lib.hid fun w2 h => hfx.then_below (h.mono hfs)
    obtain ⟨PA, PO, epa, hPA, hPN⟩ := (HN.out _ (BF.out _ hfx)).hp.resolve_left (by omega)
    have yn := (hPN p hp).2.2
    have HX : Hid (∀ w2, Below W.heap.size W w2 → w2.cell? ⟨w.heap.size, 0, none⟩ = some (.slice (some ⟨PA, PO, none⟩) lp cp) ∧ w2.cell? ⟨w.heap.size + 1, 0, none⟩ = some (.int .i64 (p : Int)) ∧ w2.cell? ⟨PA, PO + p * 3 + 2, none⟩ = some (.int .i64 (P p).nd) ∧ w2.cell? ⟨nb, 0, none⟩ = some (.int .i64 (mosF P lc C op p (pre.map Ls.c))) ∧ B12 w2 w8.heap.size pa ca lp cp lc cc op) := Lib.hid fun w2 h => by
      have h1 := HFX.out w2 h
      obtain ⟨u0, _, u2⟩ := HF.out _ (BF.out _ h1)
      exact ⟨by rw [← epa]; exact u0, u2, ((bcell h).1 _ _ hPA).trans yn, (h.cell (p := ⟨nb, 0, none⟩) (by show nb < _; omega)).trans hcn, BO.out _ h1⟩
    have HSP : Hid (∀ w2, Below W.heap.size W w2 → Calls Tryz.prog 74 #[.agg (opC pa ca lp cp lc cc op), x.v, .int .i64 0] w2 fun r w' => r = .returned (.int .i64 (spareV P lc C op false x.c)) ∧ Below W.heap.size W w') := Lib.hid fun w2 h =>
      (spare_w pa ca x.a lp cp lc cc x.c.length x.cap P C op false x.c w2 (Lib.hid HP.out.b) rfl (by omega) (Lib.hid hxy) (Lib.hid (HN.out _ (BF.out _ (HFX.out w2 h)))) (Lib.hid (hx.1.below h))).mono fun e w' ⟨he, hv⟩ => ⟨he, h.trans (hv.mono h.size)⟩
    simp only [opC] at HSP
    have hsp := spareV_bd (op := op) (e := false) HP.out hxl hxy
    have hmb := mosF_bd (op := op) HP.out hp (Ls := allLs (List.range lp)) (fun L hL => by
      have h1 := allLs_iff.1 hL
      exact ⟨by have := h1.length_le; simp at this; omega, fun y hy => List.mem_range.1 (h1.subset hy)⟩)
    have HSN : Hid (mosF P lc C op p ((pre ++ [x]).map Ls.c) = if memI x.c (p : Int) then min (mosF P lc C op p (pre.map Ls.c)) ((P p).nd + spareV P lc C op false x.c) else mosF P lc C op p (pre.map Ls.c)) := Lib.hid (by rw [List.map_append]; exact mosF_snoc _ _)
    obtain ⟨S, hS⟩ : ∃ S, spareV P lc C op false x.c = S := ⟨_, rfl⟩
    obtain ⟨M, hM⟩ : ∃ M, mosF P lc C op p (pre.map Ls.c) = M := ⟨_, rfl⟩
    have hpb := HP.out.p hp
    obtain ⟨nd, hnd⟩ : ∃ v, (P p).nd = v := ⟨_, rfl⟩
    rw [hS] at HSP hsp HSN
    rw [hM, hnd] at HX HSN
    rw [hM] at hcn
    rw [hnd] at hpb
    have HFXX := Lib.hid hfx
    have HCN := Lib.hid hcn
    have HFN := Lib.hid hfn
    have hsa := @Oper.semAt_some
    have hw2 : IntKind.i64.wrap (nd + S) = nd + S := by rw [IntKind.wrap_i64]; omega
    have hmin : (if nd + S < M then nd + S else M) = min M (nd + S) := by omega
    have HNW : Hid (nb < W.heap.size) := Lib.hid (by omega)
    have n3 : (0 : Int) ≤ (p : Int) := by omega
    have n4 : (p : Int) < (lp : Int) := by omega
    clear hx hsub hS hM hnd hPN hPA yn hxy hmb hfx hcn hfn hxl epa
    refine .inl ?_
    cases hmm : memI x.c (p : Int) with
    | false =>
      rw [hmm] at HCO HSN
      simp only [Bool.false_eq_true, if_false] at HSN
      clear hmm
      gi_wp2_with (refine ⟨trivial, ?_⟩; gi_at_call 73; refine (CallsIn.inRound l (callsIn_wide.2 HCO.out)).mono ?_; rintro r w7 ⟨rfl, rfl⟩)
      exact ⟨KeepsFrom.refl _ _, KpR.refl _ _, HFXX.out, by rw [HSN.out]; exact HCN.out, HFN.out⟩
    | true =>
      rw [hmm] at HCO HSN
      simp only [if_true] at HSN
      clear hmm
      gi_wp2_with (refine ⟨trivial, ?_⟩; gi_at_call 73; refine (CallsIn.inRound l (callsIn_wide.2 HCO.out)).mono ?_; rintro r w7 ⟨rfl, rfl⟩)
      have hmx : Tryz.prog.follows .mixedOrders = true := by kernel_rfl
      refine calm_last_in 12 (W := W) hmx (by kernel_rfl) (fun h => by obtain ⟨a, w, h⟩ := h; exact h) (Below.refl _ _) ?_
      repeat (first
        | (refine calm_no (by rfl) ?_
           (try simp only [Act.put, List.setIfInBounds_toArray, List.set_cons_zero, List.set_cons_succ]))
        | (apply calm_yes
           focus rfl
           focus
             intro w' hw'
             obtain ⟨z1, z2, z3, z4, ⟨x0, x1, x2, x3, x4, x5, x6, x7, x8, x9, x10, x11, x12⟩⟩ := HX.out w' hw'
             go_simp
             first
               | done
               | with_reducible rfl
               | (go_at_call 74; exact HSP.out w' hw')
               | fail
           (try simp only [Act.put, List.setIfInBounds_toArray, List.set_cons_zero, List.set_cons_succ])))
      refine calm_nil ?_
      intro w20 hb20
      obtain ⟨_, _, _, z4, _⟩ := HX.out _ hb20
      have z5 : w20.frozen? ⟨nb, 0, none⟩ = false := (hb20.frozen (p := ⟨nb, 0, none⟩) HNW.out).trans HFN.out
      have HB20 := Lib.hid hb20
      clear hb20
      refine wpOp_last rfl rfl ?_
      go_simp
      exact ⟨keeps_set HB20.out (by omega), (KpR.of_below HB20.out).trans (KpR.setCell _ _ _ _ _ (.inl rfl)), (HFX.out _ HB20.out).trans (Frx.setCell [nb] _ _ _ _ (by simp)), by rw [HSN.out]; exact World.cell?_setCell_same' _ _ _ (by rw [z4]; rfl), by simpa using z5⟩
  case done =>
    rintro xs W hS ⟨hfx, hcn, hfn⟩ hK
    rw [hS] at hcn
    have hz6 := HZ6.out
    have hnz := HNZ.out
    have HBW := Lib.hid (BF.out _ hfx)
    have HKK := Lib.hid hK
    obtain ⟨V, hV⟩ : ∃ V, mosF P lc C op p (allLs (List.range lp)) = V := ⟨_, rfl⟩
    have HV := Lib.hid hV
    rw [hV] at hcn
    have hle := HBW.out.size
    have hw0 : W0.heap.size ≤ w11.heap.size := (BF.out _ (Frx.refl _ _)).size
    clear hV hK hfn hfx
    gi_wp2
    refine ⟨by simp, .inl ⟨_, _, rfl, run_takeDeferred HKK.out, ?_⟩⟩
    have hfin : Below w.heap.size w (W.putObj w11.heap.size (.deferred none)) := HA.out.trans ((HBW.out.trans (putObj_belowR W _ _ HKK.out hw0)).mono HA.out.size)
    refine ⟨.tuple #[.int .i64 V, .int .i64 0], by simp [results, Tryz.results29, go_sem], by rw [HV.out], hfin⟩
  case pan =>
    rintro ch W h
    exact h.elim
end Go.Kn
