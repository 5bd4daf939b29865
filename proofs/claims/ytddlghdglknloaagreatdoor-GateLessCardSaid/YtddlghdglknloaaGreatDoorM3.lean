/- Contracts of functions that the laws of this seat call, or the evaluator of closed calls and its runs. Conditions: as each theorem states them. -/
import Derived.Test.YtddlghdglknloaaGreatDoorM2
set_option linter.unusedVariables false
set_option linter.unusedSimpArgs false
namespace Go.Kn
open Go Go.Proofs Go.RowKit

set_option maxRecDepth 100000 in
set_option maxHeartbeats 4000000 in
/-- the iterator that those hands back: the lists that are right (right: firstCut$1) -/
theorem those_it (R : List Nat → Bool) (M : Nat) (X : Nat → Prop) (hX : ∀ k, X k → k < M) (l n cn Bn Br : Nat) (cap : Value) (na : Option Addr) (N : List Nat) (J : List Ls → World → Prop) (W : World) (hm : M ≤ W.heap.size) (hB1 : Bn < W.heap.size) (hR1 : Br < W.heap.size) (hR2 : ¬ X Br) (hcn : W.cell? ⟨Bn, 0, none⟩ = some (.slice na n cn)) (hcr : W.cell? ⟨Br, 0, none⟩ = some (.func (.func 116) #[] #[cap]))
    (hnum : Hid (NumK W X na n N)) (hnl : N.length = n) (hn20 : n ≤ 20) (hJ : Hid (∀ s A B, J s A → Below M A B → J s B))
    (hRi : Hid (∀ x W1, AtL W1 W.heap.size x → x.c.Sublist N → KpR X W W1 → Calls Tryz.prog 116 #[x.v, cap] W1 fun r w' => r = .returned (.bool (R x.c)) ∧ Below W1.heap.size W1 w'))
    (hY : Hid (∀ k pre x W1, AtL W1 W.heap.size x → x.c.Sublist N → R x.c = true → J pre W1 → YieldAt Fence.wide k Tryz.prog l #[x.v] W1 fun e W' => e = .returned (.bool true) ∧ J (pre ++ [x]) W' ∧ KpR X W1 W')) (h0 : Hid (J [] W)) :
    CallsIn Fence.wide 6 Tryz.prog 148 (#[.func (.yield l) #[] #[]] ++ #[.pointer (some ⟨Bn, 0, none⟩), .pointer (some ⟨Br, 0, none⟩)]) W fun e W' => (∃ v, e = .returned v) ∧ ∃ xs, (xs.map Ls.c = (allLs N).filter R ∧ ∀ x ∈ xs, AtL W' W.heap.size x) ∧ J xs W' := by
  obtain ⟨W0, hW0⟩ : ∃ W0, W0 = W.alloc (.cells #[.func (.yield l) #[] #[]] 83) := ⟨_, rfl⟩
  have hb0 : Below W.heap.size W W0 := by rw [hW0]; exact (Below.refl _ _).alloc (Nat.le_refl _) _
  have hz0 : W0.heap.size = W.heap.size + 1 := by rw [hW0]; simp
  have hy0 : W0.cell? ⟨W.heap.size, 0, none⟩ = some (.func (.yield l) #[] #[]) := by rw [hW0]; exact al_top rfl _ _
  have g1 : W0.cell? ⟨Bn, 0, none⟩ = some (.slice na n cn) := (hb0.cell (p := ⟨Bn, 0, none⟩) hB1).trans hcn
  have g2 : W0.cell? ⟨Br, 0, none⟩ = some (.func (.func 116) #[] #[cap]) := (hb0.cell (p := ⟨Br, 0, none⟩) hR1).trans hcr
  obtain ⟨w6, hw6⟩ : ∃ w6, w6 = W0.alloc (.cells #[.slice na n cn] 26) := ⟨_, rfl⟩
  have hb6 : Below W0.heap.size W0 w6 := by rw [hw6]; exact (Below.refl _ _).alloc (Nat.le_refl _) _
  have hz6 : w6.heap.size = W.heap.size + 2 := by rw [hw6]; simp [hz0]
  have HNB : Hid (w6.cell? ⟨W0.heap.size, 0, none⟩ = some (.slice na n cn)) := Lib.hid (by rw [hw6]; exact al_top rfl _ _)
  have HBY : Hid (w6.cell? ⟨W.heap.size, 0, none⟩ = some (.func (.yield l) #[] #[])) := Lib.hid (((bcell hb6).1 _ _ (by omega)).trans hy0)
  have HBR : Hid (w6.cell? ⟨Br, 0, none⟩ = some (.func (.func 116) #[] #[cap])) := Lib.hid (((bcell hb6).1 _ _ (by omega)).trans g2)
  have HB6 : Hid (Below W.heap.size W w6) := Lib.hid (hb0.trans (hb6.mono hb0.size))
  have HL : Hid (Calls Tryz.prog 71 #[.slice na n cn] W0 fun e w' => e = .returned (.func (.func 119) #[] #[.pointer (some ⟨W0.heap.size, 0, none⟩)]) ∧ w' = w6) := Lib.hid (by rw [hw6]; exact lists_w na n cn W0)
  have HZ0 := Lib.hid hz0
  have HZ6 := Lib.hid hz6
  have HM := Lib.hid hm
  have HX := Lib.hid hX
  have HRR := Lib.hid (And.intro hR1 hR2)
  clear hb0 hb6 hy0 hcn hcr hw6 hm hX hR2 hz0 hz6
  rw [hW0] at g1 g2
  refine callsIn_of_wp_marks Tryz.func148 rfl trivial ?_ rfl
  simp only [Tryz.ntmps148, List.size_toArray, List.length_cons, List.length_nil, Nat.reduceAdd, Nat.reduceSub, Array.replicate_succ, Array.replicate_zero, List.push_toArray, List.append_toArray, List.nil_append, List.cons_append]
  gi_wp2_with (refine ⟨trivial, ?_⟩; gi_at_call 71; rw [← hW0]; refine (callsIn_wide.2 HL.out).mono ?_; rintro r w5 ⟨rfl, rfl⟩; clear g1 g2 hW0)
  refine rangeFunc_nop (α := Ls) (fun a0 x => { tmps := (a0.tmps.setIfInBounds 7 x.v).setIfInBounds 4 x.v, defers := [] }) (encs := fun x : Ls => #[x.v]) (Kp := KpR fun k => X k ∨ (w5.heap.size ≤ k ∧ k < w5.heap.size + 2)) (Wr := Below (w5.heap.size + 2)) (S := fun xs W1 => xs.map Ls.c = allLs N ∧ ∀ x ∈ xs, AtL W1 (w5.heap.size + 2) x) (Nx := fun _ x W => AtL W (w5.heap.size + 2) x ∧ x.c.Sublist N) rfl (by decide) (gf := 119) (lb := #[.pointer (some ⟨W0.heap.size, 0, none⟩)]) rfl trivial (enters_of Tryz.func119 (by kernel_rfl) rfl)
    ?seq (fun h k => h.trans k) (fun W o => KpR.putObj _ _ _ _ (.inr ⟨by omega, by omega⟩)) (fun xs W1 o h => ⟨h.1, fun x hx => (h.2 x hx).blocks (by simp) fun b o' ha hlt h0 => World.putObj_heap_other (by have := (h.2 x hx).2 b o' ha; omega)⟩) (fun _ => rfl) (fun A B h k h1 h2 => h.block k h2) (fun pre W1 => J (pre.filter fun x => R x.c) W1 ∧ KpR X w5 W1) ?iw ?ib ⟨hJ.out _ _ _ h0.out (HB6.out.mono HM.out), KpR.refl _ _⟩
    ?nx (fun W => KpR.refl _ _) ?assign ?body ?done
  case seq =>
    intro l' J' W' hz hb hWr hY' h0'
    have h6 := HZ6.out
    have h00 := HZ0.out
    have hMM := HM.out
    refine (lists_it (w5.heap.size + 2) (fun k => X k ∨ (w5.heap.size ≤ k ∧ k < w5.heap.size + 2)) (fun k h => by rcases h with h | h; (have := HX.out k h; omega); omega) l' n cn W0.heap.size na N J' (fun _ _ => False) W' (by omega) (by omega) (fun h => by rcases h with h | h; (have := HX.out _ h; omega); omega) ((hb.cell (p := ⟨W0.heap.size, 0, none⟩) (by show W0.heap.size < _; omega)).trans HNB.out) ?_ hnl hn20 hWr (fun k pre x W1 hx hs hj => yieldAt_any k ((hY' pre x W1 ⟨by rw [← hz]; exact hx, hs⟩ hj).mono fun e w h => .inl h)) h0').mono ?_
    · rcases hnum.out with h | ⟨A, O, ha, hA, hk, hN⟩
      · exact .inl h
      · exact .inr ⟨A, O, ha, by omega, fun h => by rcases h with h | h; exact hk h; omega, hN.below hA (HB6.out.trans (hb.mono (by omega)))⟩
    · rintro r W'' (⟨hv, xs, ⟨h1, h2⟩, h3⟩ | ⟨_, _, h⟩)
      · exact ⟨hv, xs, ⟨h1, fun x hx => by rw [← hz]; exact h2 x hx⟩, h3⟩
      · exact h.elim
  case iw =>
    rintro pre A' B' ⟨h1, h2⟩ hb
    exact ⟨hJ.out _ _ _ h1 (hb.mono (by have := HM.out; have := HZ6.out; omega)), Nat.le_trans h2.1 hb.size, fun k hk hx => (hb.block k (by omega)).trans (h2.2 k hk hx)⟩
  case ib =>
    rintro pre A' B' ⟨h1, h2⟩ hb
    exact ⟨hJ.out _ _ _ h1 (hb.mono (by have := HM.out; have := HZ6.out; omega)), Nat.le_trans h2.1 hb.size, fun k hk hx => (hb.block k (by omega)).trans (h2.2 k hk hx)⟩
  case nx =>
    rintro pre x W1 o ⟨h1, h2⟩
    exact ⟨h1.blocks (by simp) fun b o' ha hlt h0 => World.putObj_heap_other (by have := h1.2 b o' ha; omega), h2⟩
  case assign =>
    rintro l' x W1 K hK
    have hsa := @Oper.semAt_some
    gi_wp2
  case body =>
    rintro l' pre x a' W1 ha hw ⟨hx, hsub⟩ ⟨hj, hkp⟩
    simp only [List.setIfInBounds_toArray, List.set_cons_zero, List.set_cons_succ] at ha
    subst ha
    have h6 := HZ6.out
    have hMM := HM.out
    have hrr := HRR.out
    have hcl : ∀ b, b < w5.heap.size → ¬ X b → W1.cell? ⟨b, 0, none⟩ = w5.cell? ⟨b, 0, none⟩ := fun b hb hx => by unfold World.cell?; rw [hkp.2 b hb hx]
    have y1 := (hcl Br (by omega) hrr.2).trans HBR.out
    have y2 := (hcl W.heap.size (by omega) (fun h => by have := HX.out _ h; omega)).trans HBY.out
    have hxW : AtL W1 W.heap.size x := hx.low (by omega)
    have HR := Lib.hid (hRi.out x W1 hxW hsub ((KpR.of_below HB6.out).trans hkp))
    have hsz : W.heap.size < W1.heap.size := by omega
    have HYY := hY
    have HXW := Lib.hid hxW
    have HSUB := Lib.hid hsub
    have HJJ := Lib.hid hj
    have HKP := Lib.hid hkp
    have HHW := Lib.hid hw
    have HSZ := Lib.hid hsz
    have hsa := @Oper.semAt_some
    clear hcl hx hsub hj hkp hxW hrr hw
    cases hq : R x.c with
    | false =>
      rw [hq] at HR
      have HQ := Lib.hid hq
      clear hq
      gi_wp2_with (refine ⟨trivial, ?_⟩; gi_at_call 116; refine (CallsIn.inRound l' (callsIn_wide.2 HR.out)).mono ?_; rintro r w7 ⟨rfl, hv7⟩; have HV7 := Lib.hid hv7; clear hv7)
      refine ⟨fun f h => (by cases h), ?_⟩
      gi_wp2
      refine ⟨keeps_of_below HV7.out, KpR.of_below HV7.out, ?_, HKP.out.trans (KpR.of_below HV7.out)⟩
      have e : (pre ++ [x]).filter (fun x => R x.c) = pre.filter fun x => R x.c := by rw [List.filter_append]; simp [HQ.out]
      rw [e]
      exact hJ.out _ _ _ HJJ.out (HV7.out.mono (by have := HHW.out; omega))
    | true =>
      rw [hq] at HR
      have HQ := Lib.hid hq
      clear hq
      gi_wp2_with (first
        | (refine ⟨trivial, ?_⟩; gi_at_call 116; refine (CallsIn.inRound l' (callsIn_wide.2 HR.out)).mono ?_; rintro r w7 ⟨rfl, hv7⟩; have y2' := (hv7.cell (p := ⟨W.heap.size, 0, none⟩) HSZ.out).trans y2; have HV7 := Lib.hid hv7; clear hv7 y1 y2; obtain ⟨fn, tmps, assign, body, hy, hR⟩ := YieldAt.inR l' (HYY.out 3 _ x w7 ⟨HXW.out.1.below HV7.out, HXW.out.2⟩ HSUB.out HQ.out (hJ.out _ _ _ HJJ.out (HV7.out.mono (by have := HHW.out; omega)))))
        | (refine hR.mono ?_; clear hR; rintro e W2 ⟨rfl, hJ2, hkp2⟩; have HJ2 := Lib.hid hJ2; have HK2 := Lib.hid hkp2; clear hJ2 hkp2))
      have hk2 : KpR X W1 W2 := (KpR.of_below HV7.out).trans HK2.out
      refine ⟨⟨hk2.1, fun k o hk h _ => (hk2.2 k (Array.getElem?_eq_some_iff.1 h).1 (fun hx => by have := HX.out k hx; omega)).trans h⟩, ⟨hk2.1, fun k hk hx => hk2.2 k hk (fun h => hx (.inl h))⟩, ?_, HKP.out.trans hk2⟩
      have e : (pre ++ [x]).filter (fun x => R x.c) = (pre.filter fun x => R x.c) ++ [x] := by rw [List.filter_append]; simp [HQ.out]
      rw [e]
      exact HJ2.out
  case done =>
    rintro xs W1 hS ⟨hj, hkp⟩ hK
    gi_wp2
    refine ⟨by simp, .inl ⟨_, _, rfl, run_takeDeferred hK, ?_⟩⟩
    refine ⟨.tuple #[], by simp [results, Tryz.results148, go_sem], ⟨_, rfl⟩, xs.filter fun x => R x.c, ⟨?_, fun x hx => ?_⟩, hJ.out _ _ _ hj (putObj_belowR W1 _ _ hK (by have := HM.out; have := HZ6.out; omega))⟩
    · rw [← hS.1]
      clear hS hj
      induction xs with
      | nil => rfl
      | cons a t ih => simp only [List.filter_cons, List.map_cons]; split <;> simp [ih]
    · have h1 := hS.2 x (List.mem_filter.1 hx).1
      have h6 := HZ6.out
      exact (h1.blocks (by simp) fun b o' ha hlt h0 => World.putObj_heap_other (by have := h1.2 b o' ha; omega)).low (by omega)
end Go.Kn

namespace Go.Kn
open Go Go.Proofs Go.RowKit

set_option maxRecDepth 100000 in
set_option maxHeartbeats 4000000 in
/-- the first of the shortest lists that are right -/
theorem best_w (R : List Nat → Bool) (n cn Bn Br : Nat) (cap : Value) (na : Option Addr) (N : List Nat) (W : World) (hB1 : Bn < W.heap.size) (hR1 : Br < W.heap.size) (hcn : W.cell? ⟨Bn, 0, none⟩ = some (.slice na n cn)) (hcr : W.cell? ⟨Br, 0, none⟩ = some (.func (.func 116) #[] #[cap]))
    (hnum : Hid (NumK W (fun _ => False) na n N)) (hnl : N.length = n) (hn20 : n ≤ 20)
    (hRi : Hid (∀ x W1, AtL W1 W.heap.size x → x.c.Sublist N → KpR (fun _ => False) W W1 → Calls Tryz.prog 116 #[x.v, cap] W1 fun r w' => r = .returned (.bool (R x.c)) ∧ Below W1.heap.size W1 w')) :
    Calls Tryz.prog 125 #[.func (.func 148) #[] #[.pointer (some ⟨Bn, 0, none⟩), .pointer (some ⟨Br, 0, none⟩)], .func (.func 127) #[] #[]] W fun e W' => (∃ v, e = .returned (.tuple #[v, .bool (bestF R (allLs N)).isSome]) ∧ CutAt W' v (bestF R (allLs N))) ∧ Below W.heap.size W W' := by
  obtain ⟨w3, hw3⟩ : ∃ w3, w3 = ((W.alloc (.cells #[.func (.func 127) #[] #[]] 45)).alloc (.cells #[.slice none 0 0] 26)).alloc (.cells #[.bool false] 4) := ⟨_, rfl⟩
  have hb3 : Below W.heap.size W w3 := by rw [hw3]; exact (((Below.refl _ _).alloc (Nat.le_refl _) _).alloc (by simp) _).alloc (by simp; omega) _
  have hz3 : w3.heap.size = W.heap.size + 3 := by rw [hw3]; simp
  have c0 : w3.cell? ⟨W.heap.size, 0, none⟩ = some (.func (.func 127) #[] #[]) := by
    rw [hw3]
    exact (World.cell?_alloc_lt _ _ _ (by simp; omega)).trans ((World.cell?_alloc_lt _ _ _ (by simp)).trans (al_top rfl _ _))
  have c1 : w3.cell? ⟨W.heap.size + 1, 0, none⟩ = some (.slice none 0 0) := by
    rw [hw3]
    exact (World.cell?_alloc_lt _ _ _ (by simp)).trans (al_top (by simp) _ _)
  have c2 : w3.cell? ⟨W.heap.size + 1 + 1, 0, none⟩ = some (.bool false) := by rw [hw3]; exact al_top (by simp) _ _
  have fz : ∀ k, W.heap.size ≤ k → k < W.heap.size + 3 → w3.frozen? ⟨k, 0, none⟩ = false := fun k h1 h2 => by
    rw [hw3]
    have e1 : ((W.alloc (.cells #[.func (.func 127) #[] #[]] 45)).alloc (.cells #[.slice none 0 0] 26)).heap.size = W.heap.size + 1 + 1 := by simp
    have e0 : (W.alloc (.cells #[.func (.func 127) #[] #[]] 45)).heap.size = W.heap.size + 1 := by simp
    have b2 : Below (W.heap.size + 1 + 1) ((W.alloc (.cells #[.func (.func 127) #[] #[]] 45)).alloc (.cells #[.slice none 0 0] 26)) (((W.alloc (.cells #[.func (.func 127) #[] #[]] 45)).alloc (.cells #[.slice none 0 0] 26)).alloc (.cells #[.bool false] 4)) := (Below.refl _ _).alloc (by omega) _
    have b1 : Below (W.heap.size + 1) (W.alloc (.cells #[.func (.func 127) #[] #[]] 45)) (((W.alloc (.cells #[.func (.func 127) #[] #[]] 45)).alloc (.cells #[.slice none 0 0] 26)).alloc (.cells #[.bool false] 4)) := ((Below.refl _ _).alloc (by omega) _).alloc (by omega) _
    have h3 : k = W.heap.size ∨ k = W.heap.size + 1 ∨ k = W.heap.size + 1 + 1 := by omega
    rcases h3 with rfl | rfl | rfl
    · exact (b1.frozen (p := ⟨W.heap.size, 0, none⟩) (by show W.heap.size < _; omega)).trans (al_frz2 rfl)
    · exact (b2.frozen (p := ⟨W.heap.size + 1, 0, none⟩) (by show W.heap.size + 1 < _; omega)).trans (al_frz2 e0)
    · exact al_frz2 e1
  have HB3 := Lib.hid hb3
  have HZ3 := Lib.hid hz3
  have C0 := Lib.hid c0
  have C1 := Lib.hid c1
  have C2 := Lib.hid c2
  have FZ := Lib.hid fz
  have HCN := Lib.hid hcn
  have HCR := Lib.hid hcr
  clear hb3 hz3 c0 c1 c2 fz hcn hcr
  refine (callsIn_wide (n := 7)).1 ?_
  refine callsIn_of_wp_marks Tryz.func125 rfl trivial ?_ rfl
  simp only [Tryz.ntmps125, List.size_toArray, List.length_cons, List.length_nil, Nat.reduceAdd, Nat.reduceSub, Array.replicate_succ, Array.replicate_zero, List.push_toArray, List.append_toArray, List.nil_append, List.cons_append]
  gi_wp2
  rw [← hw3]
  clear hw3
  refine rangeFunc_nop (α := Ls) (fun a0 x => { tmps := (a0.tmps.setIfInBounds 8 x.v).setIfInBounds 6 x.v, defers := [] }) (encs := fun x : Ls => #[x.v]) (Kp := KpR fun k => k = W.heap.size + 1 ∨ k = W.heap.size + 1 + 1 ∨ (w3.heap.size ≤ k ∧ k < w3.heap.size + 2)) (Wr := Below (w3.heap.size + 2)) (S := fun xs W1 => xs.map Ls.c = (allLs N).filter R ∧ ∀ x ∈ xs, AtL W1 (w3.heap.size + 2) x) (Nx := fun _ x W1 => AtL W1 (w3.heap.size + 2) x ∧ x.c.Sublist N ∧ R x.c = true) rfl (by decide) (gf := 148) (lb := #[.pointer (some ⟨Bn, 0, none⟩), .pointer (some ⟨Br, 0, none⟩)]) rfl trivial (fun _ _ => rfl)
    ?seq (fun h k => h.trans k) (fun W o => KpR.putObj _ _ _ _ (.inr (.inr ⟨by omega, by omega⟩))) (fun xs W1 o h => ⟨h.1, fun x hx => (h.2 x hx).blocks (by simp) fun b o' ha hlt h0 => World.putObj_heap_other (by have := (h.2 x hx).2 b o' ha; omega)⟩) (fun _ => rfl) (fun A B h k h1 h2 => h.block k h2) (fun pre W1 => Frx [W.heap.size + 1, W.heap.size + 1 + 1] w3 W1 ∧ KeepB W1 (W.heap.size + 1) pre (bestF R (pre.map Ls.c)) ∧ W1.frozen? ⟨W.heap.size + 1, 0, none⟩ = false ∧ W1.frozen? ⟨W.heap.size + 1 + 1, 0, none⟩ = false) ?iw ?ib ⟨Frx.refl _ _, ⟨C1.out, C2.out⟩, FZ.out _ (by omega) (by omega), FZ.out _ (by omega) (by omega)⟩
    ?nx (fun W => KpR.refl _ _) ?assign ?body ?done
  case seq =>
    intro l' J' W' hz hb hWr hY' h0'
    have h3 := HZ3.out
    refine (those_it R (w3.heap.size + 2) (fun k => k = W.heap.size + 1 ∨ k = W.heap.size + 1 + 1 ∨ (w3.heap.size ≤ k ∧ k < w3.heap.size + 2)) (fun k h => by omega) l' n cn Bn Br cap na N J' W' (by omega) (by omega) (by omega) (fun h => by omega) ((hb.cell (p := ⟨Bn, 0, none⟩) (by show Bn < _; omega)).trans ((HB3.out.cell (p := ⟨Bn, 0, none⟩) hB1).trans HCN.out)) ((hb.cell (p := ⟨Br, 0, none⟩) (by show Br < _; omega)).trans ((HB3.out.cell (p := ⟨Br, 0, none⟩) hR1).trans HCR.out)) (Lib.hid ?_) hnl hn20 (Lib.hid hWr) (Lib.hid ?_) (Lib.hid fun k pre x W1 hx hs hR hj => yieldAt_any k (hY' pre x W1 ⟨by rw [← hz]; exact hx, hs, hR⟩ hj)) (Lib.hid h0')).mono ?_
    · rcases hnum.out with h | ⟨A, O, ha, hA, hk, hN⟩
      · exact .inl h
      · exact .inr ⟨A, O, ha, by omega, fun h => by omega, hN.below hA (HB3.out.trans (hb.mono (by omega)))⟩
    · intro x W1 hx hs hk
      exact hRi.out x W1 (hx.low (by omega)) hs ⟨by have := hk.1; omega, fun k h _ => (hk.2 k (by omega) (by omega)).trans ((hb.block k (by omega)).trans (HB3.out.block k h))⟩
    · rintro r W'' ⟨hv, xs, ⟨h1, h2⟩, h3⟩
      exact ⟨hv, xs, ⟨h1, fun x hx => by rw [← hz]; exact h2 x hx⟩, h3⟩
  case iw =>
    rintro pre A' B' ⟨h1, h2, h4, h5⟩ hb
    have h3 := HZ3.out
    have := h1.size
    exact ⟨⟨hb.os.trans h1.os, hb.tape.trans h1.tape, hb.output.trans h1.output, Nat.le_trans h1.size hb.size, fun k hk hx => (hb.block k (by omega)).trans (h1.block k hk hx)⟩, h2.cells (hb.cell (p := ⟨W.heap.size + 1, 0, none⟩) (by show W.heap.size + 1 < _; omega)) (hb.cell (p := ⟨W.heap.size + 1 + 1, 0, none⟩) (by show W.heap.size + 1 + 1 < _; omega)), (hb.frozen (p := ⟨W.heap.size + 1, 0, none⟩) (by show W.heap.size + 1 < _; omega)).trans h4, (hb.frozen (p := ⟨W.heap.size + 1 + 1, 0, none⟩) (by show W.heap.size + 1 + 1 < _; omega)).trans h5⟩
  case ib =>
    rintro pre A' B' ⟨h1, h2, h4, h5⟩ hb
    have h3 := HZ3.out
    exact ⟨h1.then_below hb, h2.cells (hb.cell (p := ⟨W.heap.size + 1, 0, none⟩) (by show W.heap.size + 1 < _; omega)) (hb.cell (p := ⟨W.heap.size + 1 + 1, 0, none⟩) (by show W.heap.size + 1 + 1 < _; omega)), (hb.frozen (p := ⟨W.heap.size + 1, 0, none⟩) (by show W.heap.size + 1 < _; omega)).trans h4, (hb.frozen (p := ⟨W.heap.size + 1 + 1, 0, none⟩) (by show W.heap.size + 1 + 1 < _; omega)).trans h5⟩
  case nx =>
    rintro pre x W1 o ⟨h1, h2⟩
    exact ⟨h1.blocks (by simp) fun b o' ha hlt h0 => World.putObj_heap_other (by have := h1.2 b o' ha; omega), h2⟩
  case assign =>
    rintro l' x W1 K hK
    have hsa := @Oper.semAt_some
    gi_wp2
  case body =>
    rintro l' pre x a' W1 ha hw ⟨hx, hsub, hR⟩ ⟨hfx, hkb, f1, f2⟩
    simp only [List.setIfInBounds_toArray, List.set_cons_zero, List.set_cons_succ] at ha
    subst ha
    have h3 := HZ3.out
    have y0 : W1.cell? ⟨W.heap.size, 0, none⟩ = some (.func (.func 127) #[] #[]) := (hfx.cell (by omega) (by simp; omega)).trans C0.out
    have hs2 : bestF R ((pre ++ [x]).map Ls.c) = (match bestF R (pre.map Ls.c) with | none => some x.c | some y => if x.c.length < y.length then some x.c else some y) := by
      have hs := bestF_snoc R (pre.map Ls.c) x.c
      unfold betF at hs
      rw [if_pos hR] at hs
      rw [List.map_append]
      refine hs.trans ?_
      cases bestF R (List.map Ls.c pre) <;> rfl
    have HFX := Lib.hid hfx
    have HHW := Lib.hid hw
    have F1 := Lib.hid f1
    have F2 := Lib.hid f2
    have hk12 : ∀ v b : Value, Frx [W.heap.size + 1, W.heap.size + 1 + 1] W1 ((W1.setCell ⟨W.heap.size + 1, 0, none⟩ v).setCell ⟨W.heap.size + 1 + 1, 0, none⟩ b) := fun v b => (Frx.setCell _ _ _ _ _ (by simp)).trans (Frx.setCell _ _ _ _ _ (by simp))
    have hb1 : W.heap.size + 1 < W1.heap.size := by omega
    have HW2 : Hid (∀ u1 u2, W1.cell? ⟨W.heap.size + 1, 0, none⟩ = some u1 → W1.cell? ⟨W.heap.size + 1 + 1, 0, none⟩ = some u2 → bestF R ((pre ++ [x]).map Ls.c) = some x.c → KeepsFrom w3.heap.size W1 ((W1.setCell ⟨W.heap.size + 1, 0, none⟩ x.v).setCell ⟨W.heap.size + 1 + 1, 0, none⟩ (.bool true)) ∧ (KpR fun k => k = W.heap.size + 1 ∨ k = W.heap.size + 1 + 1 ∨ (w3.heap.size ≤ k ∧ k < w3.heap.size + 2)) W1 ((W1.setCell ⟨W.heap.size + 1, 0, none⟩ x.v).setCell ⟨W.heap.size + 1 + 1, 0, none⟩ (.bool true)) ∧ Frx [W.heap.size + 1, W.heap.size + 1 + 1] w3 ((W1.setCell ⟨W.heap.size + 1, 0, none⟩ x.v).setCell ⟨W.heap.size + 1 + 1, 0, none⟩ (.bool true)) ∧ KeepB ((W1.setCell ⟨W.heap.size + 1, 0, none⟩ x.v).setCell ⟨W.heap.size + 1 + 1, 0, none⟩ (.bool true)) (W.heap.size + 1) (pre ++ [x]) (bestF R ((pre ++ [x]).map Ls.c)) ∧ ((W1.setCell ⟨W.heap.size + 1, 0, none⟩ x.v).setCell ⟨W.heap.size + 1 + 1, 0, none⟩ (.bool true)).frozen? ⟨W.heap.size + 1, 0, none⟩ = false ∧ ((W1.setCell ⟨W.heap.size + 1, 0, none⟩ x.v).setCell ⟨W.heap.size + 1 + 1, 0, none⟩ (.bool true)).frozen? ⟨W.heap.size + 1 + 1, 0, none⟩ = false) := Lib.hid fun u1 u2 e1 e2 hbs => by
      have hk := hk12 x.v (.bool true)
      have z1 : ((W1.setCell ⟨W.heap.size + 1, 0, none⟩ x.v).setCell ⟨W.heap.size + 1 + 1, 0, none⟩ (.bool true)).cell? ⟨W.heap.size + 1, 0, none⟩ = some x.v := by
        rw [World.cell?_setCell_other _ _ _ _ (by simp <;> omega)]
        exact World.cell?_setCell_same' _ _ _ (by rw [e1]; rfl)
      have z2 : ((W1.setCell ⟨W.heap.size + 1, 0, none⟩ x.v).setCell ⟨W.heap.size + 1 + 1, 0, none⟩ (.bool true)).cell? ⟨W.heap.size + 1 + 1, 0, none⟩ = some (.bool true) :=
        World.cell?_setCell_same' _ _ _ (by rw [World.cell?_setCell_other _ _ _ _ (by simp <;> omega), e2]; rfl)
      refine ⟨⟨hk.size, fun k o hkk h _ => (hk.block k (Array.getElem?_eq_some_iff.1 h).1 (by simp; omega)).trans h⟩, ⟨hk.size, fun k hkk hx => hk.block k hkk (fun h => by simp at h; rcases h with h | h; exact hx (.inl h); exact hx (.inr (.inl h)))⟩, hfx.trans hk, ?_, by simpa using f1, by simpa using f2⟩
      rw [hbs]
      exact ⟨⟨x, by simp, rfl, z1⟩, z2⟩
    have hsa := @Oper.semAt_some
    clear hfx hw hsub hk12
    cases hb : bestF R (pre.map Ls.c) with
    | none =>
      rw [hb] at hkb hs2
      have HS := Lib.hid hs2
      obtain ⟨y1, y2⟩ := hkb
      clear hb hs2
      simp only [Ls.v] at HW2 ⊢
      gi_wp2
      refine ⟨fun f h => (by cases h), ?_⟩
      gi_wp2
      exact HW2.out _ _ y1 y2 HS.out
    | some L =>
      rw [hb] at hkb hs2
      have HS := Lib.hid hs2
      obtain ⟨⟨x0, hx0, hxc, y1⟩, y2⟩ := hkb
      have HX0 := Lib.hid hx0
      have HXC := Lib.hid hxc
      have HY1 := Lib.hid y1
      clear hb hs2 hx0 hxc
      simp only [Ls.v] at HW2 y1 ⊢
      by_cases hlt : x.c.length < x0.c.length
      · have hd : decide (x.c.length < x0.c.length) = true := decide_eq_true hlt
        have HLT := Lib.hid hlt
        have HCA := Lib.hid (fun w => s127_w x.a x0.a x.c.length x.cap x0.c.length x0.cap w)
        rw [hd] at HCA
        clear hd hlt
        gi_wp2_with (refine ⟨trivial, ?_⟩; gi_at_call 127; refine (CallsIn.inRound l' (callsIn_wide.2 (HCA.out _))).mono ?_; rintro r w7 ⟨rfl, rfl⟩)
        exact HW2.out _ _ y1 y2 (HS.out.trans (by rw [← HXC.out]; simp [HLT.out]))
      · have hd : decide (x.c.length < x0.c.length) = false := decide_eq_false hlt
        have HLT := Lib.hid hlt
        have HCA := Lib.hid (fun w => s127_w x.a x0.a x.c.length x.cap x0.c.length x0.cap w)
        rw [hd] at HCA
        clear hd hlt
        gi_wp2_with (refine ⟨trivial, ?_⟩; gi_at_call 127; refine (CallsIn.inRound l' (callsIn_wide.2 (HCA.out _))).mono ?_; rintro r w7 ⟨rfl, rfl⟩)
        have hE := HS.out.trans (show _ = some L by rw [← HXC.out]; simp [HLT.out])
        refine ⟨KeepsFrom.refl _ _, KpR.refl _ _, HFX.out, ?_, F1.out, F2.out⟩
        rw [hE]
        exact ⟨⟨x0, List.mem_append_left _ HX0.out, HXC.out, HY1.out⟩, y2⟩
  case done =>
    rintro xs W1 ⟨hS1, hS2⟩ ⟨hfx, hkb, f1, f2⟩ hK
    rw [hS1, bestF_filter] at hkb
    have HFX := Lib.hid hfx
    have HKK := Lib.hid hK
    have HS2 := Lib.hid hS2
    clear hfx hK hS2
    have hfrx := HFX.out
    have hmx : Tryz.prog.follows .mixedOrders = true := by kernel_rfl
    cases hb : bestF R (allLs N) with
    | none =>
      rw [hb] at hkb
      obtain ⟨y1, y2⟩ := hkb
      gi_wp2
      refine wpIn_wide.2 ?_
      go_region_law ((first | fail))
      all_goals gi_wp2
      all_goals
        obtain ⟨W9, hW9⟩ : ∃ W9, W9 = (W1.setCell ⟨W.heap.size + 1, 0, none⟩ (.slice none 0 0)).setCell ⟨W.heap.size + 1 + 1, 0, none⟩ (.bool false) := ⟨_, rfl⟩
        have hz := hfrx.size
        have h3 := HZ3.out
        have hk : Frx [W.heap.size + 1, W.heap.size + 1 + 1] W1 W9 := by rw [hW9]; exact (Frx.setCell _ _ _ _ _ (by simp)).trans (Frx.setCell _ _ _ _ _ (by simp))
        have z1 : W9.cell? ⟨W.heap.size + 1, 0, none⟩ = some (.slice none 0 0) := by
          rw [hW9, World.cell?_setCell_other _ _ _ _ (by simp <;> omega)]
          exact World.cell?_setCell_same' _ _ _ (by rw [y1]; rfl)
        have z2 : W9.cell? ⟨W.heap.size + 1 + 1, 0, none⟩ = some (.bool false) := by
          rw [hW9]
          exact World.cell?_setCell_same' _ _ _ (by rw [World.cell?_setCell_other _ _ _ _ (by simp <;> omega), y2]; rfl)
        rw [← hW9]
        have HK9 : W9.drew.heap[w3.heap.size]? = some (.deferred (some [])) := (hk.block _ (Array.getElem?_eq_some_iff.1 HKK.out).1 (by simp; omega)).trans HKK.out
        refine ⟨by simp, .inl ⟨_, _, rfl, run_takeDeferred HK9, ?_⟩⟩
        have k0 : (W9.drew.putObj w3.heap.size (.deferred none)).cell? ⟨W.heap.size + 1, 0, none⟩ = some (.slice none 0 0) := (World.cell?_of_block (w := W9) (World.putObj_heap_other (by show W.heap.size + 1 ≠ _; omega))).trans z1
        have k1 : (W9.drew.putObj w3.heap.size (.deferred none)).cell? ⟨W.heap.size + 1 + 1, 0, none⟩ = some (.bool false) := (World.cell?_of_block (w := W9) (World.putObj_heap_other (by show W.heap.size + 1 + 1 ≠ _; omega))).trans z2
        have hfin : Below W.heap.size W (W9.drew.putObj w3.heap.size (.deferred none)) := HB3.out.trans ((((hfrx.trans hk).below (n := W.heap.size) (by omega) (by intro k hk; simp at hk; omega)).drew).trans (putObj_belowR W9.drew _ _ HK9 (by omega)))
        refine ⟨.tuple #[.slice none 0 0, .bool false], by simp [results, Tryz.results125, go_sem, k0, k1], ⟨_, by rw [hb]; rfl, ?_⟩, hfin⟩
        rw [hb]
        exact rfl
    | some L =>
      rw [hb] at hkb
      obtain ⟨⟨x, hx, rfl, y1⟩, y2⟩ := hkb
      have HAT := Lib.hid (HS2.out x hx)
      simp only [Ls.v] at y1
      gi_wp2
      refine wpIn_wide.2 ?_
      go_region_law ((first | fail))
      all_goals gi_wp2
      all_goals
        obtain ⟨W9, hW9⟩ : ∃ W9, W9 = (W1.setCell ⟨W.heap.size + 1, 0, none⟩ (.slice x.a x.c.length x.cap)).setCell ⟨W.heap.size + 1 + 1, 0, none⟩ (.bool true) := ⟨_, rfl⟩
        have hz := hfrx.size
        have h3 := HZ3.out
        have hk : Frx [W.heap.size + 1, W.heap.size + 1 + 1] W1 W9 := by rw [hW9]; exact (Frx.setCell _ _ _ _ _ (by simp)).trans (Frx.setCell _ _ _ _ _ (by simp))
        have z1 : W9.cell? ⟨W.heap.size + 1, 0, none⟩ = some (.slice x.a x.c.length x.cap) := by
          rw [hW9, World.cell?_setCell_other _ _ _ _ (by simp <;> omega)]
          exact World.cell?_setCell_same' _ _ _ (by rw [y1]; rfl)
        have z2 : W9.cell? ⟨W.heap.size + 1 + 1, 0, none⟩ = some (.bool true) := by
          rw [hW9]
          exact World.cell?_setCell_same' _ _ _ (by rw [World.cell?_setCell_other _ _ _ _ (by simp <;> omega), y2]; rfl)
        rw [← hW9]
        have HK9 : W9.drew.heap[w3.heap.size]? = some (.deferred (some [])) := (hk.block _ (Array.getElem?_eq_some_iff.1 HKK.out).1 (by simp; omega)).trans HKK.out
        refine ⟨by simp, .inl ⟨_, _, rfl, run_takeDeferred HK9, ?_⟩⟩
        have k0 : (W9.drew.putObj w3.heap.size (.deferred none)).cell? ⟨W.heap.size + 1, 0, none⟩ = some (.slice x.a x.c.length x.cap) := (World.cell?_of_block (w := W9) (World.putObj_heap_other (by show W.heap.size + 1 ≠ _; omega))).trans z1
        have k1 : (W9.drew.putObj w3.heap.size (.deferred none)).cell? ⟨W.heap.size + 1 + 1, 0, none⟩ = some (.bool true) := (World.cell?_of_block (w := W9) (World.putObj_heap_other (by show W.heap.size + 1 + 1 ≠ _; omega))).trans z2
        have hfin : Below W.heap.size W (W9.drew.putObj w3.heap.size (.deferred none)) := HB3.out.trans ((((hfrx.trans hk).below (n := W.heap.size) (by omega) (by intro k hk; simp at hk; omega)).drew).trans (putObj_belowR W9.drew _ _ HK9 (by omega)))
        refine ⟨.tuple #[.slice x.a x.c.length x.cap, .bool true], by simp [results, Tryz.results125, go_sem, k0, k1], ⟨_, by rw [hb]; rfl, ?_⟩, hfin⟩
        rw [hb]
        have h9 := HAT.out.blocks (W' := W9.drew.putObj w3.heap.size (.deferred none)) (by have := hk.size; simpa using this) fun b o' ha hlt h0 => (World.putObj_heap_other (by have := HAT.out.2 b o' ha; omega)).trans (hk.block b hlt (by have := HAT.out.2 b o' ha; simp; omega))
        exact ⟨_, _, rfl, h9.1⟩
end Go.Kn
