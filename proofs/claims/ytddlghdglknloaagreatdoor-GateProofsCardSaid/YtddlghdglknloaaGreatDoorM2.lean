/- Contracts of functions that the laws of this seat call, or the evaluator of closed calls and its runs. Conditions: as each theorem states them. -/
import Derived.Test.YtddlghdglknloaaGreatDoorM1
set_option linter.unusedVariables false
set_option linter.unusedSimpArgs false
namespace Go.Kn
open Go Go.RowKit

theorem YieldAt.inR {F : Fence} {m : Nat} {P : Program} {l : Nat} {args : Array Value} {W : World} {R : Ending → World → Prop} (l' : Nat) (h : YieldAt F m P l args W R) : YieldAt (F.inRound l') m P l args W R := h

variable {F : Fence} {n : Nat} {P : Program}

/-- A range over a function whose body neither panics nor stops. -/
theorem rangeFunc_nop {α : Type} {g : Operand} {ps : Array Tmp} {assign body : Code} {Q : Exit → Act → World → Prop} {a : Act} {w : World} (af : Act → α → Act)
    (hro : F.round = none) (h1 : 1 ≤ n) {gf : Nat} {lb : Array Value} (hg : a.eval g = .func (.func gf) #[] lb) (hFg : F.fn gf) (eg : ∀ args w, (callFunc gf args).run P w = .ok (.enter gf args) w)
    {encs : α → Array Value} {Kp Wr : World → World → Prop} {S : List α → World → Prop} {Nx : List α → α → World → Prop}
    (hseq : ∀ (l : Nat) (J : List α → World → Prop) (W : World), W.heap.size = w.heap.size + 2 → Below w.heap.size w W →
      (∀ s A B, J s A → Wr A B → J s B) →
      (∀ pre x W1, Nx pre x W1 → J pre W1 → YieldAt F (n - 1 - 1) P l (encs x) W1 fun e W' => e = .returned (.bool true) ∧ J (pre ++ [x]) W' ∧ Kp W1 W') →
      J [] W → CallsIn F (n - 1) P gf (#[.func (.yield l) #[] #[]] ++ lb) W fun e W' => (∃ v, e = .returned v) ∧ ∃ xs, S xs W' ∧ J xs W')
    (hKt : ∀ {A B C : World}, Kp A B → Kp B C → Kp A C)
    (hKb : ∀ (W : World) (o' : Obj), Kp W (W.putObj (w.heap.size + 1) o'))
    (hS : ∀ xs (W : World) (o' : Obj), S xs W → S xs (W.putObj (w.heap.size + 1) o'))
    (hps : ∀ x, (encs x).size = ps.size)
    (hWr : ∀ A B, Wr A B → ∀ k, w.heap.size ≤ k → k < w.heap.size + 2 → B.heap[k]? = A.heap[k]?)
    (I : List α → World → Prop) (hIw : ∀ s A B, I s A → Wr A B → I s B) (hI : ∀ s A B, I s A → Below w.heap.size A B → I s B) (h0 : I [] w)
    (hNx : ∀ pre x (W : World) (o' : Obj), Nx pre x W → Nx pre x (W.putObj (w.heap.size + 1) o'))
    (hKr : ∀ W : World, Kp W W)
    (hassign : ∀ (l : Nat) (x : α) (W : World) (K : Act → World → Prop), (∀ a', a' = af a x → K a' W) →
      assign.wpIn (F.inRound l) (n - 1 - 1) P (Exit.then K (fun _ _ _ => False)) { tmps := (ps.zip (encs x)).foldl (fun t (p, v) => t.setIfInBounds p v) a.tmps, defers := [] } W)
    (hbody : ∀ (l : Nat) (pre : List α) (x : α) (a' : Act) (W : World), a' = af a x → w.heap.size + 2 ≤ W.heap.size → Nx pre x W → I pre W → body.wpIn (F.inRound l) (n - 1 - 1) P (onPostR w.heap.size Kp I (pre ++ [x]) W) a' W)
    (hdone : ∀ (xs : List α) (W : World), S xs W → I xs W → W.heap[w.heap.size]? = some (.deferred (some [])) → Q .normal { a with defers := { target := .collected w.heap.size, args := #[] } :: a.defers } W) :
    (Code.rangeFunc g ps assign body).wpIn F n P Q a w := by
  refine wpIn_rangeFunc fun fn hfn => ?_
  rw [hro]
  let rec' : LoopState → Loop := fun st => { state := st, pending := none, fn, tmps := a.tmps, params := ps, assign, body, defers := w.heap.size }
  have hz : ((w.alloc (.deferred (some []))).alloc (.loop (rec' .ready))).heap.size = w.heap.size + 2 := by simp
  have hBz : Below w.heap.size w ((w.alloc (.deferred (some []))).alloc (.loop (rec' .ready))) := ((Below.refl _ w).alloc (Nat.le_refl _) _).alloc (by simp) _
  have hK1 : ((w.alloc (.deferred (some []))).alloc (.loop (rec' .ready))).heap[w.heap.size]? = some (.deferred (some [])) := (Below.heap_alloc _ _ _ (by simp)).trans (World.alloc_heap_new w _)
  have hL1 : ((w.alloc (.deferred (some []))).alloc (.loop (rec' .ready))).heap[w.heap.size + 1]? = some (.loop (rec' .ready)) := by
    have := World.alloc_heap_new (w.alloc (.deferred (some []))) (.loop (rec' .ready)); rwa [World.size_alloc] at this
  refine ⟨w.heap.size + 1, [{ target := .collected w.heap.size, args := #[] }], (w.alloc (.deferred (some []))).alloc (.loop (rec' .ready)), { target := .fn (.func gf) lb, args := #[.func (.yield (w.heap.size + 1)) #[] #[]] }, (w.alloc (.deferred (some []))).alloc (.loop (rec' .ready)), gf,
    #[.func (.yield (w.heap.size + 1)) #[] #[]] ++ lb, (w.alloc (.deferred (some []))).alloc (.loop (rec' .ready)), run_enterLoop_outer _ _ _ _ _, ?_, ?_, ?_, fun _ => h1, ?_⟩
  · simp only [resolve, hg]
    simp [go_sem, rec']
  · intro f' hf'; simp [Target.leads] at hf'; subst hf'; exact hFg
  · simp [invoke, go_sem, eg]
  refine (hseq (w.heap.size + 1)
    (fun pre W => I pre W ∧ W.heap[w.heap.size + 1]? = some (.loop (rec' .ready)) ∧ W.heap[w.heap.size]? = some (.deferred (some [])))
    _ hz hBz (fun s A B h hb => ⟨hIw s A B h.1 hb, (hWr _ _ hb _ (by omega) (by omega)).trans h.2.1, (hWr _ _ hb _ (by omega) (by omega)).trans h.2.2⟩) ?_ ⟨hI _ _ _ h0 hBz, hL1, hK1⟩).mono ?_
  · rintro pre x W hnx ⟨hi, hl, hk⟩
    have hlt : w.heap.size + 1 < W.heap.size := (Array.getElem?_eq_some_iff.1 hl).1
    refine ⟨fn, _, assign, body, run_yield (P := P) (args := encs x) hl (hps x), roundIn_two hfn (hassign _ x W _ ?_)⟩
    intro a' hax
    have hla := hl
    have hka := hk
    have hlta := hlt
    have hia := hi
    have hkpa := hKr W
    refine ⟨_, run_beginRound hla rfl, ?_⟩
    have hl2 : (W.putObj (w.heap.size + 1) (.loop (rec' .busy))).heap[w.heap.size + 1]? = some (.loop (rec' .busy)) := World.putObj_heap_same hlta
    have hk2 : (W.putObj (w.heap.size + 1) (.loop (rec' .busy))).heap[w.heap.size]? = some (.deferred (some [])) := (World.putObj_heap_other (by omega)).trans hka
    have hz2 : (W.putObj (w.heap.size + 1) (.loop (rec' .busy))).heap.size = W.heap.size := by simp
    rcases hbody _ pre x a' (W.putObj (w.heap.size + 1) (.loop (rec' .busy))) hax (by omega) (hNx _ _ _ _ hnx) (hI _ _ _ hia (putObj_belowR W _ _ hla (by omega))) with hbd
    · refine .inl (wpIn_mono hbd ?_)
      intro e a3 W3 hp
      cases e with
      | normal =>
        obtain ⟨hk3, hkp3, hi3⟩ := hp
        have hl3 := hk3.same _ _ (by omega) hl2 rfl
        have hd3 := hk3.same _ _ (Nat.le_refl _) hk2 rfl
        have hlt3 := (Array.getElem?_eq_some_iff.1 hl3).1
        refine ⟨_, _, run_endRound none hl3, ⟨rfl, ⟨hI _ _ _ hi3 (putObj_belowR W3 _ _ hl3 (by omega)), World.putObj_heap_same hlt3, (World.putObj_heap_other (by omega)).trans hd3⟩, hKt hkpa (hKt (hKt (hKb W _) hkp3) (hKb W3 _))⟩⟩
      | panic ch => exact hp.elim
      | ret => exact hp.elim
      | exit id => exact hp.elim
      | goto t => exact hp.elim
      | outgrown => exact hp.elim
  · rintro e W2 ⟨⟨v, rfl⟩, xs, hS2, hi, hl, hk⟩
    · exact ⟨none, _, run_endLoop (P := P) hl (by simp [rec']), hdone xs _ (hS _ _ _ hS2) (hI _ _ _ hi (putObj_belowR W2 _ _ hl (by omega))) ((World.putObj_heap_other (by omega)).trans hk)⟩

end Go.Kn

namespace Go.Kn
open Go Go.Proofs Go.RowKit

set_option maxRecDepth 100000 in
set_option maxHeartbeats 4000000 in
/-- the iterator that those hands back: the lists that are right (right: firstCut$1) -/
theorem those_it (R : List Nat → Bool) (M : Nat) (X : Nat → Prop) (hX : ∀ k, X k → k < M) (l n cn Bn Br : Nat) (cap : Value) (na : Option Addr) (N : List Nat) (J : List Ls → World → Prop) (W : World) (hm : M ≤ W.heap.size) (hB1 : Bn < W.heap.size) (hR1 : Br < W.heap.size) (hR2 : ¬ X Br) (hcn : W.cell? ⟨Bn, 0, none⟩ = some (.slice na n cn)) (hcr : W.cell? ⟨Br, 0, none⟩ = some (.func (.func 116) #[] #[cap]))
    (hnum : Hid (NumK W X na n N)) (hnl : N.length = n) (hn20 : n ≤ 20) (hJ : Hid (∀ s A B, J s A → Below M A B → J s B))
    (hRi : Hid (∀ x W1, AtL W1 W.heap.size x → x.c.Sublist N → KpR X W W1 → Calls Tryz.prog 116 #[x.v, cap] W1 fun r w' => r = .returned (.bool (R x.c)) ∧ Below W1.heap.size W1 w'))
    (hY : Hid (∀ k pre x W1, AtL W1 W.heap.size x → x.c.Sublist N → R x.c = true → J pre W1 → YieldAt Fence.wide k Tryz.prog l #[x.v] W1 fun e W' => e = .returned (.bool true) ∧ J (pre ++ [x]) W' ∧ KpR X W1 W')) (h0 : Hid (J [] W)) :
    CallsIn Fence.wide 6 Tryz.prog 148 (#[.func (.yield l) #[] #[]] ++ #[.pointer (some ⟨Bn, 0, none⟩), .pointer (some ⟨Br, 0, none⟩)]) W fun e W' => (∃ v, e = .returned v) ∧ ∃ xs, (xs.map Ls.c = (allLs N).filter R ∧ ∀ x ∈ xs, AtL W' W.heap.size x) ∧ J xs W' := by
  obtain ⟨W0, hW0⟩ : ∃ W0, W0 = W.alloc (.cells #[.func (.yield l) #[] #[]] 83) := ⟨_, rfl⟩
  have hb0 : Below W.heap.size W W0 := by rw [hW0]; exact (Below.refl _ _).alloc (Nat.le_refl _) _
  have hz0 : W0.heap.size = W.heap.size + 1 := by rw [hW0]; simp
  have hy0 : W0.cell? ⟨W.heap.size, 0, none⟩ = some (.func (.yield l) #[] #[]) := by rw [hW0]; exact al_top rfl _ _
  have g1 : W0.cell? ⟨Bn, 0, none⟩ = some (.slice na n cn) := (hb0.cell (p := ⟨Bn, 0, none⟩) hB1).trans hcn
  have g2 : W0.cell? ⟨Br, 0, none⟩ = some (.func (.func 116) #[] #[cap]) := (hb0.cell (p := ⟨Br, 0, none⟩) hR1).trans hcr
  obtain ⟨w6, hw6⟩ : ∃ w6, w6 = W0.alloc (.cells #[.slice na n cn] 26) := ⟨_, rfl⟩
  have hb6 : Below W0.heap.size W0 w6 := by rw [hw6]; exact (Below.refl _ _).alloc (Nat.le_refl _) _
  have hz6 : w6.heap.size = W.heap.size + 2 := by rw [hw6]; simp [hz0]
  have HNB : Hid (w6.cell? ⟨W0.heap.size, 0, none⟩ = some (.slice na n cn)) := Lib.hid (by rw [hw6]; exact al_top rfl _ _)
  have HBY : Hid (w6.cell? ⟨W.heap.size, 0, none⟩ = some (.func (.yield l) #[] #[])) := Lib.hid (((bcell hb6).1 _ _ (by omega)).trans hy0)
  have HBR : Hid (w6.cell? ⟨Br, 0, none⟩ = some (.func (.func 116) #[] #[cap])) := Lib.hid (((bcell hb6).1 _ _ (by omega)).trans g2)
  have HB6 : Hid (Below W.heap.size W w6) := Lib.hid (hb0.trans (hb6.mono hb0.size))
  have HL : Hid (Calls Tryz.prog 71 #[.slice na n cn] W0 fun e w' => e = .returned (.func (.func 119) #[] #[.pointer (some ⟨W0.heap.size, 0, none⟩)]) ∧ w' = w6) := Lib.hid (by rw [hw6]; exact lists_w na n cn W0)
  have HZ0 := Lib.hid hz0
  have HZ6 := Lib.hid hz6
  have HM := Lib.hid hm
  have HX := Lib.hid hX
  have HRR := Lib.hid (And.intro hR1 hR2)
  clear hb0 hb6 hy0 hcn hcr hw6 hm hX hR2 hz0 hz6
  rw [hW0] at g1 g2
  refine callsIn_of_wp_marks Tryz.func148 rfl trivial ?_ rfl
  simp only [Tryz.ntmps148, List.size_toArray, List.length_cons, List.length_nil, Nat.reduceAdd, Nat.reduceSub, Array.replicate_succ, Array.replicate_zero, List.push_toArray, List.append_toArray, List.nil_append, List.cons_append]
  gi_wp2_with (refine ⟨trivial, ?_⟩; gi_at_call 71; rw [← hW0]; refine (callsIn_wide.2 HL.out).mono ?_; rintro r w5 ⟨rfl, rfl⟩; clear g1 g2 hW0)
  refine rangeFunc_nop (α := Ls) (fun a0 x => { tmps := (a0.tmps.setIfInBounds 7 x.v).setIfInBounds 4 x.v, defers := [] }) (encs := fun x : Ls => #[x.v]) (Kp := KpR fun k => X k ∨ (w5.heap.size ≤ k ∧ k < w5.heap.size + 2)) (Wr := Below (w5.heap.size + 2)) (S := fun xs W1 => xs.map Ls.c = allLs N ∧ ∀ x ∈ xs, AtL W1 (w5.heap.size + 2) x) (Nx := fun _ x W => AtL W (w5.heap.size + 2) x ∧ x.c.Sublist N) rfl (by decide) (gf := 119) (lb := #[.pointer (some ⟨W0.heap.size, 0, none⟩)]) rfl trivial (enters_of Tryz.func119 (by kernel_rfl) rfl)
    ?seq (fun h k => h.trans k) (fun W o => KpR.putObj _ _ _ _ (.inr ⟨by omega, by omega⟩)) (fun xs W1 o h => ⟨h.1, fun x hx => (h.2 x hx).blocks (by simp) fun b o' ha hlt h0 => World.putObj_heap_other (by have := (h.2 x hx).2 b o' ha; omega)⟩) (fun _ => rfl) (fun A B h k h1 h2 => h.block k h2) (fun pre W1 => J (pre.filter fun x => R x.c) W1 ∧ KpR X w5 W1) ?iw ?ib ⟨hJ.out _ _ _ h0.out (HB6.out.mono HM.out), KpR.refl _ _⟩
    ?nx (fun W => KpR.refl _ _) ?assign ?body ?done
  case seq =>
    intro l' J' W' hz hb hWr hY' h0'
    have h6 := HZ6.out
    have h00 := HZ0.out
    have hMM := HM.out
    refine (lists_it (w5.heap.size + 2) (fun k => X k ∨ (w5.heap.size ≤ k ∧ k < w5.heap.size + 2)) (fun k h => by rcases h with h | h; (have := HX.out k h; omega); omega) l' n cn W0.heap.size na N J' (fun _ _ => False) W' (by omega) (by omega) (fun h => by rcases h with h | h; (have := HX.out _ h; omega); omega) ((hb.cell (p := ⟨W0.heap.size, 0, none⟩) (by show W0.heap.size < _; omega)).trans HNB.out) ?_ hnl hn20 hWr (fun k pre x W1 hx hs hj => yieldAt_any k ((hY' pre x W1 ⟨by rw [← hz]; exact hx, hs⟩ hj).mono fun e w h => .inl h)) h0').mono ?_
    · rcases hnum.out with h | ⟨A, O, ha, hA, hk, hN⟩
      · exact .inl h
      · exact .inr ⟨A, O, ha, by omega, fun h => by rcases h with h | h; exact hk h; omega, hN.below hA (HB6.out.trans (hb.mono (by omega)))⟩
    · rintro r W'' (⟨hv, xs, ⟨h1, h2⟩, h3⟩ | ⟨_, _, h⟩)
      · exact ⟨hv, xs, ⟨h1, fun x hx => by rw [← hz]; exact h2 x hx⟩, h3⟩
      · exact h.elim
  case iw =>
    rintro pre A' B' ⟨h1, h2⟩ hb
    exact ⟨hJ.out _ _ _ h1 (hb.mono (by have := HM.out; have := HZ6.out; omega)), Nat.le_trans h2.1 hb.size, fun k hk hx => (hb.block k (by omega)).trans (h2.2 k hk hx)⟩
  case ib =>
    rintro pre A' B' ⟨h1, h2⟩ hb
    exact ⟨hJ.out _ _ _ h1 (hb.mono (by have := HM.out; have := HZ6.out; omega)), Nat.le_trans h2.1 hb.size, fun k hk hx => (hb.block k (by omega)).trans (h2.2 k hk hx)⟩
  case nx =>
    rintro pre x W1 o ⟨h1, h2⟩
    exact ⟨h1.blocks (by simp) fun b o' ha hlt h0 => World.putObj_heap_other (by have := h1.2 b o' ha; omega), h2⟩
  case assign =>
    rintro l' x W1 K hK
    have hsa := @Oper.semAt_some
    gi_wp2
  case body =>
    rintro l' pre x a' W1 ha hw ⟨hx, hsub⟩ ⟨hj, hkp⟩
    simp only [List.setIfInBounds_toArray, List.set_cons_zero, List.set_cons_succ] at ha
    subst ha
    have h6 := HZ6.out
    have hMM := HM.out
    have hrr := HRR.out
    have hcl : ∀ b, b < w5.heap.size → ¬ X b → W1.cell? ⟨b, 0, none⟩ = w5.cell? ⟨b, 0, none⟩ := fun b hb hx => by unfold World.cell?; rw [hkp.2 b hb hx]
    have y1 := (hcl Br (by omega) hrr.2).trans HBR.out
    have y2 := (hcl W.heap.size (by omega) (fun h => by have := HX.out _ h; omega)).trans HBY.out
    have hxW : AtL W1 W.heap.size x := hx.low (by omega)
    have HR := Lib.hid (hRi.out x W1 hxW hsub ((KpR.of_below HB6.out).trans hkp))
    have hsz : W.heap.size < W1.heap.size := by omega
    have HYY := hY
    have HXW := Lib.hid hxW
    have HSUB := Lib.hid hsub
    have HJJ := Lib.hid hj
    have HKP := Lib.hid hkp
    have HHW := Lib.hid hw
    have HSZ := Lib.hid hsz
    have hsa := @Oper.semAt_some
    clear hcl hx hsub hj hkp hxW hrr hw
    cases hq : R x.c with
    | false =>
      rw [hq] at HR
      have HQ := Lib.hid hq
      clear hq
      gi_wp2_with (refine ⟨trivial, ?_⟩; gi_at_call 116; refine (CallsIn.inRound l' (callsIn_wide.2 HR.out)).mono ?_; rintro r w7 ⟨rfl, hv7⟩; have HV7 := Lib.hid hv7; clear hv7)
      refine ⟨fun f h => (by cases h), ?_⟩
      gi_wp2
      refine ⟨keeps_of_below HV7.out, KpR.of_below HV7.out, ?_, HKP.out.trans (KpR.of_below HV7.out)⟩
      have e : (pre ++ [x]).filter (fun x => R x.c) = pre.filter fun x => R x.c := by rw [List.filter_append]; simp [HQ.out]
      rw [e]
      exact hJ.out _ _ _ HJJ.out (HV7.out.mono (by have := HHW.out; omega))
    | true =>
      rw [hq] at HR
      have HQ := Lib.hid hq
      clear hq
      gi_wp2_with (first
        | (refine ⟨trivial, ?_⟩; gi_at_call 116; refine (CallsIn.inRound l' (callsIn_wide.2 HR.out)).mono ?_; rintro r w7 ⟨rfl, hv7⟩; have y2' := (hv7.cell (p := ⟨W.heap.size, 0, none⟩) HSZ.out).trans y2; have HV7 := Lib.hid hv7; clear hv7 y1 y2; obtain ⟨fn, tmps, assign, body, hy, hR⟩ := YieldAt.inR l' (HYY.out 3 _ x w7 ⟨HXW.out.1.below HV7.out, HXW.out.2⟩ HSUB.out HQ.out (hJ.out _ _ _ HJJ.out (HV7.out.mono (by have := HHW.out; omega)))))
        | (refine hR.mono ?_; clear hR; rintro e W2 ⟨rfl, hJ2, hkp2⟩; have HJ2 := Lib.hid hJ2; have HK2 := Lib.hid hkp2; clear hJ2 hkp2))
      have hk2 : KpR X W1 W2 := (KpR.of_below HV7.out).trans HK2.out
      refine ⟨⟨hk2.1, fun k o hk h _ => (hk2.2 k (Array.getElem?_eq_some_iff.1 h).1 (fun hx => by have := HX.out k hx; omega)).trans h⟩, ⟨hk2.1, fun k hk hx => hk2.2 k hk (fun h => hx (.inl h))⟩, ?_, HKP.out.trans hk2⟩
      have e : (pre ++ [x]).filter (fun x => R x.c) = (pre.filter fun x => R x.c) ++ [x] := by rw [List.filter_append]; simp [HQ.out]
      rw [e]
      exact HJ2.out
  case done =>
    rintro xs W1 hS ⟨hj, hkp⟩ hK
    gi_wp2
    refine ⟨by simp, .inl ⟨_, _, rfl, run_takeDeferred hK, ?_⟩⟩
    refine ⟨.tuple #[], by simp [results, Tryz.results148, go_sem], ⟨_, rfl⟩, xs.filter fun x => R x.c, ⟨?_, fun x hx => ?_⟩, hJ.out _ _ _ hj (putObj_belowR W1 _ _ hK (by have := HM.out; have := HZ6.out; omega))⟩
    · rw [← hS.1]
      clear hS hj
      induction xs with
      | nil => rfl
      | cons a t ih => simp only [List.filter_cons, List.map_cons]; split <;> simp [ih]
    · have h1 := hS.2 x (List.mem_filter.1 hx).1
      have h6 := HZ6.out
      exact (h1.blocks (by simp) fun b o' ha hlt h0 => World.putObj_heap_other (by have := h1.2 b o' ha; omega)).low (by omega)
end Go.Kn
