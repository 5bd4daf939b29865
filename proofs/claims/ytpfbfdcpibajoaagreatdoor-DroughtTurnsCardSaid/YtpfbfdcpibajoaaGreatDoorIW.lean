/- Contracts of functions that the laws of this seat call, or the evaluator of closed calls and its runs. Conditions: as each theorem states them. -/
import Derived.Test.YtpfbfdcpibajoaaGreatDoorHU
import Derived.Test.YtpfbfdcpibajoaaGreatDoorHX
set_option linter.unusedVariables false
set_option linter.unusedSimpArgs false
namespace Go.Kn
open Go Go.RowKit

variable {F : Fence} {n : Nat} {P : Program}

/-- How a round's body may be left: it goes on, or the loop is left. -/
def onPostS {α : Type} (B : Nat) (Kp : World → World → Prop) (I : List α → World → Prop) (Ix : Code → World → Prop) (xs : List α) (W : World) : Exit → Act → World → Prop
  | .normal, _, W' => KeepsFrom B W W' ∧ Kp W W' ∧ I xs W'
  | .ret, _, W' => KeepsFrom B W W' ∧ Ix .ret W'
  | .exit id, _, W' => KeepsFrom B W W' ∧ Ix (.exit id) W'
  | .goto t, _, W' => KeepsFrom B W W' ∧ Ix (.goto t) W'
  | .panic _, _, _ => False
  | .outgrown, _, _ => False

/-- A range over a function whose iterator writes its own blocks, and whose body may leave the loop. -/
theorem rangeFunc_st {α : Type} {g : Operand} {ps : Array Tmp} {assign body : Code} {Q : Exit → Act → World → Prop} {a : Act} {w : World} (af : Act → α → Act)
    (hro : F.round = none) (h1 : 1 ≤ n) {gf : Nat} {lb : Array Value} (hg : a.eval g = .func (.func gf) #[] lb) (hFg : F.fn gf) (eg : ∀ args w, (callFunc gf args).run P w = .ok (.enter gf args) w)
    {encs : α → Array Value} {Kp Wr : World → World → Prop} {S : List α → World → Prop} {Nx : List α → α → Prop}
    (hseq : ∀ (l : Nat) (J : List α → World → Prop) (Js : World → Prop) (W : World), W.heap.size = w.heap.size + 2 → Below w.heap.size w W →
      (∀ s A B, J s A → Wr A B → J s B) →
      (∀ pre x W1, Nx pre x → J pre W1 → YieldAt F (n - 1 - 1) P l (encs x) W1 fun e W' => (e = .returned (.bool true) ∧ J (pre ++ [x]) W' ∧ Kp W1 W') ∨ (e = .returned (.bool false) ∧ Js W')) →
      J [] W → CallsIn F (n - 1) P gf (#[.func (.yield l) #[] #[]] ++ lb) W fun e W' => (∃ v, e = .returned v) ∧ ((∃ xs, S xs W' ∧ J xs W') ∨ Js W'))
    (hKt : ∀ {A B C : World}, Kp A B → Kp B C → Kp A C)
    (hKb : ∀ (W : World) (o' : Obj), Kp W (W.putObj (w.heap.size + 1) o'))
    (hS : ∀ xs (W : World) (o' : Obj), S xs W → S xs (W.putObj (w.heap.size + 1) o'))
    (hps : ∀ x, (encs x).size = ps.size)
    (hWr : ∀ A B, Wr A B → ∀ k, w.heap.size ≤ k → k < w.heap.size + 2 → B.heap[k]? = A.heap[k]?)
    (I : List α → World → Prop) (hIw : ∀ s A B, I s A → Wr A B → I s B) (hI : ∀ s A B, I s A → Below w.heap.size A B → I s B) (h0 : I [] w)
    (Ix : Code → World → Prop) (hIx : ∀ c A B, Ix c A → Below w.heap.size A B → Ix c B)
    (hassign : ∀ (l : Nat) (x : α) (W : World) (K : Act → World → Prop), (∀ a', a' = af a x → K a' W) →
      assign.wpIn (F.inRound l) (n - 1 - 1) P (Exit.then K (fun _ _ _ => False)) { tmps := (ps.zip (encs x)).foldl (fun t (p, v) => t.setIfInBounds p v) a.tmps, defers := [] } W)
    (hKr : ∀ W : World, Kp W W)
    (hbody : ∀ (l : Nat) (pre : List α) (x : α) (a' : Act) (W : World), a' = af a x → w.heap.size + 2 ≤ W.heap.size → Nx pre x → I pre W → body.wpIn (F.inRound l) (n - 1 - 1) P (onPostS w.heap.size Kp I Ix (pre ++ [x]) W) a' W)
    (hdone : ∀ (xs : List α) (W : World), S xs W → I xs W → W.heap[w.heap.size]? = some (.deferred (some [])) → Q .normal { a with defers := { target := .collected w.heap.size, args := #[] } :: a.defers } W)
    (hstop : ∀ (c : Code) (W : World), Ix c W → W.heap[w.heap.size]? = some (.deferred (some [])) → c.wpIn F n P Q { a with defers := { target := .collected w.heap.size, args := #[] } :: a.defers } W) :
    (Code.rangeFunc g ps assign body).wpIn F n P Q a w := by
  refine wpIn_rangeFunc fun fn hfn => ?_
  rw [hro]
  let rec' : LoopState → Option Code → Loop := fun st pe => { state := st, pending := pe, fn, tmps := a.tmps, params := ps, assign, body, defers := w.heap.size }
  have hz : ((w.alloc (.deferred (some []))).alloc (.loop (rec' .ready none))).heap.size = w.heap.size + 2 := by simp
  have hBz : Below w.heap.size w ((w.alloc (.deferred (some []))).alloc (.loop (rec' .ready none))) := ((Below.refl _ w).alloc (Nat.le_refl _) _).alloc (by simp) _
  have hK1 : ((w.alloc (.deferred (some []))).alloc (.loop (rec' .ready none))).heap[w.heap.size]? = some (.deferred (some [])) := (Below.heap_alloc _ _ _ (by simp)).trans (World.alloc_heap_new w _)
  have hL1 : ((w.alloc (.deferred (some []))).alloc (.loop (rec' .ready none))).heap[w.heap.size + 1]? = some (.loop (rec' .ready none)) := by
    have := World.alloc_heap_new (w.alloc (.deferred (some []))) (.loop (rec' .ready none)); rwa [World.size_alloc] at this
  refine ⟨w.heap.size + 1, [{ target := .collected w.heap.size, args := #[] }], (w.alloc (.deferred (some []))).alloc (.loop (rec' .ready none)), { target := .fn (.func gf) lb, args := #[.func (.yield (w.heap.size + 1)) #[] #[]] }, (w.alloc (.deferred (some []))).alloc (.loop (rec' .ready none)), gf,
    #[.func (.yield (w.heap.size + 1)) #[] #[]] ++ lb, (w.alloc (.deferred (some []))).alloc (.loop (rec' .ready none)), run_enterLoop_outer _ _ _ _ _, ?_, ?_, ?_, fun _ => h1, ?_⟩
  · simp only [resolve, hg]
    simp [go_sem, rec']
  · intro f' hf'; simp [Target.leads] at hf'; subst hf'; exact hFg
  · simp [invoke, go_sem, eg]
  refine (hseq (w.heap.size + 1)
    (fun pre W => I pre W ∧ W.heap[w.heap.size + 1]? = some (.loop (rec' .ready none)) ∧ W.heap[w.heap.size]? = some (.deferred (some [])))
    (fun W => ∃ c, Ix c W ∧ W.heap[w.heap.size + 1]? = some (.loop (rec' .done (some c))) ∧ W.heap[w.heap.size]? = some (.deferred (some [])))
    _ hz hBz (fun s A B h hb => ⟨hIw s A B h.1 hb, (hWr _ _ hb _ (by omega) (by omega)).trans h.2.1, (hWr _ _ hb _ (by omega) (by omega)).trans h.2.2⟩) ?_ ⟨hI _ _ _ h0 hBz, hL1, hK1⟩).mono ?_
  · rintro pre x W hnx ⟨hi, hl, hk⟩
    have hlt : w.heap.size + 1 < W.heap.size := (Array.getElem?_eq_some_iff.1 hl).1
    refine ⟨fn, _, assign, body, run_yield (P := P) (args := encs x) hl (hps x), roundIn_two hfn (hassign _ x W _ ?_)⟩
    intro a' ha'
    refine ⟨_, run_beginRound hl rfl, ?_⟩
    have hl2 : (W.putObj (w.heap.size + 1) (.loop (rec' .busy none))).heap[w.heap.size + 1]? = some (.loop (rec' .busy none)) := World.putObj_heap_same hlt
    have hk2 : (W.putObj (w.heap.size + 1) (.loop (rec' .busy none))).heap[w.heap.size]? = some (.deferred (some [])) := (World.putObj_heap_other (by omega)).trans hk
    have hz2 : (W.putObj (w.heap.size + 1) (.loop (rec' .busy none))).heap.size = W.heap.size := by simp
    refine .inl (wpIn_mono (hbody _ pre x a' (W.putObj (w.heap.size + 1) (.loop (rec' .busy none))) ha' (by omega) hnx (hI _ _ _ hi (putObj_belowR W _ _ hl (by omega)))) ?_)
    have fin : ∀ (jump : Option Code) (W3 : World), KeepsFrom w.heap.size (W.putObj (w.heap.size + 1) (.loop (rec' .busy none))) W3 →
        (Instr.endRound (w.heap.size + 1) jump).run P W3 = .ok (.bool jump.isNone) (W3.putObj (w.heap.size + 1) (.loop (rec' (if jump.isNone then .ready else .done) jump))) ∧
        W3.heap[w.heap.size + 1]? = some (.loop (rec' .busy none)) ∧
        (W3.putObj (w.heap.size + 1) (.loop (rec' (if jump.isNone then .ready else .done) jump))).heap[w.heap.size + 1]? = some (.loop (rec' (if jump.isNone then .ready else .done) jump)) ∧
        (W3.putObj (w.heap.size + 1) (.loop (rec' (if jump.isNone then .ready else .done) jump))).heap[w.heap.size]? = some (.deferred (some [])) := fun jump W3 hk3 => by
      have hl3 := hk3.same _ _ (by omega) hl2 rfl
      have := run_endRound (P := P) jump hl3
      exact ⟨this, hl3, World.putObj_heap_same (Array.getElem?_eq_some_iff.1 hl3).1, (World.putObj_heap_other (by omega)).trans (hk3.same _ _ (Nat.le_refl _) hk2 rfl)⟩
    intro e a3 W3 hp
    cases e with
    | normal =>
      obtain ⟨hk3, hkp3, hi3⟩ := hp
      obtain ⟨hr, hl3, hl4, hk4⟩ := fin none W3 hk3
      exact ⟨_, _, hr, .inl ⟨rfl, ⟨hI _ _ _ hi3 (putObj_belowR W3 _ _ hl3 (by omega)), hl4, hk4⟩, hKt (hKt (hKb W _) hkp3) (hKb W3 _)⟩⟩
    | ret =>
      obtain ⟨hk3, hi3⟩ := hp
      obtain ⟨hr, hl3, hl4, hk4⟩ := fin (some .ret) W3 hk3
      exact ⟨_, _, hr, .inr ⟨rfl, .ret, hIx _ _ _ hi3 (putObj_belowR W3 _ _ hl3 (by omega)), hl4, hk4⟩⟩
    | exit id =>
      obtain ⟨hk3, hi3⟩ := hp
      obtain ⟨hr, hl3, hl4, hk4⟩ := fin (some (.exit id)) W3 hk3
      exact ⟨_, _, hr, .inr ⟨rfl, .exit id, hIx _ _ _ hi3 (putObj_belowR W3 _ _ hl3 (by omega)), hl4, hk4⟩⟩
    | goto t =>
      obtain ⟨hk3, hi3⟩ := hp
      obtain ⟨hr, hl3, hl4, hk4⟩ := fin (some (.goto t)) W3 hk3
      exact ⟨_, _, hr, .inr ⟨rfl, .goto t, hIx _ _ _ hi3 (putObj_belowR W3 _ _ hl3 (by omega)), hl4, hk4⟩⟩
    | panic ch => exact hp.elim
    | outgrown => exact hp.elim
  · rintro e W2 ⟨⟨v, rfl⟩, (⟨xs, hS2, hi, hl, hk⟩ | ⟨c, hi, hl, hk⟩)⟩
    · exact ⟨none, _, run_endLoop (P := P) hl (by simp [rec']), hdone xs _ (hS _ _ _ hS2) (hI _ _ _ hi (putObj_belowR W2 _ _ hl (by omega))) ((World.putObj_heap_other (by omega)).trans hk)⟩
    · exact ⟨some c, _, run_endLoop (P := P) hl (by simp [rec']), hstop c _ (hIx _ _ _ hi (putObj_belowR W2 _ _ hl (by omega))) ((World.putObj_heap_other (by omega)).trans hk)⟩
end Go.Kn

namespace Go.Kn
open Go Go.Proofs Go.RowKit

set_option maxRecDepth 100000 in
set_option maxHeartbeats 2000000 in
/-- the iterator that goes up from a node -/
theorem up_s (f : Int) (ln lo cn u nb tb A O l : Nat) (na : Option Addr) (N : Nat → N2) (U : Nat → O3) (bs : List Nat) (HR : Hid (TreeP f ln lo N U)) (hu : u ≤ ln)
    (J : List Nat → World → Prop) (Js : World → Prop) (hna : 1 ≤ ln → na = some ⟨A, O, none⟩) (hbs : nb ∈ bs ∧ tb ∈ bs ∧ (1 ≤ ln → A ∈ bs)) (hnt : nb ≠ tb) (hnA : 1 ≤ ln → nb ≠ A)
    (hJ : ∀ s W v, J s W → J s (W.setCell ⟨nb, 0, none⟩ v))
    (hY : ∀ (pre : List Nat) (x : Nat) W, (∃ post, pre ++ x :: post = path N u) → J pre W → YieldAt Fence.wide 4 Tryz.prog l #[.int .i64 (x : Nat)] W fun e W' => (e = .returned (.bool true) ∧ J (pre ++ [x]) W' ∧ KpB bs W W') ∨ (e = .returned (.bool false) ∧ Js W'))
    (W : World) (hn : W.cell? ⟨nb, 0, none⟩ = some (.int .i64 (u : Int))) (hf : W.frozen? ⟨nb, 0, none⟩ = false) (ht : W.cell? ⟨tb, 1, none⟩ = some (.slice na ln cn)) (hN : 1 ≤ ln → NdAt W A O ln N) (h0 : J [] W) :
    CallsIn Fence.wide 5 Tryz.prog 123 #[.func (.yield l) #[] #[], .pointer (some ⟨nb, 0, none⟩), .pointer (some ⟨tb, 0, none⟩)] W fun e W' => (∃ v, e = .returned v) ∧ ((∃ xs, xs = path N u ∧ J xs W') ∨ Js W') := by
  have q1 := HR.out.l6
  have HJ := Lib.hid hJ
  have HNN := Lib.hid hN
  have HNA := Lib.hid hna
  have HNB := Lib.hid hnA
  have HBS := Lib.hid hbs
  have HY := Lib.hid hY
  clear hJ hN hna hnA hbs hY
  refine callsIn_of_wp Tryz.func123 rfl trivial ?_ rfl
  simp only [Tryz.ntmps123, List.size_toArray, List.length_cons, List.length_nil, Nat.reduceAdd, Nat.reduceSub, Array.replicate_succ, Array.replicate_zero, List.push_toArray, List.append_toArray, List.nil_append, List.cons_append]
  gi_wp2
  gi_loopw [4] (fun _ wr => ∃ (n : Nat) (pre : List Nat), n ≤ ln ∧ pre ++ path N n = path N u ∧ J pre wr ∧ wr.cell? ⟨nb, 0, none⟩ = some (.int .i64 (n : Int)) ∧ wr.frozen? ⟨nb, 0, none⟩ = false ∧ wr.cell? ⟨tb, 1, none⟩ = some (.slice na ln cn) ∧ (1 ≤ ln → NdAt wr A O ln N))
    (fun _ wr => match wr.cell? ⟨nb, 0, none⟩ with | some v => (intOf v).toNat | none => 0)
  case atStart => exact ⟨u, [], hu, rfl, h0, hn, hf, ht, HNN.out⟩
  case round =>
    obtain ⟨n, pre, hnl, hpre, hJs, c0, c1, c2, c3⟩ := hrel
    obtain ⟨fn, tmps, assign, body, hy, hR⟩ := HY.out pre n wr (by obtain ⟨tl, e⟩ := path_head HR.out hnl; exact ⟨tl, by rw [← e]; exact hpre⟩) hJs
    have HP := Lib.hid hpre
    have HC3 := Lib.hid c3
    have HC0 := Lib.hid c0
    clear hJs hpre c3
    cases n with
    | zero =>
      have hy' : (Instr.yield l #[.int .i64 0]).run Tryz.prog wr = .ok (.round l fn tmps assign body) wr := hy
      gi_wp2
      refine hR.mono ?_
      rintro e W3 (⟨rfl, hJ3, hk3⟩ | ⟨rfl, hp3⟩)
      · have d0 := (hk3 nb HBS.out.1 0).1.trans c0
        gi_wp2
        go_end0
        exact ⟨⟨_, rfl⟩, .inl ⟨_, rfl, by rw [← HP.out]; exact hJ3⟩⟩
      · gi_wp2
        go_end0
        exact ⟨⟨_, rfl⟩, .inr hp3⟩
    | succ k =>
      obtain ⟨p, hp⟩ : ∃ p : Nat, (N k).p.toNat = p := ⟨_, rfl⟩
      have hpk := (tree_n HR.out (show k < ln by omega)).1
      have hp1 : (N k).p = (p : Int) := by omega
      have hp2 : p ≤ k := by omega
      have hpath : path N (k + 1) = (k + 1) :: path N p := by rw [path_succ HR.out (show k < ln by omega), hp]
      have HPA := Lib.hid hpath
      have hna := HNA.out (by omega)
      rw [hna] at c2
      have hN3 := HC3.out (by omega)
      have hAin := HBS.out.2.2 (by omega)
      have n1 : (0 : Int) ≤ (k : Int) := by omega
      have n2 : (k : Int) < (ln : Int) := by omega
      have n0 : ¬ (k : Int) + 1 = 0 := by omega
      have n00 : ((k : Int) + 1 == 0) = false := by simp; omega
      have hw : wrap64 ((k : Int) + 1 - 1) = (k : Int) := by unfold wrap64; omega
      have hw2 : (k : Int) + 1 - 1 = (k : Int) := by omega
      have hy' : (Instr.yield l #[.int .i64 ((k : Int) + 1)]).run Tryz.prog wr = .ok (.round l fn tmps assign body) wr := hy
      have HAI := Lib.hid hAin
      clear hpath hp hpk hna hAin
      have HN3 := Lib.hid hN3
      clear hN3
      gi_wp2
      refine hR.mono ?_
      rintro e W3 (⟨rfl, hJ3, hk3⟩ | ⟨rfl, hp3⟩)
      · have d0 := (hk3 nb HBS.out.1 0).1.trans c0
        have d1 := (hk3 nb HBS.out.1 0).2.trans c1
        have d2 := (hk3 tb HBS.out.2.1 1).1.trans c2
        have d3 : NdAt W3 A O ln N := fun i hi => ⟨(hk3 A HAI.out _).1.trans (HN3.out i hi).1, (hk3 A HAI.out _).1.trans (HN3.out i hi).2⟩
        have d4 := (d3 k (by omega)).1
        rw [hp1] at d4
        have HD3 := Lib.hid d3
        have HJ3 := Lib.hid hJ3
        clear d3 hJ3 hk3 c0 c1 c2
        gi_wp2
        have g0 : (W3.setCell ⟨nb, 0, none⟩ (.int .i64 (p : Int))).cell? ⟨nb, 0, none⟩ = some (.int .i64 (p : Int)) := World.cell?_setCell_same' _ _ _ (by rw [d0]; rfl)
        have G0 := Lib.hid g0
        go_roundw
        case rel =>
          refine ⟨p, pre ++ [k + 1], by omega, by rw [← HP.out, HPA.out]; simp, HJ.out _ _ _ HJ3.out, g0, ?_, ?_, fun _ i hi => ?_⟩
          · rw [World.frozen?_setCell]; exact d1
          · rw [World.cell?_setCell_other _ _ _ _ (nbb hnt), d2, HNA.out (by omega)]
          · rw [World.cell?_setCell_other _ _ _ _ (nbb (HNB.out (by omega))), World.cell?_setCell_other _ _ _ _ (nbb (HNB.out (by omega)))]; exact HD3.out i hi
        case measure =>
          have h0 := HC0.out
          have g1 := G0.out
          simp only [h0, g1, intOf]
          omega
      · gi_wp2
        go_end0
        exact ⟨⟨_, rfl⟩, .inr hp3⟩
end Go.Kn

namespace Go.Kn
open Go Go.Proofs Go.RowKit

/-- what the classes a to b get -/
def totT (U : Nat → O3) (s : Nat → Int) (a b : Int) (k : Nat) : Int := sm (fun i => if a ≤ (U i).k ∧ (U i).k ≤ b then s i else 0) k
theorem totT_bd {U : Nat → O3} {s : Nat → Int} {a b : Int} : ∀ k, (∀ i, i < k → 0 ≤ s i ∧ s i ≤ 200) → 0 ≤ totT U s a b k ∧ totT U s a b k ≤ 200 * (k : Int)
  | 0, _ => by simp [totT, sm]
  | k + 1, h => by
    have ih := totT_bd (U := U) (a := a) (b := b) k (fun i hi => h i (by omega))
    have hk := h k (by omega)
    unfold totT at *
    simp only [sm]
    split <;> omega
theorem totT_succ (U : Nat → O3) (s : Nat → Int) (a b : Int) (k : Nat) : totT U s a b (k + 1) = totT U s a b k + (if a ≤ (U k).k ∧ (U k).k ≤ b then s k else 0) := rfl

set_option maxRecDepth 100000 in
set_option maxHeartbeats 2000000 in
theorem total_w (f : Int) (na oa sa : Option Addr) (ln cn lo co cs : Nat) (N : Nat → N2) (U : Nat → O3) (s : Nat → Int) (a b : Int) (w : World) (hlo : lo ≤ 100) (hs : Hid (∀ i, i < lo → 0 ≤ s i ∧ s i ≤ 200)) (H : Hid (Tr7 w na oa ln lo N U)) (HS : Hid (IntSl w sa lo s)) :
    Calls Tryz.prog 30 #[.agg #[.int .i64 f, .slice na ln cn, .slice oa lo co], .slice sa lo cs, .int .i64 a, .int .i64 b] w fun e w' => e = .returned (.int .i64 (totT U s a b lo)) ∧ Below w.heap.size w w' := by
  obtain ⟨WA, hWA⟩ : ∃ WA, WA = w.alloc (.cells #[.int .i64 f, .slice na ln cn, .slice oa lo co] 25) := ⟨_, rfl⟩
  have hA : Below w.heap.size w WA := by rw [hWA]; exact (Below.refl _ _).alloc (Nat.le_refl _) _
  have HX : Hid (∀ w2, Below WA.heap.size WA w2 → w2.cell? ⟨w.heap.size, 2, none⟩ = some (.slice oa lo co)) := Lib.hid fun w2 h => by
    obtain ⟨c, _⟩ := bcell h
    have hz : WA.heap.size = w.heap.size + 1 := by rw [hWA]; simp
    exact (c _ _ (by omega)).trans (by rw [hWA]; simp)
  have HA := Lib.hid hA
  clear hA
  go_enter Tryz.func30, Tryz.ntmps30
  go_wp2
  rw [← hWA]
  clear hWA
  go_loopw [9, 10] (fun nv ii wr => ∃ k : Nat, k ≤ lo ∧ ii = .int .i64 (k : Int) ∧ nv = .int .i64 (totT U s a b k) ∧ Below WA.heap.size WA wr) (fun _ ii _ => lo - (Go.RowKit.intOf ii).toNat)
  case atStart => exact ⟨0, Nat.zero_le _, rfl, rfl, Below.refl _ _⟩
  case round =>
    obtain ⟨k, hk, rfl, rfl, hbr⟩ := hrel
    have HBR := Lib.hid hbr
    clear hbr
    by_cases hlt : k < lo
    case neg =>
      have hkl : lo = k := by omega
      subst hkl
      go_wp2
      go_ret
      exact ⟨rfl, HA.out.trans (HBR.out.mono HA.out.size)⟩
    case pos =>
      obtain ⟨A, O, rfl, hAl, hnum⟩ := HS.out.resolve_left (by omega)
      obtain ⟨C, P, hoa, hC, hnC⟩ := H.out.ho.resolve_left (by omega)
      subst hoa
      have hbw : Below w.heap.size w wr := HA.out.trans (HBR.out.mono HA.out.size)
      have x0 := HX.out wr HBR.out
      have x1 := (hbw.cell (p := ⟨A, O + k, none⟩) hAl).trans (hnum k hlt)
      have x2 := (hbw.cell (p := ⟨C, P + k * 3 + 2, none⟩) hC).trans (hnC k hlt).2.2
      have n1 : (0 : Int) ≤ (k : Int) := by omega
      have n2 : (k : Int) < (lo : Int) := by omega
      have bd := totT_bd (U := U) (a := a) (b := b) k (fun i hi => hs.out i (by omega))
      have bk := hs.out k hlt
      have wr1 : wrap64 (totT U s a b k + s k) = totT U s a b k + s k := by unfold wrap64; omega
      have HT := Lib.hid (totT_succ U s a b k)
      generalize totT U s a b k = tk at *
      clear hnum hnC hbw bd bk
      by_cases h1 : a ≤ (U k).k
      · by_cases h2 : (U k).k ≤ b
        · have HC := Lib.hid (And.intro h1 h2)
          go_wp2
          go_roundw
          case rel => exact ⟨k + 1, by omega, by go_num, by rw [HT.out, if_pos HC.out, wr1], HBR.out⟩
          case measure => simp [Go.RowKit.intOf]; omega
        · have HC := Lib.hid h2
          go_wp2
          go_roundw
          case rel => exact ⟨k + 1, by omega, by go_num, by rw [HT.out, if_neg (fun h => HC.out h.2), Int.add_zero], HBR.out⟩
          case measure => simp [Go.RowKit.intOf]; omega
      · have HC := Lib.hid h1
        go_wp2
        go_roundw
        case rel => exact ⟨k + 1, by omega, by go_num, by rw [HT.out, if_neg (fun h => HC.out h.1), Int.add_zero], HBR.out⟩
        case measure => simp [Go.RowKit.intOf]; omega
end Go.Kn

namespace Go.Kn
open Go Go.Proofs Go.RowKit

set_option maxRecDepth 100000 in
set_option maxHeartbeats 1000000 in
theorem wif_w (f g : Int) (na oa : Option Addr) (ln cn lo co : Nat) (w : World) :
    Calls Tryz.prog 105 #[.agg #[.int .i64 f, .slice na ln cn, .slice oa lo co], .int .i64 g] w fun e w' => e = .returned (.agg #[.int .i64 g, .slice na ln cn, .slice oa lo co]) ∧ Below w.heap.size w w' := by
  go_enter Tryz.func105, Tryz.ntmps105
  go_wp2
  refine bodyPost_ret (v := .agg #[.int .i64 g, .slice na ln cn, .slice oa lo co]) (by simp [results, Tryz.results105, go_sem]) rfl ⟨rfl, ((Below.refl _ _).alloc (Nat.le_refl _) _).alloc (by simp) _⟩

set_option maxRecDepth 100000 in
set_option maxHeartbeats 1000000 in
theorem with_w (f g : Int) (na oa : Option Addr) (ln cn lo co : Nat) (w : World) :
    Calls Tryz.prog 103 #[.agg #[.int .i64 f, .slice na ln cn, .slice oa lo co], .int .i64 g] w fun e w' => e = .returned (.agg #[.int .i64 g, .slice na ln cn, .slice oa lo co]) ∧ Below w.heap.size w w' := by
  go_enter Tryz.func103, Tryz.ntmps103
  go_wp2
  refine bodyPost_ret (v := .agg #[.int .i64 g, .slice na ln cn, .slice oa lo co]) (by simp [results, Tryz.results103, go_sem]) rfl ⟨rfl, (((Below.refl _ _).alloc (Nat.le_refl _) _).alloc (by simp) _).alloc (by simp; omega) _⟩

set_option maxRecDepth 100000 in
set_option maxHeartbeats 1000000 in
theorem share_w (sv SH i lo cs : Nat) (t : Nat → Int) (w : World) (hi : i < lo) (h3 : w.cell? ⟨sv, 3, none⟩ = some (.slice (some ⟨SH, 0, none⟩) lo cs)) (h2 : w.cell? ⟨SH, i, none⟩ = some (.int .i64 (t i))) :
    Calls Tryz.prog 80 #[.pointer (some ⟨sv, 0, none⟩), .int .i64 (i : Int)] w fun e w' => e = .returned (.int .i64 (t i)) ∧ w' = w := by
  have n1 : (0 : Int) ≤ (i : Int) := by omega
  have n2 : (i : Int) < (lo : Int) := by omega
  go_enter Tryz.func80, Tryz.ntmps80
  go_wp2
  go_ret
  exact ⟨rfl, rfl⟩
end Go.Kn

namespace Go.Kn
open Go Go.Proofs Go.RowKit

set_option maxRecDepth 100000 in
set_option maxHeartbeats 1000000 in
theorem isTight_w (f : Int) (na oa : Option Addr) (ln cn lo co cs cf sv SH FL m : Nat) (N : Nat → N2) (U : Nat → O3) (s : Nat → Int) (W : World)
    (hm : m ≤ ln) (hln : ln ≤ 1000) (HT : Hid (Tr7 W na oa ln lo N U)) (H : Hid (SvS W sv SH FL f na oa ln cn lo co cs cf N U s)) :
    Calls Tryz.prog 76 #[.pointer (some ⟨sv, 0, none⟩), .int .i64 (m : Int)] W fun e W' => e = .returned (.bool (decide (sumB N U s m lo = capN f N m))) ∧ Below W.heap.size W W' := by
  have hmx : Tryz.prog.follows .mixedOrders = true := by kernel_rfl
  have n1 : (0 : Int) ≤ (m : Int) := by omega
  have n2 : (m : Int) < ((ln + 1 : Nat) : Int) := by omega
  have n3 : (m : Int) < (ln : Int) + 1 := by omega
  have HX : Hid (∀ w', Below W.heap.size W w' → w'.cell? ⟨sv, 0, none⟩ = some (.int .i64 f) ∧ w'.cell? ⟨sv, 1, none⟩ = some (.slice na ln cn) ∧ w'.cell? ⟨sv, 2, none⟩ = some (.slice oa lo co) ∧ w'.cell? ⟨sv, 4, none⟩ = some (.slice (some ⟨FL, 0, none⟩) (ln + 1) cf) ∧ w'.cell? ⟨FL, m, none⟩ = some (.int .i64 (sumB N U s m lo))) := Lib.hid fun w' h => by
    have h2 := (H.out.below h).at_
    exact ⟨h2.c0, h2.c1, h2.c2, h2.c4, (h2.fw m (by omega)).1⟩
  have HC : Hid (∀ w', Below W.heap.size W w' → Calls Tryz.prog 117 #[.agg #[.int .i64 f, .slice na ln cn, .slice oa lo co], .int .i64 (m : Int)] w' fun e w'' => e = .returned (.int .i64 (capN f N m)) ∧ Below W.heap.size W w'') := Lib.hid fun w' h =>
    (capacity_w f na oa ln cn lo co m N U w' hm (by omega) (Lib.hid (HT.out.below h))).mono fun e w'' ⟨he, hb⟩ => ⟨he, h.trans (hb.mono h.size)⟩
  obtain ⟨z1, z2, z3, z4, z5⟩ := HX.out W (Below.refl _ _)
  obtain ⟨sb, hsb⟩ : ∃ sb, sumB N U s m lo = sb := ⟨_, rfl⟩
  obtain ⟨cp, hcp⟩ : ∃ cp, capN f N m = cp := ⟨_, rfl⟩
  rw [hsb] at HX z5 ⊢
  rw [hcp] at HC ⊢
  clear hsb hcp
  go_enter Tryz.func76, Tryz.ntmps76
  go_wp2
  refine wp_region_calm (W := W) hmx (by kernel_rfl) (Below.refl _ _) ?_
  repeat (first
    | (refine calm_no (by rfl) ?_
       (try simp only [Act.put, List.setIfInBounds_toArray, List.set_cons_zero, List.set_cons_succ]))
    | (apply calm_yes
       focus rfl
       focus
         intro w' hw'
         obtain ⟨z1, z2, z3, z4, z5⟩ := HX.out w' hw'
         go_simp
         first
           | done
           | with_reducible rfl
           | (go_at_call 117; exact HC.out w' hw')
           | fail
       (try simp only [Act.put, List.setIfInBounds_toArray, List.set_cons_zero, List.set_cons_succ])))
  refine calm_nil ?_
  intro w7 hb7
  clear z1 z2 z3 z4 z5
  go_wp2
  go_ret
  exact ⟨by simp [BEq.beq], hb7⟩

theorem shares200 {f : Int} {ln lo : Nat} {N : Nat → N2} {U : Nat → O3} (HT : TreeP f ln lo N U) {t : Nat → Int} (h : Ord f lo N U (fun _ => 0) [0, 1, 2, 3] t) : ∀ k, k < lo → 0 ≤ t k ∧ t k ≤ 200 := fun k hk => by
  have h1 := (h.vd (vd_zero HT)).bd k hk
  have h2 := (tree_o HT hk).2.1
  omega

set_option maxRecDepth 100000 in
set_option maxHeartbeats 1000000 in
theorem rtight_w (f : Int) (na oa sa : Option Addr) (ln cn lo co cs m : Nat) (N : Nat → N2) (U : Nat → O3) (s : Nat → Int) (w : World) (hm : m ≤ ln) (HR : Hid (TreeP f ln lo N U)) (HSP : Hid (SharesP lo lo s U)) (H : Hid (Tr7 w na oa ln lo N U)) (HS : Hid (IntSl w sa lo s)) :
    Calls Tryz.prog 82 #[.agg #[.int .i64 f, .slice na ln cn, .slice oa lo co], .slice sa lo cs, .int .i64 (m : Int)] w fun e w' => e = .returned (.bool (decide (sumB N U s m lo = capN f N m))) ∧ Below w.heap.size w w' := by
  have q1 := HR.out.l6
  have q2 := HR.out.lo2
  have hmx : Tryz.prog.follows .mixedOrders = true := by kernel_rfl
  obtain ⟨WA, hWA⟩ : ∃ WA, WA = w.alloc (.cells #[.int .i64 f, .slice na ln cn, .slice oa lo co] 25) := ⟨_, rfl⟩
  have hA : Below w.heap.size w WA := by rw [hWA]; exact (Below.refl _ _).alloc (Nat.le_refl _) _
  have hzA : WA.heap.size = w.heap.size + 1 := by rw [hWA]; simp
  have HB : Hid (∀ w2, Below WA.heap.size WA w2 → w2.cell? ⟨w.heap.size, 0, none⟩ = some (.int .i64 f) ∧ w2.cell? ⟨w.heap.size, 1, none⟩ = some (.slice na ln cn) ∧ w2.cell? ⟨w.heap.size, 2, none⟩ = some (.slice oa lo co)) := Lib.hid fun w2 h => by
    obtain ⟨c, _⟩ := bcell h
    exact ⟨(c _ _ (by omega)).trans (by rw [hWA]; simp), (c _ _ (by omega)).trans (by rw [hWA]; simp), (c _ _ (by omega)).trans (by rw [hWA]; simp)⟩
  have HT : Hid (∀ w2, Below WA.heap.size WA w2 → Hid (Tr7 w2 na oa ln lo N U)) := Lib.hid fun w2 h => Lib.hid (H.out.below (hA.trans (h.mono hA.size)))
  have HSU : Hid (∀ w', Below WA.heap.size WA w' → Calls Tryz.prog 71 #[.agg #[.int .i64 f, .slice na ln cn, .slice oa lo co], .slice sa lo cs, .int .i64 (m : Int)] w' fun e w'' => e = .returned (.int .i64 (sumB N U s m lo)) ∧ Below WA.heap.size WA w'') := Lib.hid fun w' h =>
    (sum_w f na oa sa ln cn lo co cs m N U s w' HR HSP (HT.out _ h) (Lib.hid (HS.out.below (hA.trans (h.mono hA.size))))).mono fun e w'' ⟨he, hb3⟩ => ⟨he, h.trans (hb3.mono h.size)⟩
  have HCP : Hid (∀ w', Below WA.heap.size WA w' → Calls Tryz.prog 28 #[.agg #[.int .i64 f, .slice na ln cn, .slice oa lo co], .int .i64 (m : Int)] w' fun e w'' => e = .returned (.int .i64 (capN f N m)) ∧ Below WA.heap.size WA w'') := Lib.hid fun w' h =>
    (rcap_w f na oa ln cn lo co m N U w' hm (by omega) (HT.out _ h)).mono fun e w'' ⟨he, hb3⟩ => ⟨he, h.trans (hb3.mono h.size)⟩
  obtain ⟨sb, hsb⟩ : ∃ sb, sumB N U s m lo = sb := ⟨_, rfl⟩
  obtain ⟨cp, hcp⟩ : ∃ cp, capN f N m = cp := ⟨_, rfl⟩
  rw [hsb] at HSU ⊢
  rw [hcp] at HCP ⊢
  have HA := Lib.hid hA
  clear hsb hcp hA hzA
  obtain ⟨x1, x2, x3⟩ := HB.out WA (Below.refl _ _)
  go_enter Tryz.func82, Tryz.ntmps82
  go_wp2
  rw [← hWA]
  clear hWA
  refine wp_region_calm (W := WA) hmx (by kernel_rfl) (Below.refl _ _) ?_
  repeat (first
    | (refine calm_no (by rfl) ?_
       (try simp only [Act.put, List.setIfInBounds_toArray, List.set_cons_zero, List.set_cons_succ]))
    | (apply calm_yes
       focus rfl
       focus
         intro w' hw'
         obtain ⟨z1, z2, z3⟩ := HB.out w' hw'
         go_simp
         first
           | done
           | with_reducible rfl
           | (go_at_call 71; exact HSU.out w' hw')
           | (go_at_call 28; exact HCP.out w' hw')
           | fail
       (try simp only [Act.put, List.setIfInBounds_toArray, List.set_cons_zero, List.set_cons_succ])))
  refine calm_nil ?_
  intro w7 hqw7
  clear x1 x2 x3
  go_wp2
  go_ret
  exact ⟨by simp [BEq.beq], HA.out.trans (hqw7.mono HA.out.size)⟩
end Go.Kn

namespace Go
open Go.RowKit Go.Kn
variable {P : Program} {F : Fence} {n : Nat} {Q : Exit → Act → World → Prop} {a : Act} {w : World} {b : Frame} {k : List Item} {cs : List Frame}
theorem stepR_scope {c : Code} : step P (lone (b.atR a (.code (.scope c) :: k)) cs w) = .next (lone (b.atR a (.code c :: .inScope c :: k)) cs w) :=
  step_lone_go (by simp [stepG, stepG.exec, Frame.atR])
theorem stepR_inScope {c : Code} : step P (lone (b.atR a (.inScope c :: k)) cs w) = .next (lone (b.atR a k) cs w) :=
  step_lone_go (by simp [stepG, stepG.exec, Frame.atR])
/-- a scope that no jump leads back into, within a fence -/
theorem wpIn_scope_straight {c : Code} (h : c.wpIn F n P (Exit.noGoto Q) a w) : (Code.scope c).wpIn F n P Q a w := by
  intro b k cs hro hb hr
  have h0 : (lone (b.atR a (.code (.scope c) :: k)) cs w).fenced P F := fenced_calm hb hr rfl
  obtain ⟨e, a₁, w₁, hq, harr⟩ := h b (.inScope c :: k) cs hro hb hr
  cases e with
  | normal => exact ⟨.normal, a₁, w₁, hq, .head h0 stepR_scope (StepsIn.trans harr (.one (fenced_calm hb hr rfl) stepR_inScope))⟩
  | exit id =>
    refine ⟨.exit id, a₁, w₁, hq, .of_steps (.one h0 stepR_scope) ⟨fun k' hk => harr.1 k' (by simp [exitTo, hk]), fun hro2 hk => harr.2 hro2 (by simp [exitTo, hk])⟩⟩
  | goto l => exact hq.elim
  | ret => exact ⟨_, a₁, w₁, hq, .of_steps (.one h0 stepR_scope) harr⟩
  | panic ch => exact ⟨_, a₁, w₁, hq, .of_steps (.one h0 stepR_scope) harr⟩
  | outgrown => exact ⟨_, a₁, w₁, hq, .of_steps (.one h0 stepR_scope) harr⟩

/-- the marks of ranges that are over -/
def Mk (B : Nat) : List Deferred → World → Prop
  | [], _ => True
  | d :: ds, w => (∃ r, d = { target := .collected r, args := #[] } ∧ B ≤ r ∧ w.heap[r]? = some (.deferred (some [])) ∧ ∀ d' ∈ ds, d' ≠ { target := .collected r, args := #[] }) ∧ Mk B ds w
theorem Mk.below {B : Nat} {A C : World} (hb : Below A.heap.size A C) : ∀ {ds : List Deferred}, Mk B ds A → Mk B ds C
  | [], _ => trivial
  | _ :: _, ⟨⟨r, h1, h2, h3, h4⟩, h⟩ => ⟨⟨r, h1, h2, (hb.block r (Array.getElem?_eq_some_iff.1 h3).1).trans h3, h4⟩, h.below hb⟩
theorem Mk.lt {B : Nat} {A : World} : ∀ {ds : List Deferred}, Mk B ds A → ∀ r, ({ target := .collected r, args := #[] } : Deferred) ∈ ds → r < A.heap.size
  | [], _, _, h => by cases h
  | _ :: _, ⟨⟨r, h1, _, h3, _⟩, h⟩, r', hm => by
    rcases List.mem_cons.1 hm with e | e
    · rw [h1] at e
      have : r' = r := by injection e with e1; injection e1
      rw [this]; exact (Array.getElem?_eq_some_iff.1 h3).1
    · exact h.lt r' e
theorem Mk.put {B r0 : Nat} {A : World} (o : Obj) : ∀ {ds : List Deferred}, Mk B ds A → (∀ d' ∈ ds, d' ≠ ({ target := .collected r0, args := #[] } : Deferred)) → Mk B ds (A.putObj r0 o)
  | [], _, _ => trivial
  | d :: _, ⟨⟨r, h1, h2, h3, h4⟩, h⟩, hn => ⟨⟨r, h1, h2, (World.putObj_heap_other (by rintro rfl; exact hn d List.mem_cons_self h1)).trans h3, h4⟩, h.put o fun d' hd => hn d' (List.mem_cons_of_mem _ hd)⟩
theorem Mk.new {B r : Nat} {A C : World} {ds : List Deferred} (h : Mk B ds A) (hb : Below A.heap.size A C) (hr : A.heap.size ≤ r) (hB : B ≤ r) (hk : C.heap[r]? = some (.deferred (some []))) : Mk B ({ target := .collected r, args := #[] } :: ds) C :=
  ⟨⟨r, rfl, hB, hk, fun d' hd e => by have := h.lt r (e ▸ hd); omega⟩, h.below hb⟩
theorem Mk.keep {B : Nat} {A C : World} (hb : ∀ r : Nat, A.heap[r]? = some (.deferred (some [])) → C.heap[r]? = some (.deferred (some []))) : ∀ {ds : List Deferred}, Mk B ds A → Mk B ds C
  | [], _ => trivial
  | _ :: _, ⟨⟨r, h1, h2, h3, h4⟩, h⟩ => ⟨⟨r, h1, h2, hb r h3, h4⟩, h.keep hb⟩
theorem leaves_mk {fn : Func} {tmps : Array Value} {R : Ending → World → Prop} {B : Nat} : ∀ (ds : List Deferred) (w : World), Mk B ds w → (∀ w', Below B w w' → (∀ (g : Nat) cur e fz, w.heap[g]? = some (.cells cur e fz) → w'.heap[g]? = some (.cells cur e fz)) → LeavesIn F n P fn tmps R [] .returning w') → LeavesInM F n P fn tmps R ds .returning w
  | [], w, _, h => h w (Below.refl _ _) fun _ _ _ _ h => h
  | _ :: ds, w, ⟨⟨r, h1, h2, h3, h4⟩, hm⟩, h => by
    subst h1
    refine ⟨by simp, .inl ⟨r, w.putObj r (.deferred none), rfl, run_takeDeferred h3, leaves_mk ds _ (hm.put _ h4) fun w' hb hc => h w' ((Go.Kn.putObj_belowR _ _ _ h3 h2).trans hb) fun g cur e fz hg => ?_⟩⟩
    refine hc g cur e fz ((World.putObj_heap_other ?_).trans hg)
    rintro rfl
    rw [h3] at hg
    cases hg
theorem owns_cells {A C : World} {base e size m : Nat} {v : Value} {xs : List Value} (h : A.ownsRow base e size v m xs) (hc : ∀ (g : Nat) cur e fz, A.heap[g]? = some (.cells cur e fz) → C.heap[g]? = some (.cells cur e fz)) : C.ownsRow base e size v m xs := by
  refine ⟨h.1, ?_⟩
  rcases h.2 with h2 | ⟨g, cap, cur, h1, h2, h3, h4⟩
  · exact .inl h2
  · exact .inr ⟨g, cap, cur, h1, h2, hc _ _ _ _ h3, h4⟩
theorem own_mark {A : World} {base e size m r : Nat} {v : Value} {xs : List Value} (h : A.ownsRow base e size v m xs) (hr : A.heap[r]? = some (.deferred (some []))) : some r ≠ v.ownBlock := by
  rcases h.2 with ⟨rfl, _⟩ | ⟨g, cap, cur, rfl, _, hg, _⟩
  · simp [Value.ownBlock]
  · intro e2
    have : r = g := by simpa [Value.ownBlock] using e2
    rw [this, hg] at hr
    cases hr
theorem owns_below {A C : World} {base e size m : Nat} {v : Value} {xs : List Value} (h : A.ownsRow base e size v m xs) (hb : Below A.heap.size A C) : C.ownsRow base e size v m xs := by
  refine ⟨h.1, ?_⟩
  rcases h.2 with h2 | ⟨g, cap, cur, h1, h2, h3, h4⟩
  · exact .inl h2
  · exact .inr ⟨g, cap, cur, h1, h2, (hb.block g (Array.getElem?_eq_some_iff.1 h3).1).trans h3, h4⟩
end Go

namespace Go.Kn
open Go Go.Proofs Go.RowKit

noncomputable section
open Classical
/-- the cut among the nodes before k -/
def CL (f : Int) (lo : Nat) (N : Nat → N2) (U : Nat → O3) (t : Nat → Int) : Nat → List Nat
  | 0 => []
  | k + 1 => if CutN f lo N U t k then CL f lo N U t k ++ [k] else CL f lo N U t k
end
theorem CL_yes {f : Int} {lo : Nat} {N : Nat → N2} {U : Nat → O3} {t : Nat → Int} {k : Nat} (h : CutN f lo N U t k) : CL f lo N U t (k + 1) = CL f lo N U t k ++ [k] := if_pos h
theorem CL_no {f : Int} {lo : Nat} {N : Nat → N2} {U : Nat → O3} {t : Nat → Int} {k : Nat} (h : ¬ CutN f lo N U t k) : CL f lo N U t (k + 1) = CL f lo N U t k := if_neg h
theorem CL_len {f : Int} {lo : Nat} {N : Nat → N2} {U : Nat → O3} {t : Nat → Int} : ∀ k, (CL f lo N U t k).length ≤ k
  | 0 => Nat.le_refl _
  | k + 1 => by
    have := CL_len (f := f) (lo := lo) (N := N) (U := U) (t := t) k
    by_cases h : CutN f lo N U t k
    · rw [CL_yes h]; simp; omega
    · rw [CL_no h]; omega

set_option maxRecDepth 100000 in
set_option maxHeartbeats 4000000 in
theorem cut_w (f : Int) (na oa : Option Addr) (ln cn lo co : Nat) (N : Nat → N2) (U : Nat → O3) (t : Nat → Int) (W : World) (HTS : Hid (TreeS f ln lo N U)) (HT : Hid (Tr7 W na oa ln lo N U)) (HO : Hid (Ord f lo N U (fun _ => 0) [0, 1, 2, 3] t)) :
    Calls Tryz.prog 26 #[.agg #[.int .i64 f, .slice na ln cn, .slice oa lo co]] W fun e W' =>
      (∃ v m, e = .returned (.tuple #[v, .int .i64 0]) ∧ m = (CL f lo N U t (ln + 1)).length ∧ W'.ownsRow W.heap.size 3 1 v m ((CL f lo N U t (ln + 1)).map (fun k => Value.int .i64 ((k : Nat) : Int)))) ∧ Below W.heap.size W W' := by
  have HR : Hid (TreeP f ln lo N U) := Lib.hid HTS.out.w
  have q1 := HR.out.l6
  have q2 := HR.out.lo2
  obtain ⟨i0, hi0, hz0, hz1, hz2⟩ := info_parts info3'
  refine (callsIn_wide (n := 6)).1 ?_
  refine callsIn_of_wp_marks Tryz.func26 rfl trivial ?_ rfl
  simp only [Tryz.ntmps26, List.size_toArray, List.length_cons, List.length_nil, Nat.reduceAdd, Nat.reduceSub, Array.replicate_succ, Array.replicate_zero, List.push_toArray, List.append_toArray, List.nil_append, List.cons_append]
  have BX := Lib.hid (fun (w1 : World) (hb : Below (W.alloc (.cells #[.int .i64 f, .slice na ln cn, .slice oa lo co] 25)).heap.size (W.alloc (.cells #[.int .i64 f, .slice na ln cn, .slice oa lo co] 25)) w1) => box7 hb)
  have HN : Hid (∀ w1, Below (W.alloc (.cells #[.int .i64 f, .slice na ln cn, .slice oa lo co] 25)).heap.size (W.alloc (.cells #[.int .i64 f, .slice na ln cn, .slice oa lo co] 25)) w1 → Hid (Tr7 w1 na oa ln lo N U)) := Lib.hid fun w1 h => Lib.hid (HT.out.below (below_al h))
  have hb : Below (W.alloc (.cells #[.int .i64 f, .slice na ln cn, .slice oa lo co] 25)).heap.size (W.alloc (.cells #[.int .i64 f, .slice na ln cn, .slice oa lo co] 25)) (W.alloc (.cells #[.int .i64 f, .slice na ln cn, .slice oa lo co] 25)) := Below.refl _ _
  obtain ⟨x1, x2, x3, x4⟩ := BX.out _ hb
  gi_wp2
  refine wpIn_scope_straight ?_
  gi_wp2_with (first
    | (refine ⟨trivial, ?_⟩; gi_at_call 62; refine (callsIn_wide.2 (isTree_w f na oa ln cn lo co N U _ (by omega) (by omega) (HN.out _ hb))).mono ?_; rintro e wl ⟨⟨rb, rfl, hrb⟩, hv⟩; obtain rfl : rb = true := hrb.2 HTS.out; clear hrb; replace hb := hb.trans (hv.mono hb.size); clear x1 x2 x3 x4; obtain ⟨x1, x2, x3, x4⟩ := BX.out _ hb)
    | (refine ⟨trivial, ?_⟩; gi_at_call 72; refine (callsIn_wide.2 (lawful_w f na oa ln cn lo co N U _ HR (HN.out _ hb))).mono ?_; rintro e wl ⟨⟨sv, SH, FL, k1, k2, t', rfl, h1, h2, h3, h4, h5⟩, hv⟩; replace hb := hb.trans (hv.mono hb.size); clear x1 x2 x3 x4; obtain ⟨x1, x2, x3, x4⟩ := BX.out _ hb; obtain rfl : t' = t := h2.det HO.out; have HSV := Lib.hid h1; have y4 := h1.at_.c4; clear h1 h2 h3 h4 h5))
  obtain ⟨W5, hW5⟩ : ∃ W5, W5 = wl.alloc (.cells #[.pointer (some ⟨sv, 0, none⟩)] 90) := ⟨_, rfl⟩
  have hb5 : Below wl.heap.size wl W5 := by rw [hW5]; exact (Below.refl _ _).alloc (Nat.le_refl _) _
  have b5 : Boxed W5 wl.heap.size 90 (.pointer (some ⟨sv, 0, none⟩)) := by rw [hW5]; exact Boxed.new wl 90 _
  have hz5 : W5.heap.size = wl.heap.size + 1 := by rw [hW5]; simp
  rw [← hW5]
  obtain ⟨bs, hbs⟩ : ∃ bs, bs = wl.heap.size := ⟨_, rfl⟩
  rw [← hbs] at b5 ⊢
  have HB5 : Hid (∀ w2, Below W5.heap.size W5 w2 → w2.cell? ⟨bs, 0, none⟩ = some (.pointer (some ⟨sv, 0, none⟩))) := Lib.hid fun w2 h => (boxed_below b5 h (by omega)).cell
  have HBB : Hid (∀ w2, Below W5.heap.size W5 w2 → Below (W.alloc (.cells #[.int .i64 f, .slice na ln cn, .slice oa lo co] 25)).heap.size (W.alloc (.cells #[.int .i64 f, .slice na ln cn, .slice oa lo co] 25)) w2) := Lib.hid fun w2 h => (hb.trans (hb5.mono hb.size)).trans (h.mono (Nat.le_trans hb.size hb5.size))
  have HSS : Hid (∀ w2, Below W5.heap.size W5 w2 → Hid (SvS w2 sv SH FL f na oa ln cn lo co k1 k2 N U t')) := Lib.hid fun w2 h => Lib.hid ((HSV.out.below hb5).below h)
  have hzz : W.heap.size + 1 ≤ W5.heap.size := by have := hb.size; simp at this; omega
  have HZ5 := Lib.hid hzz
  clear hzz hW5 hb5 b5 hz5 hbs hb x1 x2 x3 x4 y4 HSV HT
  have y4 := (HSS.out W5 (Below.refl _ _)).out.at_.c4
  have y5 := HB5.out W5 (Below.refl _ _)
  refine wpIn_label ?_
  gi_wp2
  refine wpIn_loop (fun a' wr => ∃ (u5 u6 u7 u18 u19 u20 u21 u22 u23 u24 u25 u26 u27 u28 u29 u30 u31 u32 u33 u34 u35 u36 u37 u38 u39 u40 u41 : Value) (ds : List Deferred), (∃ k m : Nat, k ≤ ln + 1 ∧ u18 = .int .i64 (k : Int) ∧ m = (CL f lo N U t' k).length ∧ wr.ownsRow W5.heap.size 3 1 u5 m ((CL f lo N U t' k).map (fun k => Value.int .i64 ((k : Nat) : Int))) ∧ Mk W5.heap.size ds wr ∧ Below W5.heap.size W5 wr) ∧ a' = { tmps := [Value.agg #[.int .i64 f, .slice na ln cn, .slice oa lo co], .pointer (some ⟨W.heap.size, 0, none⟩), .slice none 0 0, .int .i64 0, .pointer (some ⟨bs, 0, none⟩), u5, u6, u7, Value.agg #[.int .i64 f, .slice na ln cn, .slice oa lo co], .bool true, .bool false, Value.agg #[.int .i64 f, .slice na ln cn, .slice oa lo co], .pointer (some ⟨sv, 0, none⟩), .pointer (some ⟨sv, 0, none⟩), .pointer (some ⟨sv, 0, none⟩), .pointer (some ⟨sv, 4, none⟩), .slice (some ⟨FL, 0, none⟩) (ln + 1) k2, .int .i64 ((ln : Int) + 1), u18, u19, u20, u21, u22, u23, u24, u25, u26, u27, u28, u29, u30, u31, u32, u33, u34, u35, u36, u37, u38, u39, u40, u41, undef].toArray, defers := ds }) (fun a' _ => ln + 1 - (Go.RowKit.intOf (a'.tmps.getD 18 undef)).toNat) ?_ ?_
  · exact ⟨_, _, _, _, _, _, _, _, _, _, _, _, _, _, _, _, _, _, _, _, _, _, _, _, _, _, _, [], ⟨0, 0, by omega, rfl, rfl, ⟨rfl, .inl ⟨rfl, rfl⟩⟩, trivial, Below.refl _ _⟩, rfl⟩
  intro a' wr hinv
  obtain ⟨u5, u6, u7, u18, u19, u20, u21, u22, u23, u24, u25, u26, u27, u28, u29, u30, u31, u32, u33, u34, u35, u36, u37, u38, u39, u40, u41, ds, ⟨k, m, hk, rfl, hm, hown, hmk, hbr⟩, rfl⟩ := hinv
  dsimp only
  have HOW := Lib.hid hown
  have HMK := Lib.hid hmk
  have HBR := Lib.hid hbr
  have HM := Lib.hid hm
  clear hown hmk hbr hm y4 y5
  by_cases hlt : k < ln + 1
  case neg =>
    obtain rfl : k = ln + 1 := by omega
    have n1 : ¬ (((ln + 1 : Nat) : Int) < (ln : Int) + 1) := by omega
    gi_wp2
    have HUU := Lib.hid (HBB.out _ HBR.out)
    refine leaves_mk ds _ HMK.out fun w' hb' hc' => ?_
    refine ⟨.tuple #[u5, .int .i64 0], by simp [results, Tryz.results26, go_sem], ⟨u5, m, rfl, HM.out, ?_⟩, ?_⟩
    · exact own_base (owns_cells HOW.out hc') (by have := HZ5.out; omega)
    · exact (below_al HUU.out).trans (hb'.mono (by have := HZ5.out; omega))
  have n1 : (k : Int) < (ln : Int) + 1 := by omega
  have n2 : (0 : Int) ≤ (k : Int) := by omega
  have hbA : Below W5.heap.size W5 (wr.alloc (.cells #[.int .i64 (k : Int)] 3)) := HBR.out.alloc HBR.out.size _
  have bA : Boxed (wr.alloc (.cells #[.int .i64 (k : Int)] 3)) wr.heap.size 3 (.int .i64 (k : Int)) := Boxed.new wr 3 _
  obtain ⟨WA, hWA⟩ : ∃ WA, WA = wr.alloc (.cells #[.int .i64 (k : Int)] 3) := ⟨_, rfl⟩
  have hzA : WA.heap.size = wr.heap.size + 1 := by rw [hWA]; simp
  have hrA : Below wr.heap.size wr WA := by rw [hWA]; exact (Below.refl _ _).alloc (Nat.le_refl _) _
  rw [← hWA] at hbA bA
  have HA := Lib.hid hbA
  have HZA := Lib.hid hzA
  have HRA := Lib.hid hrA
  have HBA : Hid (∀ w2, Below WA.heap.size WA w2 → w2.cell? ⟨wr.heap.size, 0, none⟩ = some (.int .i64 (k : Int))) := Lib.hid fun w2 h => (boxed_below bA h (by omega)).cell
  have HTI : Hid (∀ (x : Nat) w2, x ≤ ln → Below WA.heap.size WA w2 → Calls Tryz.prog 76 #[.pointer (some ⟨sv, 0, none⟩), .int .i64 (x : Int)] w2 fun e w3 => e = .returned (.bool (decide (sumB N U t' x lo = capN f N x))) ∧ Below w2.heap.size w2 w3) := Lib.hid fun x w2 hx h =>
    isTight_w f na oa ln cn lo co k1 k2 sv SH FL x N U t' w2 hx (by omega) (HN.out _ (HBB.out _ (HA.out.trans (h.mono HA.out.size)))) (HSS.out _ (HA.out.trans (h.mono HA.out.size)))
  have x6 := HBA.out WA (Below.refl _ _)
  have x5 := HB5.out WA HA.out
  rw [hWA] at x5 x6
  have HWA := Lib.hid hWA
  clear hbA bA hzA hrA hWA
  cases htt : decide (sumB N U t' k lo = capN f N k)
  case false =>
    have HTT := Lib.hid htt
    clear htt
    gi_wp2_with (refine ⟨trivial, ?_⟩; gi_at_call 76; refine (callsIn_wide.2 (HTI.out k _ (by omega) (by rw [HWA.out]; exact Below.refl _ _))).mono ?_; rintro e wB ⟨he, hvB⟩; rw [HTT.out] at he; subst he; rw [← HWA.out] at hvB; have HVB := Lib.hid hvB; clear hvB x5 x6)
    have hno : ¬ CutN f lo N U t' k := fun h => of_decide_eq_false HTT.out h.1
    have hB : Below wr.heap.size wr wB := HRA.out.trans (HVB.out.mono HRA.out.size)
    refine ⟨⟨_, _, _, _, _, _, _, _, _, _, _, _, _, _, _, _, _, _, _, _, _, _, _, _, _, _, _, ds, ⟨k + 1, m, by omega, by go_num, by rw [CL_no hno]; exact HM.out, by rw [CL_no hno]; exact owns_below HOW.out hB, HMK.out.below hB, HA.out.trans (HVB.out.mono HA.out.size)⟩, rfl⟩, by simp [Go.RowKit.intOf]; omega⟩
  case true =>
    have HTT := Lib.hid htt
    clear htt
    gi_wp2_with (first
      | (refine ⟨trivial, ?_⟩; gi_at_call 76; refine (callsIn_wide.2 (HTI.out k _ (by omega) (by rw [HWA.out]; exact Below.refl _ _))).mono ?_; rintro e wB ⟨he, hvB⟩; rw [HTT.out] at he; subst he; rw [← HWA.out] at hvB; have HVB := Lib.hid hvB; clear hvB x5 x6; obtain ⟨x1, x2, x3, x4⟩ := BX.out wB (HBB.out _ (HA.out.trans (HVB.out.mono HA.out.size))); have x6 := HBA.out _ HVB.out)
      | (refine ⟨trivial, ?_⟩; gi_at_call 77; refine (callsIn_wide.2 (upFrom_w f na oa ln cn lo co k wB)).mono ?_; rintro e w3 ⟨⟨nb, tb, rfl, hub, hn1, hn2⟩, hb3⟩))
    have HB13 : Hid (Below wB.heap.size wB w3) := Lib.hid hb3
    have HZ1 : Hid (wB.heap.size ≤ nb ∧ wB.heap.size ≤ tb ∧ nb < w3.heap.size ∧ tb < w3.heap.size ∧ nb ≠ tb) := Lib.hid ⟨hn1, hn2, hub.hn, hub.ht, hub.hnt⟩
    have HUB := Lib.hid hub
    have hbB : Below W5.heap.size W5 wB := HA.out.trans (HVB.out.mono HA.out.size)
    have HWB := Lib.hid hbB
    have HBW : Hid (Below wr.heap.size wr wB) := Lib.hid (HRA.out.trans (HVB.out.mono HRA.out.size))
    have HTB := HN.out wB (HBB.out _ hbB)
    obtain ⟨A, O, hA⟩ : ∃ A O, (1 ≤ ln → na = some ⟨A, O, none⟩ ∧ NdAt wB A O ln N) ∧ ((1 ≤ ln → A < wB.heap.size) ∧ (A < wB.heap.size ∨ A = tb)) := by
      rcases HTB.out.hn with h | ⟨A, O, h1, h2, h3⟩
      · exact ⟨tb, 0, fun h' => by omega, fun h' => by omega, .inr rfl⟩
      · by_cases hz : 1 ≤ ln
        · exact ⟨A, O, fun _ => ⟨h1, h3⟩, fun _ => h2, .inl h2⟩
        · exact ⟨tb, 0, fun h' => absurd h' hz, fun h' => absurd h' hz, .inr rfl⟩
    have HAA := Lib.hid hA
    have HFX : Hid (∀ W', Frx [nb] w3 W' → Below wB.heap.size wB W') := Lib.hid fun W' h => hb3.trans (h.below (n := wB.heap.size) hb3.size (by simp; omega))
    clear hb3 hub hn1 hn2 hA hbB x1 x2 x3 x4 x6 HTB
    have hku : k ≤ ln := by omega
    refine rangeFunc_st (α := Nat) (fun a0 x => { tmps := (a0.tmps.setIfInBounds 28 (.int .i64 (x : Int))).setIfInBounds 7 (.int .i64 (x : Int)), defers := [] }) (encs := fun x : Nat => #[.int .i64 (x : Int)]) (Kp := KpB [nb, tb, A]) (Wr := fun A' B' => ∃ v, B' = A'.setCell ⟨nb, 0, none⟩ v) (S := fun xs _ => xs = path N k) (Nx := fun pre x => ∃ post, pre ++ x :: post = path N k) rfl (by decide) (gf := 123) (lb := #[.pointer (some ⟨nb, 0, none⟩), .pointer (some ⟨tb, 0, none⟩)]) rfl trivial (enters_of Tryz.func123 (by kernel_rfl) rfl)
      ?seq (fun h k => h.trans k) ?kb (fun _ _ _ h => h) (fun _ => rfl) ?wr (fun pre W' => Frx [nb] w3 W' ∧ ∀ x ∈ pre, x ≠ k → sumB N U t' x lo ≠ capN f N x) ?iw ?ib ⟨Frx.refl _ _, by simp⟩
      (fun c W' => c = .exit 1 ∧ Frx [nb] w3 W' ∧ ∃ x ∈ path N k, x ≠ k ∧ sumB N U t' x lo = capN f N x) ?ix ?assign (fun W' b _ o => ⟨rfl, rfl⟩) ?body ?done ?stop
    case seq =>
      intro l J Js W' hz hbw hWr hY h0
      obtain ⟨p1, p2, p3, p4, p5⟩ := HZ1.out
      have hU := HUB.out
      refine up_s f ln lo cn k nb tb A O l na N U [nb, tb, A] HR hku J Js (fun h => (HAA.out.1 h).1) ⟨by simp, by simp, fun _ => by simp⟩ p5 (fun h => by rcases HAA.out.2.2 with h2 | h2 <;> omega) (fun s W v h => hWr s _ _ h ⟨v, rfl⟩) hY W' ((hbw.cell (p := ⟨nb, 0, none⟩) p3).trans hU.n0) ((hbw.frozen (p := ⟨nb, 0, none⟩) p3).trans hU.nf) ((hbw.cell (p := ⟨tb, 1, none⟩) p4).trans hU.t1) (fun h => ?_) h0
      have h3 := HAA.out.2.1 h
      have h4 := HB13.out.size
      exact ((HAA.out.1 h).2.below (by omega) HB13.out).below (by omega) hbw
    case kb =>
      intro W' o' b hbb o
      obtain ⟨p1, p2, p3, p4, p5⟩ := HZ1.out
      have h3 := HAA.out.2.2
      have h4 := HB13.out.size
      have hlt : b < w3.heap.size := by
        simp only [List.mem_cons, List.not_mem_nil, or_false] at hbb
        omega
      exact ⟨World.cell?_of_block (w := W') (World.putObj_heap_other (by simp only []; omega)), World.frozen?_of_block (w := W') (World.putObj_heap_other (by simp only []; omega))⟩
    case wr =>
      rintro A' B' ⟨v, rfl⟩ k' hk1 hk2
      have := HZ1.out.2.2.1
      exact Below.heap_setCell _ _ _ _ (by show k' ≠ nb; omega)
    case iw =>
      rintro pre A' B' ⟨h1, h2⟩ ⟨v, rfl⟩
      exact ⟨h1.trans (Frx.setCell _ _ _ _ _ (by simp)), h2⟩
    case ib =>
      rintro pre A' B' ⟨h1, h2⟩ hb
      exact ⟨h1.then_below hb, h2⟩
    case ix =>
      rintro c A' B' ⟨h1, h3, h4⟩ hb
      exact ⟨h1, h3.then_below hb, h4⟩
    case assign =>
      rintro l x W' K hK
      have hsa := @Oper.semAt_some
      gi_wp2
    case body =>
      rintro l pre x a' W' ha hw ⟨post, hnx⟩ ⟨h1, h2⟩
      simp only [List.setIfInBounds_toArray, List.set_cons_zero, List.set_cons_succ] at ha
      subst ha
      have hxp : x ∈ path N k := by rw [← hnx]; simp
      have hxl : x ≤ ln := Nat.le_trans (path_le HR.out _ hku x hxp) hku
      have hbW' := HFX.out _ h1
      have e5 := HB5.out W' (HWB.out.trans (hbW'.mono HWB.out.size))
      have e6 := HBA.out W' (HVB.out.trans (hbW'.mono HVB.out.size))
      have HBW' := Lib.hid hbW'
      have HCT := HTI.out x W' hxl (HVB.out.trans (hbW'.mono HVB.out.size))
      have HCT' := Lib.hid HCT
      have H1 := Lib.hid h1
      have H2 := Lib.hid h2
      have HXP := Lib.hid hxp
      have hsa := @Oper.semAt_some
      clear h1 h2 hnx hxp hbW' HCT
      by_cases hx : x = k
      · have hd : ((x : Int) != (k : Int)) = false := by simp [hx]
        have HXK := Lib.hid hx
        clear hx
        gi_wp2
        refine ⟨trivial, ?_⟩
        gi_wp2
        refine ⟨KeepsFrom.refl _ _, fun b _ o => ⟨rfl, rfl⟩, H1.out, fun y hy hne => ?_⟩
        rcases List.mem_append.1 hy with h | h
        · exact H2.out y h hne
        · rw [List.mem_singleton] at h; exact absurd (h.trans HXK.out) hne
      · have hd : ((x : Int) != (k : Int)) = true := by simp; omega
        have HXK := Lib.hid hx
        clear hx
        cases htx : decide (sumB N U t' x lo = capN f N x)
        · have HTX := Lib.hid htx
          clear htx
          gi_wp2_with (refine ⟨trivial, ?_⟩; gi_at_call 76; refine (CallsIn.inRound l (callsIn_wide.2 HCT'.out)).mono ?_; rintro e W3 ⟨he, hv3⟩; rw [HTX.out] at he; subst he)
          have hlt3 : ∀ b ∈ [nb, tb, A], b < W'.heap.size := fun b hbb => by
            have h5 := HZ1.out
            have h6 := HAA.out.2.2
            have h7 := HB13.out.size
            have h8 := H1.out.size
            simp only [List.mem_cons, List.not_mem_nil, or_false] at hbb
            omega
          refine ⟨keeps_of_below hv3, kpB_of_below hlt3 hv3, H1.out.then_below (hv3.mono H1.out.size), fun y hy hne => ?_⟩
          rcases List.mem_append.1 hy with h | h
          · exact H2.out y h hne
          · rw [List.mem_singleton] at h; subst h; exact of_decide_eq_false HTX.out
        · have HTX := Lib.hid htx
          clear htx
          gi_wp2_with (refine ⟨trivial, ?_⟩; gi_at_call 76; refine (CallsIn.inRound l (callsIn_wide.2 HCT'.out)).mono ?_; rintro e W3 ⟨he, hv3⟩; rw [HTX.out] at he; subst he)
          exact ⟨keeps_of_below hv3, rfl, H1.out.then_below (hv3.mono H1.out.size), x, HXP.out, HXK.out, of_decide_eq_true HTX.out⟩
    case done =>
      rintro xs W' rfl ⟨h1, h2⟩ hK
      have hbW' := HFX.out _ h1
      have hcut : CutN f lo N U t' k := ⟨of_decide_eq_true HTT.out, h2⟩
      have HCU := Lib.hid hcut
      have HK := Lib.hid hK
      have x6 := HBA.out W' (HVB.out.trans (hbW'.mono HVB.out.size))
      have hrW : Below wr.heap.size wr W' := HBW.out.trans (hbW'.mono HBW.out.size)
      have HOW' := Lib.hid (owns_below HOW.out hrW)
      have HMK' := Lib.hid (Mk.new (r := w3.heap.size) (HMK.out.below HBW.out) hbW' HB13.out.size (by have := HWB.out.size; have := HB13.out.size; omega) hK)
      have HB5' := Lib.hid (HWB.out.trans (hbW'.mono HWB.out.size))
      have hm7 : m ≤ 10 := by have := CL_len (f := f) (lo := lo) (N := N) (U := U) (t := t') k; have := HM.out; omega
      clear h1 h2 hK hbW' hcut hrW
      gi_wp2_with (gi_at_builtin; refine wpListIn_append_own _ rfl _ _ 26 rfl W5.heap.size 3 i0 (.int .i64 0) 1 8 Tryz.underlying26 hi0 hz0 hz1 hz2 rfl (by decide) _ m _ rfl (HOW'.out.alloc _) ⟨W'.heap.size, 0, none⟩ 1 1 [.int .i64 (k : Int)] rfl rfl (cell_one_new _ _ _) (by simp [Value.oneCell']) (by unfold maxLen; omega) (by omega) (by have := HB5'.out.size; simp; omega) ?_; intro v7 w7 hown7 hgrow7 _)
      have hz8 : W'.heap.size ≤ w7.heap.size := by have := hgrow7.size; simp at this; omega
      have hbW7 : Below W5.heap.size W5 w7 := (HB5'.out.alloc HB5'.out.size _).grown hgrow7 (by have := HB5'.out.size; simp; omega) (fun r e => own_ge HOW.out r e)
      refine ⟨⟨_, _, _, _, _, _, _, _, _, _, _, _, _, _, _, _, _, _, _, _, _, _, _, _, _, _, _, _, ⟨k + 1, m + 1, by omega, by go_num, by rw [CL_yes HCU.out, List.length_append, ← HM.out]; rfl, by rw [CL_yes HCU.out, List.map_append]; exact hown7, HMK'.out.keep fun r hr => ?_, hbW7⟩, rfl⟩, by simp [Go.RowKit.intOf]; omega⟩
      have hlt := (Array.getElem?_eq_some_iff.1 hr).1
      exact (hgrow7.block r (by simp; omega) (own_mark HOW'.out hr)).trans ((Below.heap_alloc _ _ _ hlt).trans hr)
    case stop =>
      rintro c W' ⟨rfl, h1, x, hxp, hxk, hxt⟩ hK
      have hbW' := HFX.out _ h1
      have hno : ¬ CutN f lo N U t' k := fun h => h.2 x hxp hxk hxt
      have hrW : Below wr.heap.size wr W' := HBW.out.trans (hbW'.mono HBW.out.size)
      have HOW' := Lib.hid (owns_below HOW.out hrW)
      have HMK' := Lib.hid (Mk.new (r := w3.heap.size) (HMK.out.below HBW.out) hbW' HB13.out.size (by have := HWB.out.size; have := HB13.out.size; omega) hK)
      have HB5' := Lib.hid (HWB.out.trans (hbW'.mono HWB.out.size))
      have HNO := Lib.hid hno
      clear h1 hxp hxk hxt hK hbW' hrW hno
      gi_wp2
      refine ⟨⟨_, _, _, _, _, _, _, _, _, _, _, _, _, _, _, _, _, _, _, _, _, _, _, _, _, _, _, _, ⟨k + 1, m, by omega, by go_num, by rw [CL_no HNO.out]; exact HM.out, by rw [CL_no HNO.out]; exact HOW'.out, HMK'.out, HB5'.out⟩, rfl⟩, by simp [Go.RowKit.intOf]; omega⟩
end Go.Kn

namespace Go.Kn
open Go Go.Proofs Go.RowKit

theorem getD_l {L : List Nat} {k i : Nat} (h : i < L.length) : (L ++ [k]).getD i 0 = L.getD i 0 := by
  simp [List.getD, List.getElem?_append_left h]
theorem getD_r {L : List Nat} {k : Nat} : (L ++ [k]).getD L.length 0 = k := by
  simp [List.getD]
section
variable {f : Int} {lo : Nat} {N : Nat → N2} {U : Nat → O3} {t : Nat → Int}
open Classical in
theorem CL_sm (g : Nat → Int) : ∀ k, sm (fun i => g ((CL f lo N U t k).getD i 0)) (CL f lo N U t k).length = sm (fun j => if CutN f lo N U t j then g j else 0) k
  | 0 => rfl
  | k + 1 => by
    have ih := CL_sm g k
    by_cases h : CutN f lo N U t k
    · rw [CL_yes h, List.length_append, List.length_singleton]
      simp only [sm]
      rw [if_pos h, getD_r, ← ih]
      congr 1
      exact sm_congr _ fun i hi => by rw [getD_l hi]
    · rw [CL_no h]
      simp only [sm]
      rw [if_neg h, Int.add_zero, ih]
theorem CL_in : ∀ k i, i < (CL f lo N U t k).length → (CL f lo N U t k).getD i 0 < k ∧ CutN f lo N U t ((CL f lo N U t k).getD i 0)
  | 0, i, h => by simp [CL] at h
  | k + 1, i, h => by
    by_cases hc : CutN f lo N U t k
    · rw [CL_yes hc] at h ⊢
      by_cases e : i < (CL f lo N U t k).length
      · rw [getD_l e]; have := CL_in k i e; exact ⟨by omega, this.2⟩
      · have : i = (CL f lo N U t k).length := by simp at h; omega
        rw [this, getD_r]; exact ⟨by omega, hc⟩
    · rw [CL_no hc] at h ⊢; have := CL_in k i h; exact ⟨by omega, this.2⟩
theorem CL_up : ∀ k i, i + 1 < (CL f lo N U t k).length → (CL f lo N U t k).getD i 0 < (CL f lo N U t k).getD (i + 1) 0
  | 0, i, h => by simp [CL] at h
  | k + 1, i, h => by
    by_cases hc : CutN f lo N U t k
    · rw [CL_yes hc] at h ⊢
      by_cases e : i + 1 < (CL f lo N U t k).length
      · rw [getD_l e, getD_l (by omega)]; exact CL_up k i e
      · have : i + 1 = (CL f lo N U t k).length := by simp at h; omega
        rw [this, getD_r, getD_l (by omega)]; exact (CL_in k i (by omega)).1
    · rw [CL_no hc] at h ⊢; exact CL_up k i h
end
theorem sm_one {P : Nat → Prop} [DecidablePred P] : ∀ k, (∀ i j, i < k → j < k → P i → P j → i = j) → (sm (fun i => if P i then (1 : Int) else 0) k = 0 ∧ ∀ i, i < k → ¬ P i) ∨ (sm (fun i => if P i then (1 : Int) else 0) k = 1 ∧ ∃ i, i < k ∧ P i)
  | 0, _ => .inl ⟨rfl, fun _ h => by omega⟩
  | k + 1, h => by
    simp only [sm]
    rcases sm_one k (fun i j hi hj => h i j (by omega) (by omega)) with ⟨h1, h2⟩ | ⟨h1, i, hi, hp⟩
    · by_cases hk : P k
      · exact .inr ⟨by rw [h1, if_pos hk]; rfl, k, by omega, hk⟩
      · refine .inl ⟨by rw [h1, if_neg hk]; rfl, fun i hi => ?_⟩
        by_cases e : i = k
        · rw [e]; exact hk
        · exact h2 i (by omega)
    · have hk : ¬ P k := fun hk => by have := h i k (by omega) (by omega) hp hk; omega
      exact .inr ⟨by rw [h1, if_neg hk]; rfl, i, by omega, hp⟩

/-- the list that Cut gives, as numbers -/
structure CutS (f : Int) (ln lo : Nat) (N : Nat → N2) (U : Nat → O3) (t : Nat → Int) (m : Nat) (cl : Nat → Nat) : Prop where
  le : m ≤ ln + 1
  ok : ∀ i, i < m → cl i ≤ ln
  up : ∀ i, i + 1 < m → cl i < cl (i + 1)
  sum : sm t lo = sm (fun i => capN f N (cl i)) m + sm (fun i => if sm (fun j => if cl j ∈ path N (U i).n.toNat then (1 : Int) else 0) m = 0 then (U i).c else 0) lo
  one : ∀ i, i < lo → sm (fun j => if cl j ∈ path N (U i).n.toNat then (1 : Int) else 0) m = 0 ∨ sm (fun j => if cl j ∈ path N (U i).n.toNat then (1 : Int) else 0) m = 1
open Classical in
theorem cutS_of {f : Int} {ln lo : Nat} {N : Nat → N2} {U : Nat → O3} {t : Nat → Int} (HT : TreeP f ln lo N U) (h : Ord f lo N U (fun _ => 0) [0, 1, 2, 3] t) :
    CutS f ln lo N U t (CL f lo N U t (ln + 1)).length (fun i => (CL f lo N U t (ln + 1)).getD i 0) := by
  obtain ⟨h1, h2⟩ := whole_p HT h
  have key : ∀ i, i < lo → (sm (fun j => if (CL f lo N U t (ln + 1)).getD j 0 ∈ path N (U i).n.toNat then (1 : Int) else 0) (CL f lo N U t (ln + 1)).length = 0 ∧ ¬ ∃ m, m ≤ ln ∧ CutN f lo N U t m ∧ m ∈ path N (U i).n.toNat) ∨
      (sm (fun j => if (CL f lo N U t (ln + 1)).getD j 0 ∈ path N (U i).n.toNat then (1 : Int) else 0) (CL f lo N U t (ln + 1)).length = 1 ∧ ∃ m, m ≤ ln ∧ CutN f lo N U t m ∧ m ∈ path N (U i).n.toNat) := by
    intro i hi
    have e := CL_sm (f := f) (lo := lo) (N := N) (U := U) (t := t) (fun j => if j ∈ path N (U i).n.toNat then (1 : Int) else 0) (ln + 1)
    have e2 : sm (fun j => if CutN f lo N U t j then (if j ∈ path N (U i).n.toNat then (1 : Int) else 0) else 0) (ln + 1) = sm (fun j => if CutN f lo N U t j ∧ j ∈ path N (U i).n.toNat then (1 : Int) else 0) (ln + 1) := sm_congr _ fun j _ => by
      by_cases a : CutN f lo N U t j <;> by_cases b : j ∈ path N (U i).n.toNat <;> simp [a, b]
    rw [e2] at e
    rcases sm_one (P := fun j => CutN f lo N U t j ∧ j ∈ path N (U i).n.toNat) (ln + 1) (fun a b _ _ ha hb => h2 i hi a b ha.1 hb.1 ha.2 hb.2) with ⟨k1, k2⟩ | ⟨k1, m, k2, k3⟩
    · exact .inl ⟨e.trans ((sm_congr _ fun j _ => by congr).trans k1), fun ⟨m, hm, hc, hp⟩ => k2 m (by omega) ⟨hc, hp⟩⟩
    · exact .inr ⟨e.trans ((sm_congr _ fun j _ => by congr).trans k1), m, by omega, k3.1, k3.2⟩
  refine ⟨CL_len _, fun i hi => by have := (CL_in _ i hi).1; omega, fun i hi => CL_up _ i hi, ?_, fun i hi => (key i hi).imp (fun h => h.1) (fun h => h.1)⟩
  rw [h1, CL_sm]
  congr 1
  refine sm_congr _ fun i hi => ?_
  rcases key i hi with ⟨k1, k2⟩ | ⟨k1, k2⟩
  · rw [if_neg k2, if_pos k1]
  · rw [if_pos k2, if_neg (by rw [k1]; decide)]
theorem cutSl {w : World} {B m : Nat} {v : Value} {L : List Nat} (h : w.ownsRow B 3 1 v m (L.map (fun k => Value.int .i64 ((k : Nat) : Int)))) : ∃ sa cc, v = .slice sa m cc ∧ IntSl w sa m (fun i => ((L.getD i 0 : Nat) : Int)) := by
  have h' : w.ownsRow B 3 1 v m ((L.map (fun k => ((k : Nat) : Int))).map (Value.int .i64)) := by rw [List.map_map]; exact h
  obtain ⟨sa, cc, h1, h2, h3⟩ := intSl_of_owns h'
  refine ⟨sa, cc, h1, ?_⟩
  have : (fun i => (L.map (fun k => ((k : Nat) : Int))).getD i 0) = fun i => ((L.getD i 0 : Nat) : Int) := by
    funext i
    simp only [List.getD, List.getElem?_map]
    cases L[i]? <;> rfl
  rw [← this]
  exact h3
theorem cut_w2 (f : Int) (na oa : Option Addr) (ln cn lo co : Nat) (N : Nat → N2) (U : Nat → O3) (t : Nat → Int) (W : World) (HR : Hid (TreeS f ln lo N U)) (HT : Hid (Tr7 W na oa ln lo N U)) (HO : Hid (Ord f lo N U (fun _ => 0) [0, 1, 2, 3] t)) :
    Calls Tryz.prog 26 #[.agg #[.int .i64 f, .slice na ln cn, .slice oa lo co]] W fun e W' =>
      (∃ pc m cc cl, e = .returned (.tuple #[.slice pc m cc, .int .i64 0]) ∧ IntSl W' pc m (fun i => ((cl i : Nat) : Int)) ∧ CutS f ln lo N U t m cl) ∧ Below W.heap.size W W' := by
  refine (cut_w f na oa ln cn lo co N U t W HR HT HO).mono ?_
  rintro e W' ⟨⟨v, m, rfl, rfl, how⟩, hv⟩
  obtain ⟨pc, cc, rfl, hcs⟩ := cutSl how
  exact ⟨⟨pc, _, cc, _, rfl, hcs, cutS_of HR.out.w HO.out⟩, hv⟩
theorem intSl_cells {w : World} {A O m : Nat} {s : Nat → Int} (h : IntSl w (some ⟨A, O, none⟩) m s) {i : Nat} (hi : i < m) : w.cell? ⟨A, O + i, none⟩ = some (.int .i64 (s i)) := by
  rcases h with h | ⟨A', O', e, _, hn⟩
  · omega
  · injection e with e
    injection e with e1 e2
    subst e1 e2
    exact hn i hi
theorem sm_bd {g : Nat → Int} {b : Int} : ∀ k, (∀ i, i < k → 0 ≤ g i ∧ g i ≤ b) → 0 ≤ sm g k ∧ sm g k ≤ b * (k : Int)
  | 0, _ => by simp [sm]
  | k + 1, h => by
    have ih := sm_bd k (fun i hi => h i (by omega))
    have hk := h k (by omega)
    simp only [sm]
    rw [show ((k + 1 : Nat) : Int) = (k : Int) + 1 from rfl, Int.mul_add, Int.mul_one]
    omega
theorem wrapI {x : Int} (h : wrap64 x = x) : IntKind.i64.wrap x = x := by
  rw [IntKind.wrap_i64]
  unfold wrap64 at h
  exact h
theorem totT_all {f : Int} {ln lo : Nat} {N : Nat → N2} {U : Nat → O3} (HT : TreeP f ln lo N U) (s : Nat → Int) : totT U s 0 3 lo = sm s lo :=
  sm_congr _ fun i hi => if_pos ⟨(tree_o HT hi).2.2.1, (tree_o HT hi).2.2.2⟩
theorem tot_le {f : Int} {ln lo : Nat} {N : Nat → N2} {U : Nat → O3} {t o : Nat → Int} (HT : TreeP f ln lo N U) (h : Ord f lo N U (fun _ => 0) [0, 1, 2, 3] t) (hb : ∀ i, i < lo → 0 ≤ o i ∧ o i ≤ (U i).c) (ho : FitP f ln lo N U o) : totT U o 0 3 lo ≤ totT U t 0 3 lo := by
  rw [totT_all HT, totT_all HT]
  have := first_p HT h hb ho 3
  rwa [sm_congr (h := o) _ fun i hi => if_pos (tree_o HT hi).2.2.2, sm_congr (h := t) _ fun i hi => if_pos (tree_o HT hi).2.2.2] at this
end Go.Kn

namespace Go.Kn
open Go Go.Proofs Go.RowKit

theorem cutN_iff {f : Int} {lo : Nat} {N : Nat → N2} {U : Nat → O3} {t : Nat → Int} {k : Nat} {pre : List Nat} (hp : path N k = k :: pre) (hk : k ∉ pre) : CutN f lo N U t k ↔ sumB N U t k lo = capN f N k ∧ ∀ x ∈ pre, sumB N U t x lo ≠ capN f N x := by
  refine ⟨fun h => ⟨h.1, fun x hx => h.2 x (by rw [hp]; exact List.mem_cons_of_mem _ hx) (fun e => hk (e ▸ hx))⟩, fun h => ⟨h.1, fun x hx hne => ?_⟩⟩
  rw [hp] at hx
  rcases List.mem_cons.1 hx with e | e
  · exact absurd e hne
  · exact h.2 x e
theorem par_lt {f : Int} {ln lo : Nat} {N : Nat → N2} {U : Nat → O3} (HR : TreeP f ln lo N U) : ∀ k, k ≤ ln → ∀ x ∈ path N k, x ≤ k := fun k hk x hx => path_le HR k hk x hx

theorem path_nd {f : Int} {ln lo : Nat} {N : Nat → N2} {U : Nat → O3} (HR : TreeP f ln lo N U) {k : Nat} (hk : k ≤ ln) (tl : List Nat) (h : path N k = k :: tl) : k ∉ tl := by
  intro hm
  cases k with
  | zero => rw [path_zero] at h; injection h with _ h2; rw [← h2] at hm; cases hm
  | succ j =>
    rw [path_succ HR (by omega)] at h
    injection h with _ h2
    rw [← h2] at hm
    have hp := (tree_n HR (show j < ln by omega)).1
    have := path_le HR _ (by omega) _ hm
    omega

theorem path_next {f : Int} {ln lo : Nat} {N : Nat → N2} {U : Nat → O3} (HR : TreeP f ln lo N U) {x : Nat} (hx : x ≤ ln) : ∃ rest, path N x = x :: rest ∧ ((rest = [] ∧ parN N x = -1) ∨ ∃ y : Nat, y ≤ ln ∧ rest = path N y ∧ parN N x = (y : Int) ∧ y < x) := by
  cases x with
  | zero => exact ⟨[], rfl, .inl ⟨rfl, rfl⟩⟩
  | succ j =>
    have hp := (tree_n HR (show j < ln by omega)).1
    exact ⟨path N (N j).p.toNat, path_succ HR (by omega), .inr ⟨(N j).p.toNat, by omega, rfl, by show (N j).p = _; omega, by omega⟩⟩

set_option maxRecDepth 100000 in
set_option maxHeartbeats 4000000 in
theorem rcut_w (f : Int) (na oa : Option Addr) (ln cn lo co : Nat) (N : Nat → N2) (U : Nat → O3) (t : Nat → Int) (w : World) (HR : Hid (TreeP f ln lo N U)) (H : Hid (Tr7 w na oa ln lo N U)) (HO : Hid (Ord f lo N U (fun _ => 0) [0, 1, 2, 3] t)) :
    Calls Tryz.prog 32 #[.agg #[.int .i64 f, .slice na ln cn, .slice oa lo co]] w fun e w' =>
      (∃ v m, e = .returned v ∧ m = (CL f lo N U t (ln + 1)).length ∧ w'.ownsRow w.heap.size 3 1 v m ((CL f lo N U t (ln + 1)).map (fun k => Value.int .i64 ((k : Nat) : Int)))) ∧ Below w.heap.size w w' := by
  have q1 := HR.out.l6
  have q2 := HR.out.lo2
  obtain ⟨i0, hi0, hz0, hz1, hz2⟩ := info_parts info3'
  have BX := Lib.hid (fun (w1 : World) (hb : Below (w.alloc (.cells #[.int .i64 f, .slice na ln cn, .slice oa lo co] 25)).heap.size (w.alloc (.cells #[.int .i64 f, .slice na ln cn, .slice oa lo co] 25)) w1) => box7 hb)
  have HN : Hid (∀ w1, Below (w.alloc (.cells #[.int .i64 f, .slice na ln cn, .slice oa lo co] 25)).heap.size (w.alloc (.cells #[.int .i64 f, .slice na ln cn, .slice oa lo co] 25)) w1 → Hid (Tr7 w1 na oa ln lo N U)) := Lib.hid fun w1 h => Lib.hid (H.out.below (below_al h))
  have hb : Below (w.alloc (.cells #[.int .i64 f, .slice na ln cn, .slice oa lo co] 25)).heap.size (w.alloc (.cells #[.int .i64 f, .slice na ln cn, .slice oa lo co] 25)) (w.alloc (.cells #[.int .i64 f, .slice na ln cn, .slice oa lo co] 25)) := Below.refl _ _
  obtain ⟨x1, x2, x3, x4⟩ := BX.out _ hb
  clear H
  go_enter Tryz.func32, Tryz.ntmps32
  go_wp2_with (go_at_call 23; refine (rshares_w f na oa ln cn lo co N U _ HR (HN.out _ hb)).mono ?_; rintro e wl ⟨⟨sb, cb, t', rfl, hsb, ho⟩, hv⟩; replace hb := hb.trans (hv.mono hb.size); clear x1 x2 x3 x4; obtain rfl : t' = t := ho.det HO.out; have HSB := Lib.hid hsb; clear ho hsb)
  have HBL := Lib.hid hb
  have HX : Hid (∀ w2, Below wl.heap.size wl w2 → (w2.cell? ⟨w.heap.size, 0, none⟩ = some (.int .i64 f) ∧ w2.cell? ⟨w.heap.size, 1, none⟩ = some (.slice na ln cn) ∧ w2.cell? ⟨w.heap.size, 2, none⟩ = some (.slice oa lo co) ∧ w.heap.size < w2.heap.size) ∧ Hid (Tr7 w2 na oa ln lo N U) ∧ Hid (IntSl w2 sb lo t')) := Lib.hid fun w2 h => by
    have h2 := HBL.out.trans (h.mono HBL.out.size)
    exact ⟨BX.out _ h2, HN.out _ h2, Lib.hid (HSB.out.below h)⟩
  have HZ : Hid (w.heap.size ≤ wl.heap.size) := Lib.hid (by have := hb.size; simp at this; omega)
  clear hb
  go_loopw [4, 5] (fun v ii wr => ∃ k m : Nat, k ≤ ln + 1 ∧ ii = .int .i64 (k : Int) ∧ m = (CL f lo N U t' k).length ∧ wr.ownsRow wl.heap.size 3 1 v m ((CL f lo N U t' k).map (fun k => Value.int .i64 ((k : Nat) : Int))) ∧ Below wl.heap.size wl wr) (fun _ ii _ => ln + 1 - (Go.RowKit.intOf ii).toNat)
  case atStart => exact ⟨0, 0, by omega, rfl, rfl, ⟨rfl, .inl ⟨rfl, rfl⟩⟩, Below.refl _ _⟩
  case round =>
    obtain ⟨k, m, hk, rfl, hm, hown, hbr⟩ := hrel
    have HOW := Lib.hid hown
    have HBR := Lib.hid hbr
    have HM := Lib.hid hm
    clear hown hbr hm
    obtain ⟨⟨x1, x2, x3, x4⟩, _⟩ := HX.out _ HBR.out
    by_cases hlt : k < ln + 1
    · have n1 : (k : Int) ≤ (ln : Int) := by omega
      have hc := HBR.out
      have HSP : Hid (SharesP lo lo t' U) := Lib.hid (sharesP_of (HO.out.vd (vd_zero HR.out)))
      have HRT : Hid (∀ (x : Nat) w2, x ≤ ln → Below wl.heap.size wl w2 → Calls Tryz.prog 82 #[.agg #[.int .i64 f, .slice na ln cn, .slice oa lo co], .slice sb lo cb, .int .i64 (x : Int)] w2 fun e w3 => e = .returned (.bool (decide (sumB N U t' x lo = capN f N x))) ∧ Below w2.heap.size w2 w3) := Lib.hid fun x w2 hx h => rtight_w f na oa sb ln cn lo co cb x N U t' w2 hx HR HSP (HX.out _ h).2.1 (HX.out _ h).2.2
      have HPA : Hid (∀ (x : Nat) w2, x ≤ ln → Below wl.heap.size wl w2 → Calls Tryz.prog 78 #[.agg #[.int .i64 f, .slice na ln cn, .slice oa lo co], .int .i64 (x : Int)] w2 fun e w3 => e = .returned (.int .i64 (parN N x)) ∧ Below w2.heap.size w2 w3) := Lib.hid fun x w2 hx h => rparent_w f na oa ln cn lo co x N U w2 hx (by omega) (HX.out _ h).2.1
      have hkl : k ≤ ln := by omega
      go_wp2_with (first
        | (go_at_call 82; refine (HRT.out k _ hkl hc).mono ?_; rintro e w5 ⟨rfl, hv5⟩; have HV5 := Lib.hid hv5; replace hc := hc.trans (hv5.mono hc.size); clear x1 x2 x3 x4; obtain ⟨⟨x1, x2, x3, x4⟩, _⟩ := HX.out _ hc)
        | (go_at_call 78; refine (HPA.out k _ hkl hc).mono ?_; rintro e w6 ⟨rfl, hv6⟩; have HV6 := Lib.hid hv6; replace hc := hc.trans (hv6.mono hc.size); clear x1 x2 x3 x4))
      have HW6 : Hid (Below wr.heap.size wr w6) := Lib.hid (HV5.out.trans (HV6.out.mono HV5.out.size))
      have HC6 := Lib.hid hc
      obtain ⟨w0, hw0⟩ : ∃ w0, w0 = w6 := ⟨_, rfl⟩
      subst hw0
      clear hc hv5 hv6
      go_loopw [6, 7] (fun bv pv wr => ∃ (pre rest : List Nat) (b : Bool), bv = .bool b ∧ (b = true ↔ sumB N U t' k lo = capN f N k ∧ ∀ x ∈ pre, sumB N U t' x lo ≠ capN f N x) ∧ path N k = k :: (pre ++ rest) ∧ ((rest = [] ∧ pv = .int .i64 (-1)) ∨ ∃ x : Nat, x ≤ ln ∧ rest = path N x ∧ pv = .int .i64 (x : Int)) ∧ Below w0.heap.size w0 wr) (fun _ pv _ => (Go.RowKit.intOf pv + 1).toNat)
      case atStart =>
        cases k with
        | zero => exact ⟨[], [], _, rfl, by simp, rfl, .inl ⟨rfl, rfl⟩, Below.refl _ _⟩
        | succ j =>
          have hpj := (tree_n HR.out (show j < ln by omega)).1
          exact ⟨[], path N (N j).p.toNat, _, rfl, by simp, path_succ HR.out (by omega), .inr ⟨(N j).p.toNat, by omega, rfl, by show Value.int .i64 (N j).p = _; congr 1; omega⟩, Below.refl _ _⟩
      case round =>
        obtain ⟨pre, rest, b, rfl, hb2, hpath, hcase, hbr2⟩ := hrel
        have HB2 := Lib.hid hb2
        have HPT := Lib.hid hpath
        have HC0 := Lib.hid (HC6.out.trans (hbr2.mono HC6.out.size))
        have HR2 := Lib.hid hbr2
        clear hb2 hpath hbr2
        obtain ⟨⟨x1, x2, x3, x4⟩, _⟩ := HX.out _ HC0.out
        rcases hcase with ⟨rfl, rfl⟩ | ⟨x, hx, hrest, rfl⟩
        · have hnd : k ∉ pre := fun h => by
            have h2 := HPT.out
            rw [List.append_nil] at h2
            exact path_nd HR.out hkl pre h2 h
          have HCU := Lib.hid (cutN_iff (f := f) (lo := lo) (U := U) (t := t') (by have h2 := HPT.out; rwa [List.append_nil] at h2) hnd)
          clear hnd
          cases b with
          | true =>
            have hcut : CutN f lo N U t' k := HCU.out.2 (HB2.out.1 rfl)
            have HCT := Lib.hid hcut
            have HOW' := Lib.hid (owns_below (owns_below HOW.out HW6.out) HR2.out)
            have hm7 : m ≤ 10 := by have := CL_len (f := f) (lo := lo) (N := N) (U := U) (t := t') k; have := HM.out; omega
            clear hcut
            go_wp2_with (at_builtin; refine wpList_append_own_at _ rfl (.tmp 38) (.tmp 40) 26 rfl wl.heap.size 3 i0 (.int .i64 0) 1 8 Tryz.underlying26 hi0 hz0 hz1 hz2 rfl (by decide) _ m _ rfl (HOW'.out.alloc _) ⟨_, 0, none⟩ 1 1 [.int .i64 (k : Int)] rfl rfl (lies_any (by first | exact al_top rfl _ _ | exact al_top (by simp) _ _)) (by intro u hu; simp at hu; subst hu; rfl) (by unfold maxLen; omega) (by omega) (by have := HC0.out.size; simp; omega) ?_; intro v7 w7 hown7 hgrow7 _ hloc7)
            go_roundw
            case rel => exact ⟨k + 1, m + 1, by omega, by go_num, by rw [CL_yes HCT.out, List.length_append, ← HM.out]; rfl, by rw [CL_yes HCT.out, List.map_append]; exact hown7, (HC0.out.alloc HC0.out.size _).grown hgrow7 (by have := HC0.out.size; simp; omega) (fun r e => own_ge HOW.out r e)⟩
            case measure => simp [Go.RowKit.intOf]; omega
          | false =>
            have hcut : ¬ CutN f lo N U t' k := fun h => by have := HB2.out.2 (HCU.out.1 h); cases this
            have HCT := Lib.hid hcut
            clear hcut
            go_wp2
            go_roundw
            case rel => exact ⟨k + 1, m, by omega, by go_num, by rw [CL_no HCT.out]; exact HM.out, by rw [CL_no HCT.out]; exact owns_below (owns_below HOW.out HW6.out) HR2.out, HC0.out⟩
            case measure => simp [Go.RowKit.intOf]; omega
        · have n3 : (0 : Int) ≤ (x : Int) := by omega
          obtain ⟨rest2, hp2, hnx⟩ := path_next HR.out hx
          have HP2 := Lib.hid hp2
          have HNX := Lib.hid hnx
          have HC7 := HC0
          have n4 : decide ((0 : Int) ≤ (x : Int)) = true := decide_eq_true n3
          clear hp2 hnx
          cases htx : decide (sumB N U t' x lo = capN f N x)
          · have HTX := Lib.hid htx
            clear htx
            cases b with
            | true =>
              have HBT := Lib.hid (HB2.out.1 rfl)
              go_wp2_with (first
                | (go_at_call 82; refine (HRT.out x _ hx HC7.out).mono ?_; rintro e w8 ⟨he, hv8⟩; rw [HTX.out] at he; subst he; have HC7 := Lib.hid (HC7.out.trans (hv8.mono HC7.out.size)); have HR2 := Lib.hid (HR2.out.trans (hv8.mono HR2.out.size)); clear x1 x2 x3 x4; obtain ⟨⟨x1, x2, x3, x4⟩, _⟩ := HX.out _ HC7.out)
                | (go_at_call 78; refine (HPA.out x _ hx HC7.out).mono ?_; rintro e w9 ⟨rfl, hv9⟩; have HR9 := Lib.hid (HR2.out.trans (hv9.mono HR2.out.size)); clear x1 x2 x3 x4))
              go_roundw
              case rel => exact ⟨pre ++ [x], rest2, true, rfl, ⟨fun _ => ⟨HBT.out.1, fun y hy => (List.mem_append.1 hy).elim (fun h => HBT.out.2 y h) (fun h => by rw [List.mem_singleton] at h; subst h; exact of_decide_eq_false HTX.out)⟩, fun _ => (by first | rfl | trivial)⟩, by rw [HPT.out, hrest, HP2.out]; simp, HNX.out.elim (fun h => .inl ⟨h.1, by rw [h.2]⟩) (fun ⟨y, h1, h2, h3, _⟩ => .inr ⟨y, h1, h2, by rw [h3]⟩), HR9.out⟩
              case measure =>
                rcases HNX.out with h | ⟨y, _, _, h, h4⟩
                · rw [h.2]; simp [Go.RowKit.intOf]
                · rw [h]; simp [Go.RowKit.intOf]; omega
            | false =>
              have HBF : Hid (¬ (sumB N U t' k lo = capN f N k ∧ ∀ x ∈ pre, sumB N U t' x lo ≠ capN f N x)) := Lib.hid (fun h => by have := HB2.out.2 h; cases this)
              go_wp2_with (first
                | (go_at_call 78; refine (HPA.out x _ hx HC7.out).mono ?_; rintro e w9 ⟨rfl, hv9⟩; have HR9 := Lib.hid (HR2.out.trans (hv9.mono HR2.out.size)); clear x1 x2 x3 x4))
              go_roundw
              case rel => exact ⟨pre ++ [x], rest2, false, rfl, ⟨fun h => (by first | cases h | exact h.elim), fun h => (HBF.out ⟨h.1, fun y hy => h.2 y (List.mem_append_left _ hy)⟩).elim⟩, by rw [HPT.out, hrest, HP2.out]; simp, HNX.out.elim (fun h => .inl ⟨h.1, by rw [h.2]⟩) (fun ⟨y, h1, h2, h3, _⟩ => .inr ⟨y, h1, h2, by rw [h3]⟩), HR9.out⟩
              case measure =>
                rcases HNX.out with h | ⟨y, _, _, h, h4⟩
                · rw [h.2]; simp [Go.RowKit.intOf]
                · rw [h]; simp [Go.RowKit.intOf]; omega
          · have HTX := Lib.hid htx
            clear htx
            cases b with
            | true =>
              have HBT := Lib.hid (HB2.out.1 rfl)
              go_wp2_with (first
                | (go_at_call 82; refine (HRT.out x _ hx HC7.out).mono ?_; rintro e w8 ⟨he, hv8⟩; rw [HTX.out] at he; subst he; have HC7 := Lib.hid (HC7.out.trans (hv8.mono HC7.out.size)); have HR2 := Lib.hid (HR2.out.trans (hv8.mono HR2.out.size)); clear x1 x2 x3 x4; obtain ⟨⟨x1, x2, x3, x4⟩, _⟩ := HX.out _ HC7.out)
                | (go_at_call 78; refine (HPA.out x _ hx HC7.out).mono ?_; rintro e w9 ⟨rfl, hv9⟩; have HR9 := Lib.hid (HR2.out.trans (hv9.mono HR2.out.size)); clear x1 x2 x3 x4))
              go_roundw
              case rel => exact ⟨pre ++ [x], rest2, false, rfl, ⟨fun h => (by first | cases h | exact h.elim), fun h => absurd (of_decide_eq_true HTX.out) (h.2 x (by simp))⟩, by rw [HPT.out, hrest, HP2.out]; simp, HNX.out.elim (fun h => .inl ⟨h.1, by rw [h.2]⟩) (fun ⟨y, h1, h2, h3, _⟩ => .inr ⟨y, h1, h2, by rw [h3]⟩), HR9.out⟩
              case measure =>
                rcases HNX.out with h | ⟨y, _, _, h, h4⟩
                · rw [h.2]; simp [Go.RowKit.intOf]
                · rw [h]; simp [Go.RowKit.intOf]; omega
            | false =>
              have HBF : Hid (¬ (sumB N U t' k lo = capN f N k ∧ ∀ x ∈ pre, sumB N U t' x lo ≠ capN f N x)) := Lib.hid (fun h => by have := HB2.out.2 h; cases this)
              go_wp2_with (first
                | (go_at_call 78; refine (HPA.out x _ hx HC7.out).mono ?_; rintro e w9 ⟨rfl, hv9⟩; have HR9 := Lib.hid (HR2.out.trans (hv9.mono HR2.out.size)); clear x1 x2 x3 x4))
              go_roundw
              case rel => exact ⟨pre ++ [x], rest2, false, rfl, ⟨fun h => (by first | cases h | exact h.elim), fun h => (HBF.out ⟨h.1, fun y hy => h.2 y (List.mem_append_left _ hy)⟩).elim⟩, by rw [HPT.out, hrest, HP2.out]; simp, HNX.out.elim (fun h => .inl ⟨h.1, by rw [h.2]⟩) (fun ⟨y, h1, h2, h3, _⟩ => .inr ⟨y, h1, h2, by rw [h3]⟩), HR9.out⟩
              case measure =>
                rcases HNX.out with h | ⟨y, _, _, h, h4⟩
                · rw [h.2]; simp [Go.RowKit.intOf]
                · rw [h]; simp [Go.RowKit.intOf]; omega
    · obtain rfl : k = ln + 1 := by omega
      have n1 : ¬ ((ln + 1 : Nat) : Int) ≤ (ln : Int) := by omega
      have n2 : ¬ ((ln : Int) + 1 ≤ (ln : Int)) := by omega
      go_wp2
      refine bodyPost_ret (v := u4) (by simp [results, Tryz.results32, go_sem]) rfl ⟨⟨u4, rfl, by have h := own_base HOW.out HZ.out; rw [HM.out] at h; exact h⟩, ?_⟩
      exact below_al (HBL.out.trans (HBR.out.mono HBL.out.size))
end Go.Kn

namespace Go.Kn
open Go Go.Proofs Go.RowKit
variable {f : Int} {ln lo : Nat} {N : Nat → N2} {U : Nat → O3}

theorem served_ex : ∀ (g : Nat) (s : Nat → Int) (l : List Nat), Vd f ln lo N U s → (gap lo U s).toNat ≤ g → (∀ i ∈ l, i < lo) → ∃ t, Served f lo N U s l t := by
  intro g
  induction g with
  | zero =>
    intro s l hv hg hl
    cases l with
    | nil => exact ⟨s, .done s⟩
    | cons i l =>
      have h1 := gap_pass (f := f) (lo := lo) (N := N) (U := U) (i :: l) s hl
      have h2 := gap_nonneg (pass_vd hl hv)
      have h3 := gap_nonneg hv
      have h4 : (passS f lo N U s (i :: l)).2 = [] := List.length_eq_zero_iff.1 (by omega)
      exact ⟨_, .next _ _ _ (by simp) (by rw [h4]; exact .done _)⟩
  | succ g ih =>
    intro s l hv hg hl
    cases l with
    | nil => exact ⟨s, .done s⟩
    | cons i l =>
      have h1 := gap_pass (f := f) (lo := lo) (N := N) (U := U) (i :: l) s hl
      have h2 := gap_nonneg (pass_vd hl hv)
      have h3 := gap_nonneg hv
      by_cases h4 : (passS f lo N U s (i :: l)).2 = []
      · exact ⟨_, .next _ _ _ (by simp) (by rw [h4]; exact .done _)⟩
      · have h5 : (passS f lo N U s (i :: l)).2.length ≠ 0 := fun e => h4 (List.length_eq_zero_iff.1 e)
        obtain ⟨t, ht⟩ := ih (passS f lo N U s (i :: l)).1 (passS f lo N U s (i :: l)).2 (pass_vd hl hv) (by omega) (fun j hj => hl j ((pass_sub (i :: l) s).subset hj))
        exact ⟨t, .next _ _ _ (by simp) ht⟩

theorem ord_ex : ∀ (cs : List Int) (s : Nat → Int), Vd f ln lo N U s → ∃ t, Ord f lo N U s cs t
  | [], s, _ => ⟨s, .nil s⟩
  | c :: cs, s, hv => by
    have hl : ∀ i ∈ classL lo U c, i < lo := fun i hi => (classL_mem.1 hi).1
    obtain ⟨t, ht⟩ := served_ex (f := f) (N := N) (gap lo U s).toNat s (classL lo U c) hv (Nat.le_refl _) hl
    have hv2 : Vd f ln lo N U t := ht.inv (fun t => Vd f ln lo N U t) (classL lo U c) (fun s i hi h ho => h.put (hl i hi) (by omega) ho) (fun _ h => h) hv
    obtain ⟨r, hr⟩ := ord_ex cs t hv2
    exact ⟨r, .cons _ _ _ _ _ ht hr⟩

set_option maxRecDepth 100000 in
set_option maxHeartbeats 1000000 in
theorem isOutlet_w (f n : Int) (na oa : Option Addr) (ln cn lo co : Nat) (w : World) (hlo : lo ≤ 1000000) : Calls Tryz.prog 79 #[.agg #[.int .i64 f, .slice na ln cn, .slice oa lo co], .int .i64 n] w
    fun e w' => e = .returned (.bool (fromB 0 ((lo : Int) - 1) n)) ∧ Below w.heap.size w w' := by
  have wr1 : wrap64 ((lo : Int) - 1) = (lo : Int) - 1 := by unfold wrap64; omega
  go_enter Tryz.func79, Tryz.ntmps79
  go_wp2_with (go_at_call 91; refine (isFrom_w _ _ _ _).mono ?_; rintro e w' ⟨rfl, rfl⟩)
  go_ret
  exact ⟨rfl, (Below.refl _ _).alloc (Nat.le_refl _) _⟩

set_option maxRecDepth 100000 in
set_option maxHeartbeats 1000000 in
theorem outlet_w (f n : Int) (na oa : Option Addr) (ln cn lo co : Nat) (w : World) (hlo : lo ≤ 1000000) : Calls Tryz.prog 33 #[.agg #[.int .i64 f, .slice na ln cn, .slice oa lo co], .int .i64 n] w
    fun e w' => e = .returned (.bool (fromB 0 ((lo : Int) - 1) n)) ∧ Below w.heap.size w w' := by
  have wr1 : wrap64 ((lo : Int) - 1) = (lo : Int) - 1 := by unfold wrap64; omega
  go_enter Tryz.func33, Tryz.ntmps33
  go_wp2_with (go_at_call 68; refine (in_w _ _ _ _).mono ?_; rintro e w' ⟨rfl, rfl⟩)
  go_ret
  exact ⟨rfl, (Below.refl _ _).alloc (Nat.le_refl _) _⟩
end Go.Kn
