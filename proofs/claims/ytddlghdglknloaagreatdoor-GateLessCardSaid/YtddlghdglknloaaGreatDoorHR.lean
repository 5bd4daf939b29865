/- Contracts of functions that the laws of this seat call, or the evaluator of closed calls and its runs. Conditions: as each theorem states them. -/
import Derived.RangeFuncNested
import Derived.RangeFuncLeaves
import Derived.Deep.Quiet
import Derived.OrdersIn
import Derived.RangeFuncCalls
import Derived.Test.YtddlghdglknloaaGreatDoorG0
set_option linter.unusedVariables false
set_option linter.unusedSimpArgs false
/- Contracts of functions that the laws of this seat call, or the evaluator of closed calls and its runs. Conditions: as each theorem states them. -/
set_option linter.unusedVariables false
set_option linter.unusedSimpArgs false
namespace Go.Kn
open Go Go.RowKit

variable {F : Fence} {n : Nat} {P : Program}

/-- 'roundPost' where a round may panic: none of its calls is deferred. -/
def roundPostP (P : Program) (l : Nat) (R : Ending → World → Prop) : Exit → Act → World → Prop
  | .panic ch, a, w => a.defers = [] ∧ R (.panicked ch) w
  | e, a, w => roundPost P l R e a w

/-- 'roundIn_of_wpIn' with the panic taken in. -/
theorem roundIn_of_wpInP {l : Nat} {f : FuncId} {fn : Func} {tmps : Array Value} {assign body : Code} {w : World} {R : Ending → World → Prop} (hfn : P.funcs[f]? = some fn) (hF : F.fn f)
    (h : assign.wpIn (F.inRound l) n P (Exit.then (fun a₁ w₁ => ∃ w₂, (Instr.beginRound l).run P w₁ = .ok () w₂ ∧ body.wpIn (F.inRound l) n P (roundPostP P l R) a₁ w₂) (fun _ _ _ => False))
      { tmps := tmps, defers := [] } w) :
    RoundIn F n P l f tmps assign body w R := by
  refine ⟨hF, fun c cs hr => ?_⟩
  let b : Frame := { (default : Frame) with fn := f, kind := .normal, roundOf := some l }
  have hb0 : Frame.round l f tmps assign body .normal = b.atR { tmps := tmps, defers := [] } [.code assign, .beginRound, .code body] := by
    simp [Frame.round, Frame.atR, b]
  have hr' : (F.inRound l).room ((c :: cs).length + 1 + n) := hr
  have hF' : (F.inRound l).fn b.fn := hF
  obtain ⟨e, a₁, w₁, hq, harr⟩ := h b [.beginRound, .code body] (c :: cs) rfl hF' hr'
  rw [← hb0] at harr
  cases e with
  | normal =>
    obtain ⟨w₂, hbr, hbody⟩ := hq
    have s1 : StepsIn (Machine.fenced P (F.inRound l)) P (lone (b.atR a₁ [.beginRound, .code body]) (c :: cs) w₁) (lone (b.atR a₁ [.code body]) (c :: cs) w₂) :=
      .one (fenced_calm (fr := b.atR a₁ [.beginRound, .code body]) hF' hr' rfl) (stepR_beginRound rfl hbr)
    obtain ⟨e₂, a₂, w₃, hq₂, harr₂⟩ := hbody b [] (c :: cs) rfl hF' hr'
    cases e₂ with
    | normal =>
      obtain ⟨v, w₄, hend, hR⟩ := hq₂
      exact ⟨.returned v, w₄, hR, (StepsIn.trans harr s1).trans (StepsIn.trans harr₂ (.one (fenced_calm (fr := b.atR a₂ []) hF' hr' rfl) (stepR_round_end rfl rfl hend)))⟩
    | ret =>
      obtain ⟨v, w₄, hend, hR⟩ := hq₂
      obtain ⟨k₁, hs⟩ := harr₂.2 rfl
      exact ⟨.returned v, w₄, hR, (StepsIn.trans harr s1).trans (StepsIn.trans hs (.one (fenced_calm (fr := b.atR a₂ (.code .ret :: k₁)) hF' hr' rfl) (stepR_round_ret rfl rfl hend)))⟩
    | exit id =>
      obtain ⟨v, w₄, hend, hR⟩ := hq₂
      obtain ⟨k₁, hk, hs⟩ := harr₂.2 rfl rfl
      exact ⟨.returned v, w₄, hR, (StepsIn.trans harr s1).trans (StepsIn.trans hs (.one (fenced_calm (fr := b.atR a₂ (.code (.exit id) :: k₁)) hF' hr' rfl) (stepR_round_exit rfl rfl hk hend)))⟩
    | goto t =>
      obtain ⟨v, w₄, hend, hR⟩ := hq₂
      obtain ⟨k₁, hk, hs⟩ := harr₂.2 rfl rfl
      exact ⟨.returned v, w₄, hR, (StepsIn.trans harr s1).trans (StepsIn.trans hs (.one (fenced_calm (fr := b.atR a₂ (.code (.goto t) :: k₁)) hF' hr' rfl) (stepR_round_goto rfl rfl hk hend)))⟩
    | panic chain =>
      obtain ⟨hd, hR⟩ := hq₂
      obtain ⟨todo, hs⟩ := harr₂
      have hleave : Frame.leaving P { b.atR a₂ todo with mode := .panicking chain } w₃ (.panicked chain) := ⟨rfl, hd, fn, hfn⟩
      exact ⟨.panicked chain, w₃, hR, (StepsIn.trans harr s1).trans (StepsIn.trans hs (.one (fenced_leaving hF' hr' hleave) (step_leave_panicked hleave)))⟩
    | outgrown => exact hq₂.elim
  | exit id => exact hq.elim
  | goto t => exact hq.elim
  | ret => exact hq.elim
  | panic chain => exact hq.elim
  | outgrown => exact hq.elim
end Go.Kn

namespace Go.Kn
open Go Go.RowKit

variable {F : Fence} {n : Nat} {P : Program}

/-- How a round's body may be left here: it goes on, or it panics with no call deferred. -/
def onPostQ {α : Type} (B : Nat) (Kp : World → World → Prop) (I : List α → World → Prop) (Ip : List PanicEntry → World → Prop) (xs : List α) (W : World) : Exit → Act → World → Prop
  | .normal, _, W' => KeepsFrom B W W' ∧ Kp W W' ∧ I xs W'
  | .panic ch, a, W' => a.defers = [] ∧ KeepsFrom B W W' ∧ Ip ch W'
  | _, _, _ => False

theorem putObj_belowQ (W : World) {l : Nat} (o o' : Obj) {B : Nat} (hl : W.heap[l]? = some o) (hB : B ≤ l) : Below B W (W.putObj l o') :=
  (Below.refl B W).grown (grownBy_putObj' W l o') (by have := (Array.getElem?_eq_some_iff.1 hl).1; omega) (fun k e => by cases e; exact hB)

/-- A range over a function whose body may panic: the iterator writes what Wr says between two rounds. -/
theorem rangeFunc_pan2 {α : Type} {g : Operand} {ps : Array Tmp} {assign body : Code} {Q : Exit → Act → World → Prop} {a : Act} {w : World}
    (hfs : ∀ f, F.fn f → ∃ fn, P.funcs[f]? = some fn)
    (hro : F.round = none) (h1 : 1 ≤ n) {gf : Nat} {lb : Array Value} (hg : a.eval g = .func (.func gf) #[] lb) (hFg : F.fn gf) (eg : ∀ args w, (callFunc gf args).run P w = .ok (.enter gf args) w)
    {encs : α → Array Value} {Kp Wr : World → World → Prop} {S : List α → World → Prop} {Nx : List α → α → Prop}
    (hseq : ∀ (l : Nat) (J : List α → World → Prop) (Jp : List PanicEntry → World → Prop) (W : World), W.heap.size = w.heap.size + 2 → Below w.heap.size w W →
      (∀ s A B, J s A → Wr A B → J s B) →
      (∀ pre x W1, Nx pre x → J pre W1 → YieldAt F (n - 1 - 1) P l (encs x) W1 fun e W' => (e = .returned (.bool true) ∧ J (pre ++ [x]) W' ∧ Kp W1 W') ∨ (∃ ch, e = .panicked ch ∧ Jp ch W')) →
      J [] W → CallsIn F (n - 1) P gf (#[.func (.yield l) #[] #[]] ++ lb) W fun e W' => ((∃ v, e = .returned v) ∧ ∃ xs, S xs W' ∧ J xs W') ∨ (∃ ch, e = .panicked ch ∧ Jp ch W'))
    (hKt : ∀ {A B C : World}, Kp A B → Kp B C → Kp A C)
    (hKb : ∀ (W : World) (o' : Obj), Kp W (W.putObj (w.heap.size + 1) o'))
    (hS : ∀ xs (W : World) (o' : Obj), S xs W → S xs (W.putObj (w.heap.size + 1) o'))
    (hps : ∀ x, (encs x).size = ps.size)
    (hWr : ∀ A B, Wr A B → ∀ k, w.heap.size ≤ k → k < w.heap.size + 2 → B.heap[k]? = A.heap[k]?)
    (I : List α → World → Prop) (hIw : ∀ s A B, I s A → Wr A B → I s B) (hI : ∀ s A B, I s A → Below w.heap.size A B → I s B) (h0 : I [] w)
    (Ip : List PanicEntry → World → Prop)
    (Ax : α → Act → World → Prop) (hAx : ∀ x a' (W : World) (o' : Obj), w.heap.size + 2 ≤ W.heap.size → Ax x a' W → Ax x a' (W.putObj (w.heap.size + 1) o'))
    (hassign : ∀ (l : Nat) (pre : List α) (x : α) (W : World) (K : Act → World → Prop), w.heap.size + 2 ≤ W.heap.size → Nx pre x → I pre W → (∀ a' W', KeepsFrom w.heap.size W W' → Kp W W' → I pre W' → Ax x a' W' → K a' W') →
      assign.wpIn (F.inRound l) (n - 1 - 1) P (Exit.then K (fun _ _ _ => False)) { tmps := (ps.zip (encs x)).foldl (fun t (p, v) => t.setIfInBounds p v) a.tmps, defers := [] } W)
    (hbody : ∀ (l : Nat) (pre : List α) (x : α) (a' : Act) (W : World), w.heap.size + 2 ≤ W.heap.size → Nx pre x → I pre W → Ax x a' W → body.wpIn (F.inRound l) (n - 1 - 1) P (onPostQ w.heap.size Kp I Ip (pre ++ [x]) W) a' W)
    (hdone : ∀ (xs : List α) (W : World), S xs W → I xs W → W.heap[w.heap.size]? = some (.deferred (some [])) → Q .normal { a with defers := { target := .collected w.heap.size, args := #[] } :: a.defers } W)
    (hpan : ∀ (ch : List PanicEntry) (W : World), Ip ch W → W.heap[w.heap.size]? = some (.deferred (some [])) → Q (.panic ch) { a with defers := { target := .collected w.heap.size, args := #[] } :: a.defers } W) :
    (Code.rangeFunc g ps assign body).wpIn F n P Q a w := by
  refine wpIn_rangeFunc fun fn hfn => ?_
  rw [hro]
  let rec' : LoopState → Loop := fun st => { state := st, pending := none, fn, tmps := a.tmps, params := ps, assign, body, defers := w.heap.size }
  have hz : ((w.alloc (.deferred (some []))).alloc (.loop (rec' .ready))).heap.size = w.heap.size + 2 := by simp
  have hBz : Below w.heap.size w ((w.alloc (.deferred (some []))).alloc (.loop (rec' .ready))) := ((Below.refl _ w).alloc (Nat.le_refl _) _).alloc (by simp) _
  have hK1 : ((w.alloc (.deferred (some []))).alloc (.loop (rec' .ready))).heap[w.heap.size]? = some (.deferred (some [])) := (Below.heap_alloc _ _ _ (by simp)).trans (World.alloc_heap_new w _)
  have hL1 : ((w.alloc (.deferred (some []))).alloc (.loop (rec' .ready))).heap[w.heap.size + 1]? = some (.loop (rec' .ready)) := by
    have := World.alloc_heap_new (w.alloc (.deferred (some []))) (.loop (rec' .ready)); rwa [World.size_alloc] at this
  obtain ⟨fnn, hfnn⟩ := hfs fn hfn
  refine ⟨w.heap.size + 1, [{ target := .collected w.heap.size, args := #[] }], (w.alloc (.deferred (some []))).alloc (.loop (rec' .ready)), { target := .fn (.func gf) lb, args := #[.func (.yield (w.heap.size + 1)) #[] #[]] }, (w.alloc (.deferred (some []))).alloc (.loop (rec' .ready)), gf,
    #[.func (.yield (w.heap.size + 1)) #[] #[]] ++ lb, (w.alloc (.deferred (some []))).alloc (.loop (rec' .ready)), run_enterLoop_outer _ _ _ _ _, ?_, ?_, ?_, fun _ => h1, ?_⟩
  · simp only [resolve, hg]
    simp [go_sem, rec']
  · intro f' hf'; simp [Target.leads] at hf'; subst hf'; exact hFg
  · simp [invoke, go_sem, eg]
  refine (hseq (w.heap.size + 1)
    (fun pre W => I pre W ∧ W.heap[w.heap.size + 1]? = some (.loop (rec' .ready)) ∧ W.heap[w.heap.size]? = some (.deferred (some [])))
    (fun ch W => Ip ch W ∧ W.heap[w.heap.size]? = some (.deferred (some [])))
    _ hz hBz (fun s A B h hb => ⟨hIw s A B h.1 hb, (hWr _ _ hb _ (by omega) (by omega)).trans h.2.1, (hWr _ _ hb _ (by omega) (by omega)).trans h.2.2⟩) ?_ ⟨hI _ _ _ h0 hBz, hL1, hK1⟩).mono ?_
  · rintro pre x W hnx ⟨hi, hl, hk⟩
    have hlt : w.heap.size + 1 < W.heap.size := (Array.getElem?_eq_some_iff.1 hl).1
    refine ⟨fn, _, assign, body, run_yield (P := P) (args := encs x) hl (hps x), roundIn_of_wpInP hfnn hfn (hassign _ pre x W _ (by omega) hnx hi ?_)⟩
    intro a' Wa hkfa hkpa hia hax
    have hla := hkfa.same _ _ (by omega) hl rfl
    have hka := hkfa.same _ _ (Nat.le_refl _) hk rfl
    have hlta : w.heap.size + 1 < Wa.heap.size := (Array.getElem?_eq_some_iff.1 hla).1
    refine ⟨_, run_beginRound hla rfl, ?_⟩
    have hl2 : (Wa.putObj (w.heap.size + 1) (.loop (rec' .busy))).heap[w.heap.size + 1]? = some (.loop (rec' .busy)) := World.putObj_heap_same hlta
    have hk2 : (Wa.putObj (w.heap.size + 1) (.loop (rec' .busy))).heap[w.heap.size]? = some (.deferred (some [])) := (World.putObj_heap_other (by omega)).trans hka
    have hz2 : (Wa.putObj (w.heap.size + 1) (.loop (rec' .busy))).heap.size = Wa.heap.size := by simp
    refine wpIn_mono (hbody _ pre x a' (Wa.putObj (w.heap.size + 1) (.loop (rec' .busy))) (by omega) hnx (hI _ _ _ hia (putObj_belowQ Wa _ _ hla (by omega))) (hAx _ _ _ _ (by omega) hax)) ?_
    intro e a3 W3 hp
    cases e with
    | normal =>
      obtain ⟨hk3, hkp3, hi3⟩ := hp
      have hl3 := hk3.same _ _ (by omega) hl2 rfl
      have hd3 := hk3.same _ _ (Nat.le_refl _) hk2 rfl
      have hlt3 := (Array.getElem?_eq_some_iff.1 hl3).1
      refine ⟨_, _, run_endRound none hl3, .inl ⟨rfl, ⟨hI _ _ _ hi3 (putObj_belowQ W3 _ _ hl3 (by omega)), World.putObj_heap_same hlt3, (World.putObj_heap_other (by omega)).trans hd3⟩, hKt hkpa (hKt (hKt (hKb Wa _) hkp3) (hKb W3 _))⟩⟩
    | panic ch =>
      obtain ⟨hd, hk3, hi3⟩ := hp
      exact ⟨hd, .inr ⟨ch, rfl, hi3, hk3.same _ _ (Nat.le_refl _) hk2 rfl⟩⟩
    | ret => exact hp.elim
    | exit id => exact hp.elim
    | goto t => exact hp.elim
    | outgrown => exact hp.elim
  · rintro e W2 (⟨⟨v, rfl⟩, xs, hS2, hi, hl, hk⟩ | ⟨ch, rfl, hi, hk⟩)
    · exact ⟨none, _, run_endLoop (P := P) hl (by simp [rec']), hdone xs _ (hS _ _ _ hS2) (hI _ _ _ hi (putObj_belowQ W2 _ _ hl (by omega))) ((World.putObj_heap_other (by omega)).trans hk)⟩
    · exact hpan ch W2 hi hk
end Go.Kn

namespace Go.Kn
open Go Go.RowKit

/-- all operations but the last one can be walked in the text's order, and each is waited for: the last one comes last in every order. -/
def tailOk (l : List Oper) (n : Nat) : Bool :=
  Region.lexB .any (l.take n).toArray && (decide (n + 1 = l.length) && (l.all (fun o => o.guard.isNone) &&
  ((List.range (n + 1)).all (fun i => ((l[i]?).map fun o => o.after.all fun e => !Region.binds .any e || decide (e.on < i)).getD false) &&
  ((List.range n).all (fun i => (List.range (n + 1)).any fun j => decide (i < j) && ((l[j]?).map fun o => o.after.any fun e => Region.binds .any e && e.on == i).getD false) &&
  l.all (fun o => match o.op with | .defer _ => false | _ => true)))))

section
variable {P : Program} {l : List Oper} {n : Nat} {Q : Exit → Act → World → Prop}

structure TailP (l : List Oper) (n : Nat) : Prop where
  lex : Region.lexB .any (l.take n).toArray = true
  len : n + 1 = l.length
  grd : ∀ o ∈ l, o.guard = none
  back : ∀ i, i < n + 1 → ∀ o, l[i]? = some o → ∀ e ∈ o.after, Region.binds .any e = true → e.on < i
  wait : ∀ i, i < n → ∃ j o e, i < j ∧ j < n + 1 ∧ l[j]? = some o ∧ e ∈ o.after ∧ Region.binds .any e = true ∧ e.on = i
  nod : ∀ o ∈ l, ∀ c, o.op ≠ .defer c

theorem tailP_of (h : tailOk l n = true) : TailP l n := by
  unfold tailOk at h
  simp only [Bool.and_eq_true, decide_eq_true_eq, List.all_eq_true, List.mem_range, List.any_eq_true] at h
  obtain ⟨h1, h2, h3, h4, h5, h6⟩ := h
  refine ⟨h1, h2, fun o ho => by simpa using h3 o ho, fun i hi o ho e he hb => ?_, fun i hi => ?_, fun o ho c hc => ?_⟩
  · have := h4 i hi
    rw [ho] at this
    simp only [Option.map_some, Option.getD_some, Array.all_eq_true_iff_forall_mem] at this
    have := this e he
    rw [hb] at this
    simpa using this
  · obtain ⟨j, hj, hij, hw⟩ := h5 i hi
    cases ho : l[j]? with
    | none => rw [ho] at hw; simp at hw
    | some o =>
      rw [ho] at hw
      simp only [Option.map_some, Option.getD_some, Array.any_eq_true] at hw
      obtain ⟨k, hk, hk2⟩ := hw
      simp only [Bool.and_eq_true, beq_iff_eq] at hk2
      exact ⟨j, o, o.after[k], hij, hj, ho, Array.getElem_mem hk, hk2.1, hk2.2⟩
  · have := h6 o ho
    rw [hc] at this
    simp at this

/-- what a listed operation waits for is listed -/
def Closed (l : List Oper) (n : Nat) (L : Array Bool) : Prop := ∀ j, j < n → L.getD j false = true → ∀ o, l[j]? = some o → ∀ e ∈ o.after, Region.binds .any e = true → L.getD e.on false = true

theorem getD_push_lt {L : Array Bool} {j : Nat} {b d : Bool} (h : j < L.size) : (L.push b).getD j d = L.getD j d := by
  simp [Array.getElem?_push, show ¬ j = L.size by omega]
theorem getD_push_eq {L : Array Bool} {b d : Bool} : (L.push b).getD L.size d = b := by simp
theorem take_get {i : Nat} (h : i < n) : (l.take n).toArray[i]? = l[i]? := by simp [List.getElem?_take, h]
theorem getD_flip {L : Array Bool} {j : Nat} (h : j < L.size) (a b : Bool) : L.getD j a = L.getD j b := by simp [h]

theorem ready_lt (H : TailP l n) {L : Array Bool} (hL : L.size = n) {j : Nat} (hj : j < n) : j ∈ Region.ready .any l.toArray (L.push false) ↔ j ∈ Region.ready .any (l.take n).toArray L := by
  rw [mem_ready, mem_ready, getD_push_lt (by omega), take_get hj]
  constructor
  · rintro ⟨h1, o, h2, h3⟩
    refine ⟨h1, o, by simpa using h2, fun e he hb => ?_⟩
    have hon := H.back j (by omega) o (by simpa using h2) e he hb
    have := h3 e he hb
    rwa [getD_push_lt (by omega)] at this
  · rintro ⟨h1, o, h2, h3⟩
    refine ⟨h1, o, by simpa using h2, fun e he hb => ?_⟩
    have hon := H.back j (by omega) o h2 e he hb
    rw [getD_push_lt (by omega)]
    exact h3 e he hb

theorem all_listed (H : TailP l n) {L : Array Bool} (hL : L.size = n) (hr : Region.ready .any (l.take n).toArray L = []) : ∀ j, j < n → L.getD j false = true := by
  intro j
  induction j using Nat.strongRecOn with
  | ind j ih =>
    intro hj
    refine Classical.byContradiction fun hno => ?_
    have hlen := H.len
    have hjl : j < l.length := by omega
    have : j ∈ Region.ready .any (l.take n).toArray L := by
      rw [mem_ready, take_get hj]
      refine ⟨by rw [getD_flip (by omega) true false]; simpa using hno, l[j], by simp, fun e he hb => ?_⟩
      have hon := H.back j (by omega) l[j] (by simp) e he hb
      exact ih e.on hon (by omega)
    rw [hr] at this
    cases this

theorem last_all (H : TailP l n) {L : Array Bool} (hL : L.size = n) (hc : Closed l n L) (hr : n ∈ Region.ready .any l.toArray (L.push false)) : ∀ j, j < n → L.getD j false = true := by
  obtain ⟨_, o, ho, hall⟩ := mem_ready.1 hr
  have key : ∀ d j, n = j + d → j < n → L.getD j false = true := by
    intro d
    induction d using Nat.strongRecOn with
    | ind d ih =>
      intro j hjd hj
      obtain ⟨k, o2, e, h1, h2, h3, h4, h5, h6⟩ := H.wait j hj
      by_cases hk : k = n
      · subst hk
        have ho' : l[k]? = some o := by simpa using ho
        have e2 : o2 = o := by rw [h3] at ho'; exact Option.some.inj ho'
        subst e2
        have h7 := hall e h4 h5
        rw [h6, getD_push_lt (by omega)] at h7
        exact h7
      · have := ih (n - k) (by omega) k (by omega) (by omega)
        have h7 := hc k (by omega) this o2 h3 e h4 h5
        rwa [h6] at h7
  exact fun j hj => key (n - j) j (by omega) hj

theorem closed_set (H : TailP l n) {L : Array Bool} (hL : L.size = n) (hc : Closed l n L) {i : Nat} (hi : i < n) (hr : i ∈ Region.ready .any (l.take n).toArray L) : Closed l n (L.setIfInBounds i true) := by
  obtain ⟨_, o, ho, hall⟩ := mem_ready.1 hr
  rw [take_get hi] at ho
  intro j hj hlj o2 ho2 e he hb
  have up : ∀ k, k < n → L.getD k false = true → (L.setIfInBounds i true).getD k false = true := fun k hk h => by
    by_cases e : i = k
    · subst e; simp [show i < L.size by omega]
    · simp [Array.getElem?_setIfInBounds, e] at h ⊢; exact h
  have hon := H.back j (by omega) o2 ho2 e he hb
  by_cases hji : j = i
  · subst hji
    have : o2 = o := by rw [ho2] at ho; exact Option.some.inj ho
    subst this
    exact up _ (by omega) (hall e he hb)
  · have hlj' : L.getD j false = true := by
      simp [Array.getElem?_setIfInBounds, show ¬ i = j by omega] at hlj ⊢; exact hlj
    exact up _ (by omega) (hc j hj hlj' o2 ho2 e he hb)

/-- what the first operations owe: the last one goes on from there -/
def Qt (P : Program) (l : List Oper) (n : Nat) (Q : Exit → Act → World → Prop) : Exit → Act → World → Prop
  | .normal, a, w => wpOp P l.toArray Q n (fun a w => Q .normal a w) a w
  | e, a, w => Q e a w

theorem wpOp_upto (H : TailP l n) {i : Nat} (hi : i < n) {K K' : Act → World → Prop} {a : Act} {w : World} (hK : ∀ a w, K a w → K' a w) (h : wpOp P (l.take n).toArray (Qt P l n Q) i K a w) : wpOp P l.toArray Q i K' a w := by
  have hlen := H.len
  have ho : l[i]? = some (l[i]'(by omega)) := by simp
  have hg := H.grd (l[i]'(by omega)) (List.getElem_mem _)
  unfold wpOp at h ⊢
  rw [take_get hi] at h
  have ho2 : l.toArray[i]? = some (l[i]'(by omega)) := by simp
  rw [ho] at h
  rw [ho2]
  have w1 : ∀ y, Region.wanted (l[i]'(by omega)) y = true := fun y => by simp [Region.wanted, hg]
  simp only [w1, if_true] at h ⊢
  rcases h with h | ⟨h1, h2⟩
  · left
    unfold Oper.wp at *
    generalize (execOp a.eval (l[i]'(by omega))).run P w = r at *
    cases r with
    | ok x w' =>
      cases x <;> simp only [Oper.upon] at h ⊢ <;>
        first
          | exact hK _ _ h
          | exact Calls.mono h (fun e w'' he => by cases e <;> first | exact hK _ _ he | exact he)
          | exact Rows.mono h (fun _ _ he => hK _ _ he)
    | halt x w' => cases x <;> simp only [Oper.upon] at h ⊢ <;> exact h
  · exact .inr ⟨h1, h2⟩

theorem wpAny_last (H : TailP l n) : ∀ (fuel : Nat) (L : Array Bool) (a : Act) (w : World), L.size = n → Closed l n L → wpAny P .any (l.take n).toArray (Qt P l n Q) fuel L a w →
    wpAny P .any l.toArray Q (fuel + 1) (L.push false) a w := by
  intro fuel
  have hlen := H.len
  have fin : ∀ (fuel : Nat) (L : Array Bool) (a : Act) (w : World), L.size = n → Region.ready .any (l.take n).toArray L = [] → Qt P l n Q .normal a w → wpAny P .any l.toArray Q (fuel + 1) (L.push false) a w := by
    intro fuel L a w hL hr hq
    have hall := all_listed H hL hr
    have hn : n ∈ Region.ready .any l.toArray (L.push false) := by
      rw [mem_ready]
      refine ⟨by rw [← hL]; exact getD_push_eq, l[n]'(by omega), by simp, fun e he hb => ?_⟩
      have hon := H.back n (by omega) (l[n]'(by omega)) (by simp) e he hb
      rw [getD_push_lt (by omega)]
      exact hall e.on hon
    have hafter : Region.ready .any l.toArray ((L.push false).setIfInBounds n true) = [] := by
      refine List.eq_nil_iff_forall_not_mem.2 fun j hj => ?_
      obtain ⟨h1, o, h2, _⟩ := mem_ready.1 hj
      have hjl : j < l.length := by
        have := (Array.getElem?_eq_some_iff.1 h2).1; simpa using this
      by_cases hjn : j = n
      · subst hjn
        simp [show j < L.size + 1 by omega] at h1
      · have h3 : (L.push false).getD j true = false := by
          simp [Array.getElem?_setIfInBounds, show ¬ n = j by omega] at h1 ⊢; exact h1
        rw [getD_push_lt (by omega), getD_flip (by omega) true false, hall j (by omega)] at h3
        cases h3
    refine ⟨fun h => (by rw [h] at hn; cases hn), fun i hi => ?_⟩
    have hin : i = n := by
      refine Classical.byContradiction fun hne => ?_
      obtain ⟨_, o, h2, _⟩ := mem_ready.1 hi
      have hil : i < l.length := by have := (Array.getElem?_eq_some_iff.1 h2).1; simpa using this
      have := (ready_lt H hL (show i < n by omega)).1 hi
      rw [hr] at this
      cases this
    subst hin
    refine wpOp_mono (fun a' w' h => ?_) hq
    cases fuel with
    | zero => exact ⟨hafter, h⟩
    | succ fuel => exact ⟨fun _ => h, fun j hj => (by rw [hafter] at hj; cases hj)⟩
  induction fuel with
  | zero => intro L a w hL hc h; exact fin 0 L a w hL h.1 h.2
  | succ fuel ih =>
    intro L a w hL hc h
    by_cases hr : Region.ready .any (l.take n).toArray L = []
    · exact fin _ L a w hL hr (h.1 hr)
    · have hsub : ∀ i ∈ Region.ready .any l.toArray (L.push false), i < n := by
        intro i hi
        obtain ⟨_, o, h2, _⟩ := mem_ready.1 hi
        have hil : i < l.length := by have := (Array.getElem?_eq_some_iff.1 h2).1; simpa using this
        refine Classical.byContradiction fun hge => ?_
        have : i = n := by omega
        subst this
        have hall := last_all H hL hc hi
        apply hr
        refine List.eq_nil_iff_forall_not_mem.2 fun j hj => ?_
        obtain ⟨h1, o2, h3, _⟩ := mem_ready.1 hj
        have hjn : j < i := by
          have := (Array.getElem?_eq_some_iff.1 h3).1
          simp at this
          omega
        rw [getD_flip (by omega) true false, hall j hjn] at h1
        cases h1
      refine ⟨fun h0 => absurd ?_ hr, fun i hi => ?_⟩
      · refine List.eq_nil_iff_forall_not_mem.2 fun j hj => ?_
        obtain ⟨h1, o2, h3, _⟩ := mem_ready.1 hj
        have hjn : j < n := by
          have := (Array.getElem?_eq_some_iff.1 h3).1
          simp at this
          omega
        have := (ready_lt H hL hjn).2 hj
        rw [h0] at this
        cases this
      · have hin := hsub i hi
        have hri := (ready_lt H hL hin).1 hi
        refine wpOp_upto H hin (fun a' w' h' => ?_) (h.2 i hri)
        have := ih (L.setIfInBounds i true) a' w' (by simpa using hL) (closed_set H hL hc hin hri) h'
        have e : (L.setIfInBounds i true).push false = (L.push false).setIfInBounds i true := by
          apply Array.ext_getElem?
          intro k
          simp only [Array.getElem?_push, Array.getElem?_setIfInBounds, Array.size_setIfInBounds, Array.size_push]
          by_cases h1 : k = L.size
          · subst h1
            have : ¬ i = L.size := by omega
            simp [this]
          · by_cases h2 : i = k
            · subst h2
              have : i < L.size := by omega
              simp [h1, this]
              omega
            · simp [h1, h2]
        rwa [e] at this

/-- **A region that draws its order: quiet operations, and behind them all one that is not.** -/
theorem wpAny_quiet_last {C : World → Prop} {a : Act} {w : World} (H : TailP l n) (hC : C w) (h : wpQuiet P (l.take n).toArray C (fun a' => ∀ w', C w' → wpOp P l.toArray Q n (fun a w => Q .normal a w) a' w') (l.take n) a) :
    wpAny P .any l.toArray Q l.toArray.size (Array.replicate l.toArray.size false) a w := by
  have hlen := H.len
  have hB := H.lex
  simp only [Region.lexB, Bool.and_eq_true] at hB
  have h1 := wpAnyQ_lex (P := P) (C := C) (md := .any) hB.1 (l.take n) 0 (Array.replicate (l.take n).toArray.size false) a (by simp) (by simpa using hB.2) h
  have h2 := wpAny_of_quiet (Q' := Qt P l n Q) (fun a' w' hw' h => h w' hw') _ _ _ _ hC h1
  have htl : (l.take n).length = n := by simp; omega
  rw [htl] at h2
  have e1 : (l.take n).toArray.size = n := by simpa using htl
  rw [e1] at h2
  have h3 := wpAny_last H n (Array.replicate n false) a w (by simp) (fun j hj hlj => by simp [hj] at hlj) h2
  have e2 : (Array.replicate n false).push false = Array.replicate (n + 1) false := by
    rw [← Array.replicate_succ]
  rw [e2] at h3
  have e3 : l.toArray.size = n + 1 := by simp; omega
  rw [e3]
  exact h3

theorem rowsIn_of {r m : Nat} {row : String} {args : Array Value} {w : World} {R : Value → World → Prop} (h : Rows P row args w R) : RowsIn (Fence.wide.inRound r) m P row args w R := fun c cs _ => by
  obtain ⟨v, w', h1, h2⟩ := h c cs
  exact ⟨v, w', h1, stepsIn_wide.2 h2⟩

theorem wpOpIn_of {ops : Array Oper} {r m i : Nat} {K K' : Act → World → Prop} {a : Act} {w : World} (hd : ∀ o ∈ ops, ∀ c, o.op ≠ .defer c) (hQ : ¬ LetsOut Q) (hK : ∀ a w, K a w → K' a w) (h : wpOp P ops Q i K a w) : wpOpIn (Fence.wide.inRound r) m P ops Q i K' a w := by
  unfold wpOp at h
  unfold wpOpIn
  cases ho : ops[i]? with
  | none => rw [ho] at h; exact hK _ _ h
  | some o =>
    rw [ho] at h
    simp only [] at h ⊢
    split
    · rename_i hw
      rw [if_pos hw] at h
      rcases h with h | ⟨_, h⟩
      · refine ⟨fun _ _ => trivial, ?_⟩
        rw [Oper.semAt_eq _ _ _ (hd o (Array.mem_of_getElem? ho))]
        unfold Oper.wp at h
        generalize (execOp a.eval o).run P w = x at *
        cases x with
        | ok x w' =>
          cases x <;> simp only [Oper.upon, Oper.uponIn] at h ⊢ <;>
            first
              | exact hK _ _ h
              | exact ⟨fun e => (by cases e), CallsIn.inRound r (callsIn_wide.2 (Calls.mono h (fun e w'' he => by cases e <;> first | exact hK _ _ he | exact he)))⟩
              | exact ⟨fun e => (by cases e), rowsIn_of (Rows.mono h (fun _ _ he => hK _ _ he))⟩
        | halt x w' => cases x <;> simp only [Oper.upon, Oper.uponIn] at h ⊢ <;> exact h
      · exact absurd h hQ
    · rename_i hw
      rw [if_neg hw] at h
      exact ⟨fun _ _ => trivial, hK _ _ h⟩

theorem wpAnyIn_of {ops : Array Oper} {r m : Nat} (hd : ∀ o ∈ ops, ∀ c, o.op ≠ .defer c) (hQ : ¬ LetsOut Q) : ∀ (fuel : Nat) (L : Array Bool) (a : Act) (w : World), wpAny P .any ops Q fuel L a w → wpAnyIn (Fence.wide.inRound r) m P .any ops Q fuel L a w
  | 0, _, _, _, h => h
  | fuel + 1, _, _, _, h => ⟨h.1, fun i hi => wpOpIn_of hd hQ (fun a' w' h' => wpAnyIn_of hd hQ fuel _ a' w' h') (h.2 i hi)⟩

/-- in a function's body -/
theorem wp_region_last (n : Nat) {id : Nat} {C : World → Prop} {a : Act} {w : World} (hm : P.follows .mixedOrders = true) (hB : tailOk l n = true) (hC : C w.drew)
    (h : wpQuiet P (l.take n).toArray C (fun a' => ∀ w', C w' → wpOp P l.toArray Q n (fun a w => Q .normal a w) a' w') (l.take n) a) : (Code.region id l.toArray true).wp P Q a w :=
  wp_region_any hm (wpAny_quiet_last (tailP_of hB) hC h)
/-- in a round -/
theorem wpIn_region_last (n : Nat) {id r m : Nat} {C : World → Prop} {a : Act} {w : World} (hm : P.follows .mixedOrders = true) (hB : tailOk l n = true) (hQ : ¬ LetsOut Q) (hC : C w.drew)
    (h : wpQuiet P (l.take n).toArray C (fun a' => ∀ w', C w' → wpOp P l.toArray Q n (fun a w => Q .normal a w) a' w') (l.take n) a) : (Code.region id l.toArray true).wpIn (Fence.wide.inRound r) m P Q a w :=
  wpIn_region_any hm (wpAnyIn_of (fun o ho c => (tailP_of hB).nod o (by simpa using ho) c) hQ _ _ _ _ (wpAny_quiet_last (tailP_of hB) hC h))

/-- the last operation as it stands -/
theorem wpOp_last {o : Oper} {a : Act} {w : World} {K : Act → World → Prop} (ho : l[n]? = some o) (hg : o.guard = none) (h : o.wp P a w K Q) : wpOp P l.toArray Q n K a w := by
  unfold wpOp
  have e : l.toArray[n]? = some o := by simpa using ho
  rw [e]
  simp only [Region.wanted, hg]
  exact .inl h
end
end Go.Kn

namespace Go.Kn
open Go Go.RowKit

section
variable {P : Program} {F : Fence} {n : Nat}

/-- A region's operations, in an order, of which one panics: the frame stands in the region then. -/
theorem ops_panic {ops : Array Oper} {Q : Exit → Act → World → Prop} (hQ : ∀ e a w, Q e a w → ∃ ch, e = .panic ch) : ∀ (is : List Nat) (a : Act) (w : World), wpOpsIn F n P ops Q is a w →
    ∀ (b : Frame) (k : List Item) (cs : List Frame), b.roundOf = F.round → F.fn b.fn → F.room (cs.length + 1 + n) →
      ∃ ch a' w' js, Q (.panic ch) a' w' ∧ StepsIn (Machine.fenced P F) P (lone (b.atR a (.inRegion ops is :: k)) cs w) (lone { b.atR a' (.inRegion ops js :: k) with mode := .panicking ch } cs w') := by
  have hno : ¬ LetsOut Q := fun ⟨a, w, h⟩ => by obtain ⟨ch, e⟩ := hQ _ _ _ h; cases e
  intro is
  induction is with
  | nil => intro a w h; obtain ⟨ch, e⟩ := hQ _ _ _ h; cases e
  | cons i rest ih =>
    intro a w h b k cs hro hb hr
    simp only [wpOpsIn] at h
    cases ho : ops[i]? with
    | none =>
      rw [ho] at h
      obtain ⟨ch, a', w', js, h1, h2⟩ := ih a w h b k cs hro hb hr
      have hs := stepR_op_skip (P := P) (b := b) (a := a) (k := k) (cs := cs) (w := w) (ops := ops) (i := i) (rest := rest) (by simp [ho])
      simp only [ho, Option.bind_none, Act.put] at hs
      exact ⟨ch, a', w', js, h1, .head (fenced_noOper hb hr ho) hs h2⟩
    | some o =>
      rw [ho] at h
      simp only [] at h
      by_cases hw : Region.wanted o (yielded ops a.tmps) = true
      · rw [if_pos hw] at h
        obtain ⟨hab, h⟩ := h
        have hf0 : (lone (b.atR a (.inRegion ops (i :: rest) :: k)) cs w).fenced P F := fenced_oper hb hr ho hab
        have hg := stepGR_op (P := P) (b := b) (k := k) (cs := cs) (w := w) (rest := rest) ho hw
        rw [hro] at hg
        have hfin : ∀ v, (b.atR a (.inRegion ops (i :: rest) :: k)).finish v = b.atR (a.put o.dst v) (.inRegion ops rest :: k) := fun v => by rw [Frame.finish_atR, ho]; rfl
        cases hres : (o.semAt F.round a.eval).run P w with
        | halt x w1 =>
          rw [hres] at h
          cases x with
          | panic v =>
            refine ⟨_, a, w1, i :: rest, h, .head hf0 (step_lone_go ?_) (.refl _)⟩
            rw [hg, ← Frame.raise_atR]; simp [stepG.apply, hres]
          | _ => exact h.elim
        | ok x w1 =>
          rw [hres] at h
          cases x with
          | value v =>
            obtain ⟨ch, a', w', js, h1, h2⟩ := ih _ _ h b k cs hro hb hr
            refine ⟨ch, a', w', js, h1, .head hf0 (step_lone_go ?_) h2⟩
            rw [hg, ← hfin]; simp [stepG.apply, hres]
          | skip =>
            obtain ⟨ch, a', w', js, h1, h2⟩ := ih _ _ h b k cs hro hb hr
            refine ⟨ch, a', w', js, h1, .head hf0 (step_lone_go ?_) h2⟩
            rw [hg, ← hfin]; simp [stepG.apply, hres]
          | defer d =>
            obtain ⟨ch, a', w', js, h1, h2⟩ := ih _ _ h b k cs hro hb hr
            refine ⟨ch, a', w', js, h1, .head hf0 (step_lone_go ?_) h2⟩
            have e : ({ b.atR a (.inRegion ops (i :: rest) :: k) with defers := d :: a.defers } : Frame).finish undef = b.atR ({ a with defers := d :: a.defers }.put o.dst undef) (.inRegion ops rest :: k) := by
              have := Frame.finish_atR b { a with defers := d :: a.defers } ops i rest k undef
              rw [ho] at this; exact this
            rw [hg]; simp only [stepG.apply, Sem.runT_eq, hres, GStep.bare_after]
            exact congrArg (fun fr => GStep.go { frame := fr, callers := cs, status := .running, dying := none } w1) e
          | enter f args =>
            obtain ⟨hn, hF, h⟩ := h
            have hroom : F.room ((b.atR a (.inRegion ops (i :: rest) :: k) :: cs).length + 1 + (n - 1)) := Fence.room_enter hr hn
            obtain ⟨e, w2, fr, hR, hsteps, hfn, hleave⟩ := h (b.atR a (.inRegion ops (i :: rest) :: k) :: cs) hroom
            have henter : step P (lone (b.atR a (.inRegion ops (i :: rest) :: k)) cs w) = .next (lone (Frame.enter P f args .normal) (b.atR a (.inRegion ops (i :: rest) :: k) :: cs) w1) :=
              step_lone_go (by rw [hg]; simp [stepG.apply, hres, Frame.atR])
            cases e with
            | returned v =>
              have hl : (lone fr (b.atR a (.inRegion ops (i :: rest) :: k) :: cs) w2).fenced P F := fenced_leaving (hfn ▸ hF) hroom hleave
              obtain ⟨ch, a', w', js, h1, h2⟩ := ih _ _ hR b k cs hro hb hr
              refine ⟨ch, a', w', js, h1, .head hf0 henter (StepsIn.trans hsteps (.head hl ?_ h2))⟩
              rw [← hfin]; exact step_leave_returned hleave
            | panicked chain =>
              have hl : (lone fr (b.atR a (.inRegion ops (i :: rest) :: k) :: cs) w2).fenced P F := fenced_leaving (hfn ▸ hF) hroom hleave
              refine ⟨chain, a, w2, i :: rest, hR, .head hf0 henter (StepsIn.trans hsteps (.one hl ?_))⟩
              rw [← Frame.raise_atR]; exact step_leave_panicked hleave
            | outgrown => exact absurd hR hno
          | row row args =>
            obtain ⟨hn, h⟩ := h
            obtain ⟨v, w2, hR, hsteps⟩ := h (b.atR a (.inRegion ops (i :: rest) :: k)) cs (Fence.room_enter hr hn)
            have henter : step P (lone (b.atR a (.inRegion ops (i :: rest) :: k)) cs w) = .next (lone (Frame.ofRow P row args .normal) (b.atR a (.inRegion ops (i :: rest) :: k) :: cs) w1) :=
              step_lone_go (by rw [hg]; simp [stepG.apply, hres, Frame.atR])
            obtain ⟨ch, a', w', js, h1, h2⟩ := ih _ _ hR b k cs hro hb hr
            refine ⟨ch, a', w', js, h1, .head hf0 henter (StepsIn.trans hsteps ?_)⟩
            rw [hfin]; exact h2
          | round l f tmps assign body =>
            obtain ⟨hn, _, h⟩ := h
            obtain ⟨e, w2, hR, hsteps⟩ := h (b.atR a (.inRegion ops (i :: rest) :: k)) cs (Fence.room_enter hr hn)
            have henter : step P (lone (b.atR a (.inRegion ops (i :: rest) :: k)) cs w) = .next (lone (Frame.round l f tmps assign body .normal) (b.atR a (.inRegion ops (i :: rest) :: k) :: cs) w1) :=
              step_lone_go (by rw [hg]; simp [stepG.apply, hres, Frame.atR])
            cases e with
            | returned v =>
              obtain ⟨ch, a', w', js, h1, h2⟩ := ih _ _ hR b k cs hro hb hr
              refine ⟨ch, a', w', js, h1, .head hf0 henter (StepsIn.trans hsteps ?_)⟩
              simp only []
              rw [hfin]; exact h2
            | panicked chain =>
              refine ⟨chain, a, w2, i :: rest, hR, .head hf0 henter ?_⟩
              rw [← Frame.raise_atR]; exact hsteps
            | outgrown => exact absurd hR hno
          | _ => exact h.elim
      · rw [if_neg hw] at h
        obtain ⟨hab, h⟩ := h
        obtain ⟨ch, a', w', js, h1, h2⟩ := ih _ _ h b k cs hro hb hr
        have hs := stepR_op_skip (P := P) (b := b) (a := a) (k := k) (cs := cs) (w := w) (ops := ops) (i := i) (rest := rest) (by simp [ho]; simpa using hw)
        simp only [ho, Option.bind_some] at hs
        exact ⟨ch, a', w', js, h1, .head (fenced_oper hb hr ho hab) hs h2⟩

/-- A frame that panics in a region, with nothing deferred, hands the panic on. -/
theorem step_raise {b c : Frame} {a : Act} {ops : Array Oper} {js : List Nat} {k : List Item} {cs : List Frame} {ch : List PanicEntry} {w : World} (hd : a.defers = []) :
    step P (lone { b.atR a (.inRegion ops js :: k) with mode := .panicking ch } (c :: cs) w) = .next (lone (c.raise ch) cs w) := by
  refine step_lone_go ?_
  have hc : Frame.catches P { b.atR a (.inRegion ops js :: k) with mode := .panicking ch } = false := by
    unfold Frame.catches
    simp only [Frame.atR]
    cases P.funcs[b.fn]? <;> rfl
  simp only [stepG, unwind, Frame.atR, hd] at hc ⊢
  simp [hc]

/-- A body that panics: it is a region, in a block. -/
structure BodyPan (F : Fence) (n : Nat) (P : Program) (body : Code) (R : List PanicEntry → World → Prop) (a : Act) (w : World) : Prop where
  out : ∀ (b : Frame) (k : List Item) (cs : List Frame), b.roundOf = F.round → F.fn b.fn → F.room (cs.length + 1 + n) →
    ∃ ch a' w' ops js k', a'.defers = [] ∧ R ch w' ∧ StepsIn (Machine.fenced P F) P (lone (b.atR a (.code body :: k)) cs w) (lone { b.atR a' (.inRegion ops js :: k') with mode := .panicking ch } cs w')

theorem bodyPan_of {id id2 : Nat} {ops : Array Oper} {R : List PanicEntry → World → Prop} {a : Act} {w : World} {Q : Exit → Act → World → Prop} (hQ : ∀ e a w, Q e a w → ∃ ch, e = .panic ch ∧ a.defers = [] ∧ R ch w)
    (h : ∀ t, wpOpsIn F n P ops Q (Region.schedule (P.follows .mixedOrders) ops t) a { w with drawn := w.drawn + 1 }) : BodyPan F n P (.block id (.region id2 ops true)) R a w := ⟨fun b k cs hro hb hr => by
  obtain ⟨ch, a', w', js, h1, h2⟩ := ops_panic (fun e a w h => by obtain ⟨ch, e, _⟩ := hQ e a w h; exact ⟨ch, e⟩) _ a _ (h _) b (.inBlock id :: k) cs hro hb hr
  obtain ⟨ch2, e, hd, hR⟩ := hQ _ _ _ h1
  cases e
  exact ⟨ch, a', w', ops, js, _, hd, hR, .head (fenced_calm hb hr rfl) stepR_block (.head (fenced_calm hb hr rfl) stepR_region_draw h2)⟩⟩

/-- One round: its body goes through, or panics. -/
theorem roundIn_two {l : Nat} {f : FuncId} {tmps : Array Value} {assign body : Code} {w : World} {R : Ending → World → Prop} (hF : F.fn f)
    (h : assign.wpIn (F.inRound l) n P (Exit.then (fun a₁ w₁ => ∃ w₂, (Instr.beginRound l).run P w₁ = .ok () w₂ ∧ (body.wpIn (F.inRound l) n P (roundPost P l R) a₁ w₂ ∨ BodyPan (F.inRound l) n P body (fun ch w => R (.panicked ch) w) a₁ w₂)) (fun _ _ _ => False))
      { tmps := tmps, defers := [] } w) :
    RoundIn F n P l f tmps assign body w R := by
  refine ⟨hF, fun c cs hr => ?_⟩
  obtain ⟨e, a₁, w₁, hq, harr⟩ := h { (default : Frame) with fn := f, kind := .normal, roundOf := some l } [.beginRound, .code body] (c :: cs) rfl hF hr
  have hb0 : Frame.round l f tmps assign body .normal = ({ (default : Frame) with fn := f, kind := .normal, roundOf := some l } : Frame).atR { tmps := tmps, defers := [] } [.code assign, .beginRound, .code body] := by
    simp [Frame.round, Frame.atR]
  rw [← hb0] at harr
  generalize hbb : ({ (default : Frame) with fn := f, kind := .normal, roundOf := some l } : Frame) = b at harr
  have hro : b.roundOf = some l := by rw [← hbb]
  have hbf : F.fn b.fn := by rw [← hbb]; exact hF
  have hbk : b.kind = .normal := by rw [← hbb]
  cases e with
  | normal =>
    obtain ⟨w₂, hbr, hbody⟩ := hq
    have s1 : StepsIn (Machine.fenced P (F.inRound l)) P (lone (b.atR a₁ [.beginRound, .code body]) (c :: cs) w₁) (lone (b.atR a₁ [.code body]) (c :: cs) w₂) :=
      .one (fenced_calm (F := F.inRound l) (fr := b.atR a₁ [.beginRound, .code body]) hbf hr rfl) (stepR_beginRound hro hbr)
    rcases hbody with hbody | hbody
    · obtain ⟨e₂, a₂, w₃, hq₂, harr₂⟩ := hbody b [] (c :: cs) hro hbf hr
      cases e₂ with
      | normal =>
        obtain ⟨v, w₄, hend, hR⟩ := hq₂
        exact ⟨.returned v, w₄, hR, (StepsIn.trans harr s1).trans (StepsIn.trans harr₂ (.one (fenced_calm (F := F.inRound l) (fr := b.atR a₂ []) hbf hr rfl) (stepR_round_end hro hbk hend)))⟩
      | ret =>
        obtain ⟨v, w₄, hend, hR⟩ := hq₂
        obtain ⟨k₁, hs⟩ := harr₂.2 (by rw [hro]; rfl)
        exact ⟨.returned v, w₄, hR, (StepsIn.trans harr s1).trans (StepsIn.trans hs (.one (fenced_calm (F := F.inRound l) (fr := b.atR a₂ (.code .ret :: k₁)) hbf hr rfl) (stepR_round_ret hro hbk hend)))⟩
      | exit id =>
        obtain ⟨v, w₄, hend, hR⟩ := hq₂
        obtain ⟨k₁, hk, hs⟩ := harr₂.2 (by rw [hro]; rfl) rfl
        exact ⟨.returned v, w₄, hR, (StepsIn.trans harr s1).trans (StepsIn.trans hs (.one (fenced_calm (F := F.inRound l) (fr := b.atR a₂ (.code (.exit id) :: k₁)) hbf hr rfl) (stepR_round_exit hro hbk hk hend)))⟩
      | goto t =>
        obtain ⟨v, w₄, hend, hR⟩ := hq₂
        obtain ⟨k₁, hk, hs⟩ := harr₂.2 (by rw [hro]; rfl) rfl
        exact ⟨.returned v, w₄, hR, (StepsIn.trans harr s1).trans (StepsIn.trans hs (.one (fenced_calm (F := F.inRound l) (fr := b.atR a₂ (.code (.goto t) :: k₁)) hbf hr rfl) (stepR_round_goto hro hbk hk hend)))⟩
      | panic chain => exact hq₂.elim
      | outgrown => exact hq₂.elim
    · obtain ⟨ch, a₂, w₃, ops, js, k', hd, hR, hs⟩ := hbody.out b [] (c :: cs) hro hbf hr
      exact ⟨.panicked ch, w₃, hR, (StepsIn.trans harr s1).trans (StepsIn.trans hs (.one (fenced_calm (F := F.inRound l) hbf hr (by simp [Frame.about, Frame.atR, hd])) (step_raise hd)))⟩
  | exit id => exact hq.elim
  | goto t => exact hq.elim
  | ret => exact hq.elim
  | panic chain => exact hq.elim
  | outgrown => exact hq.elim
end
end Go.Kn

namespace Go.Kn
open Go Go.RowKit

variable {F : Fence} {n : Nat} {P : Program}

/-- How a round's body may be left here, where it does not panic: it goes on. -/
def onPostR {α : Type} (B : Nat) (Kp : World → World → Prop) (I : List α → World → Prop) (xs : List α) (W : World) : Exit → Act → World → Prop
  | .normal, _, W' => KeepsFrom B W W' ∧ Kp W W' ∧ I xs W'
  | _, _, _ => False

theorem BodyPan.mono {F : Fence} {n : Nat} {P : Program} {body : Code} {R R' : List PanicEntry → World → Prop} {a : Act} {w : World} (h : BodyPan F n P body R a w) (hr : ∀ ch w, R ch w → R' ch w) : BodyPan F n P body R' a w :=
  ⟨fun b k cs h1 h2 h3 => by obtain ⟨ch, a', w', ops, js, k', hd, hR, hs⟩ := h.out b k cs h1 h2 h3; exact ⟨ch, a', w', ops, js, k', hd, hr _ _ hR, hs⟩⟩

theorem putObj_belowR (W : World) {l : Nat} (o o' : Obj) {B : Nat} (hl : W.heap[l]? = some o) (hB : B ≤ l) : Below B W (W.putObj l o') :=
  (Below.refl B W).grown (grownBy_putObj' W l o') (by have := (Array.getElem?_eq_some_iff.1 hl).1; omega) (fun k e => by cases e; exact hB)

/-- A range over a function whose body may panic: the iterator writes what Wr says between two rounds. -/
theorem rangeFunc_pan3 {α : Type} {g : Operand} {ps : Array Tmp} {assign body : Code} {Q : Exit → Act → World → Prop} {a : Act} {w : World}
    (hro : F.round = none) (h1 : 1 ≤ n) {gf : Nat} {lb : Array Value} (hg : a.eval g = .func (.func gf) #[] lb) (hFg : F.fn gf) (eg : ∀ args w, (callFunc gf args).run P w = .ok (.enter gf args) w)
    {encs : α → Array Value} {Kp Wr : World → World → Prop} {S : List α → World → Prop} {Nx : List α → α → Prop}
    (hseq : ∀ (l : Nat) (J : List α → World → Prop) (Jp : List PanicEntry → World → Prop) (W : World), W.heap.size = w.heap.size + 2 → Below w.heap.size w W →
      (∀ s A B, J s A → Wr A B → J s B) →
      (∀ pre x W1, Nx pre x → J pre W1 → YieldAt F (n - 1 - 1) P l (encs x) W1 fun e W' => (e = .returned (.bool true) ∧ J (pre ++ [x]) W' ∧ Kp W1 W') ∨ (∃ ch, e = .panicked ch ∧ Jp ch W')) →
      J [] W → CallsIn F (n - 1) P gf (#[.func (.yield l) #[] #[]] ++ lb) W fun e W' => ((∃ v, e = .returned v) ∧ ∃ xs, S xs W' ∧ J xs W') ∨ (∃ ch, e = .panicked ch ∧ Jp ch W'))
    (hKt : ∀ {A B C : World}, Kp A B → Kp B C → Kp A C)
    (hKb : ∀ (W : World) (o' : Obj), Kp W (W.putObj (w.heap.size + 1) o'))
    (hS : ∀ xs (W : World) (o' : Obj), S xs W → S xs (W.putObj (w.heap.size + 1) o'))
    (hps : ∀ x, (encs x).size = ps.size)
    (hWr : ∀ A B, Wr A B → ∀ k, w.heap.size ≤ k → k < w.heap.size + 2 → B.heap[k]? = A.heap[k]?)
    (I : List α → World → Prop) (hIw : ∀ s A B, I s A → Wr A B → I s B) (hI : ∀ s A B, I s A → Below w.heap.size A B → I s B) (h0 : I [] w)
    (Ip : List PanicEntry → World → Prop)
    (Ax : α → Act → World → Prop) (hAx : ∀ x a' (W : World) (o' : Obj), w.heap.size + 2 ≤ W.heap.size → Ax x a' W → Ax x a' (W.putObj (w.heap.size + 1) o'))
    (hassign : ∀ (l : Nat) (pre : List α) (x : α) (W : World) (K : Act → World → Prop), w.heap.size + 2 ≤ W.heap.size → Nx pre x → I pre W → (∀ a' W', KeepsFrom w.heap.size W W' → Kp W W' → I pre W' → Ax x a' W' → K a' W') →
      assign.wpIn (F.inRound l) (n - 1 - 1) P (Exit.then K (fun _ _ _ => False)) { tmps := (ps.zip (encs x)).foldl (fun t (p, v) => t.setIfInBounds p v) a.tmps, defers := [] } W)
    (hbody : ∀ (l : Nat) (pre : List α) (x : α) (a' : Act) (W : World), w.heap.size + 2 ≤ W.heap.size → Nx pre x → I pre W → Ax x a' W → body.wpIn (F.inRound l) (n - 1 - 1) P (onPostR w.heap.size Kp I (pre ++ [x]) W) a' W ∨ BodyPan (F.inRound l) (n - 1 - 1) P body (fun ch W' => KeepsFrom w.heap.size W W' ∧ Ip ch W') a' W)
    (hdone : ∀ (xs : List α) (W : World), S xs W → I xs W → W.heap[w.heap.size]? = some (.deferred (some [])) → Q .normal { a with defers := { target := .collected w.heap.size, args := #[] } :: a.defers } W)
    (hpan : ∀ (ch : List PanicEntry) (W : World), Ip ch W → W.heap[w.heap.size]? = some (.deferred (some [])) → Q (.panic ch) { a with defers := { target := .collected w.heap.size, args := #[] } :: a.defers } W) :
    (Code.rangeFunc g ps assign body).wpIn F n P Q a w := by
  refine wpIn_rangeFunc fun fn hfn => ?_
  rw [hro]
  let rec' : LoopState → Loop := fun st => { state := st, pending := none, fn, tmps := a.tmps, params := ps, assign, body, defers := w.heap.size }
  have hz : ((w.alloc (.deferred (some []))).alloc (.loop (rec' .ready))).heap.size = w.heap.size + 2 := by simp
  have hBz : Below w.heap.size w ((w.alloc (.deferred (some []))).alloc (.loop (rec' .ready))) := ((Below.refl _ w).alloc (Nat.le_refl _) _).alloc (by simp) _
  have hK1 : ((w.alloc (.deferred (some []))).alloc (.loop (rec' .ready))).heap[w.heap.size]? = some (.deferred (some [])) := (Below.heap_alloc _ _ _ (by simp)).trans (World.alloc_heap_new w _)
  have hL1 : ((w.alloc (.deferred (some []))).alloc (.loop (rec' .ready))).heap[w.heap.size + 1]? = some (.loop (rec' .ready)) := by
    have := World.alloc_heap_new (w.alloc (.deferred (some []))) (.loop (rec' .ready)); rwa [World.size_alloc] at this
  refine ⟨w.heap.size + 1, [{ target := .collected w.heap.size, args := #[] }], (w.alloc (.deferred (some []))).alloc (.loop (rec' .ready)), { target := .fn (.func gf) lb, args := #[.func (.yield (w.heap.size + 1)) #[] #[]] }, (w.alloc (.deferred (some []))).alloc (.loop (rec' .ready)), gf,
    #[.func (.yield (w.heap.size + 1)) #[] #[]] ++ lb, (w.alloc (.deferred (some []))).alloc (.loop (rec' .ready)), run_enterLoop_outer _ _ _ _ _, ?_, ?_, ?_, fun _ => h1, ?_⟩
  · simp only [resolve, hg]
    simp [go_sem, rec']
  · intro f' hf'; simp [Target.leads] at hf'; subst hf'; exact hFg
  · simp [invoke, go_sem, eg]
  refine (hseq (w.heap.size + 1)
    (fun pre W => I pre W ∧ W.heap[w.heap.size + 1]? = some (.loop (rec' .ready)) ∧ W.heap[w.heap.size]? = some (.deferred (some [])))
    (fun ch W => Ip ch W ∧ W.heap[w.heap.size]? = some (.deferred (some [])))
    _ hz hBz (fun s A B h hb => ⟨hIw s A B h.1 hb, (hWr _ _ hb _ (by omega) (by omega)).trans h.2.1, (hWr _ _ hb _ (by omega) (by omega)).trans h.2.2⟩) ?_ ⟨hI _ _ _ h0 hBz, hL1, hK1⟩).mono ?_
  · rintro pre x W hnx ⟨hi, hl, hk⟩
    have hlt : w.heap.size + 1 < W.heap.size := (Array.getElem?_eq_some_iff.1 hl).1
    refine ⟨fn, _, assign, body, run_yield (P := P) (args := encs x) hl (hps x), roundIn_two hfn (hassign _ pre x W _ (by omega) hnx hi ?_)⟩
    intro a' Wa hkfa hkpa hia hax
    have hla := hkfa.same _ _ (by omega) hl rfl
    have hka := hkfa.same _ _ (Nat.le_refl _) hk rfl
    have hlta : w.heap.size + 1 < Wa.heap.size := (Array.getElem?_eq_some_iff.1 hla).1
    refine ⟨_, run_beginRound hla rfl, ?_⟩
    have hl2 : (Wa.putObj (w.heap.size + 1) (.loop (rec' .busy))).heap[w.heap.size + 1]? = some (.loop (rec' .busy)) := World.putObj_heap_same hlta
    have hk2 : (Wa.putObj (w.heap.size + 1) (.loop (rec' .busy))).heap[w.heap.size]? = some (.deferred (some [])) := (World.putObj_heap_other (by omega)).trans hka
    have hz2 : (Wa.putObj (w.heap.size + 1) (.loop (rec' .busy))).heap.size = Wa.heap.size := by simp
    rcases hbody _ pre x a' (Wa.putObj (w.heap.size + 1) (.loop (rec' .busy))) (by omega) hnx (hI _ _ _ hia (putObj_belowR Wa _ _ hla (by omega))) (hAx _ _ _ _ (by omega) hax) with hbd | hbd
    · refine .inl (wpIn_mono hbd ?_)
      intro e a3 W3 hp
      cases e with
      | normal =>
        obtain ⟨hk3, hkp3, hi3⟩ := hp
        have hl3 := hk3.same _ _ (by omega) hl2 rfl
        have hd3 := hk3.same _ _ (Nat.le_refl _) hk2 rfl
        have hlt3 := (Array.getElem?_eq_some_iff.1 hl3).1
        refine ⟨_, _, run_endRound none hl3, .inl ⟨rfl, ⟨hI _ _ _ hi3 (putObj_belowR W3 _ _ hl3 (by omega)), World.putObj_heap_same hlt3, (World.putObj_heap_other (by omega)).trans hd3⟩, hKt hkpa (hKt (hKt (hKb Wa _) hkp3) (hKb W3 _))⟩⟩
      | panic ch => exact hp.elim
      | ret => exact hp.elim
      | exit id => exact hp.elim
      | goto t => exact hp.elim
      | outgrown => exact hp.elim
    · refine .inr (hbd.mono fun ch W3 ⟨hk3, hi3⟩ => .inr ⟨ch, rfl, hi3, hk3.same _ _ (Nat.le_refl _) hk2 rfl⟩)
  · rintro e W2 (⟨⟨v, rfl⟩, xs, hS2, hi, hl, hk⟩ | ⟨ch, rfl, hi, hk⟩)
    · exact ⟨none, _, run_endLoop (P := P) hl (by simp [rec']), hdone xs _ (hS _ _ _ hS2) (hI _ _ _ hi (putObj_belowR W2 _ _ hl (by omega))) ((World.putObj_heap_other (by omega)).trans hk)⟩
    · exact hpan ch W2 hi hk

/-- The same, where the loop's variable is a temporary: af says which activation a round begins with. -/
theorem rangeFunc_pan4 {α : Type} {g : Operand} {ps : Array Tmp} {assign body : Code} {Q : Exit → Act → World → Prop} {a : Act} {w : World} (af : Act → α → Act)
    (hro : F.round = none) (h1 : 1 ≤ n) {gf : Nat} {lb : Array Value} (hg : a.eval g = .func (.func gf) #[] lb) (hFg : F.fn gf) (eg : ∀ args w, (callFunc gf args).run P w = .ok (.enter gf args) w)
    {encs : α → Array Value} {Kp Wr : World → World → Prop} {S : List α → World → Prop} {Nx : List α → α → Prop}
    (hseq : ∀ (l : Nat) (J : List α → World → Prop) (Jp : List PanicEntry → World → Prop) (W : World), W.heap.size = w.heap.size + 2 → Below w.heap.size w W →
      (∀ s A B, J s A → Wr A B → J s B) →
      (∀ pre x W1, Nx pre x → J pre W1 → YieldAt F (n - 1 - 1) P l (encs x) W1 fun e W' => (e = .returned (.bool true) ∧ J (pre ++ [x]) W' ∧ Kp W1 W') ∨ (∃ ch, e = .panicked ch ∧ Jp ch W')) →
      J [] W → CallsIn F (n - 1) P gf (#[.func (.yield l) #[] #[]] ++ lb) W fun e W' => ((∃ v, e = .returned v) ∧ ∃ xs, S xs W' ∧ J xs W') ∨ (∃ ch, e = .panicked ch ∧ Jp ch W'))
    (hKt : ∀ {A B C : World}, Kp A B → Kp B C → Kp A C)
    (hKb : ∀ (W : World) (o' : Obj), Kp W (W.putObj (w.heap.size + 1) o'))
    (hS : ∀ xs (W : World) (o' : Obj), S xs W → S xs (W.putObj (w.heap.size + 1) o'))
    (hps : ∀ x, (encs x).size = ps.size)
    (hWr : ∀ A B, Wr A B → ∀ k, w.heap.size ≤ k → k < w.heap.size + 2 → B.heap[k]? = A.heap[k]?)
    (I : List α → World → Prop) (hIw : ∀ s A B, I s A → Wr A B → I s B) (hI : ∀ s A B, I s A → Below w.heap.size A B → I s B) (h0 : I [] w)
    (Ip : List PanicEntry → World → Prop)
    (hassign : ∀ (l : Nat) (x : α) (W : World) (K : Act → World → Prop), (∀ a', a' = af a x → K a' W) →
      assign.wpIn (F.inRound l) (n - 1 - 1) P (Exit.then K (fun _ _ _ => False)) { tmps := (ps.zip (encs x)).foldl (fun t (p, v) => t.setIfInBounds p v) a.tmps, defers := [] } W)
    (hKr : ∀ W : World, Kp W W)
    (hbody : ∀ (l : Nat) (pre : List α) (x : α) (a' : Act) (W : World), a' = af a x → w.heap.size + 2 ≤ W.heap.size → Nx pre x → I pre W → body.wpIn (F.inRound l) (n - 1 - 1) P (onPostR w.heap.size Kp I (pre ++ [x]) W) a' W ∨ BodyPan (F.inRound l) (n - 1 - 1) P body (fun ch W' => KeepsFrom w.heap.size W W' ∧ Ip ch W') a' W)
    (hdone : ∀ (xs : List α) (W : World), S xs W → I xs W → W.heap[w.heap.size]? = some (.deferred (some [])) → Q .normal { a with defers := { target := .collected w.heap.size, args := #[] } :: a.defers } W)
    (hpan : ∀ (ch : List PanicEntry) (W : World), Ip ch W → W.heap[w.heap.size]? = some (.deferred (some [])) → Q (.panic ch) { a with defers := { target := .collected w.heap.size, args := #[] } :: a.defers } W) :
    (Code.rangeFunc g ps assign body).wpIn F n P Q a w :=
  rangeFunc_pan3 hro h1 hg hFg eg hseq hKt hKb hS hps hWr I hIw hI h0 Ip (fun x a' _ => a' = af a x) (fun _ _ _ _ _ h => h)
    (fun l pre x W K _ _ hi hK => hassign l x W K (fun a' ha => hK a' W (KeepsFrom.refl _ _) (hKr W) hi ha))
    (fun l pre x a' W hw hnx hi ha => hbody l pre x a' W ha hw hnx hi) hdone hpan
end Go.Kn

namespace Go.Kn
open Go Go.Proofs Go.RowKit

theorem calm_last (n : Nat) {P : Program} {id : Nat} {l : List Oper} {Q : Exit → Act → World → Prop} {a : Act} {w W : World} (hm : P.follows .mixedOrders = true) (hB : tailOk l n = true) (h0 : Below W.heap.size W w)
    (h : Calm P (l.take n).toArray (fun w' => Below W.heap.size W w') (fun a' => ∀ w', Below W.heap.size W w' → wpOp P l.toArray Q n (fun a w => Q .normal a w) a' w') (l.take n) a) : (Code.region id l.toArray true).wp P Q a w :=
  wp_region_last n hm hB (below_drew h0) h.out
theorem calm_last_in (n : Nat) {P : Program} {id r m : Nat} {l : List Oper} {Q : Exit → Act → World → Prop} {a : Act} {w W : World} (hm : P.follows .mixedOrders = true) (hB : tailOk l n = true) (hQ : ¬ LetsOut Q) (h0 : Below W.heap.size W w)
    (h : Calm P (l.take n).toArray (fun w' => Below W.heap.size W w') (fun a' => ∀ w', Below W.heap.size W w' → wpOp P l.toArray Q n (fun a w => Q .normal a w) a' w') (l.take n) a) : (Code.region id l.toArray true).wpIn (Fence.wide.inRound r) m P Q a w :=
  wpIn_region_last n hm hB hQ (below_drew h0) h.out
end Go.Kn
