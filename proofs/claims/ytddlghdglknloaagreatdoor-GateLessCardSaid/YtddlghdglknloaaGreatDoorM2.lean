/- Contracts of functions that the laws of this seat call, or the evaluator of closed calls and its runs. Conditions: as each theorem states them. -/
import Derived.Test.YtddlghdglknloaaGreatDoorM1
import Derived.Test.YtddlghdglknloaaGreatDoorL4
set_option linter.unusedVariables false
set_option linter.unusedSimpArgs false
namespace Go.Kn
open Go Go.RowKit

theorem YieldAt.inR {F : Fence} {m : Nat} {P : Program} {l : Nat} {args : Array Value} {W : World} {R : Ending → World → Prop} (l' : Nat) (h : YieldAt F m P l args W R) : YieldAt (F.inRound l') m P l args W R := h

variable {F : Fence} {n : Nat} {P : Program}

/-- A range over a function whose body neither panics nor stops. -/
theorem rangeFunc_nop {α : Type} {g : Operand} {ps : Array Tmp} {assign body : Code} {Q : Exit → Act → World → Prop} {a : Act} {w : World} (af : Act → α → Act)
    (hro : F.round = none) (h1 : 1 ≤ n) {gf : Nat} {lb : Array Value} (hg : a.eval g = .func (.func gf) #[] lb) (hFg : F.fn gf) (eg : ∀ args w, (callFunc gf args).run P w = .ok (.enter gf args) w)
    {encs : α → Array Value} {Kp Wr : World → World → Prop} {S : List α → World → Prop} {Nx : List α → α → World → Prop}
    (hseq : ∀ (l : Nat) (J : List α → World → Prop) (W : World), W.heap.size = w.heap.size + 2 → Below w.heap.size w W →
      (∀ s A B, J s A → Wr A B → J s B) →
      (∀ pre x W1, Nx pre x W1 → J pre W1 → YieldAt F (n - 1 - 1) P l (encs x) W1 fun e W' => e = .returned (.bool true) ∧ J (pre ++ [x]) W' ∧ Kp W1 W') →
      J [] W → CallsIn F (n - 1) P gf (#[.func (.yield l) #[] #[]] ++ lb) W fun e W' => (∃ v, e = .returned v) ∧ ∃ xs, S xs W' ∧ J xs W')
    (hKt : ∀ {A B C : World}, Kp A B → Kp B C → Kp A C)
    (hKb : ∀ (W : World) (o' : Obj), Kp W (W.putObj (w.heap.size + 1) o'))
    (hS : ∀ xs (W : World) (o' : Obj), S xs W → S xs (W.putObj (w.heap.size + 1) o'))
    (hps : ∀ x, (encs x).size = ps.size)
    (hWr : ∀ A B, Wr A B → ∀ k, w.heap.size ≤ k → k < w.heap.size + 2 → B.heap[k]? = A.heap[k]?)
    (I : List α → World → Prop) (hIw : ∀ s A B, I s A → Wr A B → I s B) (hI : ∀ s A B, I s A → Below w.heap.size A B → I s B) (h0 : I [] w)
    (hNx : ∀ pre x (W : World) (o' : Obj), Nx pre x W → Nx pre x (W.putObj (w.heap.size + 1) o'))
    (hKr : ∀ W : World, Kp W W)
    (hassign : ∀ (l : Nat) (x : α) (W : World) (K : Act → World → Prop), (∀ a', a' = af a x → K a' W) →
      assign.wpIn (F.inRound l) (n - 1 - 1) P (Exit.then K (fun _ _ _ => False)) { tmps := (ps.zip (encs x)).foldl (fun t (p, v) => t.setIfInBounds p v) a.tmps, defers := [] } W)
    (hbody : ∀ (l : Nat) (pre : List α) (x : α) (a' : Act) (W : World), a' = af a x → w.heap.size + 2 ≤ W.heap.size → Nx pre x W → I pre W → body.wpIn (F.inRound l) (n - 1 - 1) P (onPostR w.heap.size Kp I (pre ++ [x]) W) a' W)
    (hdone : ∀ (xs : List α) (W : World), S xs W → I xs W → W.heap[w.heap.size]? = some (.deferred (some [])) → Q .normal { a with defers := { target := .collected w.heap.size, args := #[] } :: a.defers } W) :
    (Code.rangeFunc g ps assign body).wpIn F n P Q a w := by
  refine wpIn_rangeFunc fun fn hfn => ?_
  rw [hro]
  let rec' : LoopState → Loop := fun st => { state := st, pending := none, fn, tmps := a.tmps, params := ps, assign, body, defers := w.heap.size }
  have hz : ((w.alloc (.deferred (some []))).alloc (.loop (rec' .ready))).heap.size = w.heap.size + 2 := by simp
  have hBz : Below w.heap.size w ((w.alloc (.deferred (some []))).alloc (.loop (rec' .ready))) := ((Below.refl _ w).alloc (Nat.le_refl _) _).alloc (by simp) _
  have hK1 : ((w.alloc (.deferred (some []))).alloc (.loop (rec' .ready))).heap[w.heap.size]? = some (.deferred (some [])) := (Below.heap_alloc _ _ _ (by simp)).trans (World.alloc_heap_new w _)
  have hL1 : ((w.alloc (.deferred (some []))).alloc (.loop (rec' .ready))).heap[w.heap.size + 1]? = some (.loop (rec' .ready)) := by
    have := World.alloc_heap_new (w.alloc (.deferred (some []))) (.loop (rec' .ready)); rwa [World.size_alloc] at this
  refine ⟨w.heap.size + 1, [{ target := .collected w.heap.size, args := #[] }], (w.alloc (.deferred (some []))).alloc (.loop (rec' .ready)), { target := .fn (.func gf) lb, args := #[.func (.yield (w.heap.size + 1)) #[] #[]] }, (w.alloc (.deferred (some []))).alloc (.loop (rec' .ready)), gf,
    #[.func (.yield (w.heap.size + 1)) #[] #[]] ++ lb, (w.alloc (.deferred (some []))).alloc (.loop (rec' .ready)), run_enterLoop_outer _ _ _ _ _, ?_, ?_, ?_, fun _ => h1, ?_⟩
  · simp only [resolve, hg]
    simp [go_sem, rec']
  · intro f' hf'; simp [Target.leads] at hf'; subst hf'; exact hFg
  · simp [invoke, go_sem, eg]
  refine (hseq (w.heap.size + 1)
    (fun pre W => I pre W ∧ W.heap[w.heap.size + 1]? = some (.loop (rec' .ready)) ∧ W.heap[w.heap.size]? = some (.deferred (some [])))
    _ hz hBz (fun s A B h hb => ⟨hIw s A B h.1 hb, (hWr _ _ hb _ (by omega) (by omega)).trans h.2.1, (hWr _ _ hb _ (by omega) (by omega)).trans h.2.2⟩) ?_ ⟨hI _ _ _ h0 hBz, hL1, hK1⟩).mono ?_
  · rintro pre x W hnx ⟨hi, hl, hk⟩
    have hlt : w.heap.size + 1 < W.heap.size := (Array.getElem?_eq_some_iff.1 hl).1
    refine ⟨fn, _, assign, body, run_yield (P := P) (args := encs x) hl (hps x), roundIn_two hfn (hassign _ x W _ ?_)⟩
    intro a' hax
    have hla := hl
    have hka := hk
    have hlta := hlt
    have hia := hi
    have hkpa := hKr W
    refine ⟨_, run_beginRound hla rfl, ?_⟩
    have hl2 : (W.putObj (w.heap.size + 1) (.loop (rec' .busy))).heap[w.heap.size + 1]? = some (.loop (rec' .busy)) := World.putObj_heap_same hlta
    have hk2 : (W.putObj (w.heap.size + 1) (.loop (rec' .busy))).heap[w.heap.size]? = some (.deferred (some [])) := (World.putObj_heap_other (by omega)).trans hka
    have hz2 : (W.putObj (w.heap.size + 1) (.loop (rec' .busy))).heap.size = W.heap.size := by simp
    rcases hbody _ pre x a' (W.putObj (w.heap.size + 1) (.loop (rec' .busy))) hax (by omega) (hNx _ _ _ _ hnx) (hI _ _ _ hia (putObj_belowR W _ _ hla (by omega))) with hbd
    · refine .inl (wpIn_mono hbd ?_)
      intro e a3 W3 hp
      cases e with
      | normal =>
        obtain ⟨hk3, hkp3, hi3⟩ := hp
        have hl3 := hk3.same _ _ (by omega) hl2 rfl
        have hd3 := hk3.same _ _ (Nat.le_refl _) hk2 rfl
        have hlt3 := (Array.getElem?_eq_some_iff.1 hl3).1
        refine ⟨_, _, run_endRound none hl3, ⟨rfl, ⟨hI _ _ _ hi3 (putObj_belowR W3 _ _ hl3 (by omega)), World.putObj_heap_same hlt3, (World.putObj_heap_other (by omega)).trans hd3⟩, hKt hkpa (hKt (hKt (hKb W _) hkp3) (hKb W3 _))⟩⟩
      | panic ch => exact hp.elim
      | ret => exact hp.elim
      | exit id => exact hp.elim
      | goto t => exact hp.elim
      | outgrown => exact hp.elim
  · rintro e W2 ⟨⟨v, rfl⟩, xs, hS2, hi, hl, hk⟩
    · exact ⟨none, _, run_endLoop (P := P) hl (by simp [rec']), hdone xs _ (hS _ _ _ hS2) (hI _ _ _ hi (putObj_belowR W2 _ _ hl (by omega))) ((World.putObj_heap_other (by omega)).trans hk)⟩

end Go.Kn

namespace Go.Kn
open Go Go.Proofs Go.RowKit

/-- what best keeps in its two cells -/
def KeepB (W : World) (bx : Nat) (pre : List Ls) : Option (List Nat) → Prop
  | none => W.cell? ⟨bx, 0, none⟩ = some (.slice none 0 0) ∧ W.cell? ⟨bx + 1, 0, none⟩ = some (.bool false)
  | some L => (∃ x ∈ pre, x.c = L ∧ W.cell? ⟨bx, 0, none⟩ = some x.v) ∧ W.cell? ⟨bx + 1, 0, none⟩ = some (.bool true)
theorem KeepB.cells {W W' : World} {bx : Nat} {pre : List Ls} {o : Option (List Nat)} (h : KeepB W bx pre o) (h1 : W'.cell? ⟨bx, 0, none⟩ = W.cell? ⟨bx, 0, none⟩) (h2 : W'.cell? ⟨bx + 1, 0, none⟩ = W.cell? ⟨bx + 1, 0, none⟩) : KeepB W' bx pre o := by
  cases o with
  | none => exact ⟨h1.trans h.1, h2.trans h.2⟩
  | some L => obtain ⟨⟨x, hx, e, h3⟩, h4⟩ := h; exact ⟨⟨x, hx, e, h1.trans h3⟩, h2.trans h4⟩
theorem KeepB.more {W : World} {bx : Nat} {pre : List Ls} {o : Option (List Nat)} (h : KeepB W bx pre o) (x : Ls) : KeepB W bx (pre ++ [x]) o := by
  cases o with
  | none => exact h
  | some L => obtain ⟨⟨y, hy, e, h3⟩, h4⟩ := h; exact ⟨⟨y, List.mem_append_left _ hy, e, h3⟩, h4⟩
theorem bestF_filter (R : List Nat → Bool) (L : List (List Nat)) : bestF R (L.filter R) = bestF R L := by
  unfold bestF
  generalize (none : Option (List Nat)) = st
  induction L generalizing st with
  | nil => rfl
  | cons a t ih =>
    rw [List.filter_cons]
    cases h : R a with
    | true => simp only [if_true, List.foldl_cons]; exact ih _
    | false =>
      simp only [Bool.false_eq_true, if_false, List.foldl_cons]
      rw [ih]
      congr 1
      simp [betF, h]
end Go.Kn

namespace Go.Kn
open Go Go.Proofs Go.RowKit

set_option maxRecDepth 100000 in
set_option maxHeartbeats 1000000 in
theorem same77_t (sa sb : Option Addr) (ls c1 c2 : Nat) (s : Nat → Int) (w : World) (hls : ls ≤ maxLen) (H1 : Hid (IntSl w sa ls s)) (H2 : Hid (IntSl w sb ls s)) :
    Calls Tryz.prog 77 #[.slice sa ls c1, .slice sb ls c2] w fun e w' => e = .returned (.bool true) ∧ Below w.heap.size w w' := by
  unfold maxLen at hls
  go_enter Tryz.func77, Tryz.ntmps77
  go_wp2
  go_loopw [5] (fun i wr => ∃ k : Nat, k ≤ ls ∧ i = .int .i64 k ∧ Below w.heap.size w wr) (fun i _ => ls - (Go.RowKit.intOf i).toNat)
  case atStart => exact ⟨0, Nat.zero_le _, rfl, Below.refl _ _⟩
  case round =>
    obtain ⟨k, hk, rfl, hbw⟩ := hrel
    by_cases hlt : k < ls
    · obtain ⟨A, O, rfl, hA, h1⟩ := H1.out.resolve_left (by omega)
      obtain ⟨B, U, rfl, hB, h2⟩ := H2.out.resolve_left (by omega)
      have y0 := (h1.below hA hbw) k hlt
      have y1 := (h2.below hB hbw) k hlt
      clear h1 h2
      have n1 : (0 : Int) ≤ (k : Int) := by omega
      have n2 : (k : Int) < (ls : Int) := by omega
      go_wp2
      go_quiet (fail)
      go_wp2
      go_roundw
      case rel => exact ⟨k + 1, by omega, by go_num, below_drewM hbw _⟩
      case measure => simp [Go.RowKit.intOf]; omega
    · go_wp2
      go_ret
      exact ⟨rfl, hbw⟩
set_option maxRecDepth 100000 in
theorem same_t (sa sb : Option Addr) (ls c1 c2 : Nat) (s : Nat → Int) (w : World) (hls : ls ≤ maxLen) (H1 : Hid (IntSl w sa ls s)) (H2 : Hid (IntSl w sb ls s)) :
    Calls Tryz.prog 34 #[.slice sa ls c1, .slice sb ls c2] w fun e w' => e = .returned (.bool true) ∧ Below w.heap.size w w' := by
  have HS := Lib.hid (same77_t sa sb ls c1 c2 s w hls H1 H2)
  go_enter Tryz.func34, Tryz.ntmps34
  go_wp2_with (go_at_call 77; refine HS.out.mono ?_; rintro e w5 ⟨rfl, hv⟩)
  go_ret
  exact ⟨rfl, hv⟩
end Go.Kn
