/- Contracts of functions that the laws of this seat call, or the evaluator of closed calls and its runs. Conditions: as each theorem states them. -/
import Derived.Test.YtddlghdglknloaaGreatDoorG1
import Derived.RangeFuncBox
import Derived.Shelf.RegionOpen
set_option linter.unusedVariables false
set_option linter.unusedSimpArgs false
namespace Go.Kn
open Go Go.RowKit

variable {F : Fence} {n : Nat} {P : Program}

/-- A body that is a region in the text's order and panics. -/
theorem bodyPan_text {id id2 : Nat} {l : List Oper} {R : List PanicEntry → World → Prop} {a : Act} {w : World} {Q : Exit → Act → World → Prop} (hQ : ∀ e a w, Q e a w → ∃ ch, e = .panic ch ∧ a.defers = [] ∧ R ch w)
    (h : wpListIn F n P l.toArray Q l a w) : BodyPan F n P (.block id (.region id2 l.toArray false)) R a w := ⟨fun b k cs hro hb hr => by
  have h' : wpOpsIn F n P l.toArray Q (List.range l.toArray.size) a w := by
    rw [List.range_eq_range', ← Array.length_toList, wpOpsIn_eq_wpListIn l.toArray.toList 0 (by simp)]; simpa using h
  obtain ⟨ch, a', w', js, h1, h2⟩ := ops_panic (fun e a w h => by obtain ⟨ch, e, _⟩ := hQ e a w h; exact ⟨ch, e⟩) _ a _ h' b (.inBlock id :: k) cs hro hb hr
  obtain ⟨ch2, e, hd, hR⟩ := hQ _ _ _ h1
  cases e
  exact ⟨ch, a', w', l.toArray, js, _, hd, hR, .head (fenced_calm hb hr rfl) stepR_block (.head (fenced_calm hb hr rfl) stepR_region h2)⟩⟩

/-- A range over a function whose body may panic: the iterator writes what Wr says between two rounds. -/
theorem rangeFunc_pan7 {α : Type} {g : Operand} {ps : Array Tmp} {assign body : Code} {Q : Exit → Act → World → Prop} {a : Act} {w : World} (af : Act → α → Act)
    (hro : F.round = none) (h1 : 1 ≤ n) {gf : Nat} {lb : Array Value} (hg : a.eval g = .func (.func gf) #[] lb) (hFg : F.fn gf) (eg : ∀ args w, (callFunc gf args).run P w = .ok (.enter gf args) w)
    {encs : α → Array Value} {Kp Wr : World → World → Prop} {S : List α → World → Prop} {Nx : List α → α → World → Prop}
    (hseq : ∀ (l : Nat) (J : List α → World → Prop) (Jp : List PanicEntry → World → Prop) (W : World), W.heap.size = w.heap.size + 2 → Below w.heap.size w W →
      (∀ s A B, J s A → Wr A B → J s B) →
      (∀ pre x W1, Nx pre x W1 → J pre W1 → YieldAt F (n - 1 - 1) P l (encs x) W1 fun e W' => (e = .returned (.bool true) ∧ J (pre ++ [x]) W' ∧ Kp W1 W') ∨ (∃ ch, e = .panicked ch ∧ Jp ch W')) →
      J [] W → CallsIn F (n - 1) P gf (#[.func (.yield l) #[] #[]] ++ lb) W fun e W' => ((∃ v, e = .returned v) ∧ ∃ xs, S xs W' ∧ J xs W') ∨ (∃ ch, e = .panicked ch ∧ Jp ch W'))
    (hKt : ∀ {A B C : World}, Kp A B → Kp B C → Kp A C)
    (hKb : ∀ (W : World) (o' : Obj), Kp W (W.putObj (w.heap.size + 1) o'))
    (hS : ∀ xs (W : World) (o' : Obj), S xs W → S xs (W.putObj (w.heap.size + 1) o'))
    (hps : ∀ x, (encs x).size = ps.size)
    (hWr : ∀ A B, Wr A B → ∀ k, w.heap.size ≤ k → k < w.heap.size + 2 → B.heap[k]? = A.heap[k]?)
    (I : List α → World → Prop) (hIw : ∀ s A B, I s A → Wr A B → I s B) (hI : ∀ s A B, I s A → Below w.heap.size A B → I s B) (h0 : I [] w)
    (Ip : List PanicEntry → World → Prop)
    (hNx : ∀ pre x (W : World) (o' : Obj), Nx pre x W → Nx pre x (W.putObj (w.heap.size + 1) o'))
    (hKr : ∀ W : World, Kp W W)
    (hassign : ∀ (l : Nat) (x : α) (W : World) (K : Act → World → Prop), (∀ a', a' = af a x → K a' W) →
      assign.wpIn (F.inRound l) (n - 1 - 1) P (Exit.then K (fun _ _ _ => False)) { tmps := (ps.zip (encs x)).foldl (fun t (p, v) => t.setIfInBounds p v) a.tmps, defers := [] } W)
    (hbody : ∀ (l : Nat) (pre : List α) (x : α) (a' : Act) (W : World), a' = af a x → w.heap.size + 2 ≤ W.heap.size → Nx pre x W → I pre W → body.wpIn (F.inRound l) (n - 1 - 1) P (onPostR w.heap.size Kp I (pre ++ [x]) W) a' W ∨ BodyPan (F.inRound l) (n - 1 - 1) P body (fun ch W' => KeepsFrom w.heap.size W W' ∧ Ip ch W') a' W)
    (hdone : ∀ (xs : List α) (W : World), S xs W → I xs W → W.heap[w.heap.size]? = some (.deferred (some [])) → Q .normal { a with defers := { target := .collected w.heap.size, args := #[] } :: a.defers } W)
    (hpan : ∀ (ch : List PanicEntry) (W : World), Ip ch W → W.heap[w.heap.size]? = some (.deferred (some [])) → Q (.panic ch) { a with defers := { target := .collected w.heap.size, args := #[] } :: a.defers } W) :
    (Code.rangeFunc g ps assign body).wpIn F n P Q a w := by
  refine wpIn_rangeFunc fun fn hfn => ?_
  rw [hro]
  let rec' : LoopState → Loop := fun st => { state := st, pending := none, fn, tmps := a.tmps, params := ps, assign, body, defers := w.heap.size }
  have hz : ((w.alloc (.deferred (some []))).alloc (.loop (rec' .ready))).heap.size = w.heap.size + 2 := by simp
  have hBz : Below w.heap.size w ((w.alloc (.deferred (some []))).alloc (.loop (rec' .ready))) := ((Below.refl _ w).alloc (Nat.le_refl _) _).alloc (by simp) _
  have hK1 : ((w.alloc (.deferred (some []))).alloc (.loop (rec' .ready))).heap[w.heap.size]? = some (.deferred (some [])) := (Below.heap_alloc _ _ _ (by simp)).trans (World.alloc_heap_new w _)
  have hL1 : ((w.alloc (.deferred (some []))).alloc (.loop (rec' .ready))).heap[w.heap.size + 1]? = some (.loop (rec' .ready)) := by
    have := World.alloc_heap_new (w.alloc (.deferred (some []))) (.loop (rec' .ready)); rwa [World.size_alloc] at this
  refine ⟨w.heap.size + 1, [{ target := .collected w.heap.size, args := #[] }], (w.alloc (.deferred (some []))).alloc (.loop (rec' .ready)), { target := .fn (.func gf) lb, args := #[.func (.yield (w.heap.size + 1)) #[] #[]] }, (w.alloc (.deferred (some []))).alloc (.loop (rec' .ready)), gf,
    #[.func (.yield (w.heap.size + 1)) #[] #[]] ++ lb, (w.alloc (.deferred (some []))).alloc (.loop (rec' .ready)), run_enterLoop_outer _ _ _ _ _, ?_, ?_, ?_, fun _ => h1, ?_⟩
  · simp only [resolve, hg]
    simp [go_sem, rec']
  · intro f' hf'; simp [Target.leads] at hf'; subst hf'; exact hFg
  · simp [invoke, go_sem, eg]
  refine (hseq (w.heap.size + 1)
    (fun pre W => I pre W ∧ W.heap[w.heap.size + 1]? = some (.loop (rec' .ready)) ∧ W.heap[w.heap.size]? = some (.deferred (some [])))
    (fun ch W => Ip ch W ∧ W.heap[w.heap.size]? = some (.deferred (some [])))
    _ hz hBz (fun s A B h hb => ⟨hIw s A B h.1 hb, (hWr _ _ hb _ (by omega) (by omega)).trans h.2.1, (hWr _ _ hb _ (by omega) (by omega)).trans h.2.2⟩) ?_ ⟨hI _ _ _ h0 hBz, hL1, hK1⟩).mono ?_
  · rintro pre x W hnx ⟨hi, hl, hk⟩
    have hlt : w.heap.size + 1 < W.heap.size := (Array.getElem?_eq_some_iff.1 hl).1
    refine ⟨fn, _, assign, body, run_yield (P := P) (args := encs x) hl (hps x), roundIn_two hfn (hassign _ x W _ ?_)⟩
    intro a' hax
    have hla := hl
    have hka := hk
    have hlta := hlt
    have hia := hi
    have hkpa := hKr W
    refine ⟨_, run_beginRound hla rfl, ?_⟩
    have hl2 : (W.putObj (w.heap.size + 1) (.loop (rec' .busy))).heap[w.heap.size + 1]? = some (.loop (rec' .busy)) := World.putObj_heap_same hlta
    have hk2 : (W.putObj (w.heap.size + 1) (.loop (rec' .busy))).heap[w.heap.size]? = some (.deferred (some [])) := (World.putObj_heap_other (by omega)).trans hka
    have hz2 : (W.putObj (w.heap.size + 1) (.loop (rec' .busy))).heap.size = W.heap.size := by simp
    rcases hbody _ pre x a' (W.putObj (w.heap.size + 1) (.loop (rec' .busy))) hax (by omega) (hNx _ _ _ _ hnx) (hI _ _ _ hia (putObj_belowR W _ _ hla (by omega))) with hbd | hbd
    · refine .inl (wpIn_mono hbd ?_)
      intro e a3 W3 hp
      cases e with
      | normal =>
        obtain ⟨hk3, hkp3, hi3⟩ := hp
        have hl3 := hk3.same _ _ (by omega) hl2 rfl
        have hd3 := hk3.same _ _ (Nat.le_refl _) hk2 rfl
        have hlt3 := (Array.getElem?_eq_some_iff.1 hl3).1
        refine ⟨_, _, run_endRound none hl3, .inl ⟨rfl, ⟨hI _ _ _ hi3 (putObj_belowR W3 _ _ hl3 (by omega)), World.putObj_heap_same hlt3, (World.putObj_heap_other (by omega)).trans hd3⟩, hKt hkpa (hKt (hKt (hKb W _) hkp3) (hKb W3 _))⟩⟩
      | panic ch => exact hp.elim
      | ret => exact hp.elim
      | exit id => exact hp.elim
      | goto t => exact hp.elim
      | outgrown => exact hp.elim
    · refine .inr (hbd.mono fun ch W3 ⟨hk3, hi3⟩ => .inr ⟨ch, rfl, hi3, hk3.same _ _ (Nat.le_refl _) hk2 rfl⟩)
  · rintro e W2 (⟨⟨v, rfl⟩, xs, hS2, hi, hl, hk⟩ | ⟨ch, rfl, hi, hk⟩)
    · exact ⟨none, _, run_endLoop (P := P) hl (by simp [rec']), hdone xs _ (hS _ _ _ hS2) (hI _ _ _ hi (putObj_belowR W2 _ _ hl (by omega))) ((World.putObj_heap_other (by omega)).trans hk)⟩
    · exact hpan ch W2 hi hk

end Go.Kn

namespace Go.Kn
open Go Go.Proofs Go.RowKit

theorem eqnil_s (B O n c : Nat) (w : World) : (binOp BinOp.eql 26 (Value.slice (some ⟨B, O, none⟩) n c) (Value.slice none 0 0)).run Tryz.prog w = .ok (.bool false) w := by
  first | kernel_rfl | (simp [binOp, go_sem])
theorem eqnil_n (w : World) : (binOp BinOp.eql 26 (Value.slice none 0 0) (Value.slice none 0 0)).run Tryz.prog w = .ok (.bool true) w := by
  first | kernel_rfl | (simp [binOp, go_sem])
/-- a list that is yielded, and where it lies -/
structure Ls where
  c : List Nat
  a : Option Addr
  cap : Nat
def Ls.v (x : Ls) : Value := .slice x.a x.c.length x.cap
def AtL (W : World) (lo : Nat) (x : Ls) : Prop := IntSl W x.a x.c.length (lgI x.c) ∧ ∀ b o, x.a = some ⟨b, o, none⟩ → lo ≤ b
theorem addr_add (B O j : Nat) : (⟨B, O, none⟩ : Addr).add j = ⟨B, O + j, none⟩ := by
  unfold Addr.add
  split
  · rename_i h; subst h; rfl
  · rfl

set_option maxRecDepth 100000 in
set_option maxHeartbeats 2000000 in
theorem clone_w (sa : Option Addr) (m c : Nat) (L : List Nat) (w : World) (hl : L.length = m) (hm : m ≤ 1000) (hn : sa = none → m = 0 ∧ c = 0) (hs : sa ≠ none → 0 < m) (HS : Hid (IntSl w sa m (lgI L))) :
    Calls Tryz.prog 121 #[.slice sa m c] w fun e w' => (∃ x : Ls, e = .returned x.v ∧ x.c = L ∧ AtL w' w.heap.size x) ∧ Below w.heap.size w w' := by
  obtain ⟨i0, hi, hz0, hz1, hz2⟩ := info_parts info3'
  cases sa with
  | none =>
    obtain ⟨rfl, rfl⟩ := hn rfl
    have h0 : L = [] := List.eq_nil_of_length_eq_zero hl
    subst h0
    clear hl hm hn hs HS
    have hnil := eqnil_n
    go_enter Tryz.func121, Tryz.ntmps121
    go_wp2
    go_ret
    exact ⟨⟨⟨[], none, 0⟩, rfl, rfl, .inl rfl, fun b o h => by cases h⟩, Below.refl _ _⟩
  | some ad =>
    obtain ⟨B, O, hBO, hB, hc⟩ := HS.out.resolve_left (by have := hs (by simp); omega)
    cases hBO
    have HN : Hid (∀ o : Obj, ∀ (j : Nat) (u : Value), (L.map iv1)[j]? = some u → (w.alloc o).cell? ((⟨B, O, none⟩ : Addr).add j) = some u) := Lib.hid fun o j u hu => by
      have hj : j < L.length := by
        have := (List.getElem?_eq_some_iff.1 hu).1
        simpa using this
      have e : u = .int .i64 (lgI L j) := by rw [lgI_get hj]; simpa [hj, iv1] using hu.symm
      rw [addr_add, e]
      exact (World.cell?_alloc_lt w o _ hB).trans (hc j (by omega))
    have hnil := eqnil_s B O m c
    have HL := Lib.hid hl
    clear hc hl hs hn HS
    go_enter Tryz.func121, Tryz.ntmps121
    go_wp2_with (at_builtin; refine wpList_append_own _ rfl _ _ 26 rfl w.heap.size 3 i0 _ 1 8 Tryz.underlying26 hi hz0 hz1 hz2 rfl (by decide) (.slice (some ⟨w.heap.size, 0, none⟩) 0 0) 0 [] rfl (World.ownsRow_lit (e := 3) (size := 1) w #[] 0 (Nat.le_refl _) (by decide) rfl) ⟨B, O, none⟩ m c (L.map iv1) rfl (by simp [HL.out]) (HN.out _) (by intro u hu; simp [iv1] at hu; obtain ⟨x, _, rfl⟩ := hu; rfl) (by unfold maxLen; omega) (by omega) (by simp) ?_; intro v' w7 hown7 hgrow7 _)
    rw [Nat.zero_add, List.nil_append] at hown7
    obtain ⟨s7, c7, rfl, hs7, hg7⟩ := dayNew hown7
    go_ret
    refine ⟨⟨⟨L, s7, c7⟩, by simp [Ls.v, HL.out], rfl, by rw [HL.out]; exact hs7, hg7⟩, ((Below.refl _ _).alloc (Nat.le_refl _) _).grown hgrow7 (by simp) (fun k e => by simp [Value.ownBlock] at e; omega)⟩

set_option maxRecDepth 100000 in
set_option maxHeartbeats 2000000 in
theorem points_w (pa ca : Option Addr) (lp cp lc cc : Nat) (op : Nat → Bool) (w : World) (hlp : lp ≤ 1000) :
    Calls Tryz.prog 72 #[.agg (opC pa ca lp cp lc cc op)] w fun e w' => (∃ v, e = .returned v ∧ w'.ownsRow w.heap.size 3 1 v lp ((List.range lp).map iv1)) ∧ Below w.heap.size w w' := by
  obtain ⟨i0, hi0, hz0, hz1, hz2⟩ := info_parts info3'
  obtain ⟨W0, hW0⟩ : ∃ W0, W0 = w.alloc (.cells (opC pa ca lp cp lc cc op) 81) := ⟨_, rfl⟩
  have hA : Below w.heap.size w W0 := by rw [hW0]; exact (Below.refl _ _).alloc (Nat.le_refl _) _
  have x0 : W0.cell? ⟨w.heap.size, 0, none⟩ = some (.slice pa lp cp) := by rw [hW0]; exact (B12.new _ _ _ _ _ _ _ _).x0
  have HA := Lib.hid hA
  rw [hW0] at x0
  simp only [opC] at hW0 x0 ⊢
  clear hA
  go_enter Tryz.func72, Tryz.ntmps72
  go_wp2
  rw [← hW0]
  clear hW0 x0
  go_loopw [2, 8] (fun v ii wr => ∃ k : Nat, k ≤ lp ∧ ii = .int .i64 (k : Int) ∧ wr.ownsRow W0.heap.size 3 1 v k ((List.range k).map iv1) ∧ Below W0.heap.size W0 wr) (fun _ ii _ => lp - (Go.RowKit.intOf ii).toNat)
  case atStart => exact ⟨0, Nat.zero_le _, rfl, ⟨rfl, .inl ⟨rfl, rfl⟩⟩, Below.refl _ _⟩
  case round =>
    obtain ⟨k, hk, rfl, hown, hbr⟩ := hrel
    have HOW := Lib.hid hown
    have HBR := Lib.hid hbr
    clear hown hbr
    by_cases hlt : k < lp
    · have n1 : (0 : Int) ≤ (k : Int) := by omega
      have n2 : (k : Int) < (lp : Int) := by omega
      go_wp2_with (at_builtin; refine wpList_append_own_at _ rfl (.tmp 11) (.tmp 13) 26 rfl W0.heap.size 3 i0 (.int .i64 0) 1 8 Tryz.underlying26 hi0 hz0 hz1 hz2 rfl (by decide) _ k _ rfl (HOW.out.alloc _) ⟨_, 0, none⟩ 1 1 [.int .i64 (k : Int)] rfl rfl (lies_any (by first | exact al_top rfl _ _ | exact al_top (by simp) _ _)) (by intro u hu; simp at hu; subst hu; rfl) (by unfold maxLen; omega) (by omega) (by have := HBR.out.size; simp; omega) ?_; intro v7 w7 hown7 hgrow7 _ hloc7)
      go_roundw
      case rel => exact ⟨k + 1, by omega, by go_num, by rw [List.range_succ, List.map_append]; exact hown7, (HBR.out.alloc HBR.out.size _).grown hgrow7 (by have := HBR.out.size; simp; omega) (fun r e => own_ge HOW.out r e)⟩
      case measure => simp [Go.RowKit.intOf]; omega
    · obtain rfl : k = lp := by omega
      go_wp2
      go_ret
      exact ⟨⟨_, rfl, owns_base HOW.out HA.out.size⟩, HA.out.trans (HBR.out.mono HA.out.size)⟩
end Go.Kn

namespace Go.Kn
open Go Go.Proofs Go.RowKit

theorem boxed_below {W W' : World} {B N : Nat} {t : TypeId} {v : Value} (h : Boxed W B t v) (hb : Below N W W') (hB : B < N) : Boxed W' B t v := (hb.block B hB).trans h
/-- what a round keeps: all blocks that were there, but for the caller's own -/
def KpR (X : Nat → Prop) (W W' : World) : Prop := W.heap.size ≤ W'.heap.size ∧ ∀ k, k < W.heap.size → ¬ X k → W'.heap[k]? = W.heap[k]?
theorem KpR.trans {X : Nat → Prop} {A B C : World} (h : KpR X A B) (k : KpR X B C) : KpR X A C := ⟨Nat.le_trans h.1 k.1, fun i hi hm => (k.2 i (Nat.lt_of_lt_of_le hi h.1) hm).trans (h.2 i hi hm)⟩
theorem KpR.refl (X : Nat → Prop) (W : World) : KpR X W W := ⟨Nat.le_refl _, fun _ _ _ => rfl⟩
theorem KpR.of_below {X : Nat → Prop} {W W' : World} (hb : Below W.heap.size W W') : KpR X W W' := ⟨hb.size, fun k hk _ => hb.block k hk⟩
theorem KpR.putObj (X : Nat → Prop) (W : World) (k : Nat) (o : Obj) (h1 : X k) : KpR X W (W.putObj k o) := ⟨by simp, fun i _ hm => World.putObj_heap_other (by rintro rfl; exact hm h1)⟩
theorem KpR.setCell (X : Nat → Prop) (W : World) (k o : Nat) (v : Value) (h1 : X k) : KpR X W (W.setCell ⟨k, o, none⟩ v) := ⟨by simp, fun i _ hm => Below.heap_setCell _ _ _ _ (by rintro rfl; exact hm h1)⟩
theorem AtL.low {W : World} {a b : Nat} {x : Ls} (h : AtL W b x) (hb : a ≤ b) : AtL W a x := ⟨h.1, fun c o e => Nat.le_trans hb (h.2 c o e)⟩
theorem AtL.blocks {W W' : World} {lo : Nat} {x : Ls} (h : AtL W lo x) (hs : W.heap.size ≤ W'.heap.size) (hk : ∀ b o, x.a = some ⟨b, o, none⟩ → b < W.heap.size → x.c.length ≠ 0 → W'.heap[b]? = W.heap[b]?) : AtL W' lo x := by
  refine ⟨?_, h.2⟩
  rcases h.1 with h1 | ⟨A, O, ha, hA, hN⟩
  · exact .inl h1
  · by_cases h0 : x.c.length = 0
    · exact .inl h0
    · exact .inr ⟨A, O, ha, Nat.lt_of_lt_of_le hA hs, fun i hi => (World.cell?_of_block (w := W) (hk A O ha hA h0)).trans (hN i hi)⟩
theorem AtL.below {W W' : World} {lo : Nat} {x : Ls} (h : AtL W lo x) (hb : Below W.heap.size W W') : AtL W' lo x := h.blocks hb.size fun b _ _ hlt _ => hb.block b hlt

/-- what the going through lists stands on -/
structure LE where
  W0 : World
  M : Nat
  X : Nat → Prop
  Bl : Nat
  By : Nat
  Bn : Nat
  Bg : Nat
  na : Option Addr
  n : Nat
  cn : Nat
  l : Nat
  N : List Nat
  J : List Ls → World → Prop
  Jp : List PanicEntry → World → Prop
def LE.keep (E : LE) (k : Nat) : Prop := k < E.W0.heap.size ∧ ¬ E.X k ∧ k ≠ E.Bl
def LE.caps (E : LE) : Array Value := #[.pointer (some ⟨E.By, 0, none⟩), .pointer (some ⟨E.Bl, 0, none⟩), .pointer (some ⟨E.Bn, 0, none⟩), .pointer (some ⟨E.Bg, 0, none⟩)]
def LE.args (E : LE) (d : Nat) : Array Value := #[.int .i64 (d : Int), .pointer (some ⟨E.By, 0, none⟩), .pointer (some ⟨E.Bl, 0, none⟩), .pointer (some ⟨E.Bn, 0, none⟩), .pointer (some ⟨E.Bg, 0, none⟩)]
structure LE.Ok (E : LE) : Prop where
  ky : E.keep E.By
  kn : E.keep E.Bn
  kg : E.keep E.Bg
  cy : E.W0.cell? ⟨E.By, 0, none⟩ = some (.func (.yield E.l) #[] #[])
  cn : E.W0.cell? ⟨E.Bn, 0, none⟩ = some (.slice E.na E.n E.cn)
  cg : E.W0.cell? ⟨E.Bg, 0, none⟩ = some (.func (.func 120) #[] E.caps)
  num : E.n = 0 ∨ ∃ A O, E.na = some ⟨A, O, none⟩ ∧ E.keep A ∧ NumAt E.W0 A O E.n (lgI E.N)
  nl : E.N.length = E.n
  n20 : E.n ≤ 20
  hX : ∀ k, E.X k → k < E.M
  bl1 : E.M ≤ E.Bl
  bl2 : E.Bl < E.W0.heap.size
  hJ : ∀ s A B, E.J s A → Below E.M A B → E.J s B
  hY : ∀ k pre x W1, AtL W1 E.W0.heap.size x → x.c.Sublist E.N → E.J pre W1 → YieldAt Fence.wide k Tryz.prog E.l #[x.v] W1 fun e W' => (e = .returned (.bool true) ∧ E.J (pre ++ [x]) W' ∧ KpR E.X W1 W') ∨ (∃ ch, e = .panicked ch ∧ E.Jp ch W')
structure LE.St (E : LE) (W : World) (cs : List Nat) (ys : List Ls) : Prop where
  sz : E.W0.heap.size ≤ W.heap.size
  kp : ∀ k, E.keep k → W.heap[k]? = E.W0.heap[k]?
  ch : ∃ v, Boxed W E.Bl 26 v ∧ W.ownsRow E.W0.heap.size 3 1 v cs.length (cs.map iv1) ∧ ∀ y ∈ ys, y.c.length ≠ 0 → ∀ b o, y.a = some ⟨b, o, none⟩ → v.ownBlock ≠ some b
  yy : ∀ y ∈ ys, AtL W E.W0.heap.size y
  J : E.J ys W
theorem LE.St.cell {E : LE} {W : World} {cs : List Nat} {ys : List Ls} (h : E.St W cs ys) {b o : Nat} (hb : E.keep b) : W.cell? ⟨b, o, none⟩ = E.W0.cell? ⟨b, o, none⟩ := World.cell?_of_block (w := E.W0) (h.kp b hb)
theorem LE.St.below {E : LE} (ok : E.Ok) {W W' : World} {cs : List Nat} {ys : List Ls} (h : E.St W cs ys) (hb : Below W.heap.size W W') : E.St W' cs ys := by
  have hz := h.sz
  have z1 := ok.bl1
  have z2 := ok.bl2
  obtain ⟨v, h1, h2, h3⟩ := h.ch
  exact ⟨Nat.le_trans h.sz hb.size, fun k hk => (hb.block k (by have := hk.1; omega)).trans (h.kp k hk), ⟨v, boxed_below h1 hb h1.lt, owns_below h2 hb, h3⟩, fun y hy => (h.yy y hy).below hb, ok.hJ _ _ _ h.J (hb.mono (by omega))⟩
/-- a round of the caller's -/
theorem LE.St.round {E : LE} (ok : E.Ok) {W W' : World} {cs : List Nat} {ys : List Ls} {x : Ls} (h : E.St W cs ys) (hk : KpR E.X W W') (hJ : E.J (ys ++ [x]) W') (hx : AtL W E.W0.heap.size x) (hx3 : ∀ v, Boxed W E.Bl 26 v → x.c.length ≠ 0 → ∀ b o, x.a = some ⟨b, o, none⟩ → v.ownBlock ≠ some b) : E.St W' cs (ys ++ [x]) := by
  have hz := h.sz
  have z1 := ok.bl1
  have z2 := ok.bl2
  obtain ⟨v, h1, h2, h3⟩ := h.ch
  have hbl : ∀ k, k < W.heap.size → ¬ E.X k → W'.heap[k]? = W.heap[k]? := hk.2
  have hat : ∀ y, AtL W E.W0.heap.size y → AtL W' E.W0.heap.size y := fun y hy => hy.blocks hk.1 fun b o e hlt _ => hbl b hlt (fun hx => by have := ok.hX _ hx; have := hy.2 b o e; omega)
  refine ⟨Nat.le_trans h.sz hk.1, fun k hk' => (hbl k (by have := hk'.1; omega) hk'.2.1).trans (h.kp k hk'), ⟨v, (hbl _ (by omega) (fun hx => by have := ok.hX _ hx; omega)).trans h1, ?_, ?_⟩, ?_, hJ⟩
  · refine ⟨h2.1, ?_⟩
    rcases h2.2 with h4 | ⟨g, cap, cur, e1, e2, e3, e4⟩
    · exact .inl h4
    · exact .inr ⟨g, cap, cur, e1, e2, (hbl g (Array.getElem?_eq_some_iff.1 e3).1 (fun hx => by have := ok.hX _ hx; omega)).trans e3, e4⟩
  · intro y hy
    rcases List.mem_append.1 hy with hy | hy
    · exact h3 y hy
    · simp at hy; subst hy; exact hx3 v h1
  · intro y hy
    rcases List.mem_append.1 hy with hy | hy
    · exact hat y (h.yy y hy)
    · simp at hy; subst hy; exact hat _ hx
/-- a number more -/
theorem LE.St.push {E : LE} (ok : E.Ok) {W w8 w9 : World} {cs : List Nat} {ys : List Ls} (h : E.St W cs ys) (hb8 : Below W.heap.size W w8) {v v9 : Value} (h1 : Boxed W E.Bl 26 v) (h2 : W.ownsRow E.W0.heap.size 3 1 v cs.length (cs.map iv1)) (h3 : ∀ y ∈ ys, y.c.length ≠ 0 → ∀ b o, y.a = some ⟨b, o, none⟩ → v.ownBlock ≠ some b)
    {k : Nat} (hown : w9.ownsRow E.W0.heap.size 3 1 v9 (cs.length + 1) ((cs ++ [k]).map iv1)) (hgrow : w8.grownBy w9 v.ownBlock) (hat : v9.ownBlock = v.ownBlock ∨ v9.ownBlock = some w8.heap.size) :
    E.St (w9.setCell ⟨E.Bl, 0, none⟩ v9) (cs ++ [k]) ys := by
  have hz := h.sz
  have z1 := ok.bl1
  have z2 := ok.bl2
  have hs9 : w8.heap.size ≤ w9.heap.size := hgrow.size
  have hs8 := hb8.size
  have hB0 : ∀ j, j < W.heap.size → some j ≠ v.ownBlock → w9.heap[j]? = W.heap[j]? := fun j hj hne => (hgrow.block j (by omega) hne).trans (hb8.block j hj)
  have hBo : ∀ j, j < E.W0.heap.size → some j ≠ v.ownBlock := fun j hj => own_ne h2 (.inl hj)
  have hB : ∀ j, j < W.heap.size → some j ≠ v.ownBlock → j ≠ E.Bl → (w9.setCell ⟨E.Bl, 0, none⟩ v9).heap[j]? = W.heap[j]? := fun j hj hne e1 => (Below.heap_setCell _ _ _ _ e1).trans (hB0 j hj hne)
  have hbx9 : Boxed w9 E.Bl 26 v := (hB0 _ (by omega) (hBo _ z2)).trans h1
  have hsz : (w9.setCell ⟨E.Bl, 0, none⟩ v9).heap.size = w9.heap.size := by simp [World.setCell]
  refine ⟨by rw [hsz]; omega, fun j hj => (hB j (by have := hj.1; omega) (hBo j hj.1) hj.2.2).trans (h.kp j hj), ⟨v9, hbx9.set _, ?_, ?_⟩, fun y hy => ?_, ok.hJ _ _ _ h.J ?_⟩
  · have := ownsRow_setCell_below (a := ⟨E.Bl, 0, none⟩) hown z2 v9
    simpa using this
  · intro y hy h0 b o e
    rcases hat with h4 | h4
    · rw [h4]; exact h3 y hy h0 b o e
    · rw [h4]
      have hy2 := (h.yy y hy).1.resolve_left h0
      obtain ⟨A, O, e2, hA, _⟩ := hy2
      rw [e] at e2; injection e2 with e2; injection e2 with e3
      intro e4; injection e4 with e4; omega
  · refine (h.yy y hy).blocks (by rw [hsz]; omega) fun b o e hlt h0 => hB b hlt (fun e2 => h3 y hy h0 b o e e2.symm) ?_
    have := (h.yy y hy).2 b o e
    omega
  · exact (((hb8.mono (show E.M ≤ W.heap.size by omega)).grown hgrow (by omega) (fun r e => by have := own_ge h2 r e; omega))).setCell (p := ⟨E.Bl, 0, none⟩) z1 _
/-- and the last one is taken back -/
theorem LE.St.pop {E : LE} (ok : E.Ok) {W : World} {cs : List Nat} {ys : List Ls} {k : Nat} (h : E.St W (cs ++ [k]) ys) {g cap : Nat} (h1 : Boxed W E.Bl 26 (.slice (some ⟨g, 0, none⟩) (cs.length + 1) cap)) :
    E.St (W.setCell ⟨E.Bl, 0, none⟩ (.slice (some ⟨g, 0, none⟩) cs.length cap)) cs ys := by
  have hz := h.sz
  have z1 := ok.bl1
  have z2 := ok.bl2
  obtain ⟨v, g1, g2, g3⟩ := h.ch
  rw [show (cs ++ [k]).length = cs.length + 1 by simp] at g2
  obtain rfl : v = .slice (some ⟨g, 0, none⟩) (cs.length + 1) cap := by
    have := (show W.heap[E.Bl]? = _ from g1).symm.trans h1
    simpa using this
  have hB : ∀ j, j < W.heap.size → j ≠ E.Bl → (W.setCell ⟨E.Bl, 0, none⟩ (.slice (some ⟨g, 0, none⟩) cs.length cap)).heap[j]? = W.heap[j]? := fun j hj e1 => Below.heap_setCell _ _ _ _ e1
  have hsz : (W.setCell ⟨E.Bl, 0, none⟩ (.slice (some ⟨g, 0, none⟩) cs.length cap)).heap.size = W.heap.size := by simp [World.setCell]
  refine ⟨by rw [hsz]; omega, fun j hj => (hB j (by have := hj.1; omega) hj.2.2).trans (h.kp j hj), ⟨_, h1.set _, ?_, ?_⟩, fun y hy => ?_, ok.hJ _ _ _ h.J ?_⟩
  · refine ownsRow_setCell_below (a := ⟨E.Bl, 0, none⟩) ?_ z2 _
    refine ⟨by simp, .inr ?_⟩
    rcases g2.2 with ⟨e, _⟩ | ⟨g', cap', cur, e, e1, e2, e3, e4, e5, e6⟩
    · cases e
    · cases e
      refine ⟨_, _, cur, rfl, e1, e2, by omega, e4, e5, ?_⟩
      have h7 := congrArg (List.take (cs.length * 1)) e6
      rw [List.take_take] at h7
      simp only [List.map_append, List.map_cons, List.map_nil, Nat.mul_one] at h7
      rw [Nat.min_eq_left (by omega), List.take_append_of_le_length (by simp)] at h7
      rw [Nat.mul_one, h7, List.take_of_length_le (by simp)]
  · intro y hy h0 b o e
    have := g3 y hy h0 b o e
    simpa [Value.ownBlock] using this
  · refine (h.yy y hy).blocks (by rw [hsz]; omega) fun b o e hlt h0 => hB b hlt ?_
    have := (h.yy y hy).2 b o e
    omega
  · exact ((Below.refl W.heap.size W).mono (show E.M ≤ W.heap.size by omega)).setCell (p := ⟨E.Bl, 0, none⟩) z1 _

/-- what has been gone through when k numbers are over -/
def forTo (cs t : List Nat) : Nat → List (List Nat)
  | 0 => []
  | k + 1 => forTo cs t k ++ match t.drop k with
    | [] => []
    | x :: r => (cs ++ [x]) :: forL (cs ++ [x]) r
theorem forTo_drop (cs : List Nat) : ∀ (k : Nat) (t : List Nat), k ≤ t.length → forL cs t = forTo cs t k ++ forL cs (t.drop k)
  | 0, t, _ => by simp [forTo]
  | k + 1, t, h => by
    rw [forTo_drop cs k t (by omega)]
    cases hd : t.drop k with
    | nil => have := congrArg List.length hd; simp at this; omega
    | cons x r =>
      have hr : t.drop (k + 1) = r := by rw [← List.drop_drop, hd]; rfl
      simp only [forTo, hd, hr]
      rw [forL]
      simp
theorem forTo_all (cs t : List Nat) : forTo cs t t.length = forL cs t := by
  have := forTo_drop cs t.length t (Nat.le_refl _)
  rw [List.drop_length, forL, List.append_nil] at this
  exact this.symm
end Go.Kn

namespace Go.Kn
open Go Go.Proofs Go.RowKit

set_option maxRecDepth 100000 in
theorem app_push {w2 : World} {base n G x : Nat} {v : Value} {L : List Nat} (he : n ≤ 1000) (hb : base ≤ w2.heap.size) (hG : w2.cell? ⟨G, 0, none⟩ = some (.int .i64 (x : Int))) (ho : w2.ownsRow base 3 1 v n (L.map iv1)) :
    ∃ v' w', (Builtin.append_ #[26, 26] 26 #[v, .slice (some ⟨G, 0, none⟩) 1 1]).run Tryz.prog w2 = .ok v' w' ∧ ∃ s7 c7, v' = .slice s7 (n + 1) c7 ∧ w'.ownsRow base 3 1 (.slice s7 (n + 1) c7) (n + 1) ((L ++ [x]).map iv1) ∧ w2.grownBy w' v.ownBlock ∧ ((Value.slice s7 (n + 1) c7).ownBlock = v.ownBlock ∨ (Value.slice s7 (n + 1) c7).ownBlock = some w2.heap.size) := by
  obtain ⟨i0, hi0, hz0, hz1, hz2⟩ := info_parts info3'
  obtain ⟨v', w', hr, h2, h3, _, h5⟩ := run_append_own_at (P := Tryz.prog) (w := w2) base 26 26 3 i0 (.int .i64 0) 1 8 Tryz.underlying26 hi0 hz0 hz1 hz2 rfl (by decide) v n (L.map iv1) ho ⟨G, 0, none⟩ 1 1 [.int .i64 (x : Int)] rfl (fun j u hu => by
    cases j with
    | zero => simp at hu; subst hu; simpa [Addr.add] using hG
    | succ j => simp at hu) (by intro u hu; simp at hu; subst hu; rfl) (by unfold maxLen; omega) (by omega) hb
  have h6 : w'.ownsRow base 3 1 v' (n + 1) ((L ++ [x]).map iv1) := by rw [List.map_append]; exact h2
  obtain ⟨sa, sc, rfl, hsl, _⟩ := dayNew h6
  exact ⟨_, w', hr, sa, sc, rfl, h6, h3, h5⟩

set_option maxRecDepth 100000 in
set_option maxHeartbeats 4000000 in
theorem goOn_w (E : LE) (ok : Hid E.Ok) : ∀ (r : Nat) (t : List Nat) (d : Nat) (cs : List Nat) (ys : List Ls) (W : World), t.length < r → d + t.length = E.n → Hid (E.N.drop d = t) → Hid (cs.Sublist (E.N.take d)) → (cs = [] → Boxed W E.Bl 26 (.slice none 0 0)) → Hid (E.St W cs ys) →
    Calls Tryz.prog 120 (E.args d) W fun e W' => (e = .returned (.bool true) ∧ ∃ zs, zs.map Ls.c = cs :: forL cs t ∧ E.St W' cs (ys ++ zs)) ∨ (∃ ch, e = .panicked ch ∧ E.Jp ch W') := by
  intro r
  induction r with
  | zero => intro t d cs ys W htr; omega
  | succ r ih =>
    intro t d cs ys W htr hdt HD HS hnil H
    have IH := Lib.hid ih
    clear ih
    have hn20 := ok.out.n20
    have q1 := (H.out.cell (o := 0) ok.out.ky).trans ok.out.cy
    obtain ⟨v, h1, h2, h3⟩ := H.out.ch
    obtain ⟨sa, cap, rfl, hsl, hge⟩ := dayNew h2
    have q2 := h1.cell
    have hcl : cs.length ≤ 20 := by have := HS.out.length_le; have h5 := ok.out.nl; simp at this; omega
    have hsn : sa = none → cs.length = 0 ∧ cap = 0 := fun e => by
      subst e
      rcases h2.2 with ⟨e1, e2⟩ | ⟨g, c2, cur, e1, _⟩
      · injection e1 with _ e3 e4; exact ⟨e2, e4⟩
      · cases e1
    have hs0 : sa ≠ none → 0 < cs.length := fun e => by
      rcases Nat.eq_zero_or_pos cs.length with h0 | h0
      · have hc : cs = [] := List.eq_nil_of_length_eq_zero h0
        have e2 := (show W.heap[E.Bl]? = _ from h1).symm.trans (hnil hc)
        simp only [Option.some.injEq, Obj.cells.injEq] at e2
        have e3 : Value.slice sa cs.length cap = .slice none 0 0 := by simpa using e2
        injection e3 with e4; exact (e e4).elim
      · exact h0
    have hbd : Below W.heap.size W W.drew := (Below.refl _ _).drew
    have hByw : E.By < W.heap.size := by have := ok.out.ky.1; have := H.out.sz; omega
    have hsz := H.out.sz
    have hb2 := ok.out.bl2
    have hb1 := ok.out.bl1
    have HCL := Lib.hid (clone_w sa cs.length cap cs W.drew rfl (by omega) hsn hs0 (Lib.hid (hsl.below hbd)))
    have HYY := Lib.hid ok.out.hY
    have HSUB : Hid (cs.Sublist E.N) := Lib.hid (HS.out.trans (List.take_sublist _ _))
    have H1 := Lib.hid h1
    have HGE := Lib.hid hge
    clear hsl hsn hs0 hnil h1 h2 h3 hge
    obtain ⟨cl, hcl2⟩ : ∃ cl, cs.length = cl := ⟨_, rfl⟩
    have HCC := Lib.hid hcl2
    rw [hcl2] at q2 HCL hcl
    clear hcl2
    refine (callsIn_wide (n := 6)).1 ?_
    refine callsIn_of_wp Tryz.func120 rfl trivial ?_ rfl
    simp only [LE.args, Tryz.ntmps120, List.size_toArray, List.length_cons, List.length_nil, Nat.reduceAdd, Nat.reduceSub, Array.replicate_succ, Array.replicate_zero, List.push_toArray, List.append_toArray, List.nil_append, List.cons_append]
    gi_wp2
    have hmx : Tryz.prog.follows .mixedOrders = true := by kernel_rfl
    gi_region_with_o (first
      | (refine ⟨trivial, ?_⟩; gi_at_call 121; refine (callsIn_wide.2 HCL.out).mono ?_; rintro e w1 ⟨⟨x, rfl, hxc, hxa⟩, hb1'⟩; have q1w := (hb1'.cell (p := ⟨E.By, 0, none⟩) hByw).trans q1; have HB1 := Lib.hid hb1'; have HXC := Lib.hid hxc; have HXA := Lib.hid hxa; clear hb1' hxc hxa; obtain ⟨fn, tmps, assign, body, hy, hR⟩ := HYY.out 5 ys x w1 (HXA.out.low hsz) (by rw [HXC.out]; exact HSUB.out) (ok.out.hJ _ _ _ H.out.J ((hbd.trans (HB1.out.mono hbd.size)).mono (by omega))))
      | (refine hR.mono ?_; clear hR; rintro e W2 hor; rcases hor.symm with ⟨ch, rfl, hp⟩ | ⟨rfl, hJ2, hkp⟩; focus (gi_wp2; exact ⟨rfl, .inr ⟨ch, rfl, hp⟩⟩)))
    all_goals
      have hb2' := hbd.trans (HB1.out.mono hbd.size)
      have hxl : AtL w1 E.W0.heap.size x := HXA.out.low hsz
      have hst := (H.out.below ok.out hb2').round ok.out (x := x) hkp hJ2 hxl (fun v hv h0 b o e => by
        have e1 := (boxed_below H1.out hb2' H1.out.lt).symm.trans hv
        simp only [Option.some.injEq, Obj.cells.injEq] at e1
        have e2 : Value.slice sa cs.length cap = v := by simpa using e1
        subst e2
        have h5 := HXA.out.2 b o e
        cases sa with
        | none => simp [Value.ownBlock]
        | some ad =>
          intro e3
          have e4 := e3
          simp only [Value.ownBlock] at e4
          have h6 := H1.out
          obtain ⟨v', g1, g2, _⟩ := H.out.ch
          have e5 := (show W.heap[E.Bl]? = _ from g1).symm.trans H1.out
          simp only [Option.some.injEq, Obj.cells.injEq] at e5
          have e6 : v' = Value.slice (some ad) cs.length cap := by simpa using e5
          subst e6
          exact own_lt g2 (by simpa using h5) e3)
      have HST := Lib.hid hst
      have HXC2 := Lib.hid HXC.out
      clear hst hxl hkp hJ2 hy q1w q1 q2
      gi_wp2
      refine wpIn_wide.2 ?_
      go_loopw [7] (fun ii wr => ∃ (k : Nat) (zs : List Ls), k ≤ t.length ∧ ii = .int .i64 ((d + k : Nat) : Int) ∧ zs.map Ls.c = cs :: forTo cs t k ∧ E.St wr cs (ys ++ zs)) (fun ii _ => E.n - (Go.RowKit.intOf ii).toNat)
      case atStart => exact ⟨0, [x], Nat.zero_le _, rfl, by simp [forTo, HXC2.out], HST.out⟩
      case round =>
        obtain ⟨k, zs, hk, rfl, hzs, hst⟩ := hrel
        have HZS := Lib.hid hzs
        have HSR := Lib.hid hst
        clear hzs hst
        have r1 := (HSR.out.cell (o := 0) ok.out.kn).trans ok.out.cn
        obtain ⟨dk, hdk⟩ : ∃ dk, d + k = dk := ⟨_, rfl⟩
        have HDK := Lib.hid hdk
        rw [hdk]
        by_cases hlt : k < t.length
        case neg =>
          obtain rfl : k = t.length := by omega
          have n1 : ¬ (dk : Int) < (E.n : Int) := by omega
          clear hdk
          go_wp2
          gi_wp2
          go_ret
          exact .inl ⟨rfl, zs, by rw [← forTo_all]; exact HZS.out, HSR.out⟩
        case pos =>
          obtain ⟨A, O, hna, hkA, hNA⟩ := ok.out.num.resolve_left (by omega)
          have hnl := ok.out.nl
          have hdN : dk < E.N.length := by omega
          obtain ⟨y, hy⟩ : ∃ y, E.N[dk] = y := ⟨_, rfl⟩
          have htk : t.drop k = y :: t.drop (k + 1) := by
            have h5 : k < t.length := hlt
            rw [List.drop_eq_getElem_cons h5]
            congr 1
            have h6 : t[k] = E.N[d + k]'(by omega) := by
              have h8 := congrArg (fun l : List Nat => l[k]?) HD.out
              simp only [List.getElem?_drop] at h8
              rw [List.getElem?_eq_getElem (by omega), List.getElem?_eq_getElem h5] at h8
              exact (Option.some.inj h8).symm
            rw [h6, ← hy]
            congr 1
          have HTK := Lib.hid htk
          have HSB : Hid ((cs ++ [y]).Sublist (E.N.take (dk + 1))) := Lib.hid (by
            rw [take_next hdN, hy]
            exact List.Sublist.append (HS.out.trans (by rw [← hdk]; exact List.take_sublist_take_left (by omega))) (List.Sublist.refl _))
          have r2 : wr.cell? ⟨A, O + dk, none⟩ = some (.int .i64 (y : Int)) := by
            rw [HSR.out.cell hkA, hNA dk (by omega), lgI_get hdN, hy]
          obtain ⟨v, g1, g2, g3⟩ := HSR.out.ch
          obtain ⟨sv, cv, rfl, _, _⟩ := dayNew g2
          have r3 := g1.cell
          have G1 := Lib.hid g1
          have G2 := Lib.hid g2
          have G3 := Lib.hid g3
          have n1 : (dk : Int) < (E.n : Int) := by omega
          have n2 : (0 : Int) ≤ (dk : Int) := by omega
          have hwz := HSR.out.sz
          have HNE : Hid (some E.Bl ≠ (Value.slice sv cs.length cv).ownBlock) := Lib.hid (own_ne g2 (.inl ok.out.bl2))
          rw [hna] at r1
          have HC2 : Hid (cs.length ≤ 20) := Lib.hid (by rw [HCC.out]; exact hcl)
          have HRC : Hid (∀ w2, Hid (E.St w2 (cs ++ [y]) (ys ++ zs)) → Calls Tryz.prog 120 (E.args (dk + 1)) w2 fun e W' => (e = .returned (.bool true) ∧ ∃ zs2, zs2.map Ls.c = (cs ++ [y]) :: forL (cs ++ [y]) (t.drop (k + 1)) ∧ E.St W' (cs ++ [y]) (ys ++ zs ++ zs2)) ∨ (∃ ch, e = .panicked ch ∧ E.Jp ch W')) := Lib.hid fun w2 hs2 =>
            IH.out (t.drop (k + 1)) (dk + 1) (cs ++ [y]) (ys ++ zs) w2 (by simp; omega) (by simp; omega) (Lib.hid (by rw [← HD.out, List.drop_drop]; congr 1; omega)) HSB (fun h => by simp at h) hs2
          simp only [LE.args] at HRC
          have hal : Below wr.heap.size wr (wr.alloc (.cells #[.int .i64 (y : Int)] 3)) := (Below.refl _ _).alloc (Nat.le_refl _) _
          have s2 := (hal.cell (p := ⟨A, O + dk, none⟩) (World.block_lt_of_cell? _ _ r2)).trans r2
          have s3 := (hal.cell (p := ⟨E.Bl, 0, none⟩) (World.block_lt_of_cell? _ _ r3)).trans r3
          have s1 := (hal.cell (p := ⟨E.Bn, 0, none⟩) (World.block_lt_of_cell? _ _ r1)).trans r1
          clear hy htk hkA hNA hnl hdN g1 g2 g3 hna hdk hal
          go_wp2
          go_region_law ((first
            | (refine step_app_of rfl (.tmp 20) (.tmp 25) 26 rfl rfl rfl (app_push (base := E.W0.heap.size) (n := cs.length) (v := .slice sv cs.length cv) (L := cs) (x := y) (by have := HC2.out; omega) (by simp; omega) (by first | exact al_top rfl _ _ | exact al_top (by simp) _ _) (by first | exact G2.out.drew.alloc _ | exact (G2.out.alloc _).drew)) ?_; rintro v7 w7 ⟨s7, c7, rfl, ho7, hg7, hat7⟩; have hbx7 : Boxed w7 E.Bl 26 (.slice sv cs.length cv) := Boxed.kept (by first | exact G1.out.alloc _ | exact G1.out) hg7 HNE.out; have b7 := hbx7.cell; have f7 := hbx7.frozen)))
          all_goals
            have hb8 : Below wr.heap.size wr (wr.alloc (.cells #[.int .i64 (y : Int)] 3)) := (Below.refl _ _).alloc (Nat.le_refl _) _
            have hps := HSR.out.push ok.out (below_drew hb8) G1.out G2.out G3.out ho7 hg7 hat7
            have HPS := Lib.hid hps
            have t1 := (HPS.out.cell (o := 0) ok.out.kg).trans ok.out.cg
            simp only [LE.caps] at t1
            have nw : IntKind.i64.wrap ((dk : Int) + 1) = ((dk + 1 : Nat) : Int) := by rw [IntKind.wrap_i64]; omega
            clear hps hb8 ho7 hg7 hat7 hbx7 b7 f7 r1 r2 r3 s1 s2 s3
            go_wp2_with (go_at_call 120; refine (HRC.out _ HPS).mono ?_; rintro e w10 hor; rcases hor.symm with ⟨ch, rfl, hp⟩ | ⟨rfl, zs2, hz2, hs2⟩; rotate_left; (obtain ⟨v2, k1, k2, k3⟩ := hs2.ch; obtain ⟨c1, hc1⟩ : ∃ c1, (cs ++ [y]).length = c1 := ⟨_, rfl⟩; have hc1' : cs.length + 1 = c1 := (by rw [← hc1]; simp); rw [hc1] at k2; obtain ⟨G, c2, rfl, hc2, _⟩ := vals_of_owns k2 (by omega); have K1 := Lib.hid k1; have k4 := k1.cell; have k5 := k1.frozen; have HZ2 := Lib.hid hz2; have HS2 := Lib.hid hs2; obtain ⟨cl1, hcl1⟩ : ∃ cl1, cs.length = cl1 := ⟨_, rfl⟩; have HCL1 := Lib.hid hcl1; have HC1 := Lib.hid hc1'; have nw2 : IntKind.i64.wrap ((c1 : Int) - 1) = (cl1 : Int) := (by rw [IntKind.wrap_i64]; have := HC2.out; omega); have n5 : (0 : Int) ≤ (cl1 : Int) := (by omega); have n6 : (cl1 : Int) ≤ (c2 : Int) := (by omega); have n7 : (c1 : Int) ≤ (c2 : Int) := (by omega); clear k1 k2 k3 hc1 hc1' hcl1 hc2 hz2 hs2))
            all_goals first
              | exact ⟨rfl, .inr ⟨ch, rfl, hp⟩⟩
              | (refine ⟨⟨k + 1, zs ++ zs2, by omega, by have := HDK.out; congr 1; omega, ?_, ?_⟩, by simp [Go.RowKit.intOf]; omega⟩
                 · rw [List.map_append, HZS.out, HZ2.out]; simp only [forTo, HTK.out]; simp
                 · have h9 := HS2.out.pop ok.out (g := G) (cap := c2) (by rw [HC1.out]; exact K1.out)
                   rw [HCL1.out] at h9
                   rw [← List.append_assoc]; exact h9)
end Go.Kn
