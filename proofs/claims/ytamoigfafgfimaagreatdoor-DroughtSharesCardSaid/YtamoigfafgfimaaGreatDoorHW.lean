/- Contracts of functions that the laws of this seat call, or the evaluator of closed calls and its runs. Conditions: as each theorem states them. -/
import Derived.Test.YtamoigfafgfimaaGreatDoorHR
import Derived.Test.YtamoigfafgfimaaGreatDoorHM
import Derived.Maps.OwnIn
set_option linter.unusedVariables false
set_option linter.unusedSimpArgs false
namespace Go.Kn
open Go Go.RowKit

variable {F : Fence} {n : Nat} {P : Program}

theorem putObj_sameR (W : World) {l : Nat} (o' : Obj) : ∀ (k : Nat) (o : Obj), k ≠ l → W.heap[k]? = some o → (W.putObj l o').heap[k]? = some o := fun k o hk h => (World.putObj_heap_other (by omega)).trans h

/-- A range over a function whose body may panic: the iterator writes what Wr says between two rounds. -/
theorem rangeFunc_pan5 {α : Type} {g : Operand} {ps : Array Tmp} {assign body : Code} {Q : Exit → Act → World → Prop} {a : Act} {w : World}
    (hro : F.round = none) (h1 : 1 ≤ n) {gf : Nat} {lb : Array Value} (hg : a.eval g = .func (.func gf) #[] lb) (hFg : F.fn gf) (eg : ∀ args w, (callFunc gf args).run P w = .ok (.enter gf args) w)
    {encs : α → Array Value} {Kp Wr : World → World → Prop} {S : List α → World → Prop} {Nx : List α → α → Prop}
    (hseq : ∀ (l : Nat) (J : List α → World → Prop) (Jp : List PanicEntry → World → Prop) (W : World), W.heap.size = w.heap.size + 2 → Below w.heap.size w W →
      (∀ s A B, J s A → Wr A B → J s B) →
      (∀ pre x W1, Nx pre x → J pre W1 → YieldAt F (n - 1 - 1) P l (encs x) W1 fun e W' => (e = .returned (.bool true) ∧ J (pre ++ [x]) W' ∧ Kp W1 W') ∨ (∃ ch, e = .panicked ch ∧ Jp ch W')) →
      J [] W → CallsIn F (n - 1) P gf (#[.func (.yield l) #[] #[]] ++ lb) W fun e W' => ((∃ v, e = .returned v) ∧ ∃ xs, S xs W' ∧ J xs W') ∨ (∃ ch, e = .panicked ch ∧ Jp ch W'))
    (hKt : ∀ {A B C : World}, Kp A B → Kp B C → Kp A C)
    (hKb : ∀ (W : World) (o' : Obj), Kp W (W.putObj (w.heap.size + 1) o'))
    (hS : ∀ xs (W : World) (o' : Obj), S xs W → S xs (W.putObj (w.heap.size + 1) o'))
    (hps : ∀ x, (encs x).size = ps.size)
    (hWr : ∀ A B, Wr A B → ∀ k, w.heap.size ≤ k → k < w.heap.size + 2 → B.heap[k]? = A.heap[k]?)
    (I : List α → World → Prop) (hIw : ∀ s A B, I s A → Wr A B → I s B) (hI : ∀ s A B, I s A → Below w.heap.size A B → (∀ (k : Nat) (o : Obj), k ≠ w.heap.size + 1 → A.heap[k]? = some o → B.heap[k]? = some o) → I s B) (h0 : I [] w)
    (Ip : List PanicEntry → World → Prop)
    (Ax : α → Act → World → Prop) (hAx : ∀ x a' (W : World) (o' : Obj), w.heap.size + 2 ≤ W.heap.size → Ax x a' W → Ax x a' (W.putObj (w.heap.size + 1) o'))
    (hassign : ∀ (l : Nat) (pre : List α) (x : α) (W : World) (K : Act → World → Prop), w.heap.size + 2 ≤ W.heap.size → Nx pre x → I pre W → (∀ a' W', KeepsFrom w.heap.size W W' → Kp W W' → I pre W' → Ax x a' W' → K a' W') →
      assign.wpIn (F.inRound l) (n - 1 - 1) P (Exit.then K (fun _ _ _ => False)) { tmps := (ps.zip (encs x)).foldl (fun t (p, v) => t.setIfInBounds p v) a.tmps, defers := [] } W)
    (hbody : ∀ (l : Nat) (pre : List α) (x : α) (a' : Act) (W : World), w.heap.size + 2 ≤ W.heap.size → Nx pre x → I pre W → Ax x a' W → body.wpIn (F.inRound l) (n - 1 - 1) P (onPostR w.heap.size Kp I (pre ++ [x]) W) a' W ∨ BodyPan (F.inRound l) (n - 1 - 1) P body (fun ch W' => KeepsFrom w.heap.size W W' ∧ Ip ch W') a' W)
    (hdone : ∀ (xs : List α) (W : World), S xs W → I xs W → W.heap[w.heap.size]? = some (.deferred (some [])) → Q .normal { a with defers := { target := .collected w.heap.size, args := #[] } :: a.defers } W)
    (hpan : ∀ (ch : List PanicEntry) (W : World), Ip ch W → W.heap[w.heap.size]? = some (.deferred (some [])) → Q (.panic ch) { a with defers := { target := .collected w.heap.size, args := #[] } :: a.defers } W) :
    (Code.rangeFunc g ps assign body).wpIn F n P Q a w := by
  refine wpIn_rangeFunc fun fn hfn => ?_
  rw [hro]
  let rec' : LoopState → Loop := fun st => { state := st, pending := none, fn, tmps := a.tmps, params := ps, assign, body, defers := w.heap.size }
  have hz : ((w.alloc (.deferred (some []))).alloc (.loop (rec' .ready))).heap.size = w.heap.size + 2 := by simp
  have hBz : Below w.heap.size w ((w.alloc (.deferred (some []))).alloc (.loop (rec' .ready))) := ((Below.refl _ w).alloc (Nat.le_refl _) _).alloc (by simp) _
  have hK1 : ((w.alloc (.deferred (some []))).alloc (.loop (rec' .ready))).heap[w.heap.size]? = some (.deferred (some [])) := (Below.heap_alloc _ _ _ (by simp)).trans (World.alloc_heap_new w _)
  have hL1 : ((w.alloc (.deferred (some []))).alloc (.loop (rec' .ready))).heap[w.heap.size + 1]? = some (.loop (rec' .ready)) := by
    have := World.alloc_heap_new (w.alloc (.deferred (some []))) (.loop (rec' .ready)); rwa [World.size_alloc] at this
  refine ⟨w.heap.size + 1, [{ target := .collected w.heap.size, args := #[] }], (w.alloc (.deferred (some []))).alloc (.loop (rec' .ready)), { target := .fn (.func gf) lb, args := #[.func (.yield (w.heap.size + 1)) #[] #[]] }, (w.alloc (.deferred (some []))).alloc (.loop (rec' .ready)), gf,
    #[.func (.yield (w.heap.size + 1)) #[] #[]] ++ lb, (w.alloc (.deferred (some []))).alloc (.loop (rec' .ready)), run_enterLoop_outer _ _ _ _ _, ?_, ?_, ?_, fun _ => h1, ?_⟩
  · simp only [resolve, hg]
    simp [go_sem, rec']
  · intro f' hf'; simp [Target.leads] at hf'; subst hf'; exact hFg
  · simp [invoke, go_sem, eg]
  refine (hseq (w.heap.size + 1)
    (fun pre W => I pre W ∧ W.heap[w.heap.size + 1]? = some (.loop (rec' .ready)) ∧ W.heap[w.heap.size]? = some (.deferred (some [])))
    (fun ch W => Ip ch W ∧ W.heap[w.heap.size]? = some (.deferred (some [])))
    _ hz hBz (fun s A B h hb => ⟨hIw s A B h.1 hb, (hWr _ _ hb _ (by omega) (by omega)).trans h.2.1, (hWr _ _ hb _ (by omega) (by omega)).trans h.2.2⟩) ?_ ⟨hI _ _ _ h0 hBz (fun k o _ hk => by have hk2 := (Array.getElem?_eq_some_iff.1 hk).1; exact (Below.heap_alloc _ _ _ (by simp; omega)).trans ((Below.heap_alloc _ _ _ hk2).trans hk)), hL1, hK1⟩).mono ?_
  · rintro pre x W hnx ⟨hi, hl, hk⟩
    have hlt : w.heap.size + 1 < W.heap.size := (Array.getElem?_eq_some_iff.1 hl).1
    refine ⟨fn, _, assign, body, run_yield (P := P) (args := encs x) hl (hps x), roundIn_two hfn (hassign _ pre x W _ (by omega) hnx hi ?_)⟩
    intro a' Wa hkfa hkpa hia hax
    have hla := hkfa.same _ _ (by omega) hl rfl
    have hka := hkfa.same _ _ (Nat.le_refl _) hk rfl
    have hlta : w.heap.size + 1 < Wa.heap.size := (Array.getElem?_eq_some_iff.1 hla).1
    refine ⟨_, run_beginRound hla rfl, ?_⟩
    have hl2 : (Wa.putObj (w.heap.size + 1) (.loop (rec' .busy))).heap[w.heap.size + 1]? = some (.loop (rec' .busy)) := World.putObj_heap_same hlta
    have hk2 : (Wa.putObj (w.heap.size + 1) (.loop (rec' .busy))).heap[w.heap.size]? = some (.deferred (some [])) := (World.putObj_heap_other (by omega)).trans hka
    have hz2 : (Wa.putObj (w.heap.size + 1) (.loop (rec' .busy))).heap.size = Wa.heap.size := by simp
    rcases hbody _ pre x a' (Wa.putObj (w.heap.size + 1) (.loop (rec' .busy))) (by omega) hnx (hI _ _ _ hia (putObj_belowR Wa _ _ hla (by omega)) (putObj_sameR _ _)) (hAx _ _ _ _ (by omega) hax) with hbd | hbd
    · refine .inl (wpIn_mono hbd ?_)
      intro e a3 W3 hp
      cases e with
      | normal =>
        obtain ⟨hk3, hkp3, hi3⟩ := hp
        have hl3 := hk3.same _ _ (by omega) hl2 rfl
        have hd3 := hk3.same _ _ (Nat.le_refl _) hk2 rfl
        have hlt3 := (Array.getElem?_eq_some_iff.1 hl3).1
        refine ⟨_, _, run_endRound none hl3, .inl ⟨rfl, ⟨hI _ _ _ hi3 (putObj_belowR W3 _ _ hl3 (by omega)) (putObj_sameR _ _), World.putObj_heap_same hlt3, (World.putObj_heap_other (by omega)).trans hd3⟩, hKt hkpa (hKt (hKt (hKb Wa _) hkp3) (hKb W3 _))⟩⟩
      | panic ch => exact hp.elim
      | ret => exact hp.elim
      | exit id => exact hp.elim
      | goto t => exact hp.elim
      | outgrown => exact hp.elim
    · refine .inr (hbd.mono fun ch W3 ⟨hk3, hi3⟩ => .inr ⟨ch, rfl, hi3, hk3.same _ _ (Nat.le_refl _) hk2 rfl⟩)
  · rintro e W2 (⟨⟨v, rfl⟩, xs, hS2, hi, hl, hk⟩ | ⟨ch, rfl, hi, hk⟩)
    · exact ⟨none, _, run_endLoop (P := P) hl (by simp [rec']), hdone xs _ (hS _ _ _ hS2) (hI _ _ _ hi (putObj_belowR W2 _ _ hl (by omega)) (putObj_sameR _ _)) ((World.putObj_heap_other (by omega)).trans hk)⟩
    · exact hpan ch W2 hi hk

/-- The same, where the loop's variable is a temporary: af says which activation a round begins with. -/
theorem rangeFunc_pan6 {α : Type} {g : Operand} {ps : Array Tmp} {assign body : Code} {Q : Exit → Act → World → Prop} {a : Act} {w : World} (af : Act → α → Act)
    (hro : F.round = none) (h1 : 1 ≤ n) {gf : Nat} {lb : Array Value} (hg : a.eval g = .func (.func gf) #[] lb) (hFg : F.fn gf) (eg : ∀ args w, (callFunc gf args).run P w = .ok (.enter gf args) w)
    {encs : α → Array Value} {Kp Wr : World → World → Prop} {S : List α → World → Prop} {Nx : List α → α → Prop}
    (hseq : ∀ (l : Nat) (J : List α → World → Prop) (Jp : List PanicEntry → World → Prop) (W : World), W.heap.size = w.heap.size + 2 → Below w.heap.size w W →
      (∀ s A B, J s A → Wr A B → J s B) →
      (∀ pre x W1, Nx pre x → J pre W1 → YieldAt F (n - 1 - 1) P l (encs x) W1 fun e W' => (e = .returned (.bool true) ∧ J (pre ++ [x]) W' ∧ Kp W1 W') ∨ (∃ ch, e = .panicked ch ∧ Jp ch W')) →
      J [] W → CallsIn F (n - 1) P gf (#[.func (.yield l) #[] #[]] ++ lb) W fun e W' => ((∃ v, e = .returned v) ∧ ∃ xs, S xs W' ∧ J xs W') ∨ (∃ ch, e = .panicked ch ∧ Jp ch W'))
    (hKt : ∀ {A B C : World}, Kp A B → Kp B C → Kp A C)
    (hKb : ∀ (W : World) (o' : Obj), Kp W (W.putObj (w.heap.size + 1) o'))
    (hS : ∀ xs (W : World) (o' : Obj), S xs W → S xs (W.putObj (w.heap.size + 1) o'))
    (hps : ∀ x, (encs x).size = ps.size)
    (hWr : ∀ A B, Wr A B → ∀ k, w.heap.size ≤ k → k < w.heap.size + 2 → B.heap[k]? = A.heap[k]?)
    (I : List α → World → Prop) (hIw : ∀ s A B, I s A → Wr A B → I s B) (hI : ∀ s A B, I s A → Below w.heap.size A B → (∀ (k : Nat) (o : Obj), k ≠ w.heap.size + 1 → A.heap[k]? = some o → B.heap[k]? = some o) → I s B) (h0 : I [] w)
    (Ip : List PanicEntry → World → Prop)
    (hassign : ∀ (l : Nat) (x : α) (W : World) (K : Act → World → Prop), (∀ a', a' = af a x → K a' W) →
      assign.wpIn (F.inRound l) (n - 1 - 1) P (Exit.then K (fun _ _ _ => False)) { tmps := (ps.zip (encs x)).foldl (fun t (p, v) => t.setIfInBounds p v) a.tmps, defers := [] } W)
    (hKr : ∀ W : World, Kp W W)
    (hbody : ∀ (l : Nat) (pre : List α) (x : α) (a' : Act) (W : World), a' = af a x → w.heap.size + 2 ≤ W.heap.size → Nx pre x → I pre W → body.wpIn (F.inRound l) (n - 1 - 1) P (onPostR w.heap.size Kp I (pre ++ [x]) W) a' W ∨ BodyPan (F.inRound l) (n - 1 - 1) P body (fun ch W' => KeepsFrom w.heap.size W W' ∧ Ip ch W') a' W)
    (hdone : ∀ (xs : List α) (W : World), S xs W → I xs W → W.heap[w.heap.size]? = some (.deferred (some [])) → Q .normal { a with defers := { target := .collected w.heap.size, args := #[] } :: a.defers } W)
    (hpan : ∀ (ch : List PanicEntry) (W : World), Ip ch W → W.heap[w.heap.size]? = some (.deferred (some [])) → Q (.panic ch) { a with defers := { target := .collected w.heap.size, args := #[] } :: a.defers } W) :
    (Code.rangeFunc g ps assign body).wpIn F n P Q a w :=
  rangeFunc_pan5 hro h1 hg hFg eg hseq hKt hKb hS hps hWr I hIw hI h0 Ip (fun x a' _ => a' = af a x) (fun _ _ _ _ _ h => h)
    (fun l pre x W K _ _ hi hK => hassign l x W K (fun a' ha => hK a' W (KeepsFrom.refl _ _) (hKr W) hi ha))
    (fun l pre x a' W hw hnx hi ha => hbody l pre x a' W ha hw hnx hi) hdone hpan
end Go.Kn

namespace Go.Kn
open Go Go.Proofs Go.RowKit

set_option maxRecDepth 100000 in
set_option maxHeartbeats 2000000 in
/-- the iterator over a list -/
theorem vals_w (Bs b off len cap l : Nat) (sa : Option Addr) (z : Nat → Int) (J : List Int → World → Prop) (Jp : List PanicEntry → World → Prop) (hlen : len ≤ 1000000) (hsa : 0 < len → sa = some ⟨b, off, none⟩)
    (hY : ∀ (pre : List Int) (x : Int) W, (pre.length < len ∧ x = z pre.length) → J pre W → YieldAt Fence.wide 4 Tryz.prog l #[.int .i64 x] W fun e W' => (e = .returned (.bool true) ∧ J (pre ++ [x]) W' ∧ KpB [b] W W') ∨ (∃ ch, e = .panicked ch ∧ Jp ch W'))
    (W : World) (hB : W.cell? ⟨Bs, 0, none⟩ = some (.slice sa len cap)) (hc : 0 < len → NumAt W b off len z) (h0 : J [] W) :
    CallsIn Fence.wide 5 Tryz.prog 131 #[.func (.yield l) #[] #[], .pointer (some ⟨Bs, 0, none⟩)] W fun e W' => ((∃ v, e = .returned v) ∧ ∃ xs, xs = upto z len ∧ J xs W') ∨ (∃ ch, e = .panicked ch ∧ Jp ch W') := by
  have HY := Lib.hid hY
  have HSA := Lib.hid hsa
  have HC := Lib.hid hc
  clear hY hsa hc
  refine callsIn_of_wp Tryz.func131 rfl trivial ?_ rfl
  simp only [Tryz.ntmps131, List.size_toArray, List.length_cons, List.length_nil, Nat.reduceAdd, Nat.reduceSub, Array.replicate_succ, Array.replicate_zero, List.push_toArray, List.append_toArray, List.nil_append, List.cons_append]
  gi_wp2
  gi_loopw [7] (fun i wr => ∃ k : Nat, k ≤ len ∧ i = .int .i64 (k : Int) ∧ J (upto z k) wr ∧ (0 < len → NumAt wr b off len z)) (fun i _ => len - (intOf i).toNat)
  case atStart => exact ⟨0, Nat.zero_le _, rfl, h0, HC.out⟩
  case round =>
    obtain ⟨k, hk, rfl, hJs, hnx⟩ := hrel
    have HN := Lib.hid hnx
    clear hnx
    by_cases hlt : k < len
    · obtain ⟨fn, tmps, assign, body, hy, hR⟩ := HY.out (upto z k) (z k) wr (by rw [upto_length]; exact ⟨hlt, rfl⟩) hJs
      have hs := HSA.out (by omega)
      subst hs
      have hcx := HN.out (by omega) k hlt
      have n1 : (0 : Int) ≤ (k : Int) := by omega
      have n2 : (k : Int) < (len : Int) := by omega
      clear hJs
      gi_wp2
      refine hR.mono ?_
      rintro e W3 (⟨rfl, hJ3, hk3⟩ | ⟨ch, rfl, hp3⟩)
      · gi_wp2
        go_roundw
        case rel => exact ⟨k + 1, by omega, by go_num, by rw [upto_succ]; exact hJ3, fun h => fun i hi => (hk3 b (by simp) _).1.trans (HN.out h i hi)⟩
        case measure => simp [intOf]; omega
      · gi_wp2
        exact ⟨rfl, .inr ⟨ch, rfl, hp3⟩⟩
    · obtain rfl : k = len := by omega
      gi_wp2
      go_end0
      exact .inl ⟨⟨_, rfl⟩, _, rfl, hJs⟩
end Go.Kn

namespace Go.Kn
open Go Go.Proofs Go.RowKit

theorem own_slice {w : World} {base e size n : Nat} {v : Value} {xs : List Value} (h : w.ownsRow base e size v n xs) : ∃ s c, v = .slice s n c := by
  rcases h.2 with ⟨rfl, rfl⟩ | ⟨g, cap, cur, rfl, _⟩
  · exact ⟨_, _, rfl⟩
  · exact ⟨_, _, rfl⟩

/-- the list in the box: what has come so far -/
structure BxL (W : World) (B0 base n0 : Nat) (xs : List Int) (w : World) : Prop where
  c : ∃ v, W.cell? ⟨B0, 0, none⟩ = some v ∧ W.ownsRow base 3 1 v xs.length (xs.map (Value.int .i64))
  f : W.frozen? ⟨B0, 0, none⟩ = false
  b : Below n0 w W

set_option maxRecDepth 100000 in
set_option maxHeartbeats 2000000 in
theorem append_w (Bs len cap : Nat) (sa : Option Addr) (z : Nat → Int) (w : World) (hlen : len ≤ 1000) (hB : w.cell? ⟨Bs, 0, none⟩ = some (.slice sa len cap)) (hBl : Bs < w.heap.size) (H : Hid (IntSl w sa len z)) :
    Calls Tryz.prog 145 #[.slice none 0 0, .func (.func 131) #[] #[.pointer (some ⟨Bs, 0, none⟩)]] w fun e w' => (∃ v, e = .returned v ∧ w'.ownsRow w.heap.size 3 1 v len ((upto z len).map (Value.int .i64))) ∧ Below w.heap.size w w' := by
  obtain ⟨i0, hi0, hz0, hz1, hz2⟩ := info_parts info3'
  obtain ⟨b, off, hbl, hsa⟩ : ∃ b off, b < w.heap.size ∧ (0 < len → sa = some ⟨b, off, none⟩ ∧ NumAt w b off len z) := by
    rcases H.out with h | ⟨A, O, h1, h2, h3⟩
    · exact ⟨Bs, 0, hBl, fun h' => by omega⟩
    · exact ⟨A, O, h2, fun _ => ⟨h1, h3⟩⟩
  have HSA := Lib.hid hsa
  clear hsa
  refine (callsIn_wide (n := 6)).1 ?_
  refine callsIn_of_wp_marks Tryz.func145 rfl trivial ?_ rfl
  simp only [Tryz.ntmps145, List.size_toArray, List.length_cons, List.length_nil, Nat.reduceAdd, Nat.reduceSub, Array.replicate_succ, Array.replicate_zero, List.push_toArray, List.append_toArray, List.nil_append, List.cons_append]
  gi_wp2
  obtain ⟨w1, hw1⟩ : ∃ w1, w1 = w.alloc (.cells #[.slice none 0 0] 26) := ⟨_, rfl⟩
  have hz1' : w1.heap.size = w.heap.size + 1 := by rw [hw1]; simp
  have hA : Below w.heap.size w w1 := by rw [hw1]; exact (Below.refl _ _).alloc (Nat.le_refl _) _
  have hc1 : w1.cell? ⟨w.heap.size, 0, none⟩ = some (.slice none 0 0) := by rw [hw1]; simp
  have hf1 : w1.frozen? ⟨w.heap.size, 0, none⟩ = false := by rw [hw1]; simp
  rw [← hw1]
  clear hw1
  have HA := Lib.hid hA
  have HZ := Lib.hid hz1'
  clear hA hz1'
  refine rangeFunc_pan6 (α := Int) (fun a0 x => { tmps := (a0.tmps.setIfInBounds 7 (.int .i64 x)).setIfInBounds 5 (.int .i64 x), defers := [] }) (encs := fun x : Int => #[.int .i64 x]) (Kp := KpB [b]) (Wr := fun _ _ => False) (S := fun xs _ => xs = upto z len) (Nx := fun pre x => pre.length < len ∧ x = z pre.length) rfl (by decide) (gf := 131) (lb := #[.pointer (some ⟨Bs, 0, none⟩)]) rfl trivial (enters_of Tryz.func131 (by kernel_rfl) rfl)
      ?seq (fun h k => h.trans k) ?kb (fun _ _ _ h => h) (fun _ => rfl) ?wr (fun pre W' => BxL W' w.heap.size (w1.heap.size + 2) w.heap.size pre w) ?iw ?ib ⟨⟨_, hc1, ⟨rfl, .inl ⟨rfl, rfl⟩⟩⟩, hf1, HA.out⟩
      (fun ch W' => False) ?assign (fun W' b _ o => ⟨rfl, rfl⟩) ?body ?done ?pan
  case seq =>
    intro l J Jp W' hz hbw hWr hY h0
    have := HZ.out
    exact vals_w Bs b off len cap l sa z J Jp (by omega) (fun h => (HSA.out h).1) hY W' ((hbw.cell (p := ⟨Bs, 0, none⟩) (by simp only []; omega)).trans ((HA.out.cell (p := ⟨Bs, 0, none⟩) hBl).trans hB)) (fun h => ((HSA.out h).2.below hbl HA.out).below (by omega) hbw) h0
  case kb =>
    intro W' o' b' hbb o
    have := HZ.out
    simp only [List.mem_cons, List.not_mem_nil, or_false] at hbb
    subst hbb
    exact ⟨World.cell?_of_block (w := W') (World.putObj_heap_other (by simp only []; omega)), World.frozen?_of_block (w := W') (World.putObj_heap_other (by simp only []; omega))⟩
  case wr => intro A B h; exact h.elim
  case iw => intro s A B _ h; exact h.elim
  case ib =>
    rintro s A B ⟨⟨v, hv, ho⟩, hf, hb⟩ hbb hsm
    have := HZ.out
    refine ⟨⟨v, (hbb.cell (p := ⟨w.heap.size, 0, none⟩) (by simp only []; omega)).trans hv, ho.1, ?_⟩, (hbb.frozen (p := ⟨w.heap.size, 0, none⟩) (by simp only []; omega)).trans hf, hb.trans (hbb.mono (by omega))⟩
    rcases ho.2 with h2 | ⟨g, cp, cur, h1, h2, h3, h4⟩
    · exact .inl h2
    · exact .inr ⟨g, cp, cur, h1, h2, hsm _ _ (by omega) h3, h4⟩
  case assign =>
    rintro l x W' K hK
    have hsa := @Oper.semAt_some
    gi_wp2
  case body =>
    rintro l pre x a' W' ha hw ⟨hnx, hxz⟩ ⟨⟨v, hv, ho⟩, hf, hb⟩
    simp only [List.setIfInBounds_toArray, List.set_cons_zero, List.set_cons_succ] at ha
    subst ha
    have hsa := @Oper.semAt_some
    have HO := Lib.hid ho
    have HB := Lib.hid hb
    have hz := HZ.out
    obtain ⟨m, hm⟩ : ∃ m, pre.length = m := ⟨_, rfl⟩
    rw [hm] at HO
    have HM := Lib.hid hm
    have hmm : m < 1000 := by omega
    clear ho hb hnx hxz hm
    have HV : Hid (∀ o w7, (W'.alloc o).grownBy w7 v.ownBlock → w7.cell? ⟨w.heap.size, 0, none⟩ = some v ∧ w7.frozen? ⟨w.heap.size, 0, none⟩ = false) := Lib.hid fun o w7 hg => by
      have hb1 := bcell ((Below.refl _ W').alloc (Nat.le_refl _) o)
      have hbk := hg.block w.heap.size (by simp; omega) (own_ne HO.out (.inl (by omega)))
      exact ⟨(World.cell?_of_block (w := W'.alloc o) hbk).trans ((hb1.1 _ _ (by omega)).trans hv), (World.frozen?_of_block (w := W'.alloc o) hbk).trans ((hb1.2 _ _ (by omega)).trans hf)⟩
    refine .inl ?_
    gi_wp2_with (gi_at_builtin; refine wpListIn_append_own _ rfl _ _ 26 rfl (w1.heap.size + 2) 3 i0 (.int .i64 0) 1 8 Tryz.underlying26 hi0 hz0 hz1 hz2 rfl (by decide) _ m _ rfl (HO.out.alloc _) ⟨W'.heap.size, 0, none⟩ 1 1 [.int .i64 x] rfl rfl (cell_one_new _ _ _) (by simp [Value.oneCell']) (by unfold maxLen; omega) (by omega) (by simp; omega) ?_; intro v7 w7 hown7 hgrow7 _; obtain ⟨hc7, hf7⟩ := HV.out _ _ hgrow7; obtain ⟨s7, c7, rfl⟩ := own_slice hown7)
    have hw7 : W'.heap.size ≤ w7.heap.size := by have := hgrow7.size; simp at this; omega
    have key : ∀ k, k < W'.heap.size → k ≠ w.heap.size → some k ≠ v.ownBlock → (w7.setCell ⟨w.heap.size, 0, none⟩ (.slice s7 (m + 1) c7)).heap[k]? = W'.heap[k]? := fun k h1 h2 h3 =>
      (Below.heap_setCell _ _ _ _ (by show k ≠ w.heap.size; exact h2)).trans ((hgrow7.block k (by simp; omega) h3).trans (Below.heap_alloc _ _ _ h1))
    have hsz8 : (w7.setCell ⟨w.heap.size, 0, none⟩ (.slice s7 (m + 1) c7)).heap.size = w7.heap.size := by simp [World.setCell]
    refine ⟨⟨by omega, fun k o hk1 hk2 hk3 => ?_⟩, fun b' hbb o => ?_, ⟨⟨_, World.cell?_setCell_same w7 _ _ hc7, ?_⟩, by rw [World.frozen?_setCell]; exact hf7, HB.out.trans ⟨hgrow7.os, hgrow7.tape, hgrow7.output, by omega, fun k hk => key k (by omega) (by omega) (fun e => by have := own_ge HO.out k e.symm; omega)⟩⟩⟩
    · have hlt := (Array.getElem?_eq_some_iff.1 hk2).1
      refine (key k hlt (by omega) (fun e => ?_)).trans hk2
      rcases HO.out.2 with ⟨h2, _⟩ | ⟨g, cap', cur, h1, h2, h3, _⟩
      · rw [h2] at e; simp [Value.ownBlock] at e
      · rw [h1] at e
        have e2 : k = g := by simpa [Value.ownBlock] using e
        rw [e2, h3] at hk2
        have e3 := Option.some.inj hk2
        rw [← e3] at hk3
        simp [Obj.isCells] at hk3
    · simp only [List.mem_cons, List.not_mem_nil, or_false] at hbb
      subst hbb
      have hk := key b' (by omega) (by omega) (fun e => by have := own_ge HO.out b' e.symm; omega)
      exact ⟨World.cell?_of_block (w := W') hk, World.frozen?_of_block (w := W') hk⟩
    · rw [List.length_append, List.map_append, HM.out]
      refine ⟨hown7.1, ?_⟩
      rcases hown7.2 with h2 | ⟨g, cp, cur, h1, h2, h3, h4⟩
      · exact .inl h2
      · exact .inr ⟨g, cp, cur, h1, h2, (Below.heap_setCell _ _ _ _ (by show g ≠ w.heap.size; omega)).trans h3, h4⟩
  case done =>
    rintro xs W' hxs ⟨⟨v, hv, ho⟩, hf, hb⟩ hK
    have hxl : xs.length = len := by rw [hxs, upto_length]
    rw [hxl] at ho
    have HO := Lib.hid ho
    have HB := Lib.hid hb
    have HX := Lib.hid hxs
    clear ho hb hxs
    have hfin := putObj_belowR (B := w.heap.size) W' (l := w1.heap.size) _ (.deferred none) hK (by have := HZ.out; omega)
    gi_wp2
    refine ⟨by simp, .inl ⟨_, _, rfl, run_takeDeferred hK, ?_⟩⟩
    refine ⟨v, ?_, ⟨v, rfl, ?_⟩, HB.out.trans hfin⟩
    · simp [results, Tryz.results145, go_sem]
    · rw [← HX.out]
      refine ⟨HO.out.1, ?_⟩
      have := HZ.out
      rcases HO.out.2 with h2 | ⟨g, cp, cur, h1, h2, h3, h4⟩
      · exact .inl h2
      · exact .inr ⟨g, cp, cur, h1, by omega, (World.putObj_heap_other (by omega)).trans h3, h4⟩
  case pan => intro ch W' h; exact h.elim
end Go.Kn
