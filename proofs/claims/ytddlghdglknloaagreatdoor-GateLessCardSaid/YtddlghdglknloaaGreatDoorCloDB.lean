/- Contracts of functions that the laws of this seat call, or the evaluator of closed calls and its runs. Conditions: as each theorem states them. -/
import Derived.Test.YtddlghdglknloaaGreatDoorCloDA
set_option linter.unusedVariables false
set_option linter.unusedSimpArgs false
/- Contracts of functions that the laws of this seat call, or the evaluator of closed calls and its runs. Conditions: as each theorem states them. -/
set_option linter.unusedVariables false
set_option linter.unusedSimpArgs false
namespace Go.Clo
open Go

/-! the run in the text's order, place by place -/
structure St where
  rs : List RO
  hs : List Hp
  a : AF
  h : Hp

def StepD (T : Tb) (F : Fns) (rd : Option Nat) (all : List Oper) (p : DO) (s s' : St) (ov : Option Value) : Prop :=
  match ov with
  | none => (wantedA all s.a p.o = false ∨ ∃ ch a1 h1, doOp T F rd s.a p.o s.h = some (.pan ch, a1, h1)) ∧ s' = ⟨s.rs, cond p.eff (s.h :: s.hs) s.hs, s.a.put p.o.dst undef, s.h⟩
  | some v => wantedA all s.a p.o = true ∧ ∃ a1 h1, doOp T F rd s.a p.o s.h = some (.ret v, a1, h1) ∧ s'.a = a1.put p.o.dst v ∧ s'.h = h1 ∧
      (p.eff = true → againAll T p.re s'.h s.rs = true ∧ s'.rs = s.rs ∧ s'.hs = s.h :: s.hs) ∧
      (p.eff = false → p.rd = true → backAll T ⟨p.i, p.o, s.a, v⟩ p.back s.hs = true ∧ s'.rs = ⟨p.i, p.o, s.a, v⟩ :: s.rs ∧ s'.hs = s.hs) ∧
      (p.eff = false → p.rd = false → s'.rs = s.rs ∧ s'.hs = s.hs)

theorem evalDraw_cons (T : Tb) (F : Fns) (rd : Option Nat) (all : List Oper) (p : DO) (l : List DO) (rs : List RO) (hs : List Hp) (a : AF) (h : Hp) : evalDraw T F rd all (p :: l) rs hs a h =
    cond (wantedA all a p.o)
      (match doOp T F rd a p.o h with
      | some (r, a', h') => match r with
        | .ret v => cond p.eff
            (cond (againAll T p.re h' rs) (evalDraw T F rd all l rs (h :: hs) (a'.put p.o.dst v) h') none)
            (cond p.rd
              (cond (backAll T ⟨p.i, p.o, a, v⟩ p.back hs) (evalDraw T F rd all l (⟨p.i, p.o, a, v⟩ :: rs) hs (a'.put p.o.dst v) h') none)
              (evalDraw T F rd all l rs hs (a'.put p.o.dst v) h'))
        | .pan ch => match l with
          | [] => cond p.fin (some (.panic ch, a', h')) none
          | _ :: _ => none
      | none => none)
      (evalDraw T F rd all l rs (cond p.eff (h :: hs) hs) (a.put p.o.dst undef) h) := rfl

def consF {α : Type} (x : α) (f : Nat → α) : Nat → α
  | 0 => x
  | n + 1 => f n

/-- how a run in the text's order ends: whole, or its last place panics, all others before it -/
def EndsD (T : Tb) (F : Fns) (rd : Option Nat) (all : List Oper) (l : List DO) (S : Nat → St) (V : Nat → Option Value) (e : AE) (a' : AF) (h' : Hp) : Prop :=
  (e = .normal ∧ (S l.length).a = a' ∧ (S l.length).h = h' ∧ ∀ t p, l[t]? = some p → V t = none → wantedA all (S t).a p.o = false) ∨
  (∃ ch t1 p, e = .panic ch ∧ l.length = t1 + 1 ∧ l[t1]? = some p ∧ p.fin = true ∧ wantedA all (S t1).a p.o = true ∧ doOp T F rd (S t1).a p.o (S t1).h = some (.pan ch, a', h') ∧ V t1 = none ∧
    ∀ t p, t < t1 → l[t]? = some p → V t = none → wantedA all (S t).a p.o = false)

theorem evalDraw_trace {T : Tb} {F : Fns} {rd : Option Nat} {all : List Oper} : ∀ {l : List DO} {rs : List RO} {hs : List Hp} {a a' : AF} {h h' : Hp} {e : AE},
    evalDraw T F rd all l rs hs a h = some (e, a', h') →
    ∃ (S : Nat → St) (V : Nat → Option Value), S 0 = ⟨rs, hs, a, h⟩ ∧ (∀ t p, l[t]? = some p → StepD T F rd all p (S t) (S (t + 1)) (V t)) ∧ EndsD T F rd all l S V e a' h' := by
  intro l
  induction l with
  | nil =>
    intro rs hs a a' h h' e he
    have he' : (some (AE.normal, a, h) : Option (AE × AF × Hp)) = some (e, a', h') := he
    cases he'
    exact ⟨fun _ => ⟨rs, hs, a, h⟩, fun _ => none, rfl, fun t p hp => by simp at hp, .inl ⟨rfl, rfl, rfl, fun t p hp => by simp at hp⟩⟩
  | cons p l ih =>
    intro rs hs a a' h h' e he
    -- one place, then the rest
    have key : ∀ {s1 : St} {ov : Option Value}, StepD T F rd all p ⟨rs, hs, a, h⟩ s1 ov → (ov = none → wantedA all a p.o = false) → evalDraw T F rd all l s1.rs s1.hs s1.a s1.h = some (e, a', h') →
        ∃ (S : Nat → St) (V : Nat → Option Value), S 0 = ⟨rs, hs, a, h⟩ ∧ (∀ t q, (p :: l)[t]? = some q → StepD T F rd all q (S t) (S (t + 1)) (V t)) ∧ EndsD T F rd all (p :: l) S V e a' h' := by
      intro s1 ov h1 hno h2
      obtain ⟨S, V, k1, k4, k5⟩ := ih h2
      refine ⟨consF ⟨rs, hs, a, h⟩ S, consF ov V, rfl, fun t q hq => ?_, ?_⟩
      · cases t with
        | zero =>
          simp at hq; subst hq
          show StepD T F rd all p ⟨rs, hs, a, h⟩ (S 0) ov
          rw [k1]; exact h1
        | succ t =>
          simp at hq
          exact k4 t q hq
      · rcases k5 with ⟨e1, e2, e3, e4⟩ | ⟨ch, t1, q, e1, e2, e3, e4, e5, e6, e7, e8⟩
        · refine .inl ⟨e1, e2, e3, fun t q hq hv => ?_⟩
          cases t with
          | zero => simp at hq; subst hq; exact hno hv
          | succ t => simp at hq; exact e4 t q hq hv
        · refine .inr ⟨ch, t1 + 1, q, e1, by simp [e2], by simpa using e3, e4, e5, e6, e7, fun t q hlt hq hv => ?_⟩
          cases t with
          | zero => simp at hq; subst hq; exact hno hv
          | succ t => simp at hq; exact e8 t q (by omega) hq hv
    rw [evalDraw_cons] at he
    cases hw : wantedA all a p.o with
    | false =>
      rw [hw, cond_false] at he
      exact key (s1 := ⟨rs, cond p.eff (h :: hs) hs, a.put p.o.dst undef, h⟩) (ov := none) ⟨.inl hw, rfl⟩ (fun _ => hw) he
    | true =>
      rw [hw, cond_true] at he
      split at he
      · rename_i r a1 h1 hd
        split at he
        · rename_i v
          have hno : (some v : Option Value) = none → wantedA all a p.o = false := fun h0 => by cases h0
          cases heff : p.eff with
          | true =>
            rw [heff, cond_true] at he
            replace he := cond_none he; obtain ⟨hag, he⟩ := he
            exact key (s1 := ⟨rs, h :: hs, a1.put p.o.dst v, h1⟩) (ov := some v)
              ⟨hw, a1, h1, hd, rfl, rfl, fun _ => ⟨hag, rfl, rfl⟩, fun h0 => (by rw [heff] at h0; cases h0), fun h0 => (by rw [heff] at h0; cases h0)⟩ hno he
          | false =>
            rw [heff, cond_false] at he
            cases hrd : p.rd with
            | true =>
              rw [hrd, cond_true] at he
              replace he := cond_none he; obtain ⟨hbk, he⟩ := he
              exact key (s1 := ⟨⟨p.i, p.o, a, v⟩ :: rs, hs, a1.put p.o.dst v, h1⟩) (ov := some v)
                ⟨hw, a1, h1, hd, rfl, rfl, fun h0 => (by rw [heff] at h0; cases h0), fun _ _ => ⟨hbk, rfl, rfl⟩, fun _ h0 => (by rw [hrd] at h0; cases h0)⟩ hno he
            | false =>
              rw [hrd, cond_false] at he
              exact key (s1 := ⟨rs, hs, a1.put p.o.dst v, h1⟩) (ov := some v)
                ⟨hw, a1, h1, hd, rfl, rfl, fun h0 => (by rw [heff] at h0; cases h0), fun _ h0 => (by rw [hrd] at h0; cases h0), fun _ _ => ⟨rfl, rfl⟩⟩ hno he
        · rename_i ch
          split at he
          · replace he := cond_none he; obtain ⟨hfin, he⟩ := he
            cases he
            refine ⟨consF ⟨rs, hs, a, h⟩ (fun _ => ⟨rs, cond p.eff (h :: hs) hs, a.put p.o.dst undef, h⟩), fun _ => none, rfl, fun t q hq => ?_, .inr ⟨ch, 0, p, rfl, rfl, rfl, hfin, hw, hd, rfl, fun t q hlt => by omega⟩⟩
            cases t with
            | zero =>
              simp at hq; subst hq
              exact ⟨.inr ⟨ch, _, _, hd⟩, rfl⟩
            | succ t => simp at hq
          · cases he
      · cases he
end Go.Clo

namespace Go.Clo
open Go

variable {T : Tb} {F : Fns}

theorem HR.lo {σ : Ren} {h : Hp} {w : World} (H : HR T σ h w) (lo : Nat) : HR T σ { h with lo := lo } w := ⟨H.dom, H.rng, H.bnd, H.blk, H.inj, H.gl⟩

/-- one place of the run in the text's order -/
theorem StepD.run (hT : TbOK T) (hS : StrOK T) (hF : Snd T F) {rd : Option Nat} {ops : Array Oper} {p : DO} {s s' : St} {ov : Option Value} (hst : StepD T F rd ops.toList p s s' ov) {t : Nat} (ho : ops[t]? = some p.o)
    {σ : Ren} {w : World} {b : Frame} {x : CX} {cs : List Frame} (A : AR σ s.a b x cs) (R : RdR σ rd b.roundOf) (H : HR T σ s.h w) (hlo : s.h.lo ≤ s.h.n) :
    ∃ σ' w' x', Sub σ σ' ∧ AR σ' s'.a b x' cs ∧ RdR σ' rd b.roundOf ∧ HR T σ' s'.h w' ∧ s'.h.lo = s.h.lo ∧ s.h.n ≤ s'.h.n ∧ (∀ b, b < s.h.lo → s'.h.get b = s.h.get b) ∧ ∀ v, ov = some v → ∃ u, VR σ' v u := by
  cases ov with
  | none =>
    obtain ⟨hw, rfl⟩ := hst
    exact ⟨σ, w, x.put p.o.dst undef, .refl σ, A.put (undefR σ) _, R, H, rfl, Nat.le_refl _, fun _ _ => rfl, fun v hv => by cases hv⟩
  | some v =>
    obtain ⟨hw, a1, h1, hd, e1, e2, _⟩ := hst
    have hweq := wanted_eq A.tm ops p.o
    rw [hw] at hweq
    obtain ⟨σ1, w1, x1, r1, A1, _, _, H1, K1, q1, _⟩ := doOp_spec hT hS hF hd A R H hlo (k := []) (rest := []) ho hweq.symm
    cases q1 with
    | ret hv =>
      refine ⟨σ1, w1, x1.put p.o.dst _, K1.sub, by rw [e1]; exact A1.put hv _, R.mono K1.sub, by rw [e2]; exact H1, by rw [e2]; exact K1.lo, by rw [e2]; exact K1.n, fun b hb => by rw [e2]; exact K1.low b hb, fun v' hv' => by cases hv'; exact ⟨_, hv⟩⟩

structure TextRun (T : Tb) (F : Fns) (rd : Option Nat) (ops : Array Oper) (l : List DO) (S : Nat → St) (V : Nat → Option Value) : Prop where
  len : l.length = ops.size
  op : ∀ (t : Nat) (p : DO), l[t]? = some p → ops[t]? = some p.o
  step : ∀ (t : Nat) (p : DO), l[t]? = some p → StepD T F rd ops.toList p (S t) (S (t + 1)) (V t)

/-- what is so at each place of the run in the text's order: its values lie below its mark -/
theorem TextRun.at (hT : TbOK T) (hS : StrOK T) (hF : Snd T F) {rd : Option Nat} {ops : Array Oper} {l : List DO} {S : Nat → St} {V : Nat → Option Value} (tr : TextRun T F rd ops l S V)
    {σ : Ren} {w : World} {b : Frame} {x : CX} {cs : List Frame} (A : AR σ (S 0).a b x cs) (R : RdR σ rd b.roundOf) (H : HR T σ (S 0).h w) (hlo : (S 0).h.lo ≤ (S 0).h.n) :
    ∀ t, t ≤ l.length → ∃ σ' w' x', Sub σ σ' ∧ AR σ' (S t).a b x' cs ∧ RdR σ' rd b.roundOf ∧ HR T σ' (S t).h w' ∧ (S t).h.lo = (S 0).h.lo ∧ (S 0).h.n ≤ (S t).h.n ∧ ∀ b, b < (S 0).h.lo → (S t).h.get b = (S 0).h.get b := by
  intro t
  induction t with
  | zero => intro _; exact ⟨σ, w, x, .refl σ, A, R, H, rfl, Nat.le_refl _, fun _ _ => rfl⟩
  | succ t ih =>
    intro ht
    obtain ⟨σ1, w1, x1, s1, A1, R1, H1, l1, n1, g1⟩ := ih (by omega)
    have hp := List.getElem?_eq_getElem (show t < l.length by omega)
    obtain ⟨σ2, w2, x2, s2, A2, R2, H2, l2, n2, g2, _⟩ := (tr.step t _ hp).run hT hS hF (tr.op t _ hp) A1 R1 H1 (by omega)
    exact ⟨σ2, w2, x2, s1.trans s2, A2, R2, H2, l2.trans l1, by omega, fun b hb => (g2 b (by omega)).trans (g1 b hb)⟩

theorem TextRun.mono (hT : TbOK T) (hS : StrOK T) (hF : Snd T F) {rd : Option Nat} {ops : Array Oper} {l : List DO} {S : Nat → St} {V : Nat → Option Value} (tr : TextRun T F rd ops l S V)
    {σ : Ren} {w : World} {b : Frame} {x : CX} {cs : List Frame} (A : AR σ (S 0).a b x cs) (R : RdR σ rd b.roundOf) (H : HR T σ (S 0).h w) (hlo : (S 0).h.lo ≤ (S 0).h.n) :
    ∀ t d, t + d ≤ l.length → (S t).h.n ≤ (S (t + d)).h.n := by
  intro t d
  induction d with
  | zero => intro _; exact Nat.le_refl _
  | succ d ih =>
    intro hd
    have h1 := ih (by omega)
    obtain ⟨σ1, w1, x1, s1, A1, R1, H1, l1, n1, _⟩ := tr.at hT hS hF A R H hlo (t + d) (by omega)
    have hp := List.getElem?_eq_getElem (show t + d < l.length by omega)
    obtain ⟨_, _, _, _, _, _, _, _, n2, _⟩ := (tr.step (t + d) _ hp).run hT hS hF (tr.op (t + d) _ hp) A1 R1 H1 (by omega)
    have : t + (d + 1) = t + d + 1 := by omega
    rw [this]; omega
end Go.Clo

namespace Go.Clo
open Go

/-- what is before an operation that has what it waits for, is done -/
theorem before_closed {ops : Array Oper} {P : Nat → Prop} (hP : ∀ k o, ops[k]? = some o → P k → ∀ e ∈ o.after, Region.binds .any e = true → P e.on) :
    ∀ k o, ops[k]? = some o → (∀ e ∈ o.after, Region.binds .any e = true → P e.on) → ∀ j, ((Region.before ops).getD k 0).testBit j = true → P j := by
  have main : (Region.before ops).size = ops.size ∧ ∀ k, k < ops.size → ∀ o, ops[k]? = some o → (∀ e ∈ o.after, Region.binds .any e = true → P e.on) → ∀ j, ((Region.before ops).getD k 0).testBit j = true → P j := by
    unfold Region.before
    refine Array.foldl_induction (motive := fun i (acc : Array Nat) => acc.size = i ∧ ∀ k, k < i → ∀ o, ops[k]? = some o → (∀ e ∈ o.after, Region.binds .any e = true → P e.on) → ∀ j, (acc.getD k 0).testBit j = true → P j) ⟨rfl, fun k hk => absurd hk (by omega)⟩ ?_
    intro i acc ⟨hsz, hacc⟩
    refine ⟨by simp [hsz], fun k hk o ho hall j hj => ?_⟩
    rw [Array.getD_eq_getD_getElem?, Array.getElem?_push] at hj
    by_cases hki : k = acc.size
    · rw [if_pos hki] at hj
      simp only [Option.getD_some] at hj
      have hoi : ops[i] = o := by
        have : ops[(i : Nat)]? = some o := by rw [← hsz, ← hki]; exact ho
        have h2 := (Array.getElem?_eq_some_iff.1 this).2
        exact h2
      rw [hoi] at hj
      revert j
      refine Array.foldl_induction (motive := fun _ (s : Nat) => ∀ j, s.testBit j = true → P j) (fun j hj => by simp at hj) ?_
      intro q s hs j hj
      split at hj
      · rename_i hb
        have hmem : o.after[q] ∈ o.after := Array.getElem_mem _
        have hPe := hall _ hmem hb
        rw [Nat.testBit_or, Nat.testBit_or, Bool.or_eq_true, Bool.or_eq_true] at hj
        rcases hj with (hj | hj) | hj
        · exact hs j hj
        · rw [Nat.testBit_two_pow] at hj
          have : o.after[q].on = j := of_decide_eq_true hj
          rw [← this]; exact hPe
        · rcases Nat.lt_or_ge o.after[q].on acc.size with hlt | hge
          · have hlt' : o.after[q].on < ops.size := by have := i.isLt; omega
            have ho' := Array.getElem?_eq_getElem hlt'
            exact hacc _ (by omega) _ ho' (hP _ _ ho' hPe) j hj
          · rw [Array.getD_eq_getD_getElem?, Array.getElem?_eq_none hge] at hj
            simp at hj
      · exact hs j hj
    · rw [if_neg hki] at hj
      refine hacc k (by omega) o ho hall j ?_
      rw [Array.getD_eq_getD_getElem?]; exact hj
  intro k o ho
  exact main.2 k (Array.getElem?_eq_some_iff.1 ho).1 o ho
end Go.Clo

namespace Go.Clo
open Go

/-! what a plan says -/
theorem plan_spec {ops : Array Oper} {l : List DO} (h : plan ops = some l) :
    l.length = ops.size ∧ (∀ (t : Nat) (p : DO), l[t]? = some p → ∃ o, ops[t]? = some o ∧ p = mkDO ops.toList (Region.before ops).toList o t) ∧
    ∀ k o, ops[k]? = some o → okK ops.toList (Region.before ops).toList k = true ∧ okT ops.toList (Region.before ops).toList k o = true ∧ okA o k = true := by
  unfold plan planB at h
  split at h
  · rename_i hall
    cases h
    refine ⟨by simp, fun t p hp => ?_, fun k o ho => ?_⟩
    · rw [List.getElem?_map, Option.map_eq_some_iff] at hp
      obtain ⟨q, hq, rfl⟩ := hp
      rw [List.getElem?_zipIdx, Option.map_eq_some_iff] at hq
      obtain ⟨o, ho, rfl⟩ := hq
      exact ⟨o, by simpa using ho, by simp⟩
    · rw [List.all_eq_true] at hall
      have := hall (o, k) (by
        rw [List.mem_iff_getElem?]
        refine ⟨k, ?_⟩
        rw [List.getElem?_zipIdx]
        simp [ho])
      simpa [and_assoc] using this
  · cases h

theorem okA_spec {o : Oper} {k : Nat} (h : okA o k = true) : ∀ e ∈ o.after, Region.binds .any e = true → e.on < k := by
  intro e he hb
  unfold okA at h
  have := (List.all_eq_true.1 h) e (by simpa using he)
  rw [hb] at this
  exact Nat.le_of_ble_eq_true (by simpa using this)

theorem at_eq (l : Array Nat) (i : Nat) : at_ l.toList i = l.getD i 0 := by
  unfold at_
  rw [nth_eq, Array.getD_eq_getD_getElem?, Array.getElem?_toList]
  cases l[i]? <;> rfl

theorem clsAt_of {ops : Array Oper} {k : Nat} {o : Oper} (h : ops[k]? = some o) : clsAt ops.toList k = cls o := by
  unfold clsAt
  rw [nth_eq, Array.getElem?_toList, h]

theorem okK_not3 {ops : Array Oper} {b : List Nat} {k : Nat} {o : Oper} (ho : ops[k]? = some o) (h : okK ops.toList b k = true) : cls o ≠ 3 := by
  unfold okK at h
  rw [clsAt_of ho, Bool.and_eq_true] at h
  intro hc
  rw [hc] at h
  simp at h

theorem okK_eff {ops : Array Oper} {b : Array Nat} {k : Nat} {o : Oper} (ho : ops[k]? = some o) (h : okK ops.toList b.toList k = true) (hc : cls o = 2) {j : Nat} {p : Oper} (hj : j < k) (hp : ops[j]? = some p) (hpc : cls p ≠ 0) :
    (b.getD k 0).testBit j = true := by
  unfold okK at h
  rw [clsAt_of ho, hc, Bool.and_eq_true] at h
  have h2 := h.2
  simp only [Nat.beq_eq, Bool.or_eq_true, Bool.not_eq_true', List.all_eq_true, List.mem_range] at h2
  have h3 := h2.resolve_left (by simp) j hj
  rw [clsAt_of hp, at_eq] at h3
  rcases h3 with h3 | h3
  · exact absurd h3 hpc
  · exact h3

/-- who writes a temporary of a place, is before it or behind it -/
theorem okT_spec {ops : Array Oper} {b : Array Nat} {k : Nat} {o : Oper} (h : okT ops.toList b.toList k o = true) {i d : Nat} {p : Oper} (hp : ops[i]? = some p) (hd : p.dst = some d) (hm : d ∈ looks ops.toList o) (hik : i ≠ k) :
    (i < k → (b.getD k 0).testBit i = true) ∧ (k < i → (b.getD i 0).testBit k = true) := by
  unfold okT at h
  rw [List.all_eq_true] at h
  have hlt := (Array.getElem?_eq_some_iff.1 hp).1
  have h1 := h i (by simpa using hlt)
  rw [nth_eq, Array.getElem?_toList, hp] at h1
  simp only [hd, Bool.or_eq_true, Bool.not_eq_true', List.contains_eq_mem, decide_eq_false_iff_not, at_eq] at h1
  have h2 := (h1.resolve_left (fun hh => hik (Nat.eq_of_beq_eq_true hh))).resolve_left (fun hh => hh hm)
  constructor
  · intro hlt'
    rw [Nat.ble_eq_true_of_le (by omega), cond_true] at h2; exact h2
  · intro hlt'
    have : Nat.ble i k = false := by
      cases hb : Nat.ble i k with
      | false => rfl
      | true => have := Nat.le_of_ble_eq_true hb; omega
    rw [this, cond_false] at h2; exact h2
end Go.Clo

namespace Go.Clo
open Go

variable {T : Tb} {F : Fns}

/-! a place by its kind -/
theorem StepD.c0 {rd : Option Nat} {all : List Oper} {p : DO} {s s' : St} {ov : Option Value} (hst : StepD T F rd all p s s' ov) (hc : cls p.o = 0) (hbar : p.bar = false) :
    s'.h = s.h ∧ s'.a = s.a.put p.o.dst (ov.getD undef) ∧ ∀ v, ov = some v → ∀ n lo, aop T s.a p.o ⟨s.h.t, n, lo⟩ = some (.val v, ⟨s.h.t, n, lo⟩) := by
  cases ov with
  | none => obtain ⟨_, rfl⟩ := hst; exact ⟨rfl, rfl, fun v hv => by cases hv⟩
  | some v =>
    obtain ⟨_, a1, h1, hd, e1, e2, _⟩ := hst
    unfold doOp at hd
    split at hd
    · rename_i nx h' hop
      obtain ⟨⟨u, rfl⟩, rfl, hall⟩ := cls0 hc hop
      simp only [doNx, Option.some.injEq, Prod.mk.injEq, Rt.ret.injEq] at hd
      obtain ⟨rfl, rfl, rfl⟩ := hd
      exact ⟨by rw [e2], e1, fun v' hv n lo => by cases hv; exact hall n lo⟩
    · cases hd

theorem StepD.c1 {rd : Option Nat} {all : List Oper} {p : DO} {s s' : St} {ov : Option Value} (hst : StepD T F rd all p s s' ov) (hc : cls p.o = 1) (hbar : p.bar = false) :
    s'.a = s.a.put p.o.dst (ov.getD undef) ∧ ((ov = none ∧ s'.h = s.h) ∨ ∃ v blk, ov = some v ∧ (v = .pointer (some ⟨s.h.n, 0, none⟩) ∨ ∃ l k, v = .slice (some ⟨s.h.n, 0, none⟩) l k) ∧ s'.h = s.h.add blk ∧ ∀ h2 : Hp, h2.n = s.h.n → aop T s.a p.o h2 = some (.val v, h2.add blk)) := by
  cases ov with
  | none => obtain ⟨_, rfl⟩ := hst; exact ⟨rfl, .inl ⟨rfl, rfl⟩⟩
  | some v =>
    obtain ⟨_, a1, h1, hd, e1, e2, _⟩ := hst
    unfold doOp at hd
    split at hd
    · rename_i nx h' hop
      obtain ⟨blk, u, rfl, hform, rfl, hall⟩ := cls1 hc hop
      simp only [doNx, Option.some.injEq, Prod.mk.injEq, Rt.ret.injEq] at hd
      obtain ⟨rfl, rfl, rfl⟩ := hd
      exact ⟨e1, .inr ⟨u, blk, rfl, hform, by rw [e2], hall⟩⟩
    · cases hd

theorem mkDO_bar {ops : List Oper} {b : List Nat} {o : Oper} {k : Nat} (hc : cls o ≠ 2) : (mkDO ops b o k).bar = false ∧ (mkDO ops b o k).eff = false := by
  have : Nat.beq (cls o) 2 = false := by
    cases hb : Nat.beq (cls o) 2 with
    | false => rfl
    | true => exact absurd (Nat.eq_of_beq_eq_true hb) hc
  unfold mkDO
  simp [this, hc]
end Go.Clo
