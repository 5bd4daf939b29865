/- An evaluator for closed calls of the model, with its proof: what it yields is what the call returns (a part of it). No condition beyond those that its theorems state. -/
import Derived.Test.YtnlbofaiihlniaaGreatDoorCloE2
set_option linter.unusedVariables false
set_option linter.unusedSimpArgs false
namespace Go.Clo
open Go

variable {T : Tb} {F : Fns}

/-! a run in the text's order, and who writes what -/
def wr (ops : Array Oper) (sz : Nat) (i d : Nat) : Prop := ∃ p, ops[i]? = some p ∧ p.dst = some d ∧ d < sz

/-- an effect that is done -/
def act (ops : Array Oper) (V : Nat → Option Value) (i : Nat) : Prop := ∃ o v, ops[i]? = some o ∧ cls o = 2 ∧ V i = some v

theorem AF.tmp_put (a : AF) (d : Option Tmp) (v : Value) (j : Nat) : (a.put d v).tmp j = if d = some j ∧ j < a.sz then v else a.tmp j := by
  cases d with
  | none => simp [AF.put]
  | some d =>
    show (cond (Nat.ble (Nat.succ d) a.sz) { a with tm := a.tm.set d v } a).tmp j = _
    cases hb : Nat.ble (Nat.succ d) a.sz with
    | true =>
      have hd : d < a.sz := Nat.le_of_ble_eq_true hb
      rw [cond_true]
      show (match (a.tm.set d v).get j with | some v => v | none => undef) = _
      rw [Tr.get_set]
      by_cases hj : j = d
      · subst hj; simp [hd]
      · rw [if_neg hj, if_neg (by rintro ⟨h, _⟩; cases h; exact hj rfl)]; rfl
    | false =>
      have hd : ¬ d < a.sz := fun hh => by rw [Nat.ble_eq_true_of_le hh] at hb; cases hb
      rw [cond_false, if_neg (by rintro ⟨h, h2⟩; cases h; exact hd h2)]

theorem AF.put_sz (a : AF) (d : Option Tmp) (v : Value) : (a.put d v).sz = a.sz := by
  cases d with
  | none => rfl
  | some d =>
    show (cond (Nat.ble (Nat.succ d) a.sz) { a with tm := a.tm.set d v } a).sz = _
    cases Nat.ble (Nat.succ d) a.sz <;> rfl

/-- the fields of a frame but for its temporaries -/
structure Same3 (a a' : AF) : Prop where
  ds : a'.ds = a.ds
  fn : a'.fn = a.fn
  um : a'.um = a.um

theorem Same3.refl (a : AF) : Same3 a a := ⟨rfl, rfl, rfl⟩
theorem Same3.trans {a b c : AF} (h : Same3 a b) (h' : Same3 b c) : Same3 a c := ⟨h'.ds.trans h.ds, h'.fn.trans h.fn, h'.um.trans h.um⟩

theorem AF.put_same (a : AF) (d : Option Tmp) (v : Value) : Same3 a (a.put d v) := by
  cases d with
  | none => exact .refl a
  | some d =>
    have : a.put (some d) v = cond (Nat.ble (Nat.succ d) a.sz) { a with tm := a.tm.set d v } a := rfl
    rw [this]
    cases Nat.ble (Nat.succ d) a.sz <;> exact ⟨rfl, rfl, rfl⟩

theorem AR0.same {σ : Ren} {a a' : AF} {b : Frame} {x : CX} {cs : List Frame} (h : AR0 σ a b x cs) (s : Same3 a a') : AR0 σ a' b x cs :=
  ⟨by rw [s.ds]; exact h.ds, by rw [s.fn]; exact h.fn, by rw [s.um]; exact h.kind, by rw [s.um]; exact h.um⟩

theorem CX.put_ds (x : CX) (d : Option Tmp) (v : Value) : (x.put d v).defers = x.defers ∧ (x.put d v).um = x.um := by unfold CX.put; split <;> exact ⟨rfl, rfl⟩

theorem AR0.put {σ : Ren} {a : AF} {b : Frame} {x : CX} {cs : List Frame} (h : AR0 σ a b x cs) (d : Option Tmp) (v : Value) : AR0 σ a b (x.put d v) cs := by
  obtain ⟨h1, h2⟩ := CX.put_ds x d v
  exact ⟨by rw [h1]; exact h.ds, h.fn, h.kind, by rw [h2]; exact h.um⟩

theorem CX.put_size (x : CX) (d : Option Tmp) (v : Value) : (x.put d v).tmps.size = x.tmps.size := by unfold CX.put; split <;> simp

theorem CX.put_get (x : CX) (d : Option Tmp) (v : Value) (j : Nat) : (x.put d v).tmps.getD j undef = if d = some j ∧ j < x.tmps.size then v else x.tmps.getD j undef := by
  cases d with
  | none => simp [CX.put]
  | some d =>
    show (x.tmps.setIfInBounds d v).getD j undef = _
    by_cases hd : d < x.tmps.size
    · rw [getD_set _ _ _ _ hd]
      by_cases hj : j = d
      · subst hj; simp [hd]
      · rw [if_neg hj, if_neg (by rintro ⟨h, _⟩; cases h; exact hj rfl)]
    · rw [Array.setIfInBounds_eq_of_size_le (Nat.le_of_not_lt hd), if_neg (by rintro ⟨h, h2⟩; cases h; exact hd h2)]

theorem doOp_keep {rd : Option Nat} {a a1 : AF} {o : Oper} {h h1 : Hp} {r : Rt} (e : doOp T F rd a o h = some (r, a1, h1)) : a1.tm = a.tm ∧ a1.sz = a.sz := by
  unfold doOp at e
  split at e
  · rename_i nx h2 _
    cases nx with
    | val v => simp only [doNx, Option.some.injEq, Prod.mk.injEq] at e; obtain ⟨_, rfl, _⟩ := e; exact ⟨rfl, rfl⟩
    | skip => simp only [doNx, Option.some.injEq, Prod.mk.injEq] at e; obtain ⟨_, rfl, _⟩ := e; exact ⟨rfl, rfl⟩
    | enter f args =>
      simp only [doNx] at e
      split at e
      · simp only [Option.some.injEq, Prod.mk.injEq] at e; obtain ⟨_, rfl, _⟩ := e; exact ⟨rfl, rfl⟩
      · cases e
    | round l args =>
      simp only [doNx] at e
      split at e
      · simp only [Option.some.injEq, Prod.mk.injEq] at e; obtain ⟨_, rfl, _⟩ := e; exact ⟨rfl, rfl⟩
      · cases e
    | defer d =>
      simp only [doNx] at e
      split at e
      · simp only [Option.some.injEq, Prod.mk.injEq] at e; obtain ⟨_, rfl, _⟩ := e; exact ⟨rfl, rfl⟩
      · cases e
    | recover =>
      simp only [doNx] at e
      split at e
      · cases e
      · split at e
        · simp only [Option.some.injEq, Prod.mk.injEq] at e; obtain ⟨_, rfl, _⟩ := e; exact ⟨rfl, rfl⟩
        · simp only [Option.some.injEq, Prod.mk.injEq] at e; obtain ⟨_, rfl, _⟩ := e; exact ⟨rfl, rfl⟩
    | pan v => simp only [doNx, Option.some.injEq, Prod.mk.injEq] at e; obtain ⟨_, rfl, _⟩ := e; exact ⟨rfl, rfl⟩
  · cases e

/-- a place writes its own temporary alone -/
theorem StepD.tmp {rd : Option Nat} {all : List Oper} {p : DO} {s s' : St} {ov : Option Value} (hst : StepD T F rd all p s s' ov) : s'.a.sz = s.a.sz ∧ ∀ d, s'.a.tmp d = if p.o.dst = some d ∧ d < s.a.sz then ov.getD undef else s.a.tmp d := by
  cases ov with
  | none =>
    obtain ⟨_, rfl⟩ := hst
    exact ⟨AF.put_sz _ _ _, fun d => AF.tmp_put _ _ _ _⟩
  | some v =>
    obtain ⟨_, a1, h1, hd, e1, _⟩ := hst
    obtain ⟨k1, k2⟩ := doOp_keep hd
    rw [e1]
    refine ⟨by rw [AF.put_sz, k2], fun d => ?_⟩
    rw [AF.tmp_put, k2]
    have : a1.tmp d = s.a.tmp d := by unfold AF.tmp; rw [k1]
    rw [this]; rfl

/-- the facts of a plan's run -/
structure Run (T : Tb) (F : Fns) (rd : Option Nat) (ops : Array Oper) (l : List DO) (S : Nat → St) (V : Nat → Option Value) : Prop where
  hT : TbOK T
  hS : StrOK T
  hF : Snd T F
  plan : plan ops = some l
  tr : TextRun T F rd ops l S V

variable {rd : Option Nat} {ops : Array Oper} {l : List DO} {S : Nat → St} {V : Nat → Option Value}

theorem Run.len (R : Run T F rd ops l S V) : l.length = ops.size := (plan_spec R.plan).1

theorem Run.at (R : Run T F rd ops l S V) {k : Nat} {o : Oper} (ho : ops[k]? = some o) : ∃ p, l[k]? = some p ∧ p = mkDO ops.toList (Region.before ops).toList o k ∧ StepD T F rd ops.toList p (S k) (S (k + 1)) (V k) := by
  have hk : k < l.length := by rw [R.len]; exact (Array.getElem?_eq_some_iff.1 ho).1
  have hp := List.getElem?_eq_getElem hk
  obtain ⟨o', h1, h2⟩ := (plan_spec R.plan).2.1 k _ hp
  rw [ho] at h1; cases h1
  exact ⟨_, hp, h2, R.tr.step k _ hp⟩

theorem mkDO_o (a : List Oper) (b : List Nat) (o : Oper) (k : Nat) : (mkDO a b o k).o = o ∧ (mkDO a b o k).i = k ∧ (mkDO a b o k).bar = false := ⟨rfl, rfl, rfl⟩

theorem Run.sz (R : Run T F rd ops l S V) : ∀ t, t ≤ ops.size → (S t).a.sz = (S 0).a.sz := by
  intro t
  induction t with
  | zero => intro _; rfl
  | succ t ih =>
    intro ht
    obtain ⟨p, _, _, h3⟩ := R.at (Array.getElem?_eq_getElem (show t < ops.size by omega))
    rw [h3.tmp.1]; exact ih (by omega)

/-- a temporary that nobody writes from m to k -/
theorem Run.tmpConst (R : Run T F rd ops l S V) {d m : Nat} : ∀ j, m + j ≤ ops.size → (∀ i, m ≤ i → i < m + j → ¬ wr ops (S 0).a.sz i d) → (S (m + j)).a.tmp d = (S m).a.tmp d := by
  intro j
  induction j with
  | zero => intro _ _; rfl
  | succ j ih =>
    intro hj hn
    have ho := Array.getElem?_eq_getElem (show m + j < ops.size by omega)
    obtain ⟨p, _, hp, h3⟩ := R.at ho
    show (S (m + j + 1)).a.tmp d = _
    rw [h3.tmp.2 d, ← ih (by omega) (fun i h1 h2 => hn i h1 (by omega))]
    rw [if_neg]
    rintro ⟨h4, h5⟩
    rw [hp] at h4
    refine hn (m + j) (by omega) (by omega) ⟨_, ho, h4, ?_⟩
    rw [R.sz _ (by omega)] at h5; exact h5

theorem Run.bar (R : Run T F rd ops l S V) {k : Nat} {o : Oper} (ho : ops[k]? = some o) : StepD T F rd ops.toList (mkDO ops.toList (Region.before ops).toList o k) (S k) (S (k + 1)) (V k) := by
  obtain ⟨p, _, rfl, h3⟩ := R.at ho
  exact h3

theorem Run.cls_le (R : Run T F rd ops l S V) {k : Nat} {o : Oper} (ho : ops[k]? = some o) : cls o = 0 ∨ cls o = 1 ∨ cls o = 2 := by
  have h1 := okK_not3 ho ((plan_spec R.plan).2.2 k o ho).1
  have h2 : cls o ≤ 3 := by unfold cls; split <;> (try split) <;> omega
  omega

/-- a place that is no effect leaves the blocks that are there, and the frame -/
theorem Run.quiet (R : Run T F rd ops l S V) {k : Nat} (hk : k < ops.size) (ha : ¬ act ops V k) : (∀ b, b < (S k).h.n → (S (k + 1)).h.get b = (S k).h.get b) ∧ Same3 (S k).a (S (k + 1)).a := by
  have ho := Array.getElem?_eq_getElem hk
  have hst := R.bar ho
  have hb := mkDO_o ops.toList (Region.before ops).toList ops[k] k
  rcases R.cls_le ho with hc | hc | hc
  · obtain ⟨h1, h2, _⟩ := hst.c0 (by rw [hb.1]; exact hc) hb.2.2
    exact ⟨fun b _ => by rw [h1], by rw [h2]; exact AF.put_same _ _ _⟩
  · obtain ⟨h1, h2⟩ := hst.c1 (by rw [hb.1]; exact hc) hb.2.2
    refine ⟨fun b hbn => ?_, by rw [h1]; exact AF.put_same _ _ _⟩
    rcases h2 with ⟨_, h2⟩ | ⟨v, blk, _, _, h2, _⟩
    · rw [h2]
    · rw [h2, Hp.get_add, if_neg (by omega)]
  · cases hv : V k with
    | some v => exact absurd ⟨_, v, ho, hc, hv⟩ ha
    | none =>
      rw [hv] at hst
      obtain ⟨_, h2⟩ := hst
      rw [h2]
      exact ⟨fun _ _ => rfl, AF.put_same _ _ _⟩

theorem Run.grow (R : Run T F rd ops l S V) {e e' : Nat} (he : e' ≤ ops.size) (hn : ∀ t, e ≤ t → t < e' → ¬ act ops V t) : Grow (fun t => (S t).h) e e' := fun t h1 h2 b hb => (R.quiet (by omega) (hn t h1 h2)).1 b hb

theorem Run.same (R : Run T F rd ops l S V) {e : Nat} : ∀ d, e + d ≤ ops.size → (∀ t, e ≤ t → t < e + d → ¬ act ops V t) → Same3 (S e).a (S (e + d)).a := by
  intro d
  induction d with
  | zero => intro _ _; exact .refl _
  | succ d ih =>
    intro h1 h2
    exact (ih (by omega) fun t g1 g2 => h2 t g1 (by omega)).trans (R.quiet (show e + d < ops.size by omega) (h2 _ (by omega) (by omega))).2
end Go.Clo
