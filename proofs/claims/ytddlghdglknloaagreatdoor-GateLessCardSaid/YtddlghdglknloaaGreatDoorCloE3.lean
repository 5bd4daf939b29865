/- Contracts of functions that the laws of this seat call, or the evaluator of closed calls and its runs. Conditions: as each theorem states them. -/
import Derived.Test.YtddlghdglknloaaGreatDoorCloE1
set_option linter.unusedVariables false
set_option linter.unusedSimpArgs false
/- Contracts of functions that the laws of this seat call, or the evaluator of closed calls and its runs. Conditions: as each theorem states them. -/
set_option linter.unusedVariables false
set_option linter.unusedSimpArgs false
namespace Go.Clo
open Go

variable {T : Tb} {F : Fns}

/-! a run in the text's order, and who writes what -/
def wr (ops : Array Oper) (sz : Nat) (i d : Nat) : Prop := ∃ p, ops[i]? = some p ∧ p.dst = some d ∧ d < sz

/-- an effect that is done -/
def act (ops : Array Oper) (V : Nat → Option Value) (i : Nat) : Prop := ∃ o v, ops[i]? = some o ∧ cls o = 2 ∧ V i = some v

theorem AF.tmp_put (a : AF) (d : Option Tmp) (v : Value) (j : Nat) : (a.put d v).tmp j = if d = some j ∧ j < a.sz then v else a.tmp j := by
  cases d with
  | none => simp [AF.put]
  | some d =>
    show (cond (Nat.ble (Nat.succ d) a.sz) { a with tm := a.tm.set d v } a).tmp j = _
    cases hb : Nat.ble (Nat.succ d) a.sz with
    | true =>
      have hd : d < a.sz := Nat.le_of_ble_eq_true hb
      rw [cond_true]
      show (match (a.tm.set d v).get j with | some v => v | none => undef) = _
      rw [Tr.get_set]
      by_cases hj : j = d
      · subst hj; simp [hd]
      · rw [if_neg hj, if_neg (by rintro ⟨h, _⟩; cases h; exact hj rfl)]; rfl
    | false =>
      have hd : ¬ d < a.sz := fun hh => by rw [Nat.ble_eq_true_of_le hh] at hb; cases hb
      rw [cond_false, if_neg (by rintro ⟨h, h2⟩; cases h; exact hd h2)]

theorem AF.put_sz (a : AF) (d : Option Tmp) (v : Value) : (a.put d v).sz = a.sz := by
  cases d with
  | none => rfl
  | some d =>
    show (cond (Nat.ble (Nat.succ d) a.sz) { a with tm := a.tm.set d v } a).sz = _
    cases Nat.ble (Nat.succ d) a.sz <;> rfl

/-- the fields of a frame but for its temporaries -/
structure Same3 (a a' : AF) : Prop where
  ds : a'.ds = a.ds
  fn : a'.fn = a.fn
  um : a'.um = a.um

theorem Same3.refl (a : AF) : Same3 a a := ⟨rfl, rfl, rfl⟩
theorem Same3.trans {a b c : AF} (h : Same3 a b) (h' : Same3 b c) : Same3 a c := ⟨h'.ds.trans h.ds, h'.fn.trans h.fn, h'.um.trans h.um⟩

theorem AF.put_same (a : AF) (d : Option Tmp) (v : Value) : Same3 a (a.put d v) := by
  cases d with
  | none => exact .refl a
  | some d =>
    have : a.put (some d) v = cond (Nat.ble (Nat.succ d) a.sz) { a with tm := a.tm.set d v } a := rfl
    rw [this]
    cases Nat.ble (Nat.succ d) a.sz <;> exact ⟨rfl, rfl, rfl⟩

theorem AR0.same {σ : Ren} {a a' : AF} {b : Frame} {x : CX} {cs : List Frame} (h : AR0 σ a b x cs) (s : Same3 a a') : AR0 σ a' b x cs :=
  ⟨by rw [s.ds]; exact h.ds, by rw [s.fn]; exact h.fn, by rw [s.um]; exact h.kind, by rw [s.um]; exact h.um⟩

theorem CX.put_ds (x : CX) (d : Option Tmp) (v : Value) : (x.put d v).defers = x.defers ∧ (x.put d v).um = x.um := by unfold CX.put; split <;> exact ⟨rfl, rfl⟩

theorem AR0.put {σ : Ren} {a : AF} {b : Frame} {x : CX} {cs : List Frame} (h : AR0 σ a b x cs) (d : Option Tmp) (v : Value) : AR0 σ a b (x.put d v) cs := by
  obtain ⟨h1, h2⟩ := CX.put_ds x d v
  exact ⟨by rw [h1]; exact h.ds, h.fn, h.kind, by rw [h2]; exact h.um⟩

theorem CX.put_size (x : CX) (d : Option Tmp) (v : Value) : (x.put d v).tmps.size = x.tmps.size := by unfold CX.put; split <;> simp

theorem CX.put_get (x : CX) (d : Option Tmp) (v : Value) (j : Nat) : (x.put d v).tmps.getD j undef = if d = some j ∧ j < x.tmps.size then v else x.tmps.getD j undef := by
  cases d with
  | none => simp [CX.put]
  | some d =>
    show (x.tmps.setIfInBounds d v).getD j undef = _
    by_cases hd : d < x.tmps.size
    · rw [getD_set _ _ _ _ hd]
      by_cases hj : j = d
      · subst hj; simp [hd]
      · rw [if_neg hj, if_neg (by rintro ⟨h, _⟩; cases h; exact hj rfl)]
    · rw [Array.setIfInBounds_eq_of_size_le (Nat.le_of_not_lt hd), if_neg (by rintro ⟨h, h2⟩; cases h; exact hd h2)]

theorem doOp_keep {rd : Option Nat} {a a1 : AF} {o : Oper} {h h1 : Hp} {r : Rt} (e : doOp T F rd a o h = some (r, a1, h1)) : a1.tm = a.tm ∧ a1.sz = a.sz := by
  unfold doOp at e
  split at e
  · rename_i nx h2 _
    cases nx with
    | val v => simp only [doNx, Option.some.injEq, Prod.mk.injEq] at e; obtain ⟨_, rfl, _⟩ := e; exact ⟨rfl, rfl⟩
    | skip => simp only [doNx, Option.some.injEq, Prod.mk.injEq] at e; obtain ⟨_, rfl, _⟩ := e; exact ⟨rfl, rfl⟩
    | enter f args =>
      simp only [doNx] at e
      split at e
      · simp only [Option.some.injEq, Prod.mk.injEq] at e; obtain ⟨_, rfl, _⟩ := e; exact ⟨rfl, rfl⟩
      · cases e
    | round l args =>
      simp only [doNx] at e
      split at e
      · simp only [Option.some.injEq, Prod.mk.injEq] at e; obtain ⟨_, rfl, _⟩ := e; exact ⟨rfl, rfl⟩
      · cases e
    | defer d =>
      simp only [doNx] at e
      split at e
      · simp only [Option.some.injEq, Prod.mk.injEq] at e; obtain ⟨_, rfl, _⟩ := e; exact ⟨rfl, rfl⟩
      · cases e
    | recover =>
      simp only [doNx] at e
      split at e
      · cases e
      · split at e
        · simp only [Option.some.injEq, Prod.mk.injEq] at e; obtain ⟨_, rfl, _⟩ := e; exact ⟨rfl, rfl⟩
        · simp only [Option.some.injEq, Prod.mk.injEq] at e; obtain ⟨_, rfl, _⟩ := e; exact ⟨rfl, rfl⟩
    | pan v => simp only [doNx, Option.some.injEq, Prod.mk.injEq] at e; obtain ⟨_, rfl, _⟩ := e; exact ⟨rfl, rfl⟩
  · cases e

/-- a place writes its own temporary alone -/
theorem StepD.tmp {rd : Option Nat} {all : List Oper} {p : DO} {s s' : St} {ov : Option Value} (hst : StepD T F rd all p s s' ov) : s'.a.sz = s.a.sz ∧ ∀ d, s'.a.tmp d = if p.o.dst = some d ∧ d < s.a.sz then ov.getD undef else s.a.tmp d := by
  cases ov with
  | none =>
    obtain ⟨_, rfl⟩ := hst
    exact ⟨AF.put_sz _ _ _, fun d => AF.tmp_put _ _ _ _⟩
  | some v =>
    obtain ⟨_, a1, h1, hd, e1, _⟩ := hst
    obtain ⟨k1, k2⟩ := doOp_keep hd
    rw [e1]
    refine ⟨by rw [AF.put_sz, k2], fun d => ?_⟩
    rw [AF.tmp_put, k2]
    have : a1.tmp d = s.a.tmp d := by unfold AF.tmp; rw [k1]
    rw [this]; rfl

/-- the facts of a plan's run -/
structure Run (T : Tb) (F : Fns) (rd : Option Nat) (ops : Array Oper) (l : List DO) (S : Nat → St) (V : Nat → Option Value) : Prop where
  hT : TbOK T
  hS : StrOK T
  hF : Snd T F
  plan : plan ops = some l
  tr : TextRun T F rd ops l S V

variable {rd : Option Nat} {ops : Array Oper} {l : List DO} {S : Nat → St} {V : Nat → Option Value}

theorem Run.len (R : Run T F rd ops l S V) : l.length = ops.size := (plan_spec R.plan).1

theorem Run.at (R : Run T F rd ops l S V) {k : Nat} {o : Oper} (ho : ops[k]? = some o) : ∃ p, l[k]? = some p ∧ p = mkDO ops.toList (Region.before ops).toList o k ∧ StepD T F rd ops.toList p (S k) (S (k + 1)) (V k) := by
  have hk : k < l.length := by rw [R.len]; exact (Array.getElem?_eq_some_iff.1 ho).1
  have hp := List.getElem?_eq_getElem hk
  obtain ⟨o', h1, h2⟩ := (plan_spec R.plan).2.1 k _ hp
  rw [ho] at h1; cases h1
  exact ⟨_, hp, h2, R.tr.step k _ hp⟩

theorem mkDO_o (a : List Oper) (b : List Nat) (o : Oper) (k : Nat) : (mkDO a b o k).o = o ∧ (mkDO a b o k).i = k ∧ (mkDO a b o k).bar = false := ⟨rfl, rfl, rfl⟩

theorem Run.sz (R : Run T F rd ops l S V) : ∀ t, t ≤ ops.size → (S t).a.sz = (S 0).a.sz := by
  intro t
  induction t with
  | zero => intro _; rfl
  | succ t ih =>
    intro ht
    obtain ⟨p, _, _, h3⟩ := R.at (Array.getElem?_eq_getElem (show t < ops.size by omega))
    rw [h3.tmp.1]; exact ih (by omega)

/-- a temporary that nobody writes from m to k -/
theorem Run.tmpConst (R : Run T F rd ops l S V) {d m : Nat} : ∀ j, m + j ≤ ops.size → (∀ i, m ≤ i → i < m + j → ¬ wr ops (S 0).a.sz i d) → (S (m + j)).a.tmp d = (S m).a.tmp d := by
  intro j
  induction j with
  | zero => intro _ _; rfl
  | succ j ih =>
    intro hj hn
    have ho := Array.getElem?_eq_getElem (show m + j < ops.size by omega)
    obtain ⟨p, _, hp, h3⟩ := R.at ho
    show (S (m + j + 1)).a.tmp d = _
    rw [h3.tmp.2 d, ← ih (by omega) (fun i h1 h2 => hn i h1 (by omega))]
    rw [if_neg]
    rintro ⟨h4, h5⟩
    rw [hp] at h4
    refine hn (m + j) (by omega) (by omega) ⟨_, ho, h4, ?_⟩
    rw [R.sz _ (by omega)] at h5; exact h5

theorem Run.bar (R : Run T F rd ops l S V) {k : Nat} {o : Oper} (ho : ops[k]? = some o) : StepD T F rd ops.toList (mkDO ops.toList (Region.before ops).toList o k) (S k) (S (k + 1)) (V k) := by
  obtain ⟨p, _, rfl, h3⟩ := R.at ho
  exact h3

theorem Run.cls_le (R : Run T F rd ops l S V) {k : Nat} {o : Oper} (ho : ops[k]? = some o) : cls o = 0 ∨ cls o = 1 ∨ cls o = 2 := by
  have h1 := okK_not3 ho ((plan_spec R.plan).2.2 k o ho).1
  have h2 : cls o ≤ 3 := by unfold cls; split <;> (try split) <;> omega
  omega

/-- a place that is no effect leaves the blocks that are there, and the frame -/
theorem Run.quiet (R : Run T F rd ops l S V) {k : Nat} (hk : k < ops.size) (ha : ¬ act ops V k) : (∀ b, b < (S k).h.n → (S (k + 1)).h.get b = (S k).h.get b) ∧ Same3 (S k).a (S (k + 1)).a := by
  have ho := Array.getElem?_eq_getElem hk
  have hst := R.bar ho
  have hb := mkDO_o ops.toList (Region.before ops).toList ops[k] k
  rcases R.cls_le ho with hc | hc | hc
  · obtain ⟨h1, h2, _⟩ := hst.c0 (by rw [hb.1]; exact hc) hb.2.2
    exact ⟨fun b _ => by rw [h1], by rw [h2]; exact AF.put_same _ _ _⟩
  · obtain ⟨h1, h2⟩ := hst.c1 (by rw [hb.1]; exact hc) hb.2.2
    refine ⟨fun b hbn => ?_, by rw [h1]; exact AF.put_same _ _ _⟩
    rcases h2 with ⟨_, h2⟩ | ⟨v, blk, _, _, h2, _⟩
    · rw [h2]
    · rw [h2, Hp.get_add, if_neg (by omega)]
  · cases hv : V k with
    | some v => exact absurd ⟨_, v, ho, hc, hv⟩ ha
    | none =>
      rw [hv] at hst
      obtain ⟨_, h2⟩ := hst
      rw [h2]
      exact ⟨fun _ _ => rfl, AF.put_same _ _ _⟩

theorem Run.grow (R : Run T F rd ops l S V) {e e' : Nat} (he : e' ≤ ops.size) (hn : ∀ t, e ≤ t → t < e' → ¬ act ops V t) : Grow (fun t => (S t).h) e e' := fun t h1 h2 b hb => (R.quiet (by omega) (hn t h1 h2)).1 b hb

theorem Run.same (R : Run T F rd ops l S V) {e : Nat} : ∀ d, e + d ≤ ops.size → (∀ t, e ≤ t → t < e + d → ¬ act ops V t) → Same3 (S e).a (S (e + d)).a := by
  intro d
  induction d with
  | zero => intro _ _; exact .refl _
  | succ d ih =>
    intro h1 h2
    exact (ih (by omega) fun t g1 g2 => h2 t g1 (by omega)).trans (R.quiet (show e + d < ops.size by omega) (h2 _ (by omega) (by omega))).2
end Go.Clo

namespace Go.Clo
open Go

variable {T : Tb} {F : Fns}

theorem wanted_eq1 {σ : Ren} {a : AF} {x : CX} (ops : Array Oper) (o : Oper) (H : ∀ j want p d, o.guard = some (j, want) → ops[j]? = some p → p.dst = some d → VR σ (a.tmp d) (x.tmps.getD d undef)) : wantedA ops.toList a o = Region.wanted o (yielded ops x.tmps) := by
  unfold wantedA Region.wanted
  split
  · rename_i hg; rw [hg]
  · rename_i j want hg
    rw [hg]
    simp only [yielded]
    rw [nth_eq]
    simp only [Array.getElem?_toList]
    split
    · rename_i p hp
      rw [hp]
      simp only [Option.bind_some]
      split
      · rename_i d hd
        rw [hd]
        simp only [Option.bind_some]
        have hv := H j want p d hg hp hd
        unfold AF.tmp at hv
        have hgd : x.tmps.getD d undef = (x.tmps[d]?).getD undef := by simp [Array.getD_eq_getD_getElem?]
        rw [hgd] at hv
        split
        · rename_i bb hb
          rw [hb] at hv
          have := (bool_of hv bb).1 rfl
          cases hx : x.tmps[d]? with
          | none => rw [hx] at this; cases this
          | some u =>
            rw [hx] at this
            simp only [Option.getD_some] at this
            subst this
            cases bb <;> cases want <;> rfl
        · rename_i hnb
          cases hx : x.tmps[d]? with
          | none => cases want <;> rfl
          | some u =>
            rw [hx] at hv
            simp only [Option.getD_some] at hv
            cases u with
            | bool bb =>
              exfalso
              cases ht : a.tm.get d with
              | none => rw [ht] at hv; cases hv
              | some v =>
                rw [ht] at hv
                simp only at hv
                exact hnb bb (by rw [ht, (bool_of hv bb).2 rfl])
            | _ => cases want <;> rfl
      · rename_i hd; rw [hd]; cases want <;> rfl
    · rename_i hp; rw [hp]; cases want <;> rfl

theorem mem_looks_dst {ops : List Oper} {o : Oper} {d : Nat} (h : o.dst = some d) : d ∈ looks ops o := by
  unfold looks; simp [h]

theorem mem_looks_opnd {ops : List Oper} {o : Oper} {d : Nat} (h : d ∈ tmpsOf o) : d ∈ looks ops o := by
  unfold looks
  rw [List.append_assoc, List.mem_append, List.mem_append]
  exact .inr (.inl h)

theorem mem_looks_guard {ops : List Oper} {o p : Oper} {j : Nat} {want : Bool} {d : Nat} (hg : o.guard = some (j, want)) (hp : ops[j]? = some p) (hd : p.dst = some d) : d ∈ looks ops o := by
  unfold looks
  rw [List.mem_append]
  right
  rw [hg]
  simp only [nth_eq, hp, hd]
  simp

/-- a value is reckoned -/
theorem val_step {σ : Ren} {h h1 : Hp} {w : World} {b : Frame} {x : CX} {cs : List Frame} {ops : Array Oper} {i : Nat} {rest : List Nat} {K : List Item} {o : Oper} {v : Value} (ho : ops[i]? = some o) (hw : Region.wanted o (yielded ops x.tmps) = true) (hc : cls o ≠ 3)
    (G : Good T σ h w (.val v) h1 (execOp x.act.eval o)) : ∃ σ1 w1 u, VR σ1 v u ∧ HR T σ1 h1 w1 ∧ Keep σ h w σ1 h1 w1 ∧ Steps T.P (M b x (.inRegion ops (i :: rest) :: K) cs w) (M b (x.put o.dst u) (.inRegion ops rest :: K) cs w1) := by
  obtain ⟨σ1, w1, N, H1, K1⟩ := G
  obtain ⟨u, hr, hv⟩ := N
  refine ⟨σ1, w1, u, hv, H1, K1, .one (s_value ho hw (.inr fun c hh => ?_) hr)⟩
  apply hc
  unfold cls
  rw [hh]

variable {rd : Option Nat} {ops : Array Oper} {l : List DO} {S : Nat → St} {V : Nat → Option Value}

structure Ctx (T : Tb) (F : Fns) (rd : Option Nat) (ops : Array Oper) (l : List DO) (S : Nat → St) (V : Nat → Option Value) (σ0 : Ren) (b : Frame) : Prop where
  R : Run T F rd ops l S V
  hH : HsOK (fun t => (S t).h) ops.size
  val : ∀ k v, k < ops.size → V k = some v → ∃ σt u, VR σt v u ∧ ∀ b y, σt b = some y → b < (S (k + 1)).h.n
  lo : ∀ t, t ≤ ops.size → (S t).h.lo = (S 0).h.lo
  lon : (S 0).h.lo ≤ (S 0).h.n
  rdr : RdR σ0 rd b.roundOf
  dom0 : ∀ b y, σ0 b = some y → b < (S 0).h.n

structure Inv (T : Tb) (ops : Array Oper) (S : Nat → St) (V : Nat → Option Value) (σ0 : Ren) (w0 : World) (b : Frame) (cs : List Frame) (E : Nat → Prop) (e : Nat) (σ : Ren) (x : CX) (w : World) : Prop where
  j : J T (fun t => (S t).h) ops.size E σ0 w0 e σ w
  lt : ∀ t, t < e → act ops V t → E t
  ge : ∀ t, e ≤ t → act ops V t → ¬ E t
  last : e = 0 ∨ ∃ q, e = q + 1 ∧ E q ∧ act ops V q
  ar : AR0 (σ.cut (S e).h.n) (S e).a b x cs
  sz : x.tmps.size = (S 0).a.sz
  tm : ∀ d, ∃ m, m ≤ ops.size ∧ (∀ i, E i → wr ops (S 0).a.sz i d → i < m) ∧ (m = 0 ∨ ∃ q, m = q + 1 ∧ E q ∧ wr ops (S 0).a.sz q d) ∧ VR (σ.cut (S m).h.n) ((S m).a.tmp d) (x.tmps.getD d undef)
  cl : ∀ k o, ops[k]? = some o → E k → ∀ g ∈ o.after, Region.binds .any g = true → E g.on

variable {σ0 σ : Ren} {w0 w : World} {b : Frame} {cs : List Frame} {E : Nat → Prop} {e : Nat} {x : CX}

theorem before_lt (hp : plan ops = some l) {k : Nat} {o : Oper} (ho : ops[k]? = some o) {j : Nat} (h : ((Region.before ops).getD k 0).testBit j = true) : j < k := by
  refine before_closed (P := fun i => i < k) (fun k' o' ho' hk' g hg hb => ?_) k o ho (fun g hg hb => ?_) j h
  · exact Nat.lt_trans (okA_spec ((plan_spec hp).2.2 k' o' ho').2.2 g hg hb) hk'
  · exact okA_spec ((plan_spec hp).2.2 k o ho).2.2 g hg hb

/-- a place that has all that it waits for -/
structure Rdy (ops : Array Oper) (E : Nat → Prop) (k : Nat) (o : Oper) : Prop where
  ho : ops[k]? = some o
  nE : ¬ E k
  all : ∀ g ∈ o.after, Region.binds .any g = true → E g.on

theorem Inv.pre (I : Inv T ops S V σ0 w0 b cs E e σ x w) {k : Nat} {o : Oper} (r : Rdy ops E k o) {j : Nat} (h : ((Region.before ops).getD k 0).testBit j = true) : E j :=
  before_closed I.cl k o r.ho r.all j h

theorem Inv.preE (I : Inv T ops S V σ0 w0 b cs E e σ x w) {q : Nat} {o : Oper} (ho : ops[q]? = some o) (hE : E q) {j : Nat} (h : ((Region.before ops).getD q 0).testBit j = true) : E j :=
  before_closed I.cl q o ho (I.cl q o ho hE) j h

/-- the temporaries that a ready place looks at are those of its place in the text -/
theorem Inv.look (C : Ctx T F rd ops l S V σ0 b) (I : Inv T ops S V σ0 w0 b cs E e σ x w) {k : Nat} {o : Oper} (r : Rdy ops E k o) {d : Nat} (hd : d ∈ looks ops.toList o) :
    VR (σ.cut (S k).h.n) ((S k).a.tmp d) (x.tmps.getD d undef) := by
  obtain ⟨m, m1, m2, m3, m4⟩ := I.tm d
  have hT := ((plan_spec C.R.plan).2.2 k o r.ho).2.1
  have hkN := (Array.getElem?_eq_some_iff.1 r.ho).1
  have hmk : m ≤ k := by
    rcases m3 with m3 | ⟨q, rfl, q1, p, q2, q3, q4⟩
    · omega
    · have hqk : q ≠ k := fun h => r.nE (h ▸ q1)
      rcases Nat.lt_or_ge k q with hlt | hge
      · exact absurd (I.preE q2 q1 ((okT_spec hT q2 q3 hd hqk).2 hlt)) r.nE
      · omega
  have hconst : (S k).a.tmp d = (S m).a.tmp d := by
    obtain ⟨j, rfl⟩ := Nat.le.dest hmk
    refine C.R.tmpConst j (by omega) fun i i1 i2 hw => ?_
    obtain ⟨p, q2, q3, q4⟩ := hw
    have := m2 i (I.pre r ((okT_spec hT q2 q3 hd (by omega)).1 (by omega))) ⟨p, q2, q3, q4⟩
    omega
  rw [hconst]
  exact m4.mono (Ren.cut_le _ (C.hH.mono m k hmk (by omega)))

theorem Inv.want (C : Ctx T F rd ops l S V σ0 b) (I : Inv T ops S V σ0 w0 b cs E e σ x w) {k : Nat} {o : Oper} (r : Rdy ops E k o) : wantedA ops.toList (S k).a o = Region.wanted o (yielded ops x.tmps) :=
  wanted_eq1 (σ := σ.cut (S k).h.n) ops o fun j want p d hg hp hd => I.look C r (mem_looks_guard hg (by simpa using hp) hd)

/-- the temporaries behind a place -/
theorem Inv.tmNext (C : Ctx T F rd ops l S V σ0 b) (I : Inv T ops S V σ0 w0 b cs E e σ x w) {k : Nat} {o : Oper} (r : Rdy ops E k o) {σ' : Ren} (hs : Sub σ σ') {u : Value} (hu : VR (σ'.cut (S (k + 1)).h.n) ((V k).getD undef) u) {x1 : CX} (hx : x1.tmps = x.tmps) :
    (x1.put o.dst u).tmps.size = (S 0).a.sz ∧ ∀ d, ∃ m, m ≤ ops.size ∧ (∀ i, (E i ∨ i = k) → wr ops (S 0).a.sz i d → i < m) ∧ (m = 0 ∨ ∃ q, m = q + 1 ∧ (E q ∨ q = k) ∧ wr ops (S 0).a.sz q d) ∧
      VR (σ'.cut (S m).h.n) ((S m).a.tmp d) ((x1.put o.dst u).tmps.getD d undef) := by
  have hkN := (Array.getElem?_eq_some_iff.1 r.ho).1
  refine ⟨by rw [CX.put_size, hx]; exact I.sz, fun d => ?_⟩
  have hT := ((plan_spec C.R.plan).2.2 k o r.ho).2.1
  rw [CX.put_get, hx, I.sz]
  have hst := (C.R.bar r.ho).tmp.2 d
  rw [C.R.sz k (by omega), (mkDO_o ops.toList (Region.before ops).toList o k).1] at hst
  by_cases hd : o.dst = some d ∧ d < (S 0).a.sz
  · rw [if_pos hd]
    refine ⟨k + 1, by omega, ?_, .inr ⟨k, rfl, .inr rfl, o, r.ho, hd.1, hd.2⟩, ?_⟩
    · rintro i (hi | hi) ⟨p, q2, q3, q4⟩
      · rcases Nat.lt_trichotomy i k with hlt | heq | hgt
        · omega
        · omega
        · exact absurd (I.preE q2 hi ((okT_spec hT q2 q3 (mem_looks_dst hd.1) (by omega)).2 hgt)) r.nE
      · omega
    · rw [hst, if_pos hd]; exact hu
  · rw [if_neg hd]
    obtain ⟨m, m1, m2, m3, m4⟩ := I.tm d
    refine ⟨m, m1, ?_, ?_, m4.mono (hs.cut _)⟩
    · rintro i (hi | hi) hw
      · exact m2 i hi hw
      · subst hi
        obtain ⟨p, q2, q3, q4⟩ := hw
        rw [r.ho] at q2; cases q2
        exact absurd ⟨q3, q4⟩ hd
    · exact m3.imp id fun ⟨q, h1, h2, h3⟩ => ⟨q, h1, .inl h2, h3⟩

theorem Inv.clNext (I : Inv T ops S V σ0 w0 b cs E e σ x w) {k : Nat} {o : Oper} (r : Rdy ops E k o) : ∀ k' o', ops[k']? = some o' → (E k' ∨ k' = k) → ∀ g ∈ o'.after, Region.binds .any g = true → (E g.on ∨ g.on = k) := by
  rintro k' o' ho' (hE | hk) g hg hb
  · exact .inl (I.cl k' o' ho' hE g hg hb)
  · subst hk
    rw [r.ho] at ho'; cases ho'
    exact .inl (r.all g hg hb)

/-- a place that is no effect is listed -/
theorem Inv.next0 (C : Ctx T F rd ops l S V σ0 b) (I : Inv T ops S V σ0 w0 b cs E e σ x w) {k : Nat} {o : Oper} (r : Rdy ops E k o) (ha : ¬ act ops V k) {σ' : Ren} {w' : World} (j' : J T (fun t => (S t).h) ops.size (fun i => E i ∨ i = k) σ0 w0 e σ' w') (hs : Sub σ σ') {u : Value}
    (hu : VR (σ'.cut (S (k + 1)).h.n) ((V k).getD undef) u) : Inv T ops S V σ0 w0 b cs (fun i => E i ∨ i = k) e σ' (x.put o.dst u) w' := by
  obtain ⟨t1, t2⟩ := I.tmNext C r hs hu rfl
  exact ⟨j', fun t h1 h2 => .inl (I.lt t h1 h2), fun t h1 h2 h3 => h3.elim (I.ge t h1 h2) (fun h => ha (h ▸ h2)), I.last.imp id fun ⟨q, h1, h2, h3⟩ => ⟨q, h1, .inl h2, h3⟩,
    (I.ar.mono (hs.cut _)).put _ _, t1, t2, I.clNext r⟩

/-- the heap with nothing in it -/
def noHp (n : Nat) : Hp := ⟨.e, n, 0⟩

theorem noHp_get (n b : Nat) (y : ABlk) : (noHp n).get b ≠ some y := by
  intro h; cases h

theorem J.none (hH : HsOK (fun t => (S t).h) ops.size) (j : J T (fun t => (S t).h) ops.size E σ0 w0 e σ w) (n : Nat) (hn : (S 0).h.n ≤ n) : HR T (σ.cut n) (noHp n) w :=
  ⟨fun _ _ h => Ren.cut_dom h, fun b c x h => j.rng b c x (Ren.cut_sub _ _ _ _ h), fun b y h => absurd h (noHp_get n b y), fun b y c x h => absurd h (noHp_get n b y), fun b b' y y' c x x' h => absurd h (noHp_get n b y), fun b y h => Ren.cut_of (j.sub _ _ (Ren.cut_sub _ _ _ _ (j.gl b y h))) (Nat.lt_of_lt_of_le (Ren.cut_dom (j.gl b y h)) hn)⟩
end Go.Clo

namespace Go.Clo
open Go

variable {T : Tb} {F : Fns} {rd : Option Nat} {ops : Array Oper} {l : List DO} {S : Nat → St} {V : Nat → Option Value}

theorem memN_cons (i x : Nat) (l : List Nat) : memN i (x :: l) = cond (Nat.beq x i) true (memN i l) := rfl
theorem memN_of {i : Nat} : ∀ {l : List Nat}, i ∈ l → memN i l = true := by
  intro l
  induction l with
  | nil => intro h; cases h
  | cons x l ih =>
    intro h
    rw [memN_cons]
    rcases List.mem_cons.1 h with h | h
    · subst h; rw [Nat.beq_refl]; rfl
    · rw [ih h]; cases Nat.beq x i <;> rfl

theorem againAll_cons (T : Tb) (re : List Nat) (h : Hp) (r : RO) (l : List RO) : againAll T re h (r :: l) = cond (memN r.i re) (cond (again T r h) (againAll T re h l) false) (againAll T re h l) := rfl
theorem againAll_spec {re : List Nat} {h : Hp} : ∀ {l : List RO}, againAll T re h l = true → ∀ r ∈ l, r.i ∈ re → again T r h = true := by
  intro l
  induction l with
  | nil => intro _ r hr; cases hr
  | cons q l ih =>
    intro e r hr hi
    rw [againAll_cons] at e
    have hrest : againAll T re h l = true := by
      cases hm : memN q.i re with
      | false => rw [hm] at e; exact e
      | true =>
        rw [hm, cond_true] at e
        cases ha : again T q h with
        | false => rw [ha] at e; cases e
        | true => rw [ha] at e; exact e
    rcases List.mem_cons.1 hr with h1 | h1
    · subst h1
      rw [memN_of hi, cond_true] at e
      cases ha : again T r h with
      | false => rw [ha] at e; cases e
      | true => rfl
    · exact ih hrest r h1 hi

theorem backAll_zero (T : Tb) (r : RO) (hs : List Hp) : backAll T r 0 hs = true := rfl
theorem backAll_succ (T : Tb) (r : RO) (n : Nat) (hs : List Hp) : backAll T r (n + 1) hs = (match hs with | [] => false | h :: r' => cond (again T r h) (backAll T r n r') false) := by
  cases hs <;> rfl
theorem backAll_spec {r : RO} : ∀ {n : Nat} {hs : List Hp}, backAll T r n hs = true → ∀ j, j < n → ∃ h, hs[j]? = some h ∧ again T r h = true := by
  intro n
  induction n with
  | zero => intro hs _ j hj; omega
  | succ n ih =>
    intro hs e j hj
    rw [backAll_succ] at e
    cases hs with
    | nil => cases e
    | cons h hs =>
      simp only at e
      cases ha : again T r h with
      | false => rw [ha] at e; cases e
      | true =>
        rw [ha, cond_true] at e
        cases j with
        | zero => exact ⟨h, rfl, ha⟩
        | succ j => obtain ⟨h', h1, h2⟩ := ih e j (by omega); exact ⟨h', by simpa using h1, h2⟩

/-! how many effects lie between two places -/
noncomputable def nEff (ops : Array Oper) (a : Nat) : Nat → Nat
  | 0 => 0
  | d + 1 => nEff ops a d + (if clsAt ops.toList (a + d) = 2 then 1 else 0)

theorem Run.hs (R : Run T F rd ops l S V) {q : Nat} (hq : clsAt ops.toList q = 2) : ∀ d, q + 1 + d ≤ ops.size → (S (q + 1 + d)).hs[nEff ops (q + 1) d]? = some (S q).h := by
  have one : ∀ {k : Nat}, k < ops.size → (S (k + 1)).hs = if clsAt ops.toList k = 2 then (S k).h :: (S k).hs else (S k).hs := by
    intro k hk
    have ho := Array.getElem?_eq_getElem hk
    have hst := R.bar ho
    rw [clsAt_of ho]
    generalize hp : mkDO ops.toList (Region.before ops).toList ops[k] k = p at hst
    have heff : p.eff = decide (cls ops[k] = 2) := by
      rw [← hp]
      show Nat.beq (cls ops[k]) 2 = _
      cases hb : Nat.beq (cls ops[k]) 2 with
      | true => simp [Nat.eq_of_beq_eq_true hb]
      | false =>
        have : cls ops[k] ≠ 2 := fun h => by rw [h] at hb; cases hb
        simp [this]
    cases hv : V k with
    | none =>
      rw [hv] at hst
      obtain ⟨_, h2⟩ := hst
      rw [h2, heff]
      by_cases hc : cls ops[k] = 2 <;> simp [hc]
    | some v =>
      rw [hv] at hst
      obtain ⟨_, a1, h1, _, _, _, g1, g2, g3⟩ := hst
      by_cases hc : cls ops[k] = 2
      · rw [if_pos hc]; exact (g1 (by rw [heff]; simp [hc])).2.2
      · rw [if_neg hc]
        have he : p.eff = false := by rw [heff]; simp [hc]
        cases hr : p.rd with
        | true => exact (g2 he hr).2.2
        | false => exact (g3 he hr).2
  intro d
  induction d with
  | zero =>
    intro hd
    rw [Nat.add_zero, one (by omega), if_pos hq]
    rfl
  | succ d ih =>
    intro hd
    have h1 := ih (by omega)
    show (S (q + 1 + d + 1)).hs[nEff ops (q + 1) d + _]? = _
    rw [one (by omega)]
    by_cases hc : clsAt ops.toList (q + 1 + d) = 2
    · rw [if_pos hc, if_pos hc]; simpa using h1
    · rw [if_neg hc, if_neg hc]; simpa using h1

theorem count_le {ops : Array Oper} {p : Nat → Bool} {q : Nat} (hq : p q = true) : ∀ d, (∀ i, q < i → i < q + 1 + d → clsAt ops.toList i = 2 → p i = true) → nEff ops (q + 1) d + 1 ≤ ((List.range (q + 1 + d)).filter p).length := by
  intro d
  induction d with
  | zero =>
    intro _
    rw [Nat.add_zero, List.range_succ, List.filter_append, List.length_append]
    simp [nEff, hq]
  | succ d ih =>
    intro hp
    have h1 := ih (fun i h1 h2 => hp i h1 (by omega))
    have : q + 1 + (d + 1) = q + 1 + d + 1 := by omega
    rw [this, List.range_succ, List.filter_append, List.length_append]
    show nEff ops (q + 1) d + _ + 1 ≤ _
    by_cases hc : clsAt ops.toList (q + 1 + d) = 2
    · rw [if_pos hc]
      have := hp (q + 1 + d) (by omega) (by omega) hc
      simp only [List.filter_cons, this, if_true, List.filter_nil, List.length_cons, List.length_nil]
      omega
    · rw [if_neg hc]; omega

/-- what was read stays on record -/
theorem Run.rs (R : Run T F rd ops l S V) {k : Nat} {o : Oper} {v : Value} (ho : ops[k]? = some o) (hv : V k = some v) (hc : cls o = 0) (hm : rdMem o = true) : ∀ d, k + 1 + d ≤ ops.size → (⟨k, o, (S k).a, v⟩ : RO) ∈ (S (k + 1 + d)).rs := by
  intro d
  induction d with
  | zero =>
    intro _
    have hst := R.bar ho
    rw [hv] at hst
    obtain ⟨_, a1, h1, _, _, _, _, g2, _⟩ := hst
    have he : (mkDO ops.toList (Region.before ops).toList o k).eff = false := by show Nat.beq (cls o) 2 = false; rw [hc]; rfl
    have hr : (mkDO ops.toList (Region.before ops).toList o k).rd = true := by
      show memAt ops.toList k = true
      unfold memAt
      rw [nth_eq, Array.getElem?_toList, ho]
      simp [hc, hm]
    rw [Nat.add_zero, (g2 he hr).2.1]
    simp [mkDO]
  | succ d ih =>
    intro hd
    have h1 := ih (by omega)
    have ho' := Array.getElem?_eq_getElem (show k + 1 + d < ops.size by omega)
    have hst := R.bar ho'
    show _ ∈ (S (k + 1 + d + 1)).rs
    cases hv' : V (k + 1 + d) with
    | none =>
      rw [hv'] at hst
      obtain ⟨_, h2⟩ := hst
      rw [h2]; exact h1
    | some v' =>
      rw [hv'] at hst
      obtain ⟨_, a1, h2, _, _, _, g1, g2, g3⟩ := hst
      cases he : (mkDO ops.toList (Region.before ops).toList ops[k + 1 + d] (k + 1 + d)).eff with
      | true => rw [(g1 he).2.1]; exact h1
      | false =>
        cases hr : (mkDO ops.toList (Region.before ops).toList ops[k + 1 + d] (k + 1 + d)).rd with
        | true => rw [(g2 he hr).2.1]; exact List.mem_cons_of_mem _ h1
        | false => rw [(g3 he hr).1]; exact h1

theorem first_act {e k : Nat} (h : ∃ t, e ≤ t ∧ t < k ∧ act ops V t) : ∃ q, e ≤ q ∧ q < k ∧ act ops V q ∧ ∀ t, e ≤ t → t < q → ¬ act ops V t := by
  obtain ⟨t, h1, h2, h3⟩ := h
  induction t using Nat.strongRecOn with
  | ind t ih =>
    by_cases hx : ∃ t', e ≤ t' ∧ t' < t ∧ act ops V t'
    · obtain ⟨t', g1, g2, g3⟩ := hx
      exact ih t' g2 g1 (by omega) g3
    · exact ⟨t, h1, h2, h3, fun t' g1 g2 g3 => hx ⟨t', g1, g2, g3⟩⟩

variable {σ0 σ : Ren} {w0 w : World} {b : Frame} {cs : List Frame} {E : Nat → Prop} {e : Nat} {x : CX}

/-- a heap at which a reading place reads what it read in the text's order -/
theorem Inv.readAt (C : Ctx T F rd ops l S V σ0 b) (I : Inv T ops S V σ0 w0 b cs E e σ x w) {k : Nat} {o : Oper} (r : Rdy ops E k o) {v : Value} (hv : V k = some v) (hc : cls o = 0) :
    ∃ (σq : Ren) (h : Hp), Sub σq σ ∧ HR T σq h w ∧ h.lo ≤ h.n ∧ (∀ b y, h.lo ≤ b → h.get b ≠ some y) ∧ (∃ h', aop T (S k).a o h = some (.val v, h')) ∧ ∀ d ∈ tmpsOf o, VR σq ((S k).a.tmp d) (x.tmps.getD d undef) := by
  have hkN := (Array.getElem?_eq_some_iff.1 r.ho).1
  have hst := C.R.bar r.ho
  obtain ⟨b1, b2, b3⟩ := mkDO_o ops.toList (Region.before ops).toList o k
  have h0 := (hst.c0 (by rw [b1]; exact hc) b3).2.2 v hv
  have look : ∀ {n : Nat}, (S k).h.n ≤ n → ∀ d ∈ tmpsOf o, VR (σ.cut n) ((S k).a.tmp d) (x.tmps.getD d undef) := fun hn d hd => (I.look C r (mem_looks_opnd hd)).mono (Ren.cut_le _ hn)
  -- at the state of a place
  have at_ : ∀ q, q ≤ ops.size → J T (fun t => (S t).h) ops.size E σ0 w0 q σ w → (∃ h', aop T (S k).a o (S q).h = some (ANx.val v, h')) → (∀ d ∈ tmpsOf o, VR (σ.cut (S q).h.n) ((S k).a.tmp d) (x.tmps.getD d undef)) →
      ∃ (σq : Ren) (h : Hp), Sub σq σ ∧ HR T σq h w ∧ h.lo ≤ h.n ∧ (∀ b y, h.lo ≤ b → h.get b ≠ some y) ∧ (∃ h', aop T (S k).a o h = some (ANx.val v, h')) ∧ ∀ d ∈ tmpsOf o, VR σq ((S k).a.tmp d) (x.tmps.getD d undef) := by
    intro q hq jq ⟨h', ha⟩ hl
    refine ⟨σ.cut (S q).h.n, { (S q).h with lo := (S q).h.n }, Ren.cut_sub _ _, (jq.hr C.hH).lo _, Nat.le_refl _, fun b y hb hy => ?_, ⟨_, (cls0 hc ha).2.2 _ _⟩, hl⟩
    have h1 : b < (S q).h.n := C.hH.bnd q hq b y hy
    have h2 : (S q).h.n ≤ b := hb
    omega
  cases hm : rdMem o with
  | false =>
    refine ⟨σ.cut (S ops.size).h.n, noHp (S ops.size).h.n, Ren.cut_sub _ _, J.none C.hH I.j _ (C.hH.mono 0 ops.size (Nat.zero_le _) (Nat.le_refl _)), Nat.zero_le _, fun b y _ => noHp_get _ b y, ⟨noHp (S ops.size).h.n, cls0n hc hm (h0 0 0) _⟩, look (C.hH.mono k ops.size (by omega) (Nat.le_refl _))⟩
  | true =>
    by_cases hek : e ≤ k
    · by_cases hx : ∃ t, e ≤ t ∧ t < k ∧ act ops V t
      · -- effects are yet to be done
        obtain ⟨q, q1, q2, q3, q4⟩ := first_act hx
        have hqE := I.ge q q1 q3
        have q3' := q3
        obtain ⟨oq, vq, g1, g2, g3⟩ := q3'
        have hfree : ∀ i, q ≤ i → i < k → clsAt ops.toList i = 2 → freeB (Region.before ops).toList i k = true := by
          intro i i1 i2 i3
          have hoi := Array.getElem?_eq_getElem (show i < ops.size by omega)
          rw [clsAt_of hoi] at i3
          have n1 : ((Region.before ops).getD k 0).testBit i = false := by
            cases hb : ((Region.before ops).getD k 0).testBit i with
            | false => rfl
            | true =>
              have hEi := I.pre r hb
              rcases Nat.lt_or_ge q i with hlt | hge
              · have := okK_eff hoi ((plan_spec C.R.plan).2.2 i _ hoi).1 i3 hlt g1 (by omega)
                exact absurd (I.preE hoi hEi this) hqE
              · have : i = q := by omega
                exact absurd (this ▸ hEi) hqE
          have n2 : ((Region.before ops).getD i 0).testBit k = false := by
            cases hb : ((Region.before ops).getD i 0).testBit k with
            | false => rfl
            | true => have := before_lt C.R.plan hoi hb; omega
          unfold freeB
          rw [at_eq, at_eq, n1, n2]
          have : Nat.beq i k = false := by
            cases hb : Nat.beq i k with
            | false => rfl
            | true => have := Nat.eq_of_beq_eq_true hb; omega
          rw [this]; rfl
        have hst' := hst
        rw [hv] at hst'
        obtain ⟨_, _, _, _, _, _, _, s2, _⟩ := hst'
        have he : (mkDO ops.toList (Region.before ops).toList o k).eff = false := by show Nat.beq (cls o) 2 = false; rw [hc]; rfl
        have hr : (mkDO ops.toList (Region.before ops).toList o k).rd = true := by
          show memAt ops.toList k = true
          unfold memAt
          rw [nth_eq, Array.getElem?_toList, r.ho]
          simp [hc, hm]
        have hback := (s2 he hr).1
        obtain ⟨d, hd⟩ := Nat.le.dest (show q + 1 ≤ k by omega)
        have hcq : clsAt ops.toList q = 2 := by rw [clsAt_of g1]; exact g2
        have hcnt := count_le (ops := ops) (p := fun j => freeB (Region.before ops).toList j k && Nat.beq (clsAt ops.toList j) 2) (q := q) (by simp only [hfree q (Nat.le_refl _) q2 hcq, hcq]; rfl) d (fun i i1 i2 i3 => by simp only [hfree i (by omega) (by omega) i3, i3]; rfl)
        rw [hd] at hcnt
        obtain ⟨hq', u1, u2⟩ := backAll_spec hback (nEff ops (q + 1) d) (by show _ < ((List.range k).filter _).length; omega)
        have hhs := C.R.hs hcq d (by omega)
        rw [hd] at hhs
        rw [hhs] at u1
        cases u1
        obtain ⟨h', hag⟩ := again_spec u2
        have jq := I.j.adv C.hH q1 (by omega) (C.R.grow (by omega) q4)
        refine at_ q (by omega) jq ⟨h', hag⟩ ?_
        -- its operands lie below that mark
        intro d' hd'
        have hl := (I.look C r (mem_looks_opnd hd')).mono (Ren.cut_sub _ _)
        exact aop_low hc hm hag (fun b y hy => C.hH.bnd q (by omega) b y hy) (.tmp d') (mem_tmpsOf.1 hd') _ rfl _ _ hl
      · -- in its time
        have hn : ∀ t, e ≤ t → t < k → ¬ act ops V t := fun t h1 h2 h3 => hx ⟨t, h1, h2, h3⟩
        have jk := I.j.adv C.hH hek (by omega) (C.R.grow (by omega) hn)
        exact at_ k (by omega) jk ⟨_, h0 _ _⟩ (look (Nat.le_refl _))
    · -- effects behind it are done
      rcases I.last with h1 | ⟨q, rfl, hqE, hqa⟩
      · omega
      · have hqa' := hqa
        obtain ⟨oq, vq, g1, g2, g3⟩ := hqa'
        have hqk : k < q := by
          have : q ≠ k := fun h => r.nE (h ▸ hqE)
          omega
        have hqN := (Array.getElem?_eq_some_iff.1 g1).1
        have hstq := C.R.bar g1
        rw [g3] at hstq
        obtain ⟨_, _, _, _, _, _, s1, _, _⟩ := hstq
        have heq : (mkDO ops.toList (Region.before ops).toList oq q).eff = true := by show Nat.beq (cls oq) 2 = true; rw [g2]; rfl
        have hag := (s1 heq).1
        obtain ⟨d, hd⟩ := Nat.le.dest (show k + 1 ≤ q by omega)
        have hrs := C.R.rs r.ho hv hc hm d (by omega)
        rw [hd] at hrs
        have hfree : freeB (Region.before ops).toList k q = true := by
          have n1 : ((Region.before ops).getD q 0).testBit k = false := by
            cases hb : ((Region.before ops).getD q 0).testBit k with
            | false => rfl
            | true => exact absurd (I.preE g1 hqE hb) r.nE
          have n2 : ((Region.before ops).getD k 0).testBit q = false := by
            cases hb : ((Region.before ops).getD k 0).testBit q with
            | false => rfl
            | true => have := before_lt C.R.plan r.ho hb; omega
          unfold freeB
          rw [at_eq, at_eq, n1, n2]
          have : Nat.beq k q = false := by
            cases hb : Nat.beq k q with
            | false => rfl
            | true => have := Nat.eq_of_beq_eq_true hb; omega
          rw [this]; rfl
        have hmem : k ∈ (mkDO ops.toList (Region.before ops).toList oq q).re := by
          show k ∈ (List.range q).filter _
          rw [List.mem_filter, List.mem_range]
          refine ⟨hqk, ?_⟩
          have : memAt ops.toList k = true := by
            unfold memAt
            rw [nth_eq, Array.getElem?_toList, r.ho]
            simp [hc, hm]
          simp [hfree, this]
        obtain ⟨h', ha⟩ := again_spec (againAll_spec hag _ hrs hmem)
        exact at_ (q + 1) (by omega) I.j ⟨h', ha⟩ (look (C.hH.mono k (q + 1) (by omega) (by omega)))
end Go.Clo
