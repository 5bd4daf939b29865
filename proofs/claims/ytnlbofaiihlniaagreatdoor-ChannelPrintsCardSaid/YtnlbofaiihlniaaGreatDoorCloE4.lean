/- An evaluator for closed calls of the model, with its proof: what it yields is what the call returns (a part of it). No condition beyond those that its theorems state. -/
import Derived.Test.YtnlbofaiihlniaaGreatDoorCloE3
set_option linter.unusedVariables false
set_option linter.unusedSimpArgs false
namespace Go.Clo
open Go

variable {T : Tb} {F : Fns}

theorem wanted_eq1 {σ : Ren} {a : AF} {x : CX} (ops : Array Oper) (o : Oper) (H : ∀ j want p d, o.guard = some (j, want) → ops[j]? = some p → p.dst = some d → VR σ (a.tmp d) (x.tmps.getD d undef)) : wantedA ops.toList a o = Region.wanted o (yielded ops x.tmps) := by
  unfold wantedA Region.wanted
  split
  · rename_i hg; rw [hg]
  · rename_i j want hg
    rw [hg]
    simp only [yielded]
    rw [nth_eq]
    simp only [Array.getElem?_toList]
    split
    · rename_i p hp
      rw [hp]
      simp only [Option.bind_some]
      split
      · rename_i d hd
        rw [hd]
        simp only [Option.bind_some]
        have hv := H j want p d hg hp hd
        unfold AF.tmp at hv
        have hgd : x.tmps.getD d undef = (x.tmps[d]?).getD undef := by simp [Array.getD_eq_getD_getElem?]
        rw [hgd] at hv
        split
        · rename_i bb hb
          rw [hb] at hv
          have := (bool_of hv bb).1 rfl
          cases hx : x.tmps[d]? with
          | none => rw [hx] at this; cases this
          | some u =>
            rw [hx] at this
            simp only [Option.getD_some] at this
            subst this
            cases bb <;> cases want <;> rfl
        · rename_i hnb
          cases hx : x.tmps[d]? with
          | none => cases want <;> rfl
          | some u =>
            rw [hx] at hv
            simp only [Option.getD_some] at hv
            cases u with
            | bool bb =>
              exfalso
              cases ht : a.tm.get d with
              | none => rw [ht] at hv; cases hv
              | some v =>
                rw [ht] at hv
                simp only at hv
                exact hnb bb (by rw [ht, (bool_of hv bb).2 rfl])
            | _ => cases want <;> rfl
      · rename_i hd; rw [hd]; cases want <;> rfl
    · rename_i hp; rw [hp]; cases want <;> rfl

theorem mem_looks_dst {ops : List Oper} {o : Oper} {d : Nat} (h : o.dst = some d) : d ∈ looks ops o := by
  unfold looks; simp [h]

theorem mem_looks_opnd {ops : List Oper} {o : Oper} {d : Nat} (h : d ∈ tmpsOf o) : d ∈ looks ops o := by
  unfold looks
  rw [List.append_assoc, List.mem_append, List.mem_append]
  exact .inr (.inl h)

theorem mem_looks_guard {ops : List Oper} {o p : Oper} {j : Nat} {want : Bool} {d : Nat} (hg : o.guard = some (j, want)) (hp : ops[j]? = some p) (hd : p.dst = some d) : d ∈ looks ops o := by
  unfold looks
  rw [List.mem_append]
  right
  rw [hg]
  simp only [nth_eq, hp, hd]
  simp

/-- a value is reckoned -/
theorem val_step {σ : Ren} {h h1 : Hp} {w : World} {b : Frame} {x : CX} {cs : List Frame} {ops : Array Oper} {i : Nat} {rest : List Nat} {K : List Item} {o : Oper} {v : Value} (ho : ops[i]? = some o) (hw : Region.wanted o (yielded ops x.tmps) = true) (hc : cls o ≠ 3)
    (G : Good T σ h w (.val v) h1 (execOp x.act.eval o)) : ∃ σ1 w1 u, VR σ1 v u ∧ HR T σ1 h1 w1 ∧ Keep σ h w σ1 h1 w1 ∧ Steps T.P (M b x (.inRegion ops (i :: rest) :: K) cs w) (M b (x.put o.dst u) (.inRegion ops rest :: K) cs w1) := by
  obtain ⟨σ1, w1, N, H1, K1⟩ := G
  obtain ⟨u, hr, hv⟩ := N
  refine ⟨σ1, w1, u, hv, H1, K1, .one (s_value ho hw (.inr fun c hh => ?_) hr)⟩
  apply hc
  unfold cls
  rw [hh]

variable {rd : Option Nat} {ops : Array Oper} {l : List DO} {S : Nat → St} {V : Nat → Option Value}

structure Ctx (T : Tb) (F : Fns) (rd : Option Nat) (ops : Array Oper) (l : List DO) (S : Nat → St) (V : Nat → Option Value) (σ0 : Ren) (b : Frame) : Prop where
  R : Run T F rd ops l S V
  hH : HsOK (fun t => (S t).h) ops.size
  val : ∀ k v, k < ops.size → V k = some v → ∃ σt u, VR σt v u ∧ ∀ b y, σt b = some y → b < (S (k + 1)).h.n
  lo : ∀ t, t ≤ ops.size → (S t).h.lo = (S 0).h.lo
  lon : (S 0).h.lo ≤ (S 0).h.n
  rdr : RdR σ0 rd b.roundOf
  dom0 : ∀ b y, σ0 b = some y → b < (S 0).h.n

structure Inv (T : Tb) (ops : Array Oper) (S : Nat → St) (V : Nat → Option Value) (σ0 : Ren) (w0 : World) (b : Frame) (cs : List Frame) (E : Nat → Prop) (e : Nat) (σ : Ren) (x : CX) (w : World) : Prop where
  j : J T (fun t => (S t).h) ops.size E σ0 w0 e σ w
  lt : ∀ t, t < e → act ops V t → E t
  ge : ∀ t, e ≤ t → act ops V t → ¬ E t
  last : e = 0 ∨ ∃ q, e = q + 1 ∧ E q ∧ act ops V q
  ar : AR0 (σ.cut (S e).h.n) (S e).a b x cs
  sz : x.tmps.size = (S 0).a.sz
  tm : ∀ d, ∃ m, m ≤ ops.size ∧ (∀ i, E i → wr ops (S 0).a.sz i d → i < m) ∧ (m = 0 ∨ ∃ q, m = q + 1 ∧ E q ∧ wr ops (S 0).a.sz q d) ∧ VR (σ.cut (S m).h.n) ((S m).a.tmp d) (x.tmps.getD d undef)
  cl : ∀ k o, ops[k]? = some o → E k → ∀ g ∈ o.after, Region.binds .any g = true → E g.on

variable {σ0 σ : Ren} {w0 w : World} {b : Frame} {cs : List Frame} {E : Nat → Prop} {e : Nat} {x : CX}

theorem before_lt (hp : plan ops = some l) {k : Nat} {o : Oper} (ho : ops[k]? = some o) {j : Nat} (h : ((Region.before ops).getD k 0).testBit j = true) : j < k := by
  refine before_closed (P := fun i => i < k) (fun k' o' ho' hk' g hg hb => ?_) k o ho (fun g hg hb => ?_) j h
  · exact Nat.lt_trans (okA_spec ((plan_spec hp).2.2 k' o' ho').2.2 g hg hb) hk'
  · exact okA_spec ((plan_spec hp).2.2 k o ho).2.2 g hg hb

/-- a place that has all that it waits for -/
structure Rdy (ops : Array Oper) (E : Nat → Prop) (k : Nat) (o : Oper) : Prop where
  ho : ops[k]? = some o
  nE : ¬ E k
  all : ∀ g ∈ o.after, Region.binds .any g = true → E g.on

theorem Inv.pre (I : Inv T ops S V σ0 w0 b cs E e σ x w) {k : Nat} {o : Oper} (r : Rdy ops E k o) {j : Nat} (h : ((Region.before ops).getD k 0).testBit j = true) : E j :=
  before_closed I.cl k o r.ho r.all j h

theorem Inv.preE (I : Inv T ops S V σ0 w0 b cs E e σ x w) {q : Nat} {o : Oper} (ho : ops[q]? = some o) (hE : E q) {j : Nat} (h : ((Region.before ops).getD q 0).testBit j = true) : E j :=
  before_closed I.cl q o ho (I.cl q o ho hE) j h

/-- the temporaries that a ready place looks at are those of its place in the text -/
theorem Inv.look (C : Ctx T F rd ops l S V σ0 b) (I : Inv T ops S V σ0 w0 b cs E e σ x w) {k : Nat} {o : Oper} (r : Rdy ops E k o) {d : Nat} (hd : d ∈ looks ops.toList o) :
    VR (σ.cut (S k).h.n) ((S k).a.tmp d) (x.tmps.getD d undef) := by
  obtain ⟨m, m1, m2, m3, m4⟩ := I.tm d
  have hT := ((plan_spec C.R.plan).2.2 k o r.ho).2.1
  have hkN := (Array.getElem?_eq_some_iff.1 r.ho).1
  have hmk : m ≤ k := by
    rcases m3 with m3 | ⟨q, rfl, q1, p, q2, q3, q4⟩
    · omega
    · have hqk : q ≠ k := fun h => r.nE (h ▸ q1)
      rcases Nat.lt_or_ge k q with hlt | hge
      · exact absurd (I.preE q2 q1 ((okT_spec hT q2 q3 hd hqk).2 hlt)) r.nE
      · omega
  have hconst : (S k).a.tmp d = (S m).a.tmp d := by
    obtain ⟨j, rfl⟩ := Nat.le.dest hmk
    refine C.R.tmpConst j (by omega) fun i i1 i2 hw => ?_
    obtain ⟨p, q2, q3, q4⟩ := hw
    have := m2 i (I.pre r ((okT_spec hT q2 q3 hd (by omega)).1 (by omega))) ⟨p, q2, q3, q4⟩
    omega
  rw [hconst]
  exact m4.mono (Ren.cut_le _ (C.hH.mono m k hmk (by omega)))

theorem Inv.want (C : Ctx T F rd ops l S V σ0 b) (I : Inv T ops S V σ0 w0 b cs E e σ x w) {k : Nat} {o : Oper} (r : Rdy ops E k o) : wantedA ops.toList (S k).a o = Region.wanted o (yielded ops x.tmps) :=
  wanted_eq1 (σ := σ.cut (S k).h.n) ops o fun j want p d hg hp hd => I.look C r (mem_looks_guard hg (by simpa using hp) hd)

/-- the temporaries behind a place -/
theorem Inv.tmNext (C : Ctx T F rd ops l S V σ0 b) (I : Inv T ops S V σ0 w0 b cs E e σ x w) {k : Nat} {o : Oper} (r : Rdy ops E k o) {σ' : Ren} (hs : Sub σ σ') {u : Value} (hu : VR (σ'.cut (S (k + 1)).h.n) ((V k).getD undef) u) {x1 : CX} (hx : x1.tmps = x.tmps) :
    (x1.put o.dst u).tmps.size = (S 0).a.sz ∧ ∀ d, ∃ m, m ≤ ops.size ∧ (∀ i, (E i ∨ i = k) → wr ops (S 0).a.sz i d → i < m) ∧ (m = 0 ∨ ∃ q, m = q + 1 ∧ (E q ∨ q = k) ∧ wr ops (S 0).a.sz q d) ∧
      VR (σ'.cut (S m).h.n) ((S m).a.tmp d) ((x1.put o.dst u).tmps.getD d undef) := by
  have hkN := (Array.getElem?_eq_some_iff.1 r.ho).1
  refine ⟨by rw [CX.put_size, hx]; exact I.sz, fun d => ?_⟩
  have hT := ((plan_spec C.R.plan).2.2 k o r.ho).2.1
  rw [CX.put_get, hx, I.sz]
  have hst := (C.R.bar r.ho).tmp.2 d
  rw [C.R.sz k (by omega), (mkDO_o ops.toList (Region.before ops).toList o k).1] at hst
  by_cases hd : o.dst = some d ∧ d < (S 0).a.sz
  · rw [if_pos hd]
    refine ⟨k + 1, by omega, ?_, .inr ⟨k, rfl, .inr rfl, o, r.ho, hd.1, hd.2⟩, ?_⟩
    · rintro i (hi | hi) ⟨p, q2, q3, q4⟩
      · rcases Nat.lt_trichotomy i k with hlt | heq | hgt
        · omega
        · omega
        · exact absurd (I.preE q2 hi ((okT_spec hT q2 q3 (mem_looks_dst hd.1) (by omega)).2 hgt)) r.nE
      · omega
    · rw [hst, if_pos hd]; exact hu
  · rw [if_neg hd]
    obtain ⟨m, m1, m2, m3, m4⟩ := I.tm d
    refine ⟨m, m1, ?_, ?_, m4.mono (hs.cut _)⟩
    · rintro i (hi | hi) hw
      · exact m2 i hi hw
      · subst hi
        obtain ⟨p, q2, q3, q4⟩ := hw
        rw [r.ho] at q2; cases q2
        exact absurd ⟨q3, q4⟩ hd
    · exact m3.imp id fun ⟨q, h1, h2, h3⟩ => ⟨q, h1, .inl h2, h3⟩

theorem Inv.clNext (I : Inv T ops S V σ0 w0 b cs E e σ x w) {k : Nat} {o : Oper} (r : Rdy ops E k o) : ∀ k' o', ops[k']? = some o' → (E k' ∨ k' = k) → ∀ g ∈ o'.after, Region.binds .any g = true → (E g.on ∨ g.on = k) := by
  rintro k' o' ho' (hE | hk) g hg hb
  · exact .inl (I.cl k' o' ho' hE g hg hb)
  · subst hk
    rw [r.ho] at ho'; cases ho'
    exact .inl (r.all g hg hb)

/-- a place that is no effect is listed -/
theorem Inv.next0 (C : Ctx T F rd ops l S V σ0 b) (I : Inv T ops S V σ0 w0 b cs E e σ x w) {k : Nat} {o : Oper} (r : Rdy ops E k o) (ha : ¬ act ops V k) {σ' : Ren} {w' : World} (j' : J T (fun t => (S t).h) ops.size (fun i => E i ∨ i = k) σ0 w0 e σ' w') (hs : Sub σ σ') {u : Value}
    (hu : VR (σ'.cut (S (k + 1)).h.n) ((V k).getD undef) u) : Inv T ops S V σ0 w0 b cs (fun i => E i ∨ i = k) e σ' (x.put o.dst u) w' := by
  obtain ⟨t1, t2⟩ := I.tmNext C r hs hu rfl
  exact ⟨j', fun t h1 h2 => .inl (I.lt t h1 h2), fun t h1 h2 h3 => h3.elim (I.ge t h1 h2) (fun h => ha (h ▸ h2)), I.last.imp id fun ⟨q, h1, h2, h3⟩ => ⟨q, h1, .inl h2, h3⟩,
    (I.ar.mono (hs.cut _)).put _ _, t1, t2, I.clNext r⟩

/-- the heap with nothing in it -/
def noHp (n : Nat) : Hp := ⟨.e, n, 0⟩

theorem noHp_get (n b : Nat) (y : ABlk) : (noHp n).get b ≠ some y := by
  intro h; cases h

theorem J.none (hH : HsOK (fun t => (S t).h) ops.size) (j : J T (fun t => (S t).h) ops.size E σ0 w0 e σ w) (n : Nat) : HR T (σ.cut n) (noHp n) w :=
  ⟨fun _ _ h => Ren.cut_dom h, fun b c x h => j.rng b c x (Ren.cut_sub _ _ _ _ h), fun b y h => absurd h (noHp_get n b y), fun b y c x h => absurd h (noHp_get n b y), fun b b' y y' c x x' h => absurd h (noHp_get n b y)⟩
end Go.Clo
