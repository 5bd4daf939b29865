/- Contracts of functions that the laws of this seat call, or the evaluator of closed calls and its runs. Conditions: as each theorem states them. -/
import Derived.Test.YtddlghdglknloaaGreatDoorCloSD
set_option linter.unusedVariables false
set_option linter.unusedSimpArgs false
/- Contracts of functions that the laws of this seat call, or the evaluator of closed calls and its runs. Conditions: as each theorem states them. -/
set_option linter.unusedVariables false
set_option linter.unusedSimpArgs false
namespace Go.Clo
open Go

def kd : Option FrameMode → CallKind
  | none => .normal
  | some _ => .deferred

def UmR (σ : Ren) (um um' : Option FrameMode) (cs : List Frame) : Prop :=
  match um, um' with
  | none, none => True
  | some u, some m => MR σ u m ∧ cs ≠ []
  | _, _ => False

def RdR (σ : Ren) (rd rd' : Option Nat) : Prop :=
  match rd, rd' with
  | none, none => True
  | some l, some c => ∃ x, σ l = some (c, x)
  | _, _ => False

structure AR (σ : Ren) (a : AF) (b : Frame) (x : CX) (cs : List Frame) : Prop where
  tm : TmR σ a.tm a.sz x.tmps
  ds : All2 (DR σ) a.ds x.defers
  fn : b.fn = a.fn
  kind : b.kind = kd a.um
  um : UmR σ a.um x.um cs

inductive ER (σ : Ren) : AE → AE → Prop
  | normal : ER σ .normal .normal
  | exit (id : Nat) : ER σ (.exit id) (.exit id)
  | goto (l : Nat) : ER σ (.goto l) (.goto l)
  | ret : ER σ .ret .ret
  | panic {c d : List PanicEntry} (h : All2 (PR σ) c d) : ER σ (.panic c) (.panic d)

inductive RtR (σ : Ren) : Rt → Rt → Prop
  | ret {v u : Value} (h : VR σ v u) : RtR σ (.ret v) (.ret u)
  | pan {c d : List PanicEntry} (h : All2 (PR σ) c d) : RtR σ (.pan c) (.pan d)

theorem UmR.mono {σ σ' : Ren} (hs : Sub σ σ') {um um' : Option FrameMode} {cs : List Frame} (h : UmR σ um um' cs) : UmR σ' um um' cs := by
  cases um <;> cases um' <;> simp_all [UmR]
  exact h.1.mono hs

theorem RdR.mono {σ σ' : Ren} (hs : Sub σ σ') {rd rd' : Option Nat} (h : RdR σ rd rd') : RdR σ' rd rd' := by
  cases rd <;> cases rd' <;> simp_all [RdR]
  obtain ⟨x, hx⟩ := h; exact ⟨x, hs _ _ hx⟩

theorem AR.mono {σ σ' : Ren} (hs : Sub σ σ') {a : AF} {b : Frame} {x : CX} {cs : List Frame} (h : AR σ a b x cs) : AR σ' a b x cs :=
  ⟨h.tm.mono hs, h.ds.mono (DR.mono hs), h.fn, h.kind, h.um.mono hs⟩

theorem AR.ev {σ : Ren} {a : AF} {b : Frame} {x : CX} {cs : List Frame} (h : AR σ a b x cs) : EvR σ a x.act := fun i => h.tm.val i

theorem AR.put {σ : Ren} {a : AF} {b : Frame} {x : CX} {cs : List Frame} (h : AR σ a b x cs) {v u : Value} (hv : VR σ v u) (d : Option Tmp) : AR σ (a.put d v) b (x.put d u) cs := by
  cases d with
  | none => exact h
  | some d =>
    show AR σ (cond (Nat.ble (Nat.succ d) a.sz) { a with tm := a.tm.set d v } a) b { x with tmps := x.tmps.setIfInBounds d u } cs
    cases hb : Nat.ble (Nat.succ d) a.sz with
    | true => rw [cond_true]; exact ⟨h.tm.set (Nat.le_of_ble_eq_true hb) hv, h.ds, h.fn, h.kind, h.um⟩
    | false =>
      have hge : a.sz ≤ d := by
        rcases Nat.lt_or_ge d a.sz with hh | hh
        · rw [Nat.ble_eq_true_of_le hh] at hb; cases hb
        · exact hh
      have : x.tmps.setIfInBounds d u = x.tmps := Array.setIfInBounds_eq_of_size_le (by rw [h.tm.size]; exact hge)
      rw [cond_false, this]
      exact h

def Arr (P : Program) (m : Machine) (b : Frame) (k : List Item) (cs : List Frame) (e : AE) (x : CX) (w : World) : Prop :=
  match e with
  | .normal => Steps P m (M b x k cs w)
  | .exit id => ∃ k', Steps P m (M b x (.code (.exit id) :: k') cs w) ∧ exitTo id k' = exitTo id k
  | .goto l => ∃ k', Steps P m (M b x (.code (.goto l) :: k') cs w) ∧ gotoIn l k' = gotoIn l k
  | .ret => ∃ k', Steps P m (M b x (.code .ret :: k') cs w)
  | .panic ch => ∃ k', Steps P m (lone { fat b x k' with mode := .panicking ch } (upc x.um cs) w)

theorem Arr.of_steps {P : Program} {m m' : Machine} {b : Frame} {k : List Item} {cs : List Frame} {e : AE} {x : CX} {w : World} (h : Steps P m m') (h' : Arr P m' b k cs e x w) : Arr P m b k cs e x w := by
  cases e with
  | normal => exact h.trans h'
  | exit id => obtain ⟨k', h1, h2⟩ := h'; exact ⟨k', h.trans h1, h2⟩
  | goto l => obtain ⟨k', h1, h2⟩ := h'; exact ⟨k', h.trans h1, h2⟩
  | ret => obtain ⟨k', h1⟩ := h'; exact ⟨k', h.trans h1⟩
  | panic ch => obtain ⟨k', h1⟩ := h'; exact ⟨k', h.trans h1⟩

/-- a plain item is passed by -/
theorem Arr.pass {P : Program} {m : Machine} {b : Frame} {y : Item} {k : List Item} {cs : List Frame} {e : AE} {x : CX} {w : World} (hy : (match y with | .inBlock _ | .inScope _ => false | _ => true) = true) (he : e ≠ .normal)
    (h : Arr P m b (y :: k) cs e x w) : Arr P m b k cs e x w := by
  cases e with
  | normal => exact absurd rfl he
  | exit id => obtain ⟨k', h1, h2⟩ := h; exact ⟨k', h1, by rw [h2]; cases y <;> simp_all [exitTo]⟩
  | goto l => obtain ⟨k', h1, h2⟩ := h; exact ⟨k', h1, by rw [h2]; cases y <;> simp_all [gotoIn]⟩
  | ret => exact h
  | panic ch => exact h

def Left (P : Program) (m0 : Machine) (f : FuncId) (kind : CallKind) (r : Rt) (um : Option FrameMode) (cs : List Frame) (w : World) : Prop :=
  ∃ fr fn, Steps P m0 (lone fr (upc um cs) w) ∧ fr.fn = f ∧ fr.kind = kind ∧ fr.defers = [] ∧ P.funcs[f]? = some fn ∧
    match r with
    | .ret v => fr.mode = .returning ∧ (results fn fr.tmps).run P w = .ok v w
    | .pan ch => fr.mode = .panicking ch

structure Snd (T : Tb) (F : Fns) : Prop where
  code : ∀ {rd : Option Nat} {c : Code} {a : AF} {h : Hp} {e : AE} {a' : AF} {h' : Hp}, F.code rd c a h = some (e, a', h') →
    ∀ {σ : Ren} {w : World} {b : Frame} {x : CX} {cs : List Frame}, AR σ a b x cs → RdR σ rd b.roundOf → HR T σ h w → h.lo ≤ h.n → ∀ (k : List Item),
    ∃ σ' w' x' e', AR σ' a' b x' cs ∧ HR T σ' h' w' ∧ Keep σ h w σ' h' w' ∧ ER σ' e e' ∧ Arr T.P (M b x (.code c :: k) cs w) b k cs e' x' w'
  call : ∀ {f : FuncId} {args : List Value} {um : Option FrameMode} {h : Hp} {r : Rt} {um' : Option FrameMode} {h' : Hp}, F.call f args um h = some (r, um', h') →
    ∀ {σ : Ren} {w : World} {args' : Array Value} {m : Option FrameMode} {cs : List Frame}, VRs σ args args'.toList → UmR σ um m cs → HR T σ h w → h.lo ≤ h.n →
    ∃ σ' w' r' m', RtR σ' r r' ∧ UmR σ' um' m' cs ∧ um'.isSome = um.isSome ∧ HR T σ' h' w' ∧ Keep σ h w σ' h' w' ∧ Left T.P (lone (Frame.enter T.P f args' (kd um)) (upc m cs) w) f (kd um) r' m' cs w'
  round : ∀ {l : Nat} {args : List Value} {h : Hp} {r : Rt} {h' : Hp}, F.round l args h = some (r, h') →
    ∀ {σ : Ren} {w : World} {args' : Array Value} {c x0 : Nat}, σ l = some (c, x0) → VRs σ args args'.toList → HR T σ h w → h.lo ≤ h.n → ∀ (caller : Frame) (cs : List Frame),
    ∃ σ' w' r', RtR σ' r r' ∧ HR T σ' h' w' ∧ Keep σ h w σ' h' w' ∧ ∃ fn tmps as bd, (Instr.yield c args').run T.P w = .ok (.round c fn tmps as bd) w ∧
      match r' with
      | .ret v => Steps T.P (lone (Frame.round c fn tmps as bd .normal) (caller :: cs) w) (lone (caller.finish v) cs w')
      | .pan ch => Steps T.P (lone (Frame.round c fn tmps as bd .normal) (caller :: cs) w) (lone (caller.raise ch) cs w')
  defers : ∀ {ds : List Deferred} {m : FrameMode} {h : Hp} {m' : FrameMode} {h' : Hp}, F.defers ds m h = some (m', h') →
    ∀ {σ : Ren} {w : World} {fr : Frame} {cs : List Frame}, All2 (DR σ) ds fr.defers → MR σ m fr.mode → m ≠ .run → HR T σ h w → h.lo ≤ h.n →
    ∃ σ' w' mm, MR σ' m' mm ∧ m' ≠ .run ∧ HR T σ' h' w' ∧ Keep σ h w σ' h' w' ∧ Steps T.P (lone fr cs w) (lone { fr with defers := [], mode := mm } cs w')

theorem Keep.lo' {σ σ' : Ren} {h h' : Hp} {w w' : World} (k : Keep σ h w σ' h' w') (hlo : h.lo ≤ h.n) : h'.lo ≤ h'.n := by
  have := k.n; have := k.lo; omega

variable {T : Tb} {F : Fns}

theorem Left.returned {P : Program} {m0 : Machine} {f : FuncId} {v : Value} {c : Frame} {cs : List Frame} {w : World} (h : Left P m0 f .normal (.ret v) none (c :: cs) w) : Steps P m0 (lone (c.finish v) cs w) := by
  obtain ⟨fr, fn, hs, hf, hk, hd, hfn, hm, hr⟩ := h
  refine hs.trans (.one ?_)
  exact step_leave_returned ⟨hm, hd, hk, fn, by rw [hf]; exact hfn, hr⟩

theorem Left.panicked {P : Program} {m0 : Machine} {f : FuncId} {ch : List PanicEntry} {kind : CallKind} {um : Option FrameMode} {c : Frame} {cs : List Frame} {w : World} (h : Left P m0 f kind (.pan ch) um (c :: cs) w) :
    Steps P m0 (lone ((match um with | some m => { c with mode := m } | none => c).raise ch) cs w) := by
  obtain ⟨fr, fn, hs, hf, hk, hd, hfn, hm⟩ := h
  refine hs.trans (.one ?_)
  cases um with
  | none => exact step_leave_panicked ⟨hm, hd, fn, by rw [hf]; exact hfn⟩
  | some m => exact step_leave_panicked ⟨hm, hd, fn, by rw [hf]; exact hfn⟩

theorem fat_raise {b : Frame} {x : CX} {k : List Item} (ch : List PanicEntry) : (fat b x k).raise ch = { fat b x k with mode := .panicking ch } := rfl


/-- the relation of frames but for the temporaries -/
structure AR0 (σ : Ren) (a : AF) (b : Frame) (x : CX) (cs : List Frame) : Prop where
  ds : All2 (DR σ) a.ds x.defers
  fn : b.fn = a.fn
  kind : b.kind = kd a.um
  um : UmR σ a.um x.um cs

theorem AR.r0 {σ : Ren} {a : AF} {b : Frame} {x : CX} {cs : List Frame} (h : AR σ a b x cs) : AR0 σ a b x cs := ⟨h.ds, h.fn, h.kind, h.um⟩
theorem AR0.mono {σ σ' : Ren} (hs : Sub σ σ') {a : AF} {b : Frame} {x : CX} {cs : List Frame} (h : AR0 σ a b x cs) : AR0 σ' a b x cs :=
  ⟨h.ds.mono (DR.mono hs), h.fn, h.kind, h.um.mono hs⟩

/-- a single operation -/
theorem doOp_spec0 (hF : Snd T F) {rd : Option Nat} {a a' : AF} {o : Oper} {h h' : Hp} {r : Rt} (e : doOp T F rd a o h = some (r, a', h'))
    {σ : Ren} {w : World} {b : Frame} {x : CX} {cs : List Frame} (A : AR0 σ a b x cs) (hG : ∀ nx h1, aop T a o h = some (nx, h1) → Good T σ h w nx h1 (execOp x.act.eval o)) (R : RdR σ rd b.roundOf) (hlo : h.lo ≤ h.n)
    {ops : Array Oper} {i : Nat} {rest : List Nat} {k : List Item} (ho : ops[i]? = some o) (hw : Region.wanted o (yielded ops x.tmps) = true) :
    ∃ σ' w' x' r', AR0 σ' a' b x' cs ∧ a'.tm = a.tm ∧ a'.sz = a.sz ∧ x'.tmps = x.tmps ∧ HR T σ' h' w' ∧ Keep σ h w σ' h' w' ∧ RtR σ' r r' ∧
      match r' with
      | .ret v => Steps T.P (M b x (.inRegion ops (i :: rest) :: k) cs w) (M b (x'.put o.dst v) (.inRegion ops rest :: k) cs w')
      | .pan ch => ∃ k', Steps T.P (M b x (.inRegion ops (i :: rest) :: k) cs w) (lone { fat b x' k' with mode := .panicking ch } (upc x'.um cs) w') := by
  unfold doOp at e
  split at e
  · rename_i nx h1 hop
    obtain ⟨σ1, w1, N, H1, K1⟩ := hG _ _ hop
    have hd : (∃ d, nx = .defer d) ∨ b.roundOf = none ∨ ∀ c, o.op ≠ .defer c := by
      cases hoo : o.op with
      | defer c =>
        left
        simp only [aop, opPickA, opAllocA, opBoxA, opLoadA, opStoreA, opNilCheckA, opFieldAddrA, opFieldA, opIndexAddrA, opIndexA, opSliceA, opBuildA, opBuildSliceA, opMakeSliceA, opMakeMapA, opLookupA, opMapUpdateA, opRangeA, opNextA, opExtractA, opMakeInterfaceA, opMakeFuncA, opTypeAssertA, opCallA, opDeferA, opPanicA, opBinOpA, opConvertA, opUnOpA, hoo] at hop
        split at hop
        · simp only [Option.some.injEq, Prod.mk.injEq] at hop; exact ⟨_, hop.1.symm⟩
        · cases hop
      | _ => right; right; intro c hh; cases hh
    have A1 := A.mono K1.sub
    have hlo1 := K1.lo' hlo
    cases nx with
    | val v =>
      simp only [doNx, Option.some.injEq, Prod.mk.injEq] at e
      obtain ⟨rfl, rfl, rfl⟩ := e
      obtain ⟨u, hr, hv⟩ := N
      have hd' := hd.resolve_left (by rintro ⟨d, hh⟩; cases hh)
      exact ⟨σ1, w1, x, .ret u, A1, rfl, rfl, rfl, H1, K1, .ret hv, .one (s_value ho hw hd' hr)⟩
    | skip =>
      simp only [doNx, Option.some.injEq, Prod.mk.injEq] at e
      obtain ⟨rfl, rfl, rfl⟩ := e
      have hd' := hd.resolve_left (by rintro ⟨d, hh⟩; cases hh)
      exact ⟨σ1, w1, x, .ret undef, A1, rfl, rfl, rfl, H1, K1, .ret (undefR _), .one (s_skipOp ho hw hd' N)⟩
    | enter f args =>
      have hd' := hd.resolve_left (by rintro ⟨d, hh⟩; cases hh)
      simp only [doNx] at e
      split at e
      · rename_i r1 um1 h2 hc
        simp only [Option.some.injEq, Prod.mk.injEq] at e
        obtain ⟨rfl, rfl, rfl⟩ := e
        obtain ⟨args', hr, hv⟩ := N
        obtain ⟨σ2, w2, r2, m2, q1, q2, q3, q4, q5, q6⟩ := hF.call hc (m := none) (cs := fat b x (.inRegion ops (i :: rest) :: k) :: upc x.um cs) hv trivial H1 hlo1
        have hm2 : m2 = none := by
          cases um1 with
          | some u => simp at q3
          | none => cases m2 <;> simp_all [UmR]
        subst hm2
        refine ⟨σ2, w2, x, r2, A1.mono q5.sub, rfl, rfl, rfl, q4, K1.trans q5, q1, ?_⟩
        have h1 := s_enter (k := k) (rest := rest) (cs := cs) ho hw hd' hr
        cases q1 with
        | ret hvv =>
          rename_i v u
          have := Left.returned q6
          rw [fat_finish ho] at this
          have hu : (x.put o.dst u).um = x.um := by unfold CX.put; split <;> rfl
          exact .head h1 (by unfold M; rw [hu]; exact this)
        | pan hch =>
          have := Left.panicked q6
          exact ⟨_, .head h1 this⟩
      · cases e
    | round l args =>
      have hd' := hd.resolve_left (by rintro ⟨d, hh⟩; cases hh)
      simp only [doNx] at e
      split at e
      · rename_i r1 h2 hc
        simp only [Option.some.injEq, Prod.mk.injEq] at e
        obtain ⟨rfl, rfl, rfl⟩ := e
        obtain ⟨c, x0, args', hσ, hv, hr⟩ := N
        obtain ⟨σ2, w2, r2, q1, q2, q3, fn, tmps, as, bd, q4, q5⟩ := hF.round hc hσ hv H1 hlo1 (fat b x (.inRegion ops (i :: rest) :: k)) (upc x.um cs)
        refine ⟨σ2, w2, x, r2, A1.mono q3.sub, rfl, rfl, rfl, q2, K1.trans q3, q1, ?_⟩
        have h1 := s_round (k := k) (rest := rest) (cs := cs) ho hw hd' (hr.trans q4)
        cases q1 with
        | ret hvv =>
          rename_i v u
          simp only at q5
          rw [fat_finish ho] at q5
          have hu : (x.put o.dst u).um = x.um := by unfold CX.put; split <;> rfl
          exact .head h1 (by unfold M; rw [hu]; exact q5)
        | pan hch => exact ⟨_, .head h1 q5⟩
      · cases e
    | defer d =>
      simp only [doNx] at e
      split at e
      · simp only [Option.some.injEq, Prod.mk.injEq] at e
        obtain ⟨rfl, rfl, rfl⟩ := e
        obtain ⟨d', hr, hv⟩ := N
        have hrn : b.roundOf = none := by cases hb : b.roundOf <;> simp_all [RdR]
        exact ⟨σ1, w1, { x with defers := d' :: x.defers }, .ret undef, ⟨.cons hv A1.ds, A1.fn, A1.kind, A1.um⟩, rfl, rfl, rfl, H1, K1, .ret (undefR _), .one (s_defer ho hw hrn hr)⟩
      · cases e
    | recover =>
      simp only [doNx] at e
      split at e
      · cases e
      · have hrn : b.roundOf = none := by cases hb : b.roundOf <;> simp_all [RdR]
        split at e
        · rename_i v older hum
          simp only [Option.some.injEq, Prod.mk.injEq] at e
          obtain ⟨rfl, rfl, rfl⟩ := e
          have hU := A1.um
          rw [hum] at hU
          cases hxm : x.um with
          | none => rw [hxm] at hU; exact hU.elim
          | some m =>
            rw [hxm] at hU
            obtain ⟨hm, hcs⟩ := hU
            cases hm with
            | panicking hch =>
              cases hch with
              | cons hp hch =>
                rename_i pe old'
                obtain ⟨c0, cs', rfl⟩ : ∃ c0 cs', cs = c0 :: cs' := by cases cs with | nil => exact absurd rfl hcs | cons c0 cs' => exact ⟨c0, cs', rfl⟩
                obtain ⟨pv, pr, pg⟩ := hp
                obtain ⟨qv, qr, qg⟩ := pe
                simp only at pv pr pg
                subst pr; subst pg
                have hkind : (fat b x (.inRegion ops (i :: rest) :: k)).kind = .deferred := by
                  show b.kind = _
                  rw [A1.kind, hum]; rfl
                have htr : tryRecover (fat b x (.inRegion ops (i :: rest) :: k)) (upc x.um (c0 :: cs')) = some (qv, { c0 with mode := .panicking ({ v := qv, recovered := true, goexit := false } :: old') } :: cs') := by
                  rw [hxm]
                  unfold tryRecover
                  rw [hkind]
                  rfl
                refine ⟨σ1, w1, { x with um := some (.panicking ({ v := qv, recovered := true, goexit := false } :: old')) }, .ret qv, ⟨A1.ds, A1.fn, by rw [A1.kind, hum]; rfl, ⟨.panicking (.cons ⟨pv, rfl, rfl⟩ hch), by simp⟩⟩, rfl, rfl, rfl, H1, K1, .ret pv, ?_⟩
                have := s_recoverSome (k := k) ho hw hrn N htr
                refine .one (this.trans ?_)
                congr 1
                unfold M
                have hu : ({ x with um := some (.panicking ({ v := qv, recovered := true, goexit := false } :: old')) } : CX).put o.dst qv = { x.put o.dst qv with um := some (.panicking ({ v := qv, recovered := true, goexit := false } :: old')) } := by
                  unfold CX.put; split <;> rfl
                rw [hu]
                rfl
        · rename_i hne
          simp only [Option.some.injEq, Prod.mk.injEq] at e
          obtain ⟨rfl, rfl, rfl⟩ := e
          refine ⟨σ1, w1, x, .ret .nilIface, A1, rfl, rfl, rfl, H1, K1, .ret .nilIface, ?_⟩
          refine .one (s_recoverNone ho hw hrn N ?_)
          have hU := A1.um
          cases hum : a.um with
          | none =>
            have hkind : (fat b x (.inRegion ops (i :: rest) :: k)).kind = .normal := by
              show b.kind = _
              rw [A1.kind, hum]; rfl
            unfold tryRecover
            rw [hkind]
          | some u =>
            rw [hum] at hU
            cases hxm : x.um with
            | none => rw [hxm] at hU; exact hU.elim
            | some m =>
              rw [hxm] at hU
              obtain ⟨hm, hcs⟩ := hU
              obtain ⟨c0, cs', rfl⟩ : ∃ c0 cs', cs = c0 :: cs' := by cases cs with | nil => exact absurd rfl hcs | cons c0 cs' => exact ⟨c0, cs', rfl⟩
              have hkind : (fat b x (.inRegion ops (i :: rest) :: k)).kind = .deferred := by
                show b.kind = _
                rw [A1.kind, hum]; rfl
              unfold tryRecover
              rw [hkind]
              simp only [upc]
              cases hm with
              | run => rfl
              | returning => rfl
              | panicking hch =>
                cases hch with
                | nil => rfl
                | cons hp hch =>
                  rename_i p q pold qold
                  obtain ⟨pv, pr, pg⟩ := hp
                  obtain ⟨p1, p2, p3⟩ := p
                  obtain ⟨q1, q2, q3⟩ := q
                  simp only at pr pg
                  subst pr; subst pg
                  cases p2 <;> cases p3
                  · exact absurd hum (hne _ _)
                  · rfl
                  · rfl
                  · rfl
    | pan v =>
      have hd' := hd.resolve_left (by rintro ⟨d, hh⟩; cases hh)
      simp only [doNx, Option.some.injEq, Prod.mk.injEq] at e
      obtain ⟨rfl, rfl, rfl⟩ := e
      obtain ⟨u, hr, hv⟩ := N
      exact ⟨σ1, w1, x, .pan [{ v := u, recovered := false }], A1, rfl, rfl, rfl, H1, K1, .pan (.cons ⟨hv, rfl, rfl⟩ .nil), _, .one (s_panic ho hw hd' hr)⟩
  · cases e

theorem doOp_spec (hT : TbOK T) (hS : StrOK T) (hF : Snd T F) {rd : Option Nat} {a a' : AF} {o : Oper} {h h' : Hp} {r : Rt} (e : doOp T F rd a o h = some (r, a', h'))
    {σ : Ren} {w : World} {b : Frame} {x : CX} {cs : List Frame} (A : AR σ a b x cs) (R : RdR σ rd b.roundOf) (H : HR T σ h w) (hlo : h.lo ≤ h.n)
    {ops : Array Oper} {i : Nat} {rest : List Nat} {k : List Item} (ho : ops[i]? = some o) (hw : Region.wanted o (yielded ops x.tmps) = true) :
    ∃ σ' w' x' r', AR σ' a' b x' cs ∧ a'.tm = a.tm ∧ x'.tmps = x.tmps ∧ HR T σ' h' w' ∧ Keep σ h w σ' h' w' ∧ RtR σ' r r' ∧
      match r' with
      | .ret v => Steps T.P (M b x (.inRegion ops (i :: rest) :: k) cs w) (M b (x'.put o.dst v) (.inRegion ops rest :: k) cs w')
      | .pan ch => ∃ k', Steps T.P (M b x (.inRegion ops (i :: rest) :: k) cs w) (lone { fat b x' k' with mode := .panicking ch } (upc x'.um cs) w') := by
  obtain ⟨σ', w', x', r', A', h1, h2, h3, H', K, q, s⟩ := doOp_spec0 hF e A.r0 (fun _ _ hop => aop_spec hT hS H hlo A.ev hop) R hlo ho hw
  exact ⟨σ', w', x', r', ⟨by rw [h1, h2, h3]; exact A.tm.mono K.sub, A'.ds, A'.fn, A'.kind, A'.um⟩, h1, h3, H', K, q, s⟩

end Go.Clo

namespace Go.Clo
open Go

variable {T : Tb} {F : Fns}

theorem bool_of {σ : Ren} {v u : Value} (h : VR σ v u) (b : Bool) : v = .bool b ↔ u = .bool b := by
  constructor
  · intro e; subst e; cases h; rfl
  · intro e; subst e; cases h; rfl

theorem wanted_eq {σ : Ren} {a : AF} {x : CX} (tm : TmR σ a.tm a.sz x.tmps) (ops : Array Oper) (o : Oper) : wantedA ops.toList a o = Region.wanted o (yielded ops x.tmps) := by
  unfold wantedA Region.wanted
  split
  · rename_i hg; rw [hg]
  · rename_i j want hg
    rw [hg]
    simp only [yielded]
    rw [nth_eq]
    simp only [Array.getElem?_toList]
    split
    · rename_i p hp
      rw [hp]
      simp only [Option.bind_some]
      split
      · rename_i d hd
        rw [hd]
        simp only [Option.bind_some]
        have hv := tm.val d
        unfold tv at hv
        have hgd : x.tmps.getD d undef = (x.tmps[d]?).getD undef := by simp [Array.getD_eq_getD_getElem?]
        rw [hgd] at hv
        split
        · rename_i bb hb
          rw [hb] at hv
          have := (bool_of hv bb).1 rfl
          cases hx : x.tmps[d]? with
          | none => rw [hx] at this; cases this
          | some u =>
            rw [hx] at this
            simp only [Option.getD_some] at this
            subst this
            cases bb <;> cases want <;> rfl
        · rename_i hnb
          cases hx : x.tmps[d]? with
          | none => cases want <;> rfl
          | some u =>
            rw [hx] at hv
            simp only [Option.getD_some] at hv
            cases u with
            | bool bb =>
              exfalso
              cases ht : a.tm.get d with
              | none => rw [ht] at hv; cases hv
              | some v =>
                rw [ht] at hv
                simp only at hv
                exact hnb bb (by rw [ht, (bool_of hv bb).2 rfl])
            | _ => cases want <;> rfl
      · rename_i hd; rw [hd]; cases want <;> rfl
    · rename_i hp; rw [hp]; cases want <;> rfl

theorem evalOps_cons (rd : Option Nat) (all : List Oper) (o : Oper) (l : List Oper) (a : AF) (h : Hp) : evalOps T F rd all (o :: l) a h =
    cond (wantedA all a o)
      (match doOp T F rd a o h with
      | some (r, a, h) => match r with
        | .ret v => evalOps T F rd all l (a.put o.dst v) h
        | .pan ch => some (.panic ch, a, h)
      | none => none)
      (evalOps T F rd all l (a.put o.dst undef) h) := rfl

theorem evalOps_spec (hT : TbOK T) (hS : StrOK T) (hF : Snd T F) {rd : Option Nat} {ops : Array Oper} : ∀ (l : List Oper) (j : Nat), l = ops.toList.drop j →
    ∀ {a a' : AF} {h h' : Hp} {e : AE}, evalOps T F rd ops.toList l a h = some (e, a', h') →
    ∀ {σ : Ren} {w : World} {b : Frame} {x : CX} {cs : List Frame}, AR σ a b x cs → RdR σ rd b.roundOf → HR T σ h w → h.lo ≤ h.n → ∀ (k : List Item),
    ∃ σ' w' x' e', AR σ' a' b x' cs ∧ HR T σ' h' w' ∧ Keep σ h w σ' h' w' ∧ ER σ' e e' ∧ Arr T.P (M b x (.inRegion ops (List.range' j l.length) :: k) cs w) b k cs e' x' w' := by
  intro l
  induction l with
  | nil =>
    intro j _ a a' h h' e he σ w b x cs A R H hlo k
    cases he
    exact ⟨σ, w, x, .normal, A, H, .refl _ _ _, .normal, .one s_regionEnd⟩
  | cons o l ih =>
    intro j hl a a' h h' e he σ w b x cs A R H hlo k
    have hoj : ops[j]? = some o := by
      have : (ops.toList.drop j)[0]? = some o := by rw [← hl]; rfl
      rw [List.getElem?_drop] at this
      simpa using this
    have hl' : l = ops.toList.drop (j + 1) := by
      have : l = (ops.toList.drop j).drop 1 := by rw [← hl]; rfl
      rw [this, List.drop_drop]
    have hrange : List.range' j (o :: l).length = j :: List.range' (j + 1) l.length := by simp [List.range'_succ]
    rw [hrange]
    rw [evalOps_cons] at he
    have hweq := wanted_eq A.tm ops o
    cases hwa : wantedA ops.toList a o with
    | true =>
      rw [hwa, cond_true] at he
      rw [hwa] at hweq
      split at he
      · rename_i r a1 h1 hd
        obtain ⟨σ1, w1, x1, r1, A1, _, _, H1, K1, q1, q2⟩ := doOp_spec hT hS hF hd A R H hlo (k := k) (rest := List.range' (j + 1) l.length) hoj hweq.symm
        cases q1 with
        | ret hv =>
          rename_i v u
          simp only at he
          obtain ⟨σ2, w2, x2, e2, A2, H2, K2, E2, S2⟩ := ih (j + 1) hl' he (A1.put hv o.dst) (R.mono K1.sub) H1 (K1.lo' hlo) k
          exact ⟨σ2, w2, x2, e2, A2, H2, K1.trans K2, E2, .of_steps q2 S2⟩
        | pan hch =>
          simp only [Option.some.injEq, Prod.mk.injEq] at he
          obtain ⟨rfl, rfl, rfl⟩ := he
          exact ⟨σ1, w1, x1, _, A1, H1, K1, .panic hch, q2⟩
      · cases he
    | false =>
      rw [hwa, cond_false] at he
      rw [hwa] at hweq
      obtain ⟨σ2, w2, x2, e2, A2, H2, K2, E2, S2⟩ := ih (j + 1) hl' he (A.put (undefR σ) o.dst) R H hlo k
      exact ⟨σ2, w2, x2, e2, A2, H2, K2, E2, .of_steps (.one (s_opSkip hoj hweq.symm)) S2⟩

/-- what is asked of the regions that draw their order -/
def DrawOK (T : Tb) : Prop := ∀ (F : Fns), Snd T F → ∀ {rd : Option Nat} {id : Nat} {ops : Array Oper} {l : List DO} {a a' : AF} {h h' : Hp} {e : AE}, plan ops = some l → evalDraw T F rd ops.toList l [] [] a h = some (e, a', h') →
    ∀ {σ : Ren} {w : World} {b : Frame} {x : CX} {cs : List Frame}, AR σ a b x cs → RdR σ rd b.roundOf → HR T σ h w → h.lo ≤ h.n → ∀ (k : List Item),
    ∃ σ' w' x' e', AR σ' a' b x' cs ∧ HR T σ' h' w' ∧ Keep σ h w σ' h' w' ∧ ER σ' e e' ∧ Arr T.P (M b x (.code (.region id ops true) :: k) cs w) b k cs e' x' w'

section
variable {P : Program} {b : Frame} {x : CX} {k : List Item} {cs : List Frame} {w : World}

theorem s_endRange {l : Nat} {jump : Option Code} {w' : World} (hr : (Instr.endLoop l).run P w = .ok jump w') :
    step P (M b x (.endRangeFunc l :: k) cs w) = .next (M b x ((jump.map Item.code).toList ++ k) cs w') :=
  step_lone_go (by simp [stepG, stepG.exec, fat, hr])

theorem s_rangeFunc {f : Operand} {params : Array Tmp} {as bd : Code} {l : Nat} {mark : List Deferred} {w1 w2 : World} {g : FuncId} {args : Array Value}
    (h1 : (Instr.enterLoop b.fn x.tmps params as bd b.roundOf).run P w = .ok (l, mark) w1)
    (h2 : ((do let d ← resolve (fat b x k).eval { callee := .value f, args := #[.const (.func (.yield l) #[] #[])], argTypes := #[] } 0; invoke d.target d.args) : Sem Next).run P w1 = .ok (.enter g args) w2) :
    step P (M b x (.code (.rangeFunc f params as bd) :: k) cs w) = .next (lone (Frame.enter P g args .normal) (fat b { x with defers := mark ++ x.defers } (.inRangeFunc l :: k) :: upc x.um cs) w2) := by
  have he : ∀ k1 k2 ds, (fat b { x with defers := ds } k1).eval = (fat b x k2).eval := fun k1 k2 ds => by funext o; cases o <;> rfl
  refine step_lone_go ?_
  have h2' : ((do let d ← resolve (fat b { x with defers := mark ++ x.defers } (.inRangeFunc l :: k)).eval { callee := .value f, args := #[.const (.func (.yield l) #[] #[])], argTypes := #[] } 0; invoke d.target d.args) : Sem Next).run P w1 = .ok (.enter g args) w2 := by
    rw [he _ k]; exact h2
  simp only [fat] at h2'
  simp [stepG, stepG.exec, fat, h1, stepG.apply, h2']
end

theorem range_spec (hT : TbOK T) (hF : Snd T F) {rd : Option Nat} {f : Operand} {params : Array Tmp} {as bd : Code} {a a' : AF} {h h' : Hp} {e : AE} (he : rangeA T F rd f params as bd a h = some (e, a', h'))
    {σ : Ren} {w : World} {b : Frame} {x : CX} {cs : List Frame} (A : AR σ a b x cs) (R : RdR σ rd b.roundOf) (H : HR T σ h w) (hlo : h.lo ≤ h.n) (k : List Item) :
    ∃ σ' w' x' e', AR σ' a' b x' cs ∧ HR T σ' h' w' ∧ Keep σ h w σ' h' w' ∧ ER σ' e e' ∧ Arr T.P (M b x (.code (.rangeFunc f params as bd) :: k) cs w) b k cs e' x' w' := by
  unfold rangeA at he
  split at he
  · rename_i r a0 h0 hpre
    -- the block of the deferred calls
    have pre : ∃ (σ0 : Ren) (w0 : World) (x0 : CX) (rc xr : Nat) (mark : List Deferred), AR σ0 a0 b x0 cs ∧ a0.fn = a.fn ∧ a0.tm = a.tm ∧ a0.sz = a.sz ∧ x0.tmps = x.tmps ∧ x0.um = x.um ∧ x0.defers = mark ++ x.defers ∧ HR T σ0 h0 w0 ∧ Keep σ h w σ0 h0 w0 ∧ σ0 r = some (rc, xr) ∧
        ∀ lp : Nat → Loop, (∀ n, lp n = { state := .ready, pending := none, fn := b.fn, tmps := x.tmps, params, assign := as, body := bd, defers := n }) →
          (Instr.enterLoop b.fn x.tmps params as bd b.roundOf).run T.P w = .ok (w0.heap.size, mark) { w0 with heap := w0.heap.push (.loop (lp rc)) } := by
      cases rd with
      | none =>
        have hrn : b.roundOf = none := by cases hb : b.roundOf <;> simp_all [RdR]
        simp only [Option.some.injEq, Prod.mk.injEq] at hpre
        obtain ⟨rfl, rfl, rfl⟩ := hpre
        obtain ⟨q1, q2⟩ := H.new (.defs (some [])) 0 (.deferred (some [])) ⟨[], rfl, .nil⟩ hlo
        have A1 := A.mono q2.sub
        refine ⟨_, _, { x with defers := [{ target := .collected w.heap.size, args := #[] }] ++ x.defers }, w.heap.size, 0, [{ target := .collected w.heap.size, args := #[] }],
          ⟨A1.tm, .cons ⟨⟨0, Ren.up_self _ _ _⟩, .nil⟩ A1.ds, A1.fn, A1.kind, A1.um⟩, rfl, rfl, rfl, rfl, rfl, rfl, q1, q2, Ren.up_self _ _ _, ?_⟩
        intro lp hlp
        simp [Instr.enterLoop, hrn, hlp]
        rfl
      | some l =>
        cases hb : b.roundOf with
        | none => rw [hb] at R; exact R.elim
        | some c =>
          rw [hb] at R
          obtain ⟨xl, hσ⟩ := R
          simp only at hpre
          split at hpre
          · rename_i d hbk
            simp only [Option.some.injEq, Prod.mk.injEq] at hpre
            obtain ⟨rfl, rfl, rfl⟩ := hpre
            have k2 := H.blk _ _ _ _ hbk hσ
            obtain ⟨l0, x0, z0, _, _, _, _, _, _, _, z8⟩ := k2
            refine ⟨σ, w, x, l0.defers, x0, [], A, rfl, rfl, rfl, rfl, rfl, rfl, H, .refl _ _ _, z8, ?_⟩
            intro lp hlp
            have hget : (getObj c).run T.P w = .ok (.loop l0) w := by simp [getObj, Sem.run, z0]
            simp [Instr.enterLoop, Instr.getLoop, hget, hlp]
          · cases hpre
    obtain ⟨σ0, w0, x0, rc, xr, mark, A0, p1, p2, p3, p4, p5, p6, H0, K0, hσr, hent⟩ := pre
    have hlo0 := K0.lo' hlo
    split at he
    · rename_i fn first captured hev
      have hfv := A0.ev.eval hev
      generalize hxf : x0.act.eval f = cf at hfv
      cases hfv
      rename_i g l1 l2 l3 l4 hq1 hq2 hfr
      -- the loop's block
      have hs1 := Ren.sub_up H0 (w0.heap.size, 0)
      let lp : Loop := { state := .ready, pending := none, fn := b.fn, tmps := x.tmps, params, assign := as, body := bd, defers := rc }
      obtain ⟨q1, q2⟩ := H0.new (.loop .ready none a0.fn a0.tm a0.sz params.toList as bd r) 0 (.loop lp) ⟨lp, xr, rfl, rfl, rfl, by show b.fn = a0.fn; exact A0.fn, by have := A0.tm.mono hs1; rw [p4] at this; exact this, rfl, rfl, rfl, hs1 _ _ hσr⟩ hlo0
      have hlo1 := q2.lo' hlo0
      have A1 := A0.mono q2.sub
      split at he
      · rename_i gid args h1 hinv
        have hyv : VR (σ0.up h0.n (w0.heap.size, 0)) (.func (.yield h0.n) #[] #[]) (.func (.yield w0.heap.size) #[] #[]) := .func ⟨0, Ren.up_self _ _ _⟩ .nil .nil
        obtain ⟨σ1, w1, N, H1, K1⟩ := invokeFn_spec hT q1 (fn' := g) (cap' := ⟨l4⟩) (us := ⟨l2⟩ ++ #[.func (.yield w0.heap.size) #[] #[]]) hinv (hfr.mono hs1) (by simpa using hq2.mono hs1) (by simpa using VRs.append (hq1.mono hs1) (.cons hyv .nil))
        obtain ⟨args', hr, hv⟩ := N
        have hstep := s_rangeFunc (b := b) (x := x) (k := k) (cs := cs) (f := f) (hent (fun n => { state := .ready, pending := none, fn := b.fn, tmps := x.tmps, params, assign := as, body := bd, defers := n }) (fun _ => rfl)) (w2 := w1) (g := gid) (args := args') (by
          have hev' : (fat b x k).eval f = .func g ⟨l2⟩ ⟨l4⟩ := by
            rw [fat_eval, ← hxf]
            cases f <;> first | rfl | (show x.tmps.getD _ _ = x0.tmps.getD _ _; rw [p4])
          have hcst : (fat b x k).eval (.const (.func (.yield w0.heap.size) #[] #[])) = .func (.yield w0.heap.size) #[] #[] := rfl
          simp only [resolve, hev', Deferred.ofValue, List.map_toArray, List.map_cons, List.map_nil, hcst, Sem.run_bind, Sem.run_pure, Result.andThen_ok]
          exact hr)
        have hx0 : ({ x with defers := mark ++ x.defers } : CX) = x0 := by
          obtain ⟨t0, d0, u0⟩ := x0
          simp only at p4 p5 p6
          subst p4; subst p5; subst p6; rfl
        rw [hx0] at hstep
        have hum : x.um = x0.um := p5.symm
        rw [hum] at hstep
        split at he
        · rename_i v0 um2 h2 hcall
          obtain ⟨σ2, w2, r2, m2, g1, g2, g3, g4, g5, g6⟩ := hF.call hcall (m := none) (cs := fat b x0 (.inRangeFunc w0.heap.size :: k) :: upc x0.um cs) hv trivial H1 (K1.lo' hlo1)
          have hm2 : m2 = none := by
            cases um2 with
            | some u => simp at g3
            | none => cases m2 <;> simp_all [UmR]
          subst hm2
          cases g1 with
          | ret hvv =>
            have hleft := Left.returned g6
            have hfin : ∀ v, (fat b x0 (.inRangeFunc w0.heap.size :: k)).finish v = fat b x0 (.endRangeFunc w0.heap.size :: k) := fun v => rfl
            rw [hfin] at hleft
            split at he
            · rename_i st p fn' tm' sz' ps' as' bd' d' hbk
              have hσl : σ2 h0.n = some (w0.heap.size, 0) := g5.sub _ _ (K1.sub _ _ (Ren.up_self _ _ _))
              have k2 := g4.blk _ _ _ _ hbk hσl
              obtain ⟨l0, xx0, z0, z1, z2, z3, z4, z5, z6, z7, z8⟩ := k2
              have done : st ≠ .busy → (∀ {e2 : AE} {h3 : Hp}, pendE p = some e2 → h2.put h0.n (.loop .exhausted p fn' tm' sz' ps' as' bd' d') = some h3 → some (e2, a0, h3) = some (e, a', h') →
                  ∃ σ' w' x' e', AR σ' a' b x' cs ∧ HR T σ' h' w' ∧ Keep σ h w σ' h' w' ∧ ER σ' e e' ∧ Arr T.P (M b x (.code (.rangeFunc f params as bd) :: k) cs w) b k cs e' x' w') := by
                intro hst e2 h3 hp hput heq
                simp only [Option.some.injEq, Prod.mk.injEq] at heq
                obtain ⟨rfl, rfl, rfl⟩ := heq
                obtain ⟨s1, s2⟩ := g4.put (o' := .loop { l0 with state := .exhausted }) hput hbk rfl hσl z0 (by intro a b c hh; cases hh) ⟨{ l0 with state := .exhausted }, xx0, rfl, rfl, z2, z3, z4, z5, z6, z7, z8⟩
                have hend : (Instr.endLoop w0.heap.size).run T.P w2 = .ok p { w2 with heap := w2.heap.setIfInBounds w0.heap.size (.loop { l0 with state := .exhausted }) } := by
                  have hget : (getObj w0.heap.size).run T.P w2 = .ok (.loop l0) w2 := by simp [getObj, Sem.run, z0]
                  have hset : ∀ o', (setObj w0.heap.size o').run T.P w2 = .ok () { w2 with heap := w2.heap.setIfInBounds w0.heap.size o' } := fun o' => by simp [setObj, Sem.run, z0]
                  have hnb : ¬ l0.state = .busy := by rw [z1]; exact hst
                  simp [Instr.endLoop, Instr.getLoop, hget, hset, hnb, z2]
                have A3 : AR σ2 a0 b x0 cs := A1.mono (K1.sub.trans g5.sub)
                have hst2 : Steps T.P (M b x (.code (.rangeFunc f params as bd) :: k) cs w) (M b x0 ((p.map Item.code).toList ++ k) cs { w2 with heap := w2.heap.setIfInBounds w0.heap.size (.loop { l0 with state := .exhausted }) }) :=
                  .head hstep (hleft.trans (.one (s_endRange hend)))
                refine ⟨σ2, _, x0, e2, A3, s1, K0.trans (q2.trans (K1.trans (g5.trans s2))), ?_, ?_⟩
                · unfold pendE at hp; split at hp <;> cases hp <;> constructor
                · unfold pendE at hp
                  split at hp <;> cases hp
                  · exact hst2
                  · exact ⟨k, hst2⟩
                  · exact ⟨k, hst2, rfl⟩
                  · exact ⟨k, hst2, rfl⟩
              cases st with
              | busy => cases he
              | ready =>
                simp only at he
                split at he
                · rename_i e2 h3 hp hput; exact done (by simp) hp hput he
                · cases he
              | done =>
                simp only at he
                split at he
                · rename_i e2 h3 hp hput; exact done (by simp) hp hput he
                · cases he
              | exhausted =>
                simp only at he
                split at he
                · rename_i e2 h3 hp hput; exact done (by simp) hp hput he
                · cases he
            · cases he
        · rename_i ch um2 h2 hcall
          simp only [Option.some.injEq, Prod.mk.injEq] at he
          obtain ⟨rfl, rfl, rfl⟩ := he
          obtain ⟨σ2, w2, r2, m2, g1, g2, g3, g4, g5, g6⟩ := hF.call hcall (m := none) (cs := fat b x0 (.inRangeFunc w0.heap.size :: k) :: upc x0.um cs) hv trivial H1 (K1.lo' hlo1)
          have hm2 : m2 = none := by
            cases um2 with
            | some u => simp at g3
            | none => cases m2 <;> simp_all [UmR]
          subst hm2
          cases g1 with
          | pan hch =>
            have hleft := Left.panicked g6
            exact ⟨σ2, w2, x0, _, A1.mono (K1.sub.trans g5.sub), g4, K0.trans (q2.trans (K1.trans g5)), .panic hch, _, .head hstep hleft⟩
        · cases he
      · cases he
    · cases he
  · cases he
end Go.Clo

namespace Go.Clo
open Go

variable {T : Tb} {F : Fns}

theorem code_spec (hT : TbOK T) (hS : StrOK T) (hD : DrawOK T) (hF : Snd T F) {rd : Option Nat} {c : Code} {a : AF} {h : Hp} {e : AE} {a' : AF} {h' : Hp} (he : codeF T F rd c a h = some (e, a', h'))
    {σ : Ren} {w : World} {b : Frame} {x : CX} {cs : List Frame} (A : AR σ a b x cs) (R : RdR σ rd b.roundOf) (H : HR T σ h w) (hlo : h.lo ≤ h.n) (k : List Item) :
    ∃ σ' w' x' e', AR σ' a' b x' cs ∧ HR T σ' h' w' ∧ Keep σ h w σ' h' w' ∧ ER σ' e e' ∧ Arr T.P (M b x (.code c :: k) cs w) b k cs e' x' w' := by
  cases c with
  | skip => cases he; exact ⟨σ, w, x, .normal, A, H, .refl _ _ _, .normal, .one s_skip⟩
  | label l => cases he; exact ⟨σ, w, x, .normal, A, H, .refl _ _ _, .normal, .one s_label⟩
  | seq c d =>
    simp only [codeF] at he
    split at he
    · rename_i e1 a1 h1 hc
      obtain ⟨σ1, w1, x1, e1', A1, H1, K1, E1, S1⟩ := hF.code hc A R H hlo (.code d :: k)
      cases E1 with
      | normal =>
        obtain ⟨σ2, w2, x2, e2', A2, H2, K2, E2, S2⟩ := hF.code he A1 (R.mono K1.sub) H1 (K1.lo' hlo) k
        exact ⟨σ2, w2, x2, e2', A2, H2, K1.trans K2, E2, .of_steps (.head s_seq S1) S2⟩
      | exit id =>
        simp only [Option.some.injEq, Prod.mk.injEq] at he
        obtain ⟨rfl, rfl, rfl⟩ := he
        exact ⟨σ1, w1, x1, _, A1, H1, K1, .exit id, .of_steps (.one s_seq) (.pass rfl (by simp) S1)⟩
      | goto l =>
        simp only [Option.some.injEq, Prod.mk.injEq] at he
        obtain ⟨rfl, rfl, rfl⟩ := he
        exact ⟨σ1, w1, x1, _, A1, H1, K1, .goto l, .of_steps (.one s_seq) (.pass rfl (by simp) S1)⟩
      | ret =>
        simp only [Option.some.injEq, Prod.mk.injEq] at he
        obtain ⟨rfl, rfl, rfl⟩ := he
        exact ⟨σ1, w1, x1, _, A1, H1, K1, .ret, .of_steps (.one s_seq) (.pass rfl (by simp) S1)⟩
      | panic hp =>
        simp only [Option.some.injEq, Prod.mk.injEq] at he
        obtain ⟨rfl, rfl, rfl⟩ := he
        exact ⟨σ1, w1, x1, _, A1, H1, K1, .panic hp, .of_steps (.one s_seq) (.pass rfl (by simp) S1)⟩
    · cases he
  | cond o c d =>
    simp only [codeF] at he
    split at he
    · rename_i t ht
      have hv := (bool_of (A.ev.eval ht) t).1 rfl
      obtain ⟨σ1, w1, x1, e1', A1, H1, K1, E1, S1⟩ := hF.code he A R H hlo k
      refine ⟨σ1, w1, x1, e1', A1, H1, K1, E1, .of_steps (.one (s_cond hv)) ?_⟩
      cases t <;> exact S1
    · cases he
  | block id body =>
    simp only [codeF] at he
    split at he
    · rename_i e1 a1 h1 hc
      obtain ⟨σ1, w1, x1, e1', A1, H1, K1, E1, S1⟩ := hF.code hc A R H hlo (.inBlock id :: k)
      cases E1 with
      | normal =>
        simp only [Option.some.injEq, Prod.mk.injEq] at he
        obtain ⟨rfl, rfl, rfl⟩ := he
        exact ⟨σ1, w1, x1, _, A1, H1, K1, .normal, .head s_block (Steps.trans S1 (.one s_inBlock))⟩
      | exit id' =>
        simp only at he
        obtain ⟨k', S2, hk'⟩ := S1
        by_cases hid : id' = id
        · rw [show Nat.beq id' id = true from by rw [hid]; exact Nat.beq_refl id, cond_true] at he
          simp only [Option.some.injEq, Prod.mk.injEq] at he
          obtain ⟨rfl, rfl, rfl⟩ := he
          have hex : exitTo id' k' = some k := by rw [hk']; simp [exitTo, hid]
          exact ⟨σ1, w1, x1, _, A1, H1, K1, .normal, .head s_block (S2.trans (.one (s_exit hex)))⟩
        · rw [show Nat.beq id' id = false from Bool.eq_false_iff.2 fun hh => hid (Nat.eq_of_beq_eq_true hh), cond_false] at he
          simp only [Option.some.injEq, Prod.mk.injEq] at he
          obtain ⟨rfl, rfl, rfl⟩ := he
          refine ⟨σ1, w1, x1, _, A1, H1, K1, .exit id', k', .head s_block S2, ?_⟩
          rw [hk']
          have : (id == id') = false := by simp; exact fun hh => hid hh.symm
          simp [exitTo, this]
      | goto l =>
        simp only [Option.some.injEq, Prod.mk.injEq] at he
        obtain ⟨rfl, rfl, rfl⟩ := he
        obtain ⟨k', S2, hk'⟩ := S1
        exact ⟨σ1, w1, x1, _, A1, H1, K1, .goto l, k', .head s_block S2, by rw [hk']; simp [gotoIn]⟩
      | ret =>
        simp only [Option.some.injEq, Prod.mk.injEq] at he
        obtain ⟨rfl, rfl, rfl⟩ := he
        obtain ⟨k', S2⟩ := S1
        exact ⟨σ1, w1, x1, _, A1, H1, K1, .ret, k', .head s_block S2⟩
      | panic hp =>
        simp only [Option.some.injEq, Prod.mk.injEq] at he
        obtain ⟨rfl, rfl, rfl⟩ := he
        obtain ⟨k', S2⟩ := S1
        exact ⟨σ1, w1, x1, _, A1, H1, K1, .panic hp, k', .head s_block S2⟩
    · cases he
  | loop body =>
    simp only [codeF] at he
    split at he
    · rename_i e1 a1 h1 hc
      obtain ⟨σ1, w1, x1, e1', A1, H1, K1, E1, S1⟩ := hF.code hc A R H hlo (.inLoop body :: k)
      cases E1 with
      | normal =>
        obtain ⟨σ2, w2, x2, e2', A2, H2, K2, E2, S2⟩ := hF.code he A1 (R.mono K1.sub) H1 (K1.lo' hlo) k
        have : step T.P (M b x1 (.code (.loop body) :: k) cs w1) = .next (M b x1 (.code body :: .inLoop body :: k) cs w1) := s_loop
        have h2 : step T.P (M b x1 (.inLoop body :: k) cs w1) = .next (M b x1 (.code body :: .inLoop body :: k) cs w1) := s_inLoop
        refine ⟨σ2, w2, x2, e2', A2, H2, K1.trans K2, E2, ?_⟩
        -- the loop's item and the loop itself go on alike
        have key : ∀ (e : AE), Arr T.P (M b x1 (.code (.loop body) :: k) cs w1) b k cs e x2 w2 → Arr T.P (M b x1 (.inLoop body :: k) cs w1) b k cs e x2 w2 := by
          intro e he'
          have tr : ∀ {m : Machine}, (m ≠ M b x1 (.code (.loop body) :: k) cs w1) → Steps T.P (M b x1 (.code (.loop body) :: k) cs w1) m → Steps T.P (M b x1 (.inLoop body :: k) cs w1) m := by
            intro m hne ⟨n, hn⟩
            cases n with
            | zero => simp only [runN, Stepped.next.injEq] at hn; exact absurd hn.symm hne
            | succ n =>
              simp only [runN, this] at hn
              exact ⟨n + 1, by simp only [runN, h2]; exact hn⟩
          have ne1 : ∀ (todo : List Item), todo ≠ .code (.loop body) :: k → M b x2 todo cs w2 ≠ M b x1 (.code (.loop body) :: k) cs w1 := by
            intro todo hn hh
            have := congrArg (fun m : Machine => (m.gs[0]?).map (fun g => g.frame.todo)) hh
            simp [M, lone, fat] at this
            exact hn this
          cases e with
          | normal => exact tr (ne1 _ (by intro hh; have := congrArg List.length hh; simp at this)) he'
          | exit id => obtain ⟨k', q1, q2⟩ := he'; exact ⟨k', tr (ne1 _ (by simp)) q1, q2⟩
          | goto l => obtain ⟨k', q1, q2⟩ := he'; exact ⟨k', tr (ne1 _ (by simp)) q1, q2⟩
          | ret => obtain ⟨k', q1⟩ := he'; exact ⟨k', tr (ne1 _ (by simp)) q1⟩
          | panic ch =>
            obtain ⟨k', q1⟩ := he'
            refine ⟨k', tr (fun hh => ?_) q1⟩
            have := congrArg (fun m : Machine => (m.gs[0]?).map (fun g => g.frame.mode)) hh
            simp [M, lone, fat] at this
        exact .of_steps (.head s_loop S1) (key _ S2)
      | exit id =>
        simp only [Option.some.injEq, Prod.mk.injEq] at he
        obtain ⟨rfl, rfl, rfl⟩ := he
        exact ⟨σ1, w1, x1, _, A1, H1, K1, .exit id, .of_steps (.one s_loop) (.pass rfl (by simp) S1)⟩
      | goto l =>
        simp only [Option.some.injEq, Prod.mk.injEq] at he
        obtain ⟨rfl, rfl, rfl⟩ := he
        exact ⟨σ1, w1, x1, _, A1, H1, K1, .goto l, .of_steps (.one s_loop) (.pass rfl (by simp) S1)⟩
      | ret =>
        simp only [Option.some.injEq, Prod.mk.injEq] at he
        obtain ⟨rfl, rfl, rfl⟩ := he
        exact ⟨σ1, w1, x1, _, A1, H1, K1, .ret, .of_steps (.one s_loop) (.pass rfl (by simp) S1)⟩
      | panic hp =>
        simp only [Option.some.injEq, Prod.mk.injEq] at he
        obtain ⟨rfl, rfl, rfl⟩ := he
        exact ⟨σ1, w1, x1, _, A1, H1, K1, .panic hp, .of_steps (.one s_loop) (.pass rfl (by simp) S1)⟩
    · cases he
  | scope body =>
    simp only [codeF] at he
    split at he
    · rename_i e1 a1 h1 hc
      obtain ⟨σ1, w1, x1, e1', A1, H1, K1, E1, S1⟩ := hF.code hc A R H hlo (.inScope body :: k)
      cases E1 with
      | normal =>
        simp only [Option.some.injEq, Prod.mk.injEq] at he
        obtain ⟨rfl, rfl, rfl⟩ := he
        exact ⟨σ1, w1, x1, _, A1, H1, K1, .normal, .head s_scope (Steps.trans S1 (.one s_inScope))⟩
      | exit id =>
        simp only [Option.some.injEq, Prod.mk.injEq] at he
        obtain ⟨rfl, rfl, rfl⟩ := he
        obtain ⟨k', S2, hk'⟩ := S1
        exact ⟨σ1, w1, x1, _, A1, H1, K1, .exit id, k', .head s_scope S2, by rw [hk']; simp [exitTo]⟩
      | goto l => cases he
      | ret =>
        simp only [Option.some.injEq, Prod.mk.injEq] at he
        obtain ⟨rfl, rfl, rfl⟩ := he
        obtain ⟨k', S2⟩ := S1
        exact ⟨σ1, w1, x1, _, A1, H1, K1, .ret, k', .head s_scope S2⟩
      | panic hp =>
        simp only [Option.some.injEq, Prod.mk.injEq] at he
        obtain ⟨rfl, rfl, rfl⟩ := he
        obtain ⟨k', S2⟩ := S1
        exact ⟨σ1, w1, x1, _, A1, H1, K1, .panic hp, k', .head s_scope S2⟩
    · cases he
  | exit id => cases he; exact ⟨σ, w, x, _, A, H, .refl _ _ _, .exit id, k, .refl _ _, rfl⟩
  | goto l => cases he; exact ⟨σ, w, x, _, A, H, .refl _ _ _, .goto l, k, .refl _ _, rfl⟩
  | ret => cases he; exact ⟨σ, w, x, _, A, H, .refl _ _ _, .ret, k, .refl _ _⟩
  | region id ops draw =>
    simp only [codeF] at he
    cases draw with
    | false =>
      obtain ⟨σ1, w1, x1, e1', A1, H1, K1, E1, S1⟩ := evalOps_spec hT hS hF ops.toList 0 (by simp) he A R H hlo k
      refine ⟨σ1, w1, x1, e1', A1, H1, K1, E1, .of_steps (.one s_region) ?_⟩
      rw [List.range_eq_range']
      simpa using S1
    | true =>
      simp only at he
      split at he
      · rename_i l hl
        exact hD F hF hl he A R H hlo k
      · cases he
  | rangeFunc f params as bd => exact range_spec hT hF he A R H hlo k
  | refuse why => cases he
end Go.Clo
