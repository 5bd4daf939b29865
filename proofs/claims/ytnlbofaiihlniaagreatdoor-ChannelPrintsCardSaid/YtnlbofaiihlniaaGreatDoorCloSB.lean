/- An evaluator for closed calls of the model, with its proof: what it yields is what the call returns (a part of it). No condition beyond those that its theorems state. -/
import Derived.Test.YtnlbofaiihlniaaGreatDoorCloSA
import Derived.IntWalk
set_option linter.unusedVariables false
set_option linter.unusedSimpArgs false
namespace Go.Clo
open Go

def EvR (σ : Ren) (a : AF) (x : Act) : Prop := ∀ i, VR σ (a.tmp i) (x.tmps.getD i undef)

theorem EvR.eval {σ : Ren} {a : AF} {x : Act} (h : EvR σ a x) {o : Operand} {v : Value} (e : a.eval o = some v) : VR σ v (x.eval o) := by
  cases o with
  | tmp t => simp only [AF.eval, Option.some.injEq] at e; subst e; exact h t
  | const v' =>
    simp only [AF.eval] at e
    cases hg : gr v' with
    | false => rw [hg] at e; cases e
    | true => rw [hg] at e; cases e; exact .of_gr hg
  | global g => cases e
  | func f => simp only [AF.eval, Option.some.injEq] at e; subst e; exact .func rfl .nil .nil

def NxR (P : Program) (σ : Ren) (w : World) (nx : ANx) (r : Result Next) : Prop :=
  match nx with
  | .val v => ∃ u, r = .ok (.value u) w ∧ VR σ v u
  | .skip => r = .ok .skip w
  | .enter f args => ∃ args', r = .ok (.enter f args') w ∧ VRs σ args args'.toList
  | .round l args => ∃ c x args', σ l = some (c, x) ∧ VRs σ args args'.toList ∧ r = (Instr.yield c args').run P w
  | .defer d => ∃ d', r = .ok (.defer d') w ∧ DR σ d d'
  | .recover => r = .ok .recover w
  | .pan v => ∃ u, r = .halt (.panic u) w ∧ VR σ v u

def Good (T : Tb) (σ : Ren) (h : Hp) (w : World) (nx : ANx) (h' : Hp) (s : Sem Next) : Prop :=
  ∃ σ' w', NxR T.P σ' w' nx (s.run T.P w) ∧ HR T σ' h' w' ∧ Keep σ h w σ' h' w'

variable {T : Tb} {σ : Ren} {h h' : Hp} {w : World} {a : AF} {x : Act}

theorem good_val (H : HR T σ h w) {s : Sem Next} {v u : Value} (e : s.run T.P w = .ok (.value u) w) (hv : VR σ v u) : Good T σ h w (.val v) h s :=
  ⟨σ, w, ⟨u, e, hv⟩, H, .refl _ _ _⟩

theorem good_retV (H : HR T σ h w) {s : Sem Next} {ov : Option Value} {nx : ANx} (e : retV h ov = some (nx, h')) (hs : ∀ v, ov = some v → ∃ u, s.run T.P w = .ok (.value u) w ∧ VR σ v u) : Good T σ h w nx h' s := by
  cases ov with
  | none => cases e
  | some v =>
    simp only [retV, v1, Option.some.injEq, Prod.mk.injEq] at e
    obtain ⟨rfl, rfl⟩ := e
    obtain ⟨u, h1, h2⟩ := hs v rfl
    exact good_val H h1 h2

theorem good_v1 (H : HR T σ h w) {s : Sem Next} {v u : Value} {nx : ANx} (e : v1 v h = some (nx, h')) (hs : s.run T.P w = .ok (.value u) w) (hv : VR σ v u) : Good T σ h w nx h' s := by
  simp only [v1, Option.some.injEq, Prod.mk.injEq] at e
  obtain ⟨rfl, rfl⟩ := e
  exact good_val H hs hv

theorem cond_none {α : Type} {b : Bool} {x : Option α} {y : α} (e : cond b x none = some y) : b = true ∧ x = some y := by
  cases b <;> simp_all

theorem op_move (H : HR T σ h w) (E : EvR σ a x) {o : Oper} {y : Operand} {nx : ANx} (e : retV h (a.eval y) = some (nx, h')) (ho : execOp x.eval o = pure (.value (x.eval y))) : Good T σ h w nx h' (execOp x.eval o) :=
  good_retV H e fun v hv => ⟨_, by rw [ho]; rfl, E.eval hv⟩

theorem op_pick (H : HR T σ h w) (E : EvR σ a x) {o : Oper} {c y z : Operand} {nx : ANx} (ho : o.op = .pick c y z)
    (e : aop T a o h = some (nx, h')) : Good T σ h w nx h' (execOp x.eval o) := by
  simp only [aop, opPickA, opAllocA, opBoxA, opLoadA, opStoreA, opNilCheckA, opFieldAddrA, opFieldA, opIndexAddrA, opIndexA, opSliceA, opBuildA, opBuildSliceA, opMakeSliceA, opMakeMapA, opLookupA, opMapUpdateA, opRangeA, opNextA, opExtractA, opMakeInterfaceA, opMakeFuncA, opTypeAssertA, opCallA, opDeferA, opPanicA, opBinOpA, opConvertA, opUnOpA, ho] at e
  split at e
  · rename_i b hb
    have hc := E.eval hb
    generalize hxc : x.eval c = cv at hc
    cases hc
    refine good_retV H e fun v hv => ?_
    cases b with
    | true => exact ⟨_, by simp [execOp, ho, hxc, asBool], E.eval hv⟩
    | false => exact ⟨_, by simp [execOp, ho, hxc, asBool], E.eval hv⟩
  · cases e

theorem op_alloc (hT : TbOK T) (H : HR T σ h w) (hlo : h.lo ≤ h.n) {o : Oper} {el : TypeId} {nx : ANx} (ho : o.op = .alloc el)
    (e : aop T a o h = some (nx, h')) : Good T σ h w nx h' (execOp x.eval o) := by
  simp only [aop, opPickA, opAllocA, opBoxA, opLoadA, opStoreA, opNilCheckA, opFieldAddrA, opFieldA, opIndexAddrA, opIndexA, opSliceA, opBuildA, opBuildSliceA, opMakeSliceA, opMakeMapA, opLookupA, opMapUpdateA, opRangeA, opNextA, opExtractA, opMakeInterfaceA, opMakeFuncA, opTypeAssertA, opCallA, opDeferA, opPanicA, opBinOpA, opConvertA, opUnOpA, ho] at e
  split at e
  · rename_i z hz
    simp only [newPtr, Option.some.injEq, Prod.mk.injEq] at e
    obtain ⟨rfl, rfl⟩ := e
    obtain ⟨hg, i, hi, hzi, _⟩ := hT.zero _ _ hz
    obtain ⟨σ', w', r1, r2, r3, r4⟩ := newPtr_spec H hlo (VR.cells (VR.of_gr hg)) el
    refine ⟨σ', w', ⟨_, ?_, r2⟩, r3, r4⟩
    simp [execOp, ho, Instr.alloc, run_zeroValue' hi hzi, newVar, r1]
  · cases e

theorem op_box (H : HR T σ h w) (hlo : h.lo ≤ h.n) (E : EvR σ a x) {o : Oper} {el : TypeId} {y : Operand} {nx : ANx} (ho : o.op = .box el y)
    (e : aop T a o h = some (nx, h')) : Good T σ h w nx h' (execOp x.eval o) := by
  simp only [aop, opPickA, opAllocA, opBoxA, opLoadA, opStoreA, opNilCheckA, opFieldAddrA, opFieldA, opIndexAddrA, opIndexA, opSliceA, opBuildA, opBuildSliceA, opMakeSliceA, opMakeMapA, opLookupA, opMapUpdateA, opRangeA, opNextA, opExtractA, opMakeInterfaceA, opMakeFuncA, opTypeAssertA, opCallA, opDeferA, opPanicA, opBinOpA, opConvertA, opUnOpA, ho] at e
  split at e
  · rename_i v hv
    simp only [newPtr, Option.some.injEq, Prod.mk.injEq] at e
    obtain ⟨rfl, rfl⟩ := e
    obtain ⟨σ', w', r1, r2, r3, r4⟩ := newPtr_spec H hlo (VR.cells (E.eval hv)) el
    refine ⟨σ', w', ⟨_, ?_, r2⟩, r3, r4⟩
    simp [execOp, ho, Instr.box, newVar, r1]
  · cases e

theorem op_load (hT : TbOK T) (H : HR T σ h w) (E : EvR σ a x) {o : Oper} {t : TypeId} {y : Operand} {nx : ANx} (ho : o.op = .load t y)
    (e : aop T a o h = some (nx, h')) : Good T σ h w nx h' (execOp x.eval o) := by
  simp only [aop, opPickA, opAllocA, opBoxA, opLoadA, opStoreA, opNilCheckA, opFieldAddrA, opFieldA, opIndexAddrA, opIndexA, opSliceA, opBuildA, opBuildSliceA, opMakeSliceA, opMakeMapA, opLookupA, opMapUpdateA, opRangeA, opNextA, opExtractA, opMakeInterfaceA, opMakeFuncA, opTypeAssertA, opCallA, opDeferA, opPanicA, opBinOpA, opConvertA, opUnOpA, ho] at e
  split at e
  · rename_i p hp
    have hc := E.eval hp
    generalize hxc : x.eval y = cv at hc
    cases hc
    rename_i hσ
    refine good_retV H e fun v hv => ?_
    obtain ⟨u, r1, r2⟩ := load_spec hT H hv hσ
    exact ⟨u, by simp [execOp, ho, hxc, Instr.loadAt, Instr.sureAddr, r1], r2⟩
  · cases e

theorem op_store (hT : TbOK T) (H : HR T σ h w) (E : EvR σ a x) {o : Oper} {t : TypeId} {y z : Operand} {nx : ANx} (ho : o.op = .store t y z)
    (e : aop T a o h = some (nx, h')) : Good T σ h w nx h' (execOp x.eval o) := by
  simp only [aop, opPickA, opAllocA, opBoxA, opLoadA, opStoreA, opNilCheckA, opFieldAddrA, opFieldA, opIndexAddrA, opIndexA, opSliceA, opBuildA, opBuildSliceA, opMakeSliceA, opMakeMapA, opLookupA, opMapUpdateA, opRangeA, opNextA, opExtractA, opMakeInterfaceA, opMakeFuncA, opTypeAssertA, opCallA, opDeferA, opPanicA, opBinOpA, opConvertA, opUnOpA, ho] at e
  split at e
  · rename_i p v hp hz
    split at e
    · rename_i h1 hst
      simp only [Option.some.injEq, Prod.mk.injEq] at e
      obtain ⟨rfl, rfl⟩ := e
      have hc := E.eval hp
      generalize hxc : x.eval y = cv at hc
      cases hc
      rename_i hσ
      obtain ⟨w', r1, r2, r3⟩ := store_spec hT H hst hσ (E.eval hz)
      exact ⟨σ, w', by simp [NxR, execOp, ho, hxc, Instr.storeAt, Instr.sureAddr, r1], r2, r3⟩
    · cases e
  · cases e

theorem op_nilCheck (H : HR T σ h w) (E : EvR σ a x) {o : Oper} {y : Operand} {nx : ANx} (ho : o.op = .nilCheck y)
    (e : aop T a o h = some (nx, h')) : Good T σ h w nx h' (execOp x.eval o) := by
  simp only [aop, opPickA, opAllocA, opBoxA, opLoadA, opStoreA, opNilCheckA, opFieldAddrA, opFieldA, opIndexAddrA, opIndexA, opSliceA, opBuildA, opBuildSliceA, opMakeSliceA, opMakeMapA, opLookupA, opMapUpdateA, opRangeA, opNextA, opExtractA, opMakeInterfaceA, opMakeFuncA, opTypeAssertA, opCallA, opDeferA, opPanicA, opBinOpA, opConvertA, opUnOpA, ho] at e
  split at e
  · rename_i p hp
    have hc := E.eval hp
    generalize hxc : x.eval y = cv at hc
    cases hc
    rename_i hσ
    exact good_v1 H e (by simp [execOp, ho, hxc]) (.ptr hσ)
  · cases e

theorem op_fieldAddr (hT : TbOK T) (H : HR T σ h w) (E : EvR σ a x) {o : Oper} {s : TypeId} {y : Operand} {f : Nat} {nx : ANx} (ho : o.op = .fieldAddr s y f)
    (e : aop T a o h = some (nx, h')) : Good T σ h w nx h' (execOp x.eval o) := by
  simp only [aop, opPickA, opAllocA, opBoxA, opLoadA, opStoreA, opNilCheckA, opFieldAddrA, opFieldA, opIndexAddrA, opIndexA, opSliceA, opBuildA, opBuildSliceA, opMakeSliceA, opMakeMapA, opLookupA, opMapUpdateA, opRangeA, opNextA, opExtractA, opMakeInterfaceA, opMakeFuncA, opTypeAssertA, opCallA, opDeferA, opPanicA, opBinOpA, opConvertA, opUnOpA, ho] at e
  split at e
  · rename_i fields p hu hp
    split at e
    · rename_i fd hf
      split at e
      · rename_i n hn
        replace e := cond_none e; obtain ⟨h1, e⟩ := e
        rw [nth_eq] at hf
        have hc := E.eval hp
        generalize hxc : x.eval y = cv at hc
        cases hc
        rename_i hσ
        rw [addr_eq] at e
        have hn0 : n ≠ 0 := by have := Nat.le_of_ble_eq_true h1; omega
        refine good_v1 H e ?_ (.ptr hσ)
        have hf' : fields[f]? = some fd := by simpa using hf
        simp [execOp, ho, hxc, Instr.fieldAt, run_underlying (hT.und _ _ hu), hf', Instr.sureAddr, fieldPlace, size_spec hT hn, hn0, add_mk]
      · cases e
    · cases e
  · cases e

theorem op_field (hT : TbOK T) (H : HR T σ h w) (E : EvR σ a x) {o : Oper} {s : TypeId} {y : Operand} {f : Nat} {nx : ANx} (ho : o.op = .field s y f)
    (e : aop T a o h = some (nx, h')) : Good T σ h w nx h' (execOp x.eval o) := by
  simp only [aop, opPickA, opAllocA, opBoxA, opLoadA, opStoreA, opNilCheckA, opFieldAddrA, opFieldA, opIndexAddrA, opIndexA, opSliceA, opBuildA, opBuildSliceA, opMakeSliceA, opMakeMapA, opLookupA, opMapUpdateA, opRangeA, opNextA, opExtractA, opMakeInterfaceA, opMakeFuncA, opTypeAssertA, opCallA, opDeferA, opPanicA, opBinOpA, opConvertA, opUnOpA, ho] at e
  split at e
  · rename_i fields cs hu hp
    split at e
    · rename_i fd hf
      rw [nth_eq] at hf
      have hc := E.eval hp
      generalize hxc : x.eval y = cv at hc
      cases hc
      rename_i l1 l2 hr
      refine good_retV H e fun v hv => ?_
      obtain ⟨u, r1, r2⟩ := partA_spec hT hv hr w
      have hf' : fields[f]? = some fd := by simpa using hf
      exact ⟨u, by simp [execOp, ho, hxc, Instr.field, run_underlying (hT.und _ _ hu), hf', asAgg, r1], r2⟩
    · cases e
  · cases e

theorem natOf_spec {v u : Value} {i : Nat} (e : natOf v = some i) (hr : VR σ v u) : ∃ k, u = .int k (i : Int) := by
  unfold natOf at e
  split at e
  · rename_i k n
    split at e
    · cases e; cases hr; exact ⟨k, rfl⟩
    · cases e
  · cases e

theorem op_indexAddr (hT : TbOK T) (H : HR T σ h w) (E : EvR σ a x) {o : Oper} {t : TypeId} {y z : Operand} {nx : ANx} (ho : o.op = .indexAddr t y z)
    (e : aop T a o h = some (nx, h')) : Good T σ h w nx h' (execOp x.eval o) := by
  simp only [aop, opPickA, opAllocA, opBoxA, opLoadA, opStoreA, opNilCheckA, opFieldAddrA, opFieldA, opIndexAddrA, opIndexA, opSliceA, opBuildA, opBuildSliceA, opMakeSliceA, opMakeMapA, opLookupA, opMapUpdateA, opRangeA, opNextA, opExtractA, opMakeInterfaceA, opMakeFuncA, opTypeAssertA, opCallA, opDeferA, opPanicA, opBinOpA, opConvertA, opUnOpA, ho] at e
  split at e
  · rename_i len elem p v hu hp hz
    split at e
    · rename_i i size hi hs
      replace e := cond_none e; obtain ⟨h1, e⟩ := e
      have hc := E.eval hp
      generalize hxc : x.eval y = cv at hc
      cases hc
      rename_i hσ
      obtain ⟨k, hk⟩ := natOf_spec hi (E.eval hz)
      rw [addr_eq] at e
      have hlt := Nat.le_of_ble_eq_true h1
      refine good_v1 H e ?_ (.ptr hσ)
      have h2 : (i : Int) < (len : Int) := by omega
      have hn : ¬ len ≤ i := by omega
      simp [execOp, ho, hxc, hk, Instr.indexAt, run_underlying (hT.und _ _ hu), asIntOf, Instr.sureAddr, size_spec hT hs, hn, add_mk]
    · cases e
  · rename_i elem p len cap v hu hp hz
    split at e
    · rename_i i size hi hs
      replace e := cond_none e; obtain ⟨h1, e⟩ := e
      have hc := E.eval hp
      generalize hxc : x.eval y = cv at hc
      cases hc
      case esl => have := Nat.le_of_ble_eq_true h1; omega
      rename_i hσ
      obtain ⟨k, hk⟩ := natOf_spec hi (E.eval hz)
      rw [addr_eq] at e
      have hlt := Nat.le_of_ble_eq_true h1
      refine good_v1 H e ?_ (.ptr hσ)
      have h2 : (i : Int) < (len : Int) := by omega
      have hn : ¬ len ≤ i := by omega
      simp [execOp, ho, hxc, hk, Instr.indexAt, run_underlying (hT.und _ _ hu), asIntOf, size_spec hT hs, hn, add_mk]
    · cases e
  · cases e

theorem op_index (hT : TbOK T) (H : HR T σ h w) (E : EvR σ a x) {o : Oper} {t : TypeId} {y z : Operand} {nx : ANx} (ho : o.op = .index t y z)
    (e : aop T a o h = some (nx, h')) : Good T σ h w nx h' (execOp x.eval o) := by
  simp only [aop, opPickA, opAllocA, opBoxA, opLoadA, opStoreA, opNilCheckA, opFieldAddrA, opFieldA, opIndexAddrA, opIndexA, opSliceA, opBuildA, opBuildSliceA, opMakeSliceA, opMakeMapA, opLookupA, opMapUpdateA, opRangeA, opNextA, opExtractA, opMakeInterfaceA, opMakeFuncA, opTypeAssertA, opCallA, opDeferA, opPanicA, opBinOpA, opConvertA, opUnOpA, ho] at e
  split at e
  · rename_i len elem cs v hu hp hz
    split at e
    · rename_i i size hi hs
      replace e := cond_none e; obtain ⟨h1, e⟩ := e
      have hc := E.eval hp
      generalize hxc : x.eval y = cv at hc
      cases hc
      rename_i l1 l2 hr
      obtain ⟨k, hk⟩ := natOf_spec hi (E.eval hz)
      have hlt := Nat.le_of_ble_eq_true h1
      refine good_retV H e fun v hv => ?_
      obtain ⟨u, r1, r2⟩ := partA_spec hT hv hr w
      have h2 : (i : Int) < (len : Int) := by omega
      have hn : ¬ len ≤ i := by omega
      refine ⟨u, ?_, r2⟩
      have r1' : (part elem ⟨l2⟩ (i * size)).run T.P w = .ok u w := r1
      simp [execOp, ho, hxc, hk, Instr.index, run_underlying (hT.und _ _ hu), asIntOf, size_spec hT hs, hn, r1']
    · cases e
  · rename_i s v hu hp hz
    split at e
    · rename_i i hi
      split at e
      · rename_i b hb
        rw [nth_eq] at hb
        have hc := E.eval hp
        generalize hxc : x.eval y = cv at hc
        cases hc
        obtain ⟨k, hk⟩ := natOf_spec hi (E.eval hz)
        refine good_v1 H e ?_ (.int _ _)
        have hb' : s[i]? = some b := by
          have hlt : i < s.size := by
            have := (List.getElem?_eq_some_iff.1 hb).1
            simpa using this
          rw [getElem?_pos s i hlt]
          have := (List.getElem?_eq_some_iff.1 hb).2
          congr 1
        simp [execOp, ho, hxc, hk, Instr.index, run_underlying (hT.und _ _ hu), asIntOf, hb']
      · cases e
    · cases e
  · cases e

theorem op_extract (H : HR T σ h w) (E : EvR σ a x) {o : Oper} {y : Operand} {i : Nat} {nx : ANx} (ho : o.op = .extract y i)
    (e : aop T a o h = some (nx, h')) : Good T σ h w nx h' (execOp x.eval o) := by
  simp only [aop, opPickA, opAllocA, opBoxA, opLoadA, opStoreA, opNilCheckA, opFieldAddrA, opFieldA, opIndexAddrA, opIndexA, opSliceA, opBuildA, opBuildSliceA, opMakeSliceA, opMakeMapA, opLookupA, opMapUpdateA, opRangeA, opNextA, opExtractA, opMakeInterfaceA, opMakeFuncA, opTypeAssertA, opCallA, opDeferA, opPanicA, opBinOpA, opConvertA, opUnOpA, ho] at e
  split at e
  · rename_i vs hp
    have hc := E.eval hp
    generalize hxc : x.eval y = cv at hc
    cases hc
    rename_i l1 l2 hr
    refine good_retV H e fun v hv => ?_
    rw [nth_eq] at hv
    obtain ⟨u, hu, hvu⟩ := hr.get hv
    exact ⟨u, by simp [execOp, ho, hxc, Instr.extract, hu], hvu⟩
  · cases e

theorem op_makeInterface (hT : TbOK T) (H : HR T σ h w) (E : EvR σ a x) {o : Oper} {t : TypeId} {y : Operand} {nx : ANx} (ho : o.op = .makeInterface t y)
    (e : aop T a o h = some (nx, h')) : Good T σ h w nx h' (execOp x.eval o) := by
  simp only [aop, opPickA, opAllocA, opBoxA, opLoadA, opStoreA, opNilCheckA, opFieldAddrA, opFieldA, opIndexAddrA, opIndexA, opSliceA, opBuildA, opBuildSliceA, opMakeSliceA, opMakeMapA, opLookupA, opMapUpdateA, opRangeA, opNextA, opExtractA, opMakeInterfaceA, opMakeFuncA, opTypeAssertA, opCallA, opDeferA, opPanicA, opBinOpA, opConvertA, opUnOpA, ho] at e
  split at e
  · cases e
  · rename_i d v hni hu hp
    refine good_v1 H e ?_ (.iface t (E.eval hp))
    have : ∀ ms, d ≠ .interface ms := fun ms hd => hni ms hd
    simp only [execOp, ho, Instr.makeInterface, Sem.run_bind, run_underlying (hT.und _ _ hu), Result.andThen_ok]
    cases d <;> simp_all
  · cases e

theorem evalL_spec (E : EvR σ a x) : ∀ {l : List Operand} {vs : List Value}, evalL a l = some vs → VRs σ vs (l.map x.eval) := by
  intro l
  induction l with
  | nil => intro vs e; cases e; exact .nil
  | cons o l ih =>
    intro vs e
    have e' : (match a.eval o with | some v => (match evalL a l with | some r => some (v :: r) | none => none) | none => none) = some vs := e
    split at e'
    · rename_i v hv
      split at e'
      · rename_i r hr
        cases e'
        exact .cons (E.eval hv) (ih hr)
      · cases e'
    · cases e'

theorem op_makeFunc (H : HR T σ h w) (E : EvR σ a x) {o : Oper} {fn : Fn} {f c : Array Operand} {nx : ANx} (ho : o.op = .makeFunc fn f c)
    (e : aop T a o h = some (nx, h')) : Good T σ h w nx h' (execOp x.eval o) := by
  simp only [aop, opPickA, opAllocA, opBoxA, opLoadA, opStoreA, opNilCheckA, opFieldAddrA, opFieldA, opIndexAddrA, opIndexA, opSliceA, opBuildA, opBuildSliceA, opMakeSliceA, opMakeMapA, opLookupA, opMapUpdateA, opRangeA, opNextA, opExtractA, opMakeInterfaceA, opMakeFuncA, opTypeAssertA, opCallA, opDeferA, opPanicA, opBinOpA, opConvertA, opUnOpA, ho] at e
  split at e
  · cases e
  · rename_i hny
    split at e
    · rename_i l1 l2 h1 h2
      have r1 := evalL_spec E h1
      have r2 := evalL_spec E h2
      obtain ⟨f⟩ := f
      obtain ⟨c⟩ := c
      have hfn : FnR σ fn fn := by cases fn <;> first | rfl | exact absurd rfl (hny _)
      refine good_v1 H e (u := .func fn ⟨f.map x.eval⟩ ⟨c.map x.eval⟩) ?_ (.func hfn (by simpa using r1) (by simpa using r2))
      simp [execOp, ho, Instr.makeFunc]
    · cases e

theorem zero_run (hT : TbOK T) {t : TypeId} {z : Value} (hz : T.zero.get t = some z) (w : World) : (zeroValue t).run T.P w = .ok z w := by
  obtain ⟨_, i, hi, hzi, _⟩ := hT.zero _ _ hz
  exact run_zeroValue' hi hzi w

theorem op_typeAssert (hT : TbOK T) (H : HR T σ h w) (E : EvR σ a x) {o : Oper} {y : Operand} {xt t : TypeId} {ok : Bool} {nx : ANx} (ho : o.op = .typeAssert y xt t ok)
    (e : aop T a o h = some (nx, h')) : Good T σ h w nx h' (execOp x.eval o) := by
  simp only [aop, opPickA, opAllocA, opBoxA, opLoadA, opStoreA, opNilCheckA, opFieldAddrA, opFieldA, opIndexAddrA, opIndexA, opSliceA, opBuildA, opBuildSliceA, opMakeSliceA, opMakeMapA, opLookupA, opMapUpdateA, opRangeA, opNextA, opExtractA, opMakeInterfaceA, opMakeFuncA, opTypeAssertA, opCallA, opDeferA, opPanicA, opBinOpA, opConvertA, opUnOpA, ho] at e
  split at e
  · cases e
  · rename_i d hni hu
    have hd : ∀ ms, d ≠ .interface ms := fun ms hd => hni ms hd
    split at e
    · rename_i t' v hp
      have hc := E.eval hp
      generalize hxc : x.eval y = cv at hc
      cases hc
      rename_i u hv
      cases htt : Nat.beq t' t with
      | true =>
        rw [htt] at e
        have htt' := Nat.eq_of_beq_eq_true htt
        subst htt'
        refine good_v1 H e (u := cond ok (.tuple #[u, .bool true]) u) ?_ ?_
        · simp only [execOp, ho, hxc, Instr.typeAssert, Sem.run_bind, run_underlying (hT.und _ _ hu), Result.andThen_ok]
          cases d <;> cases ok <;> simp_all
        · cases ok
          · exact hv
          · exact .tuple (.cons hv (.cons (.bool _) .nil))
      | false =>
        rw [htt] at e
        have hne : t' ≠ t := fun hh => by subst hh; simp at htt
        cases ok with
        | false => cases e
        | true =>
          simp only [cond_false, cond_true] at e
          split at e
          · rename_i z hz
            refine good_v1 H e (u := .tuple #[z, .bool false]) ?_ (.tuple (.cons (.of_gr (hT.zero _ _ hz).1) (.cons (.bool _) .nil)))
            simp only [execOp, ho, hxc, Instr.typeAssert, Sem.run_bind, run_underlying (hT.und _ _ hu), Result.andThen_ok]
            cases d <;> simp_all [zero_run hT hz]
          · cases e
    · rename_i hp
      have hc := E.eval hp
      generalize hxc : x.eval y = cv at hc
      cases hc
      cases ok with
      | false => cases e
      | true =>
        simp only [cond_true] at e
        split at e
        · rename_i z hz
          refine good_v1 H e (u := .tuple #[z, .bool false]) ?_ (.tuple (.cons (.of_gr (hT.zero _ _ hz).1) (.cons (.bool _) .nil)))
          simp only [execOp, ho, hxc, Instr.typeAssert, Sem.run_bind, run_underlying (hT.und _ _ hu), Result.andThen_ok]
          cases d <;> simp_all [zero_run hT hz]
        · cases e
    · cases e
  · cases e

theorem op_panic (H : HR T σ h w) (E : EvR σ a x) {o : Oper} {y : Operand} {nx : ANx} (ho : o.op = .panic y)
    (e : aop T a o h = some (nx, h')) : Good T σ h w nx h' (execOp x.eval o) := by
  simp only [aop, opPickA, opAllocA, opBoxA, opLoadA, opStoreA, opNilCheckA, opFieldAddrA, opFieldA, opIndexAddrA, opIndexA, opSliceA, opBuildA, opBuildSliceA, opMakeSliceA, opMakeMapA, opLookupA, opMapUpdateA, opRangeA, opNextA, opExtractA, opMakeInterfaceA, opMakeFuncA, opTypeAssertA, opCallA, opDeferA, opPanicA, opBinOpA, opConvertA, opUnOpA, ho] at e
  split at e
  · rename_i t v hp
    simp only [Option.some.injEq, Prod.mk.injEq] at e
    obtain ⟨rfl, rfl⟩ := e
    have hc := E.eval hp
    generalize hxc : x.eval y = cv at hc
    cases hc
    rename_i u hv
    exact ⟨σ, w, ⟨.iface t u, by simp [execOp, ho, hxc, Instr.panic], .iface t hv⟩, H, .refl _ _ _⟩
  · cases e

theorem gOp_spec (H : HR T σ h w) (E : EvR σ a x) {o : Oper} {nx : ANx} (hex : ∀ ρ ρ' : Operand → Value, (∀ y ∈ o.op.operands.toList, ρ y = ρ' y) → execOp ρ o = execOp ρ' o)
    (e : gOp T a o h = some (nx, h')) : Good T σ h w nx h' (execOp x.eval o) := by
  unfold gOp at e
  split at e
  · rename_i l hl
    replace e := cond_none e; obtain ⟨hg, e⟩ := e
    split at e
    · rename_i v hv
      replace e := cond_none e; obtain ⟨hgv, e⟩ := e
      rw [allB_eq] at hg
      have hr := evalL_spec E hl
      have heq := VRs.gr_eq hr hg
      have : execOp x.eval o = execOp a.ev0 o := by
        refine hex _ _ ?_
        clear hv e hex hr
        generalize o.op.operands.toList = ops at hl heq
        induction ops generalizing l with
        | nil => intro y hy; cases hy
        | cons p ops ih =>
          have e' : (match a.eval p with | some v => (match evalL a ops with | some r => some (v :: r) | none => none) | none => none) = some l := hl
          split at e'
          · rename_i v' hv'
            split at e'
            · rename_i r hr'
              cases e'
              simp only [List.map_cons, List.cons.injEq] at heq
              intro y hy
              rcases List.mem_cons.1 hy with rfl | hy
              · simp only [AF.ev0, hv']; exact heq.1
              · simp only [List.all_cons, Bool.and_eq_true] at hg
                exact ih _ hg.2 hr' heq.2 y hy
            · cases e'
          · cases e'
      refine good_v1 H e (u := v) ?_ (.of_gr hgv)
      rw [this]
      exact pureRun_run _ _ _ _ hv
    · cases e
  · cases e
end Go.Clo

namespace Go.Clo
open Go

variable {T : Tb} {σ : Ren} {h h' : Hp} {w : World} {a : AF} {x : Act}

theorem wrapA_eq (k : IntKind) (n : Int) : wrapA k n = k.wrap n := by
  unfold wrapA
  split
  · rename_i m
    by_cases hm : m ≤ 9223372036854775807
    · rw [Nat.ble_eq_true_of_le hm, cond_true]
      exact (IntWalk.i64_in (Int.ofNat m) ⟨by simp only [Int.ofNat_eq_natCast]; omega, by simp only [Int.ofNat_eq_natCast]; omega⟩).symm
    · rw [show Nat.ble m 9223372036854775807 = false from Bool.eq_false_iff.2 fun hh => hm (Nat.le_of_ble_eq_true hh), cond_false]
  · rename_i m
    by_cases hm : m ≤ 9223372036854775807
    · rw [Nat.ble_eq_true_of_le hm, cond_true]
      exact (IntWalk.i64_in (Int.negSucc m) ⟨by omega, by omega⟩).symm
    · rw [show Nat.ble m 9223372036854775807 = false from Bool.eq_false_iff.2 fun hh => hm (Nat.le_of_ble_eq_true hh), cond_false]
  · rfl

theorem iEq_eq (m n : Int) : iEq m n = decide (m = n) := by
  cases m <;> cases n <;> simp only [iEq]
  · rw [Bool.eq_iff_iff]; simp [Int.ofNat_inj]
  · simp
  · simp
  · rw [Bool.eq_iff_iff]; simp
theorem iLt_eq (m n : Int) : iLt m n = decide (m < n) := by
  cases m <;> cases n <;> simp only [iLt]
  · rename_i a b
    rw [Bool.eq_iff_iff]; simp [Nat.ble_eq]; omega
  · rename_i a b
    symm; simp; omega
  · rename_i a b
    symm; simp; omega
  · rename_i a b
    rw [Bool.eq_iff_iff]; simp [Nat.ble_eq]; omega

theorem binA_spec {op : BinOp} {u v r : Value} {t : TypeId} (e : binA op u v = some r) (P : Program) (w : World) : (binOp op t u v).run P w = .ok r w ∧ gr r = true ∧ (∃ k m k' n, u = .int k m ∧ v = .int k' n) := by
  unfold binA at e
  split at e
  · rename_i k m k' n
    replace e := cond_none e; obtain ⟨hk, e⟩ := e
    simp only [kEq, decide_eq_true_eq] at hk
    subst hk
    refine ⟨?_, ?_, k, m, k, n, rfl, rfl⟩
    · cases op <;> simp at e <;> subst e <;> simp [binOp, Op.intArith, Op.intCmp, wrapA_eq, iEq_eq, iLt_eq]
      all_goals first | rfl | (rw [Bool.eq_iff_iff]; simp; done) | (rw [Bool.eq_iff_iff]; simp; omega)
    · cases op <;> simp at e <;> subst e <;> rfl
  · cases e

theorem int_of_VR {v u : Value} {k : IntKind} {n : Int} (hr : VR σ v u) (e : v = .int k n) : u = .int k n := by
  subst e; cases hr; rfl

theorem equal_nil (d : Nat) (hT : TbOK T) {t : TypeId} {u v : Value} (hc : (∃ e b m n k l, T.und.get t = some (.slice e) ∧ ((u = .slice (some b) m n ∧ v = .slice none k l) ∨ (u = .slice none k l ∧ v = .slice (some b) m n))) ∨
    (∃ e b, T.und.get t = some (.pointer e) ∧ u = .pointer (some b) ∧ v = .pointer none) ∨ (∃ k e b, T.und.get t = some (.map k e) ∧ u = .map (some b) ∧ v = .map none)) (w : World) :
    (Op.equalIn (d + 1) t u v).run T.P w = .ok false w := by
  rcases hc with ⟨e, b, m, n, k, l, ht, ⟨rfl, rfl⟩ | ⟨rfl, rfl⟩⟩ | ⟨e, b, ht, rfl, rfl⟩ | ⟨k, e, b, ht, rfl, rfl⟩ <;> simp [Op.equalIn, run_underlying (hT.und _ _ ht)]

theorem equal_nil' (hT : TbOK T) {t : TypeId} {u v : Value} (hc : (∃ e b m n k l, T.und.get t = some (.slice e) ∧ ((u = .slice (some b) m n ∧ v = .slice none k l) ∨ (u = .slice none k l ∧ v = .slice (some b) m n))) ∨
    (∃ e b, T.und.get t = some (.pointer e) ∧ u = .pointer (some b) ∧ v = .pointer none) ∨ (∃ k e b, T.und.get t = some (.map k e) ∧ u = .map (some b) ∧ v = .map none)) (w : World) :
    (Op.equal t u v).run T.P w = .ok false w := equal_nil 9999 hT hc w

theorem op_binOp (hT : TbOK T) (H : HR T σ h w) (E : EvR σ a x) {o : Oper} {op : BinOp} {t t' : TypeId} {y z : Operand} {nx : ANx} (ho : o.op = .binOp op t y z t')
    (e : aop T a o h = some (nx, h')) : Good T σ h w nx h' (execOp x.eval o) := by
  simp only [aop, opPickA, opAllocA, opBoxA, opLoadA, opStoreA, opNilCheckA, opFieldAddrA, opFieldA, opIndexAddrA, opIndexA, opSliceA, opBuildA, opBuildSliceA, opMakeSliceA, opMakeMapA, opLookupA, opMapUpdateA, opRangeA, opNextA, opExtractA, opMakeInterfaceA, opMakeFuncA, opTypeAssertA, opCallA, opDeferA, opPanicA, opBinOpA, opConvertA, opUnOpA, ho] at e
  split at e
  · rename_i u v hu hv
    have hru := E.eval hu
    have hrv := E.eval hv
    split at e
    · rename_i r hb
      obtain ⟨h1, h2, k, m, k', n, rfl, rfl⟩ := binA_spec (t := t) hb T.P w
      have e1 := int_of_VR hru rfl
      have e2 := int_of_VR hrv rfl
      refine good_v1 H e ?_ (.of_gr h2)
      simp [execOp, ho, e1, e2, eqGuard_at_int, h1]
    · split at e
      · rename_i r hb
        unfold nilCmp at hb
        have fin : ∀ (hop : nilRes op = some r)
            (heq : (Op.equal t (x.eval y) (x.eval z)).run T.P w = .ok false w) (hg : eqGuard op t y z (x.eval y) (x.eval z) = pure ())
            (h1 : op = .eql → binOp op t (x.eval y) (x.eval z) = do pure (.bool (← Op.equal t (x.eval y) (x.eval z))))
            (h2 : op = .neq → binOp op t (x.eval y) (x.eval z) = do pure (.bool (!(← Op.equal t (x.eval y) (x.eval z))))), Good T σ h w nx h' (execOp x.eval o) := by
          intro hop heq hg h1 h2
          have hgr : gr r = true := by unfold nilRes at hop; split at hop <;> cases hop <;> rfl
          refine good_v1 H e ?_ (.of_gr hgr)
          cases op <;> simp [nilRes] at hop
          · subst hop; simp [execOp, ho, hg, h1 rfl, heq]
          · subst hop; simp [execOp, ho, hg, h2 rfl, heq]
        split at hb
        · generalize hxy : x.eval y = cy at *
          generalize hxz : x.eval z = cz at *
          cases hru <;> cases hrv
          all_goals
            refine fin hb (equal_nil' hT ?_ w) (by cases op <;> rfl) (by intro h; subst h; rfl) (by intro h; subst h; rfl)
            exact .inl ⟨_, _, _, _, _, _, by assumption, .inl ⟨rfl, rfl⟩⟩
        · generalize hxy : x.eval y = cy at *
          generalize hxz : x.eval z = cz at *
          cases hru <;> cases hrv
          all_goals
            refine fin hb (equal_nil' hT ?_ w) (by cases op <;> rfl) (by intro h; subst h; rfl) (by intro h; subst h; rfl)
            exact .inl ⟨_, _, _, _, _, _, by assumption, .inr ⟨rfl, rfl⟩⟩
        · generalize hxy : x.eval y = cy at *
          generalize hxz : x.eval z = cz at *
          cases hru; cases hrv
          refine fin hb (equal_nil' hT ?_ w) (by cases op <;> rfl) (by intro h; subst h; rfl) (by intro h; subst h; rfl)
          exact .inr (.inl ⟨_, _, by assumption, rfl, rfl⟩)
        · generalize hxy : x.eval y = cy at *
          generalize hxz : x.eval z = cz at *
          cases hru; cases hrv
          refine fin hb (equal_nil' hT ?_ w) (by cases op <;> rfl) (by intro h; subst h; rfl) (by intro h; subst h; rfl)
          exact .inr (.inr ⟨_, _, _, by assumption, rfl, rfl⟩)
        · cases hb
      · refine gOp_spec H E (fun ρ ρ' hh => ?_) e
        have h1 := hh y (by simp [ho, Op.operands])
        have h2 := hh z (by simp [ho, Op.operands])
        simp only [execOp, ho, h1, h2]
  · cases e

theorem op_unOp (H : HR T σ h w) (E : EvR σ a x) {o : Oper} {op : UnOp} {t : TypeId} {y : Operand} {nx : ANx} (ho : o.op = .unOp op t y)
    (e : aop T a o h = some (nx, h')) : Good T σ h w nx h' (execOp x.eval o) := by
  simp only [aop, opPickA, opAllocA, opBoxA, opLoadA, opStoreA, opNilCheckA, opFieldAddrA, opFieldA, opIndexAddrA, opIndexA, opSliceA, opBuildA, opBuildSliceA, opMakeSliceA, opMakeMapA, opLookupA, opMapUpdateA, opRangeA, opNextA, opExtractA, opMakeInterfaceA, opMakeFuncA, opTypeAssertA, opCallA, opDeferA, opPanicA, opBinOpA, opConvertA, opUnOpA, ho] at e
  split at e
  · rename_i b hb
    have hr := E.eval hb
    generalize hxy : x.eval y = cy at hr
    cases hr
    exact good_v1 H e (by simp [execOp, ho, hxy, Op.unary]) (.bool _)
  · refine gOp_spec H E (fun ρ ρ' hh => ?_) e
    have h1 := hh y (by simp [ho, Op.operands])
    simp only [execOp, ho, h1]

theorem bytesL_cons (v : Value) (l : List Value) : bytesL (v :: l) = match v with | .int .u8 n => (match bytesL l with | some r => some (UInt8.ofNat n.toNat :: r) | none => none) | _ => none := rfl

theorem bytesL_eq : ∀ {l us : List Value} {r : List UInt8}, bytesL l = some r → VRs σ l us → us = l := by
  intro l
  induction l with
  | nil => intro us r _ hr; cases hr; rfl
  | cons v l ih =>
    intro us r e hr
    have e' := e; rw [bytesL_cons] at e'
    cases hr with
    | cons hv ht =>
      split at e'
      · split at e'
        · rename_i r' hr'
          cases hv
          rw [ih hr' ht]
        · cases e'
      · cases e'

theorem bytes_loop (P : Program) (w : World) : ∀ (l : List Value) (r : List UInt8) (s : ByteArray), bytesL l = some r →
    (forIn (m := Sem) l s (fun c s => do
      match c with
      | .int .u8 n => pure (ForInStep.yield (s.push (UInt8.ofNat n.toNat)))
      | _ => do
        (stuck "bytesToString: byte expected" : Sem PUnit)
        pure (ForInStep.yield s))).run P w = .ok ⟨⟨s.data.toList ++ r⟩⟩ w := by
  intro l
  induction l with
  | nil => intro r s e; cases e; simp
  | cons v l ih =>
    intro r s e
    have e' := e; rw [bytesL_cons] at e'
    split at e'
    · split at e'
      · rename_i n _ r' hr'
        cases e'
        simp only [List.forIn_cons, Sem.run_bind, Sem.run_pure, Result.andThen_ok]
        rw [ih r' _ hr']
        simp
      · cases e'
    · cases e'

theorem op_convert (hT : TbOK T) (H : HR T σ h w) (E : EvR σ a x) {o : Oper} {src dst : TypeId} {y : Operand} {nx : ANx} (ho : o.op = .convert src dst y)
    (e : aop T a o h = some (nx, h')) : Good T σ h w nx h' (execOp x.eval o) := by
  simp only [aop, opPickA, opAllocA, opBoxA, opLoadA, opStoreA, opNilCheckA, opFieldAddrA, opFieldA, opIndexAddrA, opIndexA, opSliceA, opBuildA, opBuildSliceA, opMakeSliceA, opMakeMapA, opLookupA, opMapUpdateA, opRangeA, opNextA, opExtractA, opMakeInterfaceA, opMakeFuncA, opTypeAssertA, opCallA, opDeferA, opPanicA, opBinOpA, opConvertA, opUnOpA, ho] at e
  split at e
  · rename_i el p len cap hs hd hy
    split at e
    · rename_i c he hc
      split at e
      · rename_i l hl
        split at e
        · rename_i r hr
          have hv := E.eval hy
          generalize hxy : x.eval y = cy at hv
          have hcv : ∃ c' o' k', cy = .slice (some ⟨c', o', none⟩) len k' ∧ ∃ us : Array Value, (loadCells ⟨c', o', none⟩ len).run T.P w = .ok us w ∧ VRs σ l us.toList := by
            cases hv
            case slice => rename_i hσ; exact ⟨_, _, _, rfl, cutCells_spec H hc hσ hl⟩
            case esl =>
              rename_i b1 c1 o1 o2 hσ
              exact ⟨_, _, _, rfl, cutCells_spec (o := o2) H hc hσ hl⟩
          obtain ⟨c', o', k', rfl, us, r1, r2⟩ := hcv
          have r3 := bytesL_eq hr r2
          refine good_v1 H e ?_ (.string _)
          obtain ⟨us⟩ := us
          simp only at r3
          subst r3
          have := bytes_loop T.P w us r .empty hr
          simp only [execOp, ho, hxy, convert, Sem.run_bind, run_underlying (hT.und _ _ hs), run_underlying (hT.und _ _ hd), run_underlying (hT.und _ _ he), Result.andThen_ok, Conv.bytesToString, r1]
          rw [← Array.forIn_toList]
          refine (congrArg (fun z => (Result.andThen z _).andThen _) this).trans ?_
          rfl
        · cases e
      · cases e
    · cases e
  · refine gOp_spec H E (fun ρ ρ' hh => ?_) e
    have h1 := hh y (by simp [ho, Op.operands])
    simp only [execOp, ho, h1]
end Go.Clo

namespace Go.Clo
open Go

variable {T : Tb} {σ : Ren} {h h' : Hp} {w : World} {a : AF} {x : Act}

theorem optNat_spec {d i : Nat} {ov ou : Option Value} (e : optNat d ov = some i) (hr : (ov = none ∧ ou = none) ∨ ∃ v u, ov = some v ∧ ou = some u ∧ VR σ v u) :
    (ov = none ∧ ou = none ∧ i = d) ∨ ∃ k, ou = some (.int k (i : Int)) ∧ ov ≠ none := by
  unfold optNat at e
  split at e
  · rcases hr with ⟨_, h2⟩ | ⟨_, _, h1, _⟩
    · cases e; exact .inl ⟨rfl, h2, rfl⟩
    · cases h1
  · rcases hr with ⟨h1, _⟩ | ⟨v, u, h1, h2, h3⟩
    · cases h1
    · cases h1
      obtain ⟨k, hk⟩ := natOf_spec e h3
      exact .inr ⟨k, by rw [h2, hk], by simp⟩

theorem evO_spec (E : EvR σ a x) {y : Option Operand} {ov : Option Value} (e : evO a y = some ov) : (ov = none ∧ y.map x.eval = none) ∨ ∃ v u, ov = some v ∧ y.map x.eval = some u ∧ VR σ v u := by
  unfold evO at e
  split at e
  · cases e; exact .inl ⟨rfl, rfl⟩
  · split at e
    · rename_i v hv; cases e; exact .inr ⟨_, _, rfl, rfl, E.eval hv⟩
    · cases e

theorem sliceBound_run {P : Program} {k : IntKind} {i y : Nat} {c : BoundsCode} (hi : i ≤ y) (w : World) : (Instr.sliceBound (.int k (i : Int)) y c).run P w = .ok i w := by
  have h2 : (i : Int) ≤ (y : Int) := by omega
  simp [Instr.sliceBound, asIntOf, hi]

/-- low and high without max -/
theorem sliceBounds_run {P : Program} {isS : Bool} {len cap l hh : Nat} {lo hi lo' hi' : Option Value} (e1 : optNat 0 lo = some l) (e2 : optNat len hi = some hh)
    (r1 : (lo = none ∧ lo' = none) ∨ ∃ v u, lo = some v ∧ lo' = some u ∧ VR σ v u) (r2 : (hi = none ∧ hi' = none) ∨ ∃ v u, hi = some v ∧ hi' = some u ∧ VR σ v u)
    (h1 : l ≤ hh) (h2 : hh ≤ cap) (w : World) : (Instr.sliceBounds isS len cap lo' hi' none).run P w = .ok (l, hh, cap) w := by
  rcases optNat_spec e1 r1 with ⟨_, q1, q1'⟩ | ⟨k1, q1, _⟩ <;> rcases optNat_spec e2 r2 with ⟨_, q2, q2'⟩ | ⟨k2, q2, _⟩ <;> subst q1 <;> subst q2
  · subst q1'; subst q2'; simp [Instr.sliceBounds]
  · subst q1'; simp [Instr.sliceBounds, sliceBound_run h2]
  · subst q2'; simp [Instr.sliceBounds, sliceBound_run h1]
  · simp [Instr.sliceBounds, sliceBound_run h1, sliceBound_run h2]

/-- low, high and max -/
theorem sliceBounds3_run {P : Program} {isS : Bool} {len cap l hh m : Nat} {lo hi lo' hi' : Option Value} {k : IntKind} (e1 : optNat 0 lo = some l) (e2 : optNat len hi = some hh) (hhi : hi ≠ none)
    (r1 : (lo = none ∧ lo' = none) ∨ ∃ v u, lo = some v ∧ lo' = some u ∧ VR σ v u) (r2 : (hi = none ∧ hi' = none) ∨ ∃ v u, hi = some v ∧ hi' = some u ∧ VR σ v u)
    (h1 : l ≤ hh) (h2 : hh ≤ m) (h3 : m ≤ cap) (w : World) : (Instr.sliceBounds isS len cap lo' hi' (some (.int k (m : Int)))).run P w = .ok (l, hh, m) w := by
  rcases optNat_spec e1 r1 with ⟨_, q1, q1'⟩ | ⟨k1, q1, _⟩ <;> rcases optNat_spec e2 r2 with ⟨q2n, q2, q2'⟩ | ⟨k2, q2, _⟩ <;> subst q1 <;> subst q2
  · exact absurd q2n hhi
  · subst q1'; simp [Instr.sliceBounds, sliceBound_run h2, sliceBound_run h3]
  · exact absurd q2n hhi
  · simp [Instr.sliceBounds, sliceBound_run h1, sliceBound_run h2, sliceBound_run h3]

theorem add_if (c o n : Nat) (b : Bool) : (cond b (⟨c, o, none⟩ : Addr) (addr ⟨c, o, none⟩ n)) = ⟨c, cond b o (o + n), none⟩ := by
  cases b <;> simp [addr_eq]

theorem op_slice (hT : TbOK T) (H : HR T σ h w) (hlo : h.lo ≤ h.n) (E : EvR σ a x) {o : Oper} {t : TypeId} {y : Operand} {lo hi mx : Option Operand} {nx : ANx} (ho : o.op = .slice t y lo hi mx)
    (e : aop T a o h = some (nx, h')) : Good T σ h w nx h' (execOp x.eval o) := by
  simp only [aop, opPickA, opAllocA, opBoxA, opLoadA, opStoreA, opNilCheckA, opFieldAddrA, opFieldA, opIndexAddrA, opIndexA, opSliceA, opBuildA, opBuildSliceA, opMakeSliceA, opMakeMapA, opLookupA, opMapUpdateA, opRangeA, opNextA, opExtractA, opMakeInterfaceA, opMakeFuncA, opTypeAssertA, opCallA, opDeferA, opPanicA, opBinOpA, opConvertA, opUnOpA, ho] at e
  split at e
  · rename_i v lo' hi' mx' hv hl hh hm
    have rv := E.eval hv
    have rl := evO_spec E hl
    have rh := evO_spec E hh
    have rm := evO_spec E hm
    generalize hxy : x.eval y = cy at rv
    generalize hxl : lo.map x.eval = cl at rl
    generalize hxh : hi.map x.eval = ch at rh
    generalize hxm : mx.map x.eval = cm at rm
    unfold sliceOp at e
    split at e
    · rename_i elem ad len cap hu
      split at e
      · rename_i l hh size e1 e2 e3
        replace e := cond_none e; obtain ⟨hb, e⟩ := e
        simp only [Bool.and_eq_true] at hb
        have b1 := Nat.le_of_ble_eq_true hb.1
        have b2 := Nat.le_of_ble_eq_true hb.2
        have hcm : cm = none := by
          rcases rm with ⟨_, q⟩ | ⟨_, _, q, _⟩
          · exact q
          · cases q
        subst hcm
        split at e
        · cases rv
          have hsb := sliceBounds_run (P := T.P) (isS := true) (cap := cap) e1 e2 rl rh b1 b2 w
          refine good_v1 H e (u := .slice none (hh - l) (cap - l)) ?_ (.nilSlice _ _)
          simp [execOp, ho, hxy, hxl, hxh, hxm, Instr.sliceAt, Instr.slice, run_underlying (hT.und _ _ hu), hsb, size_spec hT e3]
        · split at e
          · rename_i ad _ cs el ex hbk
            cases rv
            case slice =>
              rename_i b c xx o' hσ
              have hsb := sliceBounds_run (P := T.P) (isS := true) (cap := cap + xx) e1 e2 rl rh b1 (by omega) w
              have k2 := H.blk _ _ _ _ hbk hσ
              obtain ⟨arr, _, _, k3, _⟩ := k2
              by_cases hlc : l = cap + xx
              · have hx0 : xx = 0 := by omega
                subst hx0
                have z1 : hh - l = 0 := by omega
                have z2 : cap - l = 0 := by omega
                have z3 : Nat.sub hh l = 0 := z1
                have z4 : Nat.sub cap l = 0 := z2
                refine good_v1 H e (u := .slice (some ⟨c, o', none⟩) 0 0) ?_ ?_
                · simp only [execOp, ho, hxy, hxl, hxh, hxm, Instr.sliceAt, Instr.slice, Sem.run_bind, run_underlying (hT.und _ _ hu), Result.andThen_ok, hsb, size_spec hT e3, Sem.run_pure, Option.map_some]
                  have z5 : cap + 0 - l = 0 := by omega
                  rw [if_pos hlc.symm, z1, z5]
                · rw [add_if, z3, z4]; exact .esl hσ
              · refine good_v1 H e (u := .slice (some ⟨c, o' + l * size, none⟩) (hh - l) (cap - l + xx)) ?_ ?_
                · simp only [execOp, ho, hxy, hxl, hxh, hxm, Instr.sliceAt, Instr.slice, Sem.run_bind, run_underlying (hT.und _ _ hu), Result.andThen_ok, hsb, size_spec hT e3, Sem.run_pure, Option.map_some]
                  have hcl : cap + xx - l = cap - l + xx := by omega
                  rw [hcl, if_neg (fun hq => hlc hq.symm)]
                  simp [add_mk]
                · rw [add_if]
                  have hof : (cond (Nat.beq l cap && (ex || Nat.beq l 0)) o' (o' + Nat.mul l size)) = o' + l * size := by
                    cases hb1 : (Nat.beq l cap && (ex || Nat.beq l 0)) with
                    | false => rfl
                    | true =>
                      rw [cond_true]
                      simp only [Bool.and_eq_true, Bool.or_eq_true] at hb1
                      have hl0 : l = 0 := by
                        rcases hb1.2 with hx | hx
                        · have := k3 hx; have := Nat.eq_of_beq_eq_true hb1.1; omega
                        · exact Nat.eq_of_beq_eq_true hx
                      rw [hl0]; simp
                  rw [hof]
                  exact VR.slice (σ := σ) (o := o' + l * size) (hh - l) (cap - l) hσ
            case esl =>
              rename_i b c o1 o2 hσ
              have hl0 : l = 0 := by omega
              have hh0 : hh = 0 := by omega
              subst hl0; subst hh0
              have hsb := sliceBounds_run (P := T.P) (isS := true) (cap := 0) e1 e2 rl rh b1 (by omega) w
              refine good_v1 H e (u := .slice (some ⟨c, o2, none⟩) 0 0) ?_ ?_
              · simp [execOp, ho, hxy, hxl, hxh, hxm, Instr.sliceAt, Instr.slice, run_underlying (hT.und _ _ hu), hsb, size_spec hT e3]
              · rw [add_if]; exact .esl hσ
          · cases e
      · rename_i mv l hh size e1 e2 e3
        split at e
        · rename_i hv' _ m hm'
          replace e := cond_none e; obtain ⟨hb, e⟩ := e
          cases rv
          simp only [Bool.and_eq_true] at hb
          have b1 := Nat.le_of_ble_eq_true hb.1.1
          have b2 := Nat.eq_of_beq_eq_true hb.1.2
          have b3 := Nat.eq_of_beq_eq_true hb.2
          rcases rm with ⟨q, _⟩ | ⟨v', u', q1, q2, q3⟩
          · cases q
          cases q1
          obtain ⟨k, hk⟩ := natOf_spec hm' q3
          subst hk; subst q2
          have hsb := sliceBounds3_run (P := T.P) (isS := true) (cap := cap) (m := m) (k := k) e1 e2 (by simp) rl rh (by omega) (by omega) b1 w
          refine good_v1 H e (u := .slice none 0 0) ?_ (.nilSlice _ _)
          simp [execOp, ho, hxy, hxl, hxh, hxm, Instr.sliceAt, Instr.slice, run_underlying (hT.und _ _ hu), hsb, size_spec hT e3, b2, b3]
        · rename_i hv' _ m ad hm'
          replace e := cond_none e; obtain ⟨hb, e⟩ := e
          simp only [Bool.and_eq_true] at hb
          have b1 := Nat.le_of_ble_eq_true hb.1.1.1
          have b2 := Nat.eq_of_beq_eq_true hb.1.1.2
          have b3 := Nat.eq_of_beq_eq_true hb.1.2
          have b4 := Nat.eq_of_beq_eq_true hb.2
          rcases rm with ⟨q, _⟩ | ⟨v', u', q1, q2, q3⟩
          · cases q
          cases q1
          obtain ⟨k, hk⟩ := natOf_spec hm' q3
          subst hk; subst q2
          split at e
          · rename_i _ cs el ex hbk
            simp only [Option.some.injEq, Prod.mk.injEq] at e
            obtain ⟨rfl, rfl⟩ := e
            cases rv
            case slice =>
              rename_i b c xx o' hσ
              have hsb := sliceBounds3_run (P := T.P) (isS := true) (cap := cap + xx) (m := m) (k := k) e1 e2 (by simp) rl rh (by omega) (by omega) (by omega) w
              have k2 := H.blk _ _ _ _ hbk hσ
              obtain ⟨arr, k3, _, _, _⟩ := k2
              have hrg := H.rng _ _ _ hσ
              obtain ⟨n1, n2⟩ := H.newAt0 hrg k3 hlo
              refine ⟨_, w, ⟨.slice (some ⟨c, o', none⟩) 0 0, ?_, ?_⟩, n1, n2⟩
              · simp only [execOp, ho, hxy, hxl, hxh, hxm, Instr.sliceAt, Instr.slice, Sem.run_bind, run_underlying (hT.und _ _ hu), Result.andThen_ok, hsb, size_spec hT e3, Sem.run_pure, Option.map_some]
                simp [b2, b3]
              · have := VR.slice (σ := σ.up h.n (c, 0)) (o := o') 0 0 (Ren.up_self σ h.n (c, 0))
                simpa using this
            case esl =>
              rename_i b c o1 o2 hσ
              have hsb := sliceBounds3_run (P := T.P) (isS := true) (cap := 0) (m := m) (k := k) e1 e2 (by simp) rl rh (by omega) (by omega) (by omega) w
              have k2 := H.blk _ _ _ _ hbk hσ
              obtain ⟨arr, k3, _, _, _⟩ := k2
              have hrg := H.rng _ _ _ hσ
              obtain ⟨n1, n2⟩ := H.newAt0 hrg k3 hlo
              refine ⟨_, w, ⟨.slice (some ⟨c, o2, none⟩) 0 0, ?_, ?_⟩, n1, n2⟩
              · simp only [execOp, ho, hxy, hxl, hxh, hxm, Instr.sliceAt, Instr.slice, Sem.run_bind, run_underlying (hT.und _ _ hu), Result.andThen_ok, hsb, size_spec hT e3, Sem.run_pure, Option.map_some]
                simp [b2, b3]
              · exact .esl (Ren.up_self σ h.n (c, 0))
          · cases e
        · cases e
      · cases e
    · rename_i s hu
      split at e
      · rename_i l hh e1 e2
        replace e := cond_none e; obtain ⟨hb, e⟩ := e
        simp only [Bool.and_eq_true] at hb
        have b1 := Nat.le_of_ble_eq_true hb.1
        have b2 := Nat.le_of_ble_eq_true hb.2
        have hcm : cm = none := by
          rcases rm with ⟨_, q⟩ | ⟨_, _, q, _⟩
          · exact q
          · cases q
        subst hcm
        cases rv
        have hsb := sliceBounds_run (P := T.P) (isS := false) (cap := s.size) e1 e2 rl rh b1 b2 w
        refine good_v1 H e ?_ (.string _)
        simp [execOp, ho, hxy, hxl, hxh, hxm, Instr.sliceAt, Instr.slice, run_underlying (hT.und _ _ hu), hsb]
      · cases e
    · rename_i n elem ad hu
      split at e
      · rename_i l hh size cs el e1 e2 e3 hbk
        replace e := cond_none e; obtain ⟨hb, e⟩ := e
        simp only [Bool.and_eq_true] at hb
        have b1 := Nat.le_of_ble_eq_true hb.1
        have b2 := Nat.le_of_ble_eq_true hb.2
        have hcm : cm = none := by
          rcases rm with ⟨_, q⟩ | ⟨_, _, q, _⟩
          · exact q
          · cases q
        subst hcm
        cases rv
        rename_i b c xx o' hσ
        have hsb := sliceBounds_run (P := T.P) (isS := false) (cap := n) e1 e2 rl rh b1 b2 w
        have k2 := H.blk _ _ _ _ hbk hσ
        obtain ⟨arr, _, _, k3, _⟩ := k2
        have hxx := k3 rfl
        subst hxx
        refine good_v1 H e (u := .slice (some ⟨c, cond (Nat.beq l n) o' (o' + l * size), none⟩) (hh - l) (n - l)) ?_ ?_
        · simp only [execOp, ho, hxy, hxl, hxh, hxm, Instr.sliceAt, Sem.run_bind, run_underlying (hT.und _ _ hu), Result.andThen_ok, hsb, size_spec hT e3, Sem.run_pure, Instr.sureAddr]
          by_cases hlc : l = n
          · subst hlc
            have hbeq : Nat.beq l l = true := Nat.beq_refl l
            rw [hbeq]
            simp
          · have hbeq : Nat.beq l n = false := Bool.eq_false_iff.2 fun hh => hlc (Nat.eq_of_beq_eq_true hh)
            rw [hbeq, if_neg (by omega)]
            simp [add_mk]
        · have := VR.slice (σ := σ) (o := cond (Nat.beq l n) o' (o' + l * size)) (hh - l) (n - l) hσ
          rw [add_if]
          exact this
      · cases e
    · cases e
  · cases e
end Go.Clo
