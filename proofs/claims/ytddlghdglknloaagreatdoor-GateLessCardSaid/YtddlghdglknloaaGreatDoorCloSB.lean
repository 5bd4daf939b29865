/- Contracts of functions that the laws of this seat call, or the evaluator of closed calls and its runs. Conditions: as each theorem states them. -/
import Derived.Test.YtddlghdglknloaaGreatDoorCloSA
import Derived.IntWalk
set_option linter.unusedVariables false
set_option linter.unusedSimpArgs false
/- Contracts of functions that the laws of this seat call, or the evaluator of closed calls and its runs. Conditions: as each theorem states them. -/
set_option linter.unusedVariables false
set_option linter.unusedSimpArgs false
namespace Go.Clo
open Go

variable {T : Tb} {σ : Ren} {h h' : Hp} {w : World} {a : AF} {x : Act}

theorem wrapA_eq (k : IntKind) (n : Int) : wrapA k n = k.wrap n := by
  unfold wrapA
  split
  · rename_i m
    by_cases hm : m ≤ 9223372036854775807
    · rw [Nat.ble_eq_true_of_le hm, cond_true]
      exact (IntWalk.i64_in (Int.ofNat m) ⟨by simp only [Int.ofNat_eq_natCast]; omega, by simp only [Int.ofNat_eq_natCast]; omega⟩).symm
    · rw [show Nat.ble m 9223372036854775807 = false from Bool.eq_false_iff.2 fun hh => hm (Nat.le_of_ble_eq_true hh), cond_false]
  · rename_i m
    by_cases hm : m ≤ 9223372036854775807
    · rw [Nat.ble_eq_true_of_le hm, cond_true]
      exact (IntWalk.i64_in (Int.negSucc m) ⟨by omega, by omega⟩).symm
    · rw [show Nat.ble m 9223372036854775807 = false from Bool.eq_false_iff.2 fun hh => hm (Nat.le_of_ble_eq_true hh), cond_false]
  · rfl

theorem iEq_eq (m n : Int) : iEq m n = decide (m = n) := by
  cases m <;> cases n <;> simp only [iEq]
  · rw [Bool.eq_iff_iff]; simp [Int.ofNat_inj]
  · simp
  · simp
  · rw [Bool.eq_iff_iff]; simp
theorem iLt_eq (m n : Int) : iLt m n = decide (m < n) := by
  cases m <;> cases n <;> simp only [iLt]
  · rename_i a b
    rw [Bool.eq_iff_iff]; simp [Nat.ble_eq]; omega
  · rename_i a b
    symm; simp; omega
  · rename_i a b
    symm; simp; omega
  · rename_i a b
    rw [Bool.eq_iff_iff]; simp [Nat.ble_eq]; omega

theorem binA_spec {op : BinOp} {u v r : Value} {t : TypeId} (e : binA op u v = some r) (P : Program) (w : World) : (binOp op t u v).run P w = .ok r w ∧ gr r = true ∧ (∃ k m k' n, u = .int k m ∧ v = .int k' n) := by
  unfold binA at e
  split at e
  · rename_i k m k' n
    replace e := cond_none e; obtain ⟨hk, e⟩ := e
    simp only [kEq, decide_eq_true_eq] at hk
    subst hk
    refine ⟨?_, ?_, k, m, k, n, rfl, rfl⟩
    · cases op <;> simp at e <;> subst e <;> simp [binOp, Op.intArith, Op.intCmp, wrapA_eq, iEq_eq, iLt_eq]
      all_goals first | rfl | (rw [Bool.eq_iff_iff]; simp; done) | (rw [Bool.eq_iff_iff]; simp; omega)
    · cases op <;> simp at e <;> subst e <;> rfl
  · cases e

theorem int_of_VR {v u : Value} {k : IntKind} {n : Int} (hr : VR σ v u) (e : v = .int k n) : u = .int k n := by
  subst e; cases hr; rfl

theorem equal_nil (d : Nat) (hT : TbOK T) {t : TypeId} {u v : Value} (hc : (∃ e b m n k l, T.und.get t = some (.slice e) ∧ ((u = .slice (some b) m n ∧ v = .slice none k l) ∨ (u = .slice none k l ∧ v = .slice (some b) m n))) ∨
    (∃ e b, T.und.get t = some (.pointer e) ∧ u = .pointer (some b) ∧ v = .pointer none) ∨ (∃ k e b, T.und.get t = some (.map k e) ∧ u = .map (some b) ∧ v = .map none)) (w : World) :
    (Op.equalIn (d + 1) t u v).run T.P w = .ok false w := by
  rcases hc with ⟨e, b, m, n, k, l, ht, ⟨rfl, rfl⟩ | ⟨rfl, rfl⟩⟩ | ⟨e, b, ht, rfl, rfl⟩ | ⟨k, e, b, ht, rfl, rfl⟩ <;> simp [Op.equalIn, run_underlying (hT.und _ _ ht)]

theorem equal_nil' (hT : TbOK T) {t : TypeId} {u v : Value} (hc : (∃ e b m n k l, T.und.get t = some (.slice e) ∧ ((u = .slice (some b) m n ∧ v = .slice none k l) ∨ (u = .slice none k l ∧ v = .slice (some b) m n))) ∨
    (∃ e b, T.und.get t = some (.pointer e) ∧ u = .pointer (some b) ∧ v = .pointer none) ∨ (∃ k e b, T.und.get t = some (.map k e) ∧ u = .map (some b) ∧ v = .map none)) (w : World) :
    (Op.equal t u v).run T.P w = .ok false w := equal_nil 9999 hT hc w

theorem op_binOp (hT : TbOK T) (H : HR T σ h w) (E : EvR σ a x) {o : Oper} {op : BinOp} {t t' : TypeId} {y z : Operand} {nx : ANx} (ho : o.op = .binOp op t y z t')
    (e : aop T a o h = some (nx, h')) : Good T σ h w nx h' (execOp x.eval o) := by
  simp only [aop, opPickA, opAllocA, opBoxA, opLoadA, opStoreA, opNilCheckA, opFieldAddrA, opFieldA, opIndexAddrA, opIndexA, opSliceA, opBuildA, opBuildSliceA, opMakeSliceA, opMakeMapA, opLookupA, opMapUpdateA, opRangeA, opNextA, opExtractA, opMakeInterfaceA, opMakeFuncA, opTypeAssertA, opCallA, opDeferA, opPanicA, opBinOpA, opConvertA, opUnOpA, ho] at e
  split at e
  · rename_i u v hu hv
    have hru := E.eval hu
    have hrv := E.eval hv
    split at e
    · rename_i r hb
      obtain ⟨h1, h2, k, m, k', n, rfl, rfl⟩ := binA_spec (t := t) hb T.P w
      have e1 := int_of_VR hru rfl
      have e2 := int_of_VR hrv rfl
      refine good_v1 H e ?_ (.of_gr h2)
      simp [execOp, ho, e1, e2, eqGuard_at_int, h1]
    · split at e
      · rename_i r hb
        unfold nilCmp at hb
        have fin : ∀ (hop : nilRes op = some r)
            (heq : (Op.equal t (x.eval y) (x.eval z)).run T.P w = .ok false w) (hg : eqGuard op t y z (x.eval y) (x.eval z) = pure ())
            (h1 : op = .eql → binOp op t (x.eval y) (x.eval z) = do pure (.bool (← Op.equal t (x.eval y) (x.eval z))))
            (h2 : op = .neq → binOp op t (x.eval y) (x.eval z) = do pure (.bool (!(← Op.equal t (x.eval y) (x.eval z))))), Good T σ h w nx h' (execOp x.eval o) := by
          intro hop heq hg h1 h2
          have hgr : gr r = true := by unfold nilRes at hop; split at hop <;> cases hop <;> rfl
          refine good_v1 H e ?_ (.of_gr hgr)
          cases op <;> simp [nilRes] at hop
          · subst hop; simp [execOp, ho, hg, h1 rfl, heq]
          · subst hop; simp [execOp, ho, hg, h2 rfl, heq]
        split at hb
        · generalize hxy : x.eval y = cy at *
          generalize hxz : x.eval z = cz at *
          cases hru <;> cases hrv
          all_goals
            refine fin hb (equal_nil' hT ?_ w) (by cases op <;> rfl) (by intro h; subst h; rfl) (by intro h; subst h; rfl)
            exact .inl ⟨_, _, _, _, _, _, by assumption, .inl ⟨rfl, rfl⟩⟩
        · generalize hxy : x.eval y = cy at *
          generalize hxz : x.eval z = cz at *
          cases hru <;> cases hrv
          all_goals
            refine fin hb (equal_nil' hT ?_ w) (by cases op <;> rfl) (by intro h; subst h; rfl) (by intro h; subst h; rfl)
            exact .inl ⟨_, _, _, _, _, _, by assumption, .inr ⟨rfl, rfl⟩⟩
        · generalize hxy : x.eval y = cy at *
          generalize hxz : x.eval z = cz at *
          cases hru; cases hrv
          refine fin hb (equal_nil' hT ?_ w) (by cases op <;> rfl) (by intro h; subst h; rfl) (by intro h; subst h; rfl)
          exact .inr (.inl ⟨_, _, by assumption, rfl, rfl⟩)
        · generalize hxy : x.eval y = cy at *
          generalize hxz : x.eval z = cz at *
          cases hru; cases hrv
          refine fin hb (equal_nil' hT ?_ w) (by cases op <;> rfl) (by intro h; subst h; rfl) (by intro h; subst h; rfl)
          exact .inr (.inr ⟨_, _, _, by assumption, rfl, rfl⟩)
        · cases hb
      · refine gOp_spec H E (fun ρ ρ' hh => ?_) e
        have h1 := hh y (by simp [ho, Op.operands])
        have h2 := hh z (by simp [ho, Op.operands])
        simp only [execOp, ho, h1, h2]
  · cases e

theorem op_unOp (H : HR T σ h w) (E : EvR σ a x) {o : Oper} {op : UnOp} {t : TypeId} {y : Operand} {nx : ANx} (ho : o.op = .unOp op t y)
    (e : aop T a o h = some (nx, h')) : Good T σ h w nx h' (execOp x.eval o) := by
  simp only [aop, opPickA, opAllocA, opBoxA, opLoadA, opStoreA, opNilCheckA, opFieldAddrA, opFieldA, opIndexAddrA, opIndexA, opSliceA, opBuildA, opBuildSliceA, opMakeSliceA, opMakeMapA, opLookupA, opMapUpdateA, opRangeA, opNextA, opExtractA, opMakeInterfaceA, opMakeFuncA, opTypeAssertA, opCallA, opDeferA, opPanicA, opBinOpA, opConvertA, opUnOpA, ho] at e
  split at e
  · rename_i b hb
    have hr := E.eval hb
    generalize hxy : x.eval y = cy at hr
    cases hr
    exact good_v1 H e (by simp [execOp, ho, hxy, Op.unary]) (.bool _)
  · refine gOp_spec H E (fun ρ ρ' hh => ?_) e
    have h1 := hh y (by simp [ho, Op.operands])
    simp only [execOp, ho, h1]

theorem bytesL_cons (v : Value) (l : List Value) : bytesL (v :: l) = match v with | .int .u8 n => (match bytesL l with | some r => some (UInt8.ofNat n.toNat :: r) | none => none) | _ => none := rfl

theorem bytesL_eq : ∀ {l us : List Value} {r : List UInt8}, bytesL l = some r → VRs σ l us → us = l := by
  intro l
  induction l with
  | nil => intro us r _ hr; cases hr; rfl
  | cons v l ih =>
    intro us r e hr
    have e' := e; rw [bytesL_cons] at e'
    cases hr with
    | cons hv ht =>
      split at e'
      · split at e'
        · rename_i r' hr'
          cases hv
          rw [ih hr' ht]
        · cases e'
      · cases e'

theorem bytes_loop (P : Program) (w : World) : ∀ (l : List Value) (r : List UInt8) (s : ByteArray), bytesL l = some r →
    (forIn (m := Sem) l s (fun c s => do
      match c with
      | .int .u8 n => pure (ForInStep.yield (s.push (UInt8.ofNat n.toNat)))
      | _ => do
        (stuck "bytesToString: byte expected" : Sem PUnit)
        pure (ForInStep.yield s))).run P w = .ok ⟨⟨s.data.toList ++ r⟩⟩ w := by
  intro l
  induction l with
  | nil => intro r s e; cases e; simp
  | cons v l ih =>
    intro r s e
    have e' := e; rw [bytesL_cons] at e'
    split at e'
    · split at e'
      · rename_i n _ r' hr'
        cases e'
        simp only [List.forIn_cons, Sem.run_bind, Sem.run_pure, Result.andThen_ok]
        rw [ih r' _ hr']
        simp
      · cases e'
    · cases e'

theorem op_convert (hT : TbOK T) (H : HR T σ h w) (E : EvR σ a x) {o : Oper} {src dst : TypeId} {y : Operand} {nx : ANx} (ho : o.op = .convert src dst y)
    (e : aop T a o h = some (nx, h')) : Good T σ h w nx h' (execOp x.eval o) := by
  simp only [aop, opPickA, opAllocA, opBoxA, opLoadA, opStoreA, opNilCheckA, opFieldAddrA, opFieldA, opIndexAddrA, opIndexA, opSliceA, opBuildA, opBuildSliceA, opMakeSliceA, opMakeMapA, opLookupA, opMapUpdateA, opRangeA, opNextA, opExtractA, opMakeInterfaceA, opMakeFuncA, opTypeAssertA, opCallA, opDeferA, opPanicA, opBinOpA, opConvertA, opUnOpA, ho] at e
  split at e
  · rename_i el p len cap hs hd hy
    split at e
    · rename_i c he hc
      split at e
      · rename_i l hl
        split at e
        · rename_i r hr
          have hv := E.eval hy
          generalize hxy : x.eval y = cy at hv
          have hcv : ∃ c' o' k', cy = .slice (some ⟨c', o', none⟩) len k' ∧ ∃ us : Array Value, (loadCells ⟨c', o', none⟩ len).run T.P w = .ok us w ∧ VRs σ l us.toList := by
            cases hv
            case slice => rename_i hσ; exact ⟨_, _, _, rfl, cutCells_spec H hc hσ hl⟩
            case esl =>
              rename_i b1 c1 o1 o2 hσ
              exact ⟨_, _, _, rfl, cutCells_spec (o := o2) H hc hσ hl⟩
          obtain ⟨c', o', k', rfl, us, r1, r2⟩ := hcv
          have r3 := bytesL_eq hr r2
          refine good_v1 H e ?_ (.string _)
          obtain ⟨us⟩ := us
          simp only at r3
          subst r3
          have := bytes_loop T.P w us r .empty hr
          simp only [execOp, ho, hxy, convert, Sem.run_bind, run_underlying (hT.und _ _ hs), run_underlying (hT.und _ _ hd), run_underlying (hT.und _ _ he), Result.andThen_ok, Conv.bytesToString, r1]
          rw [← Array.forIn_toList]
          refine (congrArg (fun z => (Result.andThen z _).andThen _) this).trans ?_
          rfl
        · cases e
      · cases e
    · cases e
  · refine gOp_spec H E (fun ρ ρ' hh => ?_) e
    have h1 := hh y (by simp [ho, Op.operands])
    simp only [execOp, ho, h1]
end Go.Clo

namespace Go.Clo
open Go

variable {T : Tb} {σ : Ren} {h h' : Hp} {w : World} {a : AF} {x : Act}

theorem optNat_spec {d i : Nat} {ov ou : Option Value} (e : optNat d ov = some i) (hr : (ov = none ∧ ou = none) ∨ ∃ v u, ov = some v ∧ ou = some u ∧ VR σ v u) :
    (ov = none ∧ ou = none ∧ i = d) ∨ ∃ k, ou = some (.int k (i : Int)) ∧ ov ≠ none := by
  unfold optNat at e
  split at e
  · rcases hr with ⟨_, h2⟩ | ⟨_, _, h1, _⟩
    · cases e; exact .inl ⟨rfl, h2, rfl⟩
    · cases h1
  · rcases hr with ⟨h1, _⟩ | ⟨v, u, h1, h2, h3⟩
    · cases h1
    · cases h1
      obtain ⟨k, hk⟩ := natOf_spec e h3
      exact .inr ⟨k, by rw [h2, hk], by simp⟩

theorem evO_spec (E : EvR σ a x) {y : Option Operand} {ov : Option Value} (e : evO a y = some ov) : (ov = none ∧ y.map x.eval = none) ∨ ∃ v u, ov = some v ∧ y.map x.eval = some u ∧ VR σ v u := by
  unfold evO at e
  split at e
  · cases e; exact .inl ⟨rfl, rfl⟩
  · split at e
    · rename_i v hv; cases e; exact .inr ⟨_, _, rfl, rfl, E.eval hv⟩
    · cases e

theorem sliceBound_run {P : Program} {k : IntKind} {i y : Nat} {c : BoundsCode} (hi : i ≤ y) (w : World) : (Instr.sliceBound (.int k (i : Int)) y c).run P w = .ok i w := by
  have h2 : (i : Int) ≤ (y : Int) := by omega
  simp [Instr.sliceBound, asIntOf, hi]

/-- low and high without max -/
theorem sliceBounds_run {P : Program} {isS : Bool} {len cap l hh : Nat} {lo hi lo' hi' : Option Value} (e1 : optNat 0 lo = some l) (e2 : optNat len hi = some hh)
    (r1 : (lo = none ∧ lo' = none) ∨ ∃ v u, lo = some v ∧ lo' = some u ∧ VR σ v u) (r2 : (hi = none ∧ hi' = none) ∨ ∃ v u, hi = some v ∧ hi' = some u ∧ VR σ v u)
    (h1 : l ≤ hh) (h2 : hh ≤ cap) (w : World) : (Instr.sliceBounds isS len cap lo' hi' none).run P w = .ok (l, hh, cap) w := by
  rcases optNat_spec e1 r1 with ⟨_, q1, q1'⟩ | ⟨k1, q1, _⟩ <;> rcases optNat_spec e2 r2 with ⟨_, q2, q2'⟩ | ⟨k2, q2, _⟩ <;> subst q1 <;> subst q2
  · subst q1'; subst q2'; simp [Instr.sliceBounds]
  · subst q1'; simp [Instr.sliceBounds, sliceBound_run h2]
  · subst q2'; simp [Instr.sliceBounds, sliceBound_run h1]
  · simp [Instr.sliceBounds, sliceBound_run h1, sliceBound_run h2]

/-- low, high and max -/
theorem sliceBounds3_run {P : Program} {isS : Bool} {len cap l hh m : Nat} {lo hi lo' hi' : Option Value} {k : IntKind} (e1 : optNat 0 lo = some l) (e2 : optNat len hi = some hh) (hhi : hi ≠ none)
    (r1 : (lo = none ∧ lo' = none) ∨ ∃ v u, lo = some v ∧ lo' = some u ∧ VR σ v u) (r2 : (hi = none ∧ hi' = none) ∨ ∃ v u, hi = some v ∧ hi' = some u ∧ VR σ v u)
    (h1 : l ≤ hh) (h2 : hh ≤ m) (h3 : m ≤ cap) (w : World) : (Instr.sliceBounds isS len cap lo' hi' (some (.int k (m : Int)))).run P w = .ok (l, hh, m) w := by
  rcases optNat_spec e1 r1 with ⟨_, q1, q1'⟩ | ⟨k1, q1, _⟩ <;> rcases optNat_spec e2 r2 with ⟨q2n, q2, q2'⟩ | ⟨k2, q2, _⟩ <;> subst q1 <;> subst q2
  · exact absurd q2n hhi
  · subst q1'; simp [Instr.sliceBounds, sliceBound_run h2, sliceBound_run h3]
  · exact absurd q2n hhi
  · simp [Instr.sliceBounds, sliceBound_run h1, sliceBound_run h2, sliceBound_run h3]

theorem add_if (c o n : Nat) (b : Bool) : (cond b (⟨c, o, none⟩ : Addr) (addr ⟨c, o, none⟩ n)) = ⟨c, cond b o (o + n), none⟩ := by
  cases b <;> simp [addr_eq]

theorem op_slice (hT : TbOK T) (H : HR T σ h w) (hlo : h.lo ≤ h.n) (E : EvR σ a x) {o : Oper} {t : TypeId} {y : Operand} {lo hi mx : Option Operand} {nx : ANx} (ho : o.op = .slice t y lo hi mx)
    (e : aop T a o h = some (nx, h')) : Good T σ h w nx h' (execOp x.eval o) := by
  simp only [aop, opPickA, opAllocA, opBoxA, opLoadA, opStoreA, opNilCheckA, opFieldAddrA, opFieldA, opIndexAddrA, opIndexA, opSliceA, opBuildA, opBuildSliceA, opMakeSliceA, opMakeMapA, opLookupA, opMapUpdateA, opRangeA, opNextA, opExtractA, opMakeInterfaceA, opMakeFuncA, opTypeAssertA, opCallA, opDeferA, opPanicA, opBinOpA, opConvertA, opUnOpA, ho] at e
  split at e
  · rename_i v lo' hi' mx' hv hl hh hm
    have rv := E.eval hv
    have rl := evO_spec E hl
    have rh := evO_spec E hh
    have rm := evO_spec E hm
    generalize hxy : x.eval y = cy at rv
    generalize hxl : lo.map x.eval = cl at rl
    generalize hxh : hi.map x.eval = ch at rh
    generalize hxm : mx.map x.eval = cm at rm
    unfold sliceOp at e
    split at e
    · rename_i elem ad len cap hu
      split at e
      · rename_i l hh size e1 e2 e3
        replace e := cond_none e; obtain ⟨hb, e⟩ := e
        simp only [Bool.and_eq_true] at hb
        have b1 := Nat.le_of_ble_eq_true hb.1
        have b2 := Nat.le_of_ble_eq_true hb.2
        have hcm : cm = none := by
          rcases rm with ⟨_, q⟩ | ⟨_, _, q, _⟩
          · exact q
          · cases q
        subst hcm
        split at e
        · cases rv
          have hsb := sliceBounds_run (P := T.P) (isS := true) (cap := cap) e1 e2 rl rh b1 b2 w
          refine good_v1 H e (u := .slice none (hh - l) (cap - l)) ?_ (.nilSlice _ _)
          simp [execOp, ho, hxy, hxl, hxh, hxm, Instr.sliceAt, Instr.slice, run_underlying (hT.und _ _ hu), hsb, size_spec hT e3]
        · split at e
          · rename_i ad _ cs el ex hbk
            cases rv
            case slice =>
              rename_i b c xx o' hσ
              have hsb := sliceBounds_run (P := T.P) (isS := true) (cap := cap + xx) e1 e2 rl rh b1 (by omega) w
              have k2 := H.blk _ _ _ _ hbk hσ
              obtain ⟨arr, _, _, k3, _⟩ := k2
              by_cases hlc : l = cap + xx
              · have hx0 : xx = 0 := by omega
                subst hx0
                have z1 : hh - l = 0 := by omega
                have z2 : cap - l = 0 := by omega
                have z3 : Nat.sub hh l = 0 := z1
                have z4 : Nat.sub cap l = 0 := z2
                refine good_v1 H e (u := .slice (some ⟨c, o', none⟩) 0 0) ?_ ?_
                · simp only [execOp, ho, hxy, hxl, hxh, hxm, Instr.sliceAt, Instr.slice, Sem.run_bind, run_underlying (hT.und _ _ hu), Result.andThen_ok, hsb, size_spec hT e3, Sem.run_pure, Option.map_some]
                  have z5 : cap + 0 - l = 0 := by omega
                  rw [if_pos hlc.symm, z1, z5]
                · rw [add_if, z3, z4]; exact .esl hσ
              · refine good_v1 H e (u := .slice (some ⟨c, o' + l * size, none⟩) (hh - l) (cap - l + xx)) ?_ ?_
                · simp only [execOp, ho, hxy, hxl, hxh, hxm, Instr.sliceAt, Instr.slice, Sem.run_bind, run_underlying (hT.und _ _ hu), Result.andThen_ok, hsb, size_spec hT e3, Sem.run_pure, Option.map_some]
                  have hcl : cap + xx - l = cap - l + xx := by omega
                  rw [hcl, if_neg (fun hq => hlc hq.symm)]
                  simp [add_mk]
                · rw [add_if]
                  have hof : (cond (Nat.beq l cap && (ex || Nat.beq l 0)) o' (o' + Nat.mul l size)) = o' + l * size := by
                    cases hb1 : (Nat.beq l cap && (ex || Nat.beq l 0)) with
                    | false => rfl
                    | true =>
                      rw [cond_true]
                      simp only [Bool.and_eq_true, Bool.or_eq_true] at hb1
                      have hl0 : l = 0 := by
                        rcases hb1.2 with hx | hx
                        · have := k3 hx; have := Nat.eq_of_beq_eq_true hb1.1; omega
                        · exact Nat.eq_of_beq_eq_true hx
                      rw [hl0]; simp
                  rw [hof]
                  exact VR.slice (σ := σ) (o := o' + l * size) (hh - l) (cap - l) hσ
            case esl =>
              rename_i b c o1 o2 hσ
              have hl0 : l = 0 := by omega
              have hh0 : hh = 0 := by omega
              subst hl0; subst hh0
              have hsb := sliceBounds_run (P := T.P) (isS := true) (cap := 0) e1 e2 rl rh b1 (by omega) w
              refine good_v1 H e (u := .slice (some ⟨c, o2, none⟩) 0 0) ?_ ?_
              · simp [execOp, ho, hxy, hxl, hxh, hxm, Instr.sliceAt, Instr.slice, run_underlying (hT.und _ _ hu), hsb, size_spec hT e3]
              · rw [add_if]; exact .esl hσ
          · cases e
      · rename_i mv l hh size e1 e2 e3
        split at e
        · rename_i hv' _ m hm'
          replace e := cond_none e; obtain ⟨hb, e⟩ := e
          cases rv
          simp only [Bool.and_eq_true] at hb
          have b1 := Nat.le_of_ble_eq_true hb.1.1
          have b2 := Nat.eq_of_beq_eq_true hb.1.2
          have b3 := Nat.eq_of_beq_eq_true hb.2
          rcases rm with ⟨q, _⟩ | ⟨v', u', q1, q2, q3⟩
          · cases q
          cases q1
          obtain ⟨k, hk⟩ := natOf_spec hm' q3
          subst hk; subst q2
          have hsb := sliceBounds3_run (P := T.P) (isS := true) (cap := cap) (m := m) (k := k) e1 e2 (by simp) rl rh (by omega) (by omega) b1 w
          refine good_v1 H e (u := .slice none 0 0) ?_ (.nilSlice _ _)
          simp [execOp, ho, hxy, hxl, hxh, hxm, Instr.sliceAt, Instr.slice, run_underlying (hT.und _ _ hu), hsb, size_spec hT e3, b2, b3]
        · rename_i hv' _ m ad hm'
          replace e := cond_none e; obtain ⟨hb, e⟩ := e
          simp only [Bool.and_eq_true] at hb
          have b1 := Nat.le_of_ble_eq_true hb.1.1.1
          have b2 := Nat.eq_of_beq_eq_true hb.1.1.2
          have b3 := Nat.eq_of_beq_eq_true hb.1.2
          have b4 := Nat.eq_of_beq_eq_true hb.2
          rcases rm with ⟨q, _⟩ | ⟨v', u', q1, q2, q3⟩
          · cases q
          cases q1
          obtain ⟨k, hk⟩ := natOf_spec hm' q3
          subst hk; subst q2
          split at e
          · rename_i _ cs el ex hbk
            simp only [Option.some.injEq, Prod.mk.injEq] at e
            obtain ⟨rfl, rfl⟩ := e
            cases rv
            case slice =>
              rename_i b c xx o' hσ
              have hsb := sliceBounds3_run (P := T.P) (isS := true) (cap := cap + xx) (m := m) (k := k) e1 e2 (by simp) rl rh (by omega) (by omega) (by omega) w
              have k2 := H.blk _ _ _ _ hbk hσ
              obtain ⟨arr, k3, _, _, _⟩ := k2
              have hrg := H.rng _ _ _ hσ
              obtain ⟨n1, n2⟩ := H.newAt0 hrg k3 hlo
              refine ⟨_, w, ⟨.slice (some ⟨c, o', none⟩) 0 0, ?_, ?_⟩, n1, n2⟩
              · simp only [execOp, ho, hxy, hxl, hxh, hxm, Instr.sliceAt, Instr.slice, Sem.run_bind, run_underlying (hT.und _ _ hu), Result.andThen_ok, hsb, size_spec hT e3, Sem.run_pure, Option.map_some]
                simp [b2, b3]
              · have := VR.slice (σ := σ.up h.n (c, 0)) (o := o') 0 0 (Ren.up_self σ h.n (c, 0))
                simpa using this
            case esl =>
              rename_i b c o1 o2 hσ
              have hsb := sliceBounds3_run (P := T.P) (isS := true) (cap := 0) (m := m) (k := k) e1 e2 (by simp) rl rh (by omega) (by omega) (by omega) w
              have k2 := H.blk _ _ _ _ hbk hσ
              obtain ⟨arr, k3, _, _, _⟩ := k2
              have hrg := H.rng _ _ _ hσ
              obtain ⟨n1, n2⟩ := H.newAt0 hrg k3 hlo
              refine ⟨_, w, ⟨.slice (some ⟨c, o2, none⟩) 0 0, ?_, ?_⟩, n1, n2⟩
              · simp only [execOp, ho, hxy, hxl, hxh, hxm, Instr.sliceAt, Instr.slice, Sem.run_bind, run_underlying (hT.und _ _ hu), Result.andThen_ok, hsb, size_spec hT e3, Sem.run_pure, Option.map_some]
                simp [b2, b3]
              · exact .esl (Ren.up_self σ h.n (c, 0))
          · cases e
        · cases e
      · cases e
    · rename_i s hu
      split at e
      · rename_i l hh e1 e2
        replace e := cond_none e; obtain ⟨hb, e⟩ := e
        simp only [Bool.and_eq_true] at hb
        have b1 := Nat.le_of_ble_eq_true hb.1
        have b2 := Nat.le_of_ble_eq_true hb.2
        have hcm : cm = none := by
          rcases rm with ⟨_, q⟩ | ⟨_, _, q, _⟩
          · exact q
          · cases q
        subst hcm
        cases rv
        have hsb := sliceBounds_run (P := T.P) (isS := false) (cap := s.size) e1 e2 rl rh b1 b2 w
        refine good_v1 H e ?_ (.string _)
        simp [execOp, ho, hxy, hxl, hxh, hxm, Instr.sliceAt, Instr.slice, run_underlying (hT.und _ _ hu), hsb]
      · cases e
    · rename_i n elem ad hu
      split at e
      · rename_i l hh size cs el e1 e2 e3 hbk
        replace e := cond_none e; obtain ⟨hb, e⟩ := e
        simp only [Bool.and_eq_true] at hb
        have b1 := Nat.le_of_ble_eq_true hb.1
        have b2 := Nat.le_of_ble_eq_true hb.2
        have hcm : cm = none := by
          rcases rm with ⟨_, q⟩ | ⟨_, _, q, _⟩
          · exact q
          · cases q
        subst hcm
        cases rv
        rename_i b c xx o' hσ
        have hsb := sliceBounds_run (P := T.P) (isS := false) (cap := n) e1 e2 rl rh b1 b2 w
        have k2 := H.blk _ _ _ _ hbk hσ
        obtain ⟨arr, _, _, k3, _⟩ := k2
        have hxx := k3 rfl
        subst hxx
        refine good_v1 H e (u := .slice (some ⟨c, cond (Nat.beq l n) o' (o' + l * size), none⟩) (hh - l) (n - l)) ?_ ?_
        · simp only [execOp, ho, hxy, hxl, hxh, hxm, Instr.sliceAt, Sem.run_bind, run_underlying (hT.und _ _ hu), Result.andThen_ok, hsb, size_spec hT e3, Sem.run_pure, Instr.sureAddr]
          by_cases hlc : l = n
          · subst hlc
            have hbeq : Nat.beq l l = true := Nat.beq_refl l
            rw [hbeq]
            simp
          · have hbeq : Nat.beq l n = false := Bool.eq_false_iff.2 fun hh => hlc (Nat.eq_of_beq_eq_true hh)
            rw [hbeq, if_neg (by omega)]
            simp [add_mk]
        · have := VR.slice (σ := σ) (o := cond (Nat.beq l n) o' (o' + l * size)) (hh - l) (n - l) hσ
          rw [add_if]
          exact this
      · cases e
    · cases e
  · cases e
end Go.Clo

namespace Go.Clo
open Go

variable {T : Tb} {σ : Ren} {h h' : Hp} {w : World} {a : AF} {x : Act}

/-- what a fold of stores leaves -/
theorem fold_set : ∀ (l : List Value) (k off : Nat) (cs : Array Value), off + k + l.length ≤ cs.size ∨ l = [] →
    ((l.zipIdx k).foldl (fun cs (p : Value × Nat) => cs.setIfInBounds (off + p.2) p.1) cs).size = cs.size ∧
    ∀ j, ((l.zipIdx k).foldl (fun cs (p : Value × Nat) => cs.setIfInBounds (off + p.2) p.1) cs)[j]? = if off + k ≤ j ∧ j < off + k + l.length then l[j - (off + k)]? else cs[j]? := by
  intro l
  induction l with
  | nil => intro k off cs _; exact ⟨rfl, fun j => by rw [if_neg (by simp)]; rfl⟩
  | cons v l ih =>
    intro k off cs hl
    have hl' : off + (k + 1) + l.length ≤ (cs.setIfInBounds (off + k) v).size ∨ l = [] := by
      rcases hl with hl | hl
      · left; simp only [List.length_cons, Array.size_setIfInBounds] at hl ⊢; omega
      · cases hl
    obtain ⟨h1, h2⟩ := ih (k + 1) off (cs.setIfInBounds (off + k) v) hl'
    simp only [List.zipIdx_cons, List.foldl_cons]
    refine ⟨by rw [h1]; simp, fun j => ?_⟩
    rw [h2 j]
    simp only [Array.getElem?_setIfInBounds, List.length_cons]
    have hb : off + k < cs.size := by
      rcases hl with hl | hl
      · simp only [List.length_cons] at hl; omega
      · cases hl
    by_cases hj : j = off + k
    · subst hj
      rw [if_neg (by omega), if_pos rfl, if_pos hb, if_pos (by omega)]
      simp
    · by_cases hj2 : off + (k + 1) ≤ j ∧ j < off + (k + 1) + l.length
      · rw [if_pos hj2, if_pos (by omega)]
        have : j - (off + k) = (j - (off + (k + 1))) + 1 := by omega
        rw [this]; simp
      · rw [if_neg hj2, if_neg (fun e => hj e.symm), if_neg (by omega)]

theorem fillA_cons (place : Nat → Option (Nat × Nat)) (p : Nat × Value) (ps : List (Nat × Value)) (cells : List Value) : fillA place (p :: ps) cells =
    match place p.1 with
      | some (off, size) => cond (Nat.beq (cellsL p.2).length size && Nat.ble 1 size) (match storeL cells off (cellsL p.2) with
        | some cells => fillA place ps cells
        | none => none) none
      | none => none := rfl

structure PPR (σ : Ren) (p q : Nat × Value) : Prop where
  i : p.1 = q.1
  v : VR σ p.2 q.2

theorem fillA_spec {pa pb : Nat → Option (Nat × Nat)} (hp : ∀ i y, pa i = some y → pb i = some y) : ∀ {ps qs : List (Nat × Value)} {cells out : List Value} {ds : List Value}, All2 (PPR σ) ps qs → fillA pa ps cells = some out → VRs σ cells ds →
    ∃ es : Array Value, Instr.fill pb ⟨ds⟩ qs = some es ∧ VRs σ out es.toList := by
  intro ps
  induction ps with
  | nil => intro qs cells out ds hq e hr; cases hq; cases e; exact ⟨⟨ds⟩, rfl, hr⟩
  | cons p ps ih =>
    intro qs cells out ds hq e hr
    cases hq with
    | cons hpq hq =>
      rename_i q qs
      rw [fillA_cons] at e
      split at e
      · rename_i off size hpl
        replace e := cond_none e; obtain ⟨h1, e⟩ := e
        split at e
        · rename_i cells' hst
          simp only [Bool.and_eq_true] at h1
          have hsz := Nat.eq_of_beq_eq_true h1.1
          have hs1 := Nat.le_of_ble_eq_true h1.2
          have hcr := hpq.v.cells
          have hlen := hcr.length
          have hl0 := hr.length
          obtain ⟨s1, s2, s3⟩ := storeL_spec _ _ _ _ hst
          have hpb := hp _ _ hpl
          rw [hpq.i] at hpb
          have hcz : q.2.cells.size = size := by rw [← hsz, hlen]; simp
          by_cases hbad : off + q.2.cells.size > ds.length
          · rcases s1 with s1 | s1
            · exfalso; rw [s1] at hsz; simp at hsz; omega
            · exfalso; simp only [Array.length_toList] at hlen; omega
          · have hfs := fold_set q.2.cells.toList 0 off ⟨ds⟩ (by left; simp; omega)
            have hfold : (q.2.cells.zipIdx.foldl (fun cs (c, j) => cs.setIfInBounds (off + j) c) (⟨ds⟩ : Array Value)) = (q.2.cells.toList.zipIdx.foldl (fun cs (p : Value × Nat) => cs.setIfInBounds (off + p.2) p.1) ⟨ds⟩) := by
              rw [← Array.foldl_toList]; simp
            have hr' : VRs σ cells' (q.2.cells.zipIdx.foldl (fun cs (c, j) => cs.setIfInBounds (off + j) c) (⟨ds⟩ : Array Value)).toList := by
              rw [hfold]
              refine VRs.of_get ?_ fun i v hv => ?_
              · rw [s2, hl0]; simp [hfs.1]
              · rw [s3 i] at hv
                rw [Array.getElem?_toList, hfs.2 i]
                simp only [Nat.add_zero]
                by_cases hi : off ≤ i ∧ i < off + (cellsL p.2).length
                · rw [if_pos hi] at hv
                  rw [if_pos (by omega)]
                  exact hcr.get hv
                · rw [if_neg hi] at hv
                  rw [if_neg (by omega)]
                  obtain ⟨u, hu, hvu⟩ := hr.get hv
                  exact ⟨u, by simpa using hu, hvu⟩
            obtain ⟨es, r1, r2⟩ := ih (ds := (q.2.cells.zipIdx.foldl (fun cs (c, j) => cs.setIfInBounds (off + j) c) (⟨ds⟩ : Array Value)).toList) hq e hr'
            refine ⟨es, ?_, r2⟩
            obtain ⟨qi, qv⟩ := q
            simp only [Instr.fill, hpb]
            rw [if_neg (by simp only [hcz, ne_eq, not_true_eq_false, Bool.or_eq_true, decide_eq_true_eq]; simp at hbad hcz ⊢; omega)]
            exact r1
        · cases e
      · cases e

theorem evalP_cons (p : Nat × Operand) (l : List (Nat × Operand)) : evalP a (p :: l) = match a.eval p.2 with
    | some v => (match evalP a l with | some r => some ((p.1, v) :: r) | none => none)
    | none => none := rfl

theorem evalP_spec (E : EvR σ a x) : ∀ {l : List (Nat × Operand)} {vs : List (Nat × Value)}, evalP a l = some vs → All2 (PPR σ) vs (l.map fun p => (p.1, x.eval p.2)) := by
  intro l
  induction l with
  | nil => intro vs e; cases e; exact .nil
  | cons o l ih =>
    intro vs e
    rw [evalP_cons] at e
    split at e
    · rename_i v hv
      split at e
      · rename_i r hr
        cases e
        exact .cons ⟨rfl, E.eval hv⟩ (ih hr)
      · cases e
    · cases e

theorem mapM_run {α β : Type} (P : Program) (w : World) (f : α → Sem β) (g : α → β) : ∀ (l : List α), (∀ y ∈ l, (f y).run P w = .ok (g y) w) → (l.mapM f).run P w = .ok (l.map g) w := by
  intro l
  induction l with
  | nil => intro _; simp
  | cons y l ih =>
    intro hh
    rw [List.mapM_cons]
    simp [hh y (by simp), ih (fun z hz => hh z (by simp [hz]))]

theorem arr_mapM_run {α β : Type} (P : Program) (w : World) (f : α → Sem β) (g : α → β) (l : Array α) (hh : ∀ y ∈ l.toList, (f y).run P w = .ok (g y) w) : (l.mapM f).run P w = .ok (l.map g) w := by
  rw [Array.mapM_eq_mapM_toList]
  simp [mapM_run P w f g l.toList hh]
  apply Array.ext'
  simp

/-- all fields of the structs are known -/
def StrOK (T : Tb) : Prop := ∀ t fs, T.und.get t = some (.struct fs) → ∀ f ∈ fs.toList, ∃ i, T.P.info? f.type = some i

theorem op_build (hT : TbOK T) (hS : StrOK T) (H : HR T σ h w) (E : EvR σ a x) {o : Oper} {t : TypeId} {ps : Array (Nat × Operand)} {nx : ANx} (ho : o.op = .build t ps)
    (e : aop T a o h = some (nx, h')) : Good T σ h w nx h' (execOp x.eval o) := by
  simp only [aop, opPickA, opAllocA, opBoxA, opLoadA, opStoreA, opNilCheckA, opFieldAddrA, opFieldA, opIndexAddrA, opIndexA, opSliceA, opBuildA, opBuildSliceA, opMakeSliceA, opMakeMapA, opLookupA, opMapUpdateA, opRangeA, opNextA, opExtractA, opMakeInterfaceA, opMakeFuncA, opTypeAssertA, opCallA, opDeferA, opPanicA, opBinOpA, opConvertA, opUnOpA, ho] at e
  obtain ⟨ps⟩ := ps
  split at e
  · rename_i qs z fields hps hz hu
    split at e
    · rename_i l hl
      have hq := evalP_spec E hps
      have hzg := (hT.zero _ _ hz).1
      have hzr := VR.cells (VR.of_gr (σ := σ) hzg)
      have hsz : ∀ f ∈ fields.toList, ∃ i, T.P.info? f.type = some i := hS _ _ hu
      let g : Field → Nat × Nat := fun f => (f.offset, ((T.P.info? f.type).map (·.size)).getD 0)
      have hm : (fields.mapM (fun f : Field => (do pure (f.offset, ← sizeOf f.type) : Sem (Nat × Nat)))).run T.P w = .ok (fields.map g) w := by
        refine arr_mapM_run _ _ _ _ _ fun f hf => ?_
        obtain ⟨i, hi⟩ := hsz f hf
        simp [run_sizeOf' hi, g, hi]
      obtain ⟨es, r1, r2⟩ := fillA_spec (pb := ((fields.map g)[·]?)) (by
        intro i y hy
        split at hy
        · rename_i f hf
          rw [nth_eq] at hf
          split at hy
          · rename_i s hs
            cases hy
            have hf' : fields[i]? = some f := by simpa using hf
            have := size_spec hT hs w
            obtain ⟨inf, hinf⟩ := hsz f (by exact List.mem_of_getElem? hf)
            rw [run_sizeOf' hinf] at this
            simp only [Result.ok.injEq, and_true] at this
            simp [hf', g, hinf, this]
          · cases hy
        · cases hy) hq hl hzr
      refine good_v1 H e (u := .agg es) ?_ (.agg r2)
      have r1' : Instr.fill ((fields.map g)[·]?) z.cells (ps.map fun p => (p.1, x.eval p.2)) = some es := r1
      have r2' : Instr.fill (fun y => Option.map g fields[y]?) z.cells (ps.map fun p => (p.1, x.eval p.2)) = some es := by simpa using r1'
      simp only [execOp, ho, Instr.build, Sem.run_bind, zero_run hT hz, Result.andThen_ok, run_underlying (hT.und _ _ hu), hm, List.map_toArray]
      simp [r2']
    · cases e
  · rename_i qs z n elem hps hz hu
    split at e
    · rename_i size hs
      split at e
      · rename_i l hl
        have hq := evalP_spec E hps
        have hzg := (hT.zero _ _ hz).1
        have hzr := VR.cells (VR.of_gr (σ := σ) hzg)
        obtain ⟨es, r1, r2⟩ := fillA_spec (pb := fun i => some (i * size, size)) (by intro i y hy; exact hy) hq hl hzr
        refine good_v1 H e (u := .agg es) ?_ (.agg r2)
        have r1' : Instr.fill (fun i => some (i * size, size)) z.cells (ps.map fun p => (p.1, x.eval p.2)) = some es := r1
        simp only [execOp, ho, Instr.build, Sem.run_bind, zero_run hT hz, Result.andThen_ok, run_underlying (hT.und _ _ hu), size_spec hT hs, List.map_toArray]
        simp only [r1', Sem.run_pure, Result.andThen_ok]
      · cases e
    · cases e
  · cases e

theorem zerosN_spec (z : List Value) : ∀ (n j : Nat), (zerosN z n).length = n * z.length ∧ (zerosN z n)[j]? = if j < n * z.length then z[j % z.length]? else none := by
  intro n
  induction n with
  | zero => intro j; exact ⟨by rw [Nat.zero_mul]; rfl, by rw [if_neg (by omega)]; rfl⟩
  | succ n ih =>
    intro j
    have hsu : zerosN z (n + 1) = z ++ zerosN z n := rfl
    rw [hsu]
    refine ⟨by rw [List.length_append, (ih 0).1, Nat.succ_mul]; omega, ?_⟩
    by_cases hj : j < z.length
    · rw [List.getElem?_append_left hj, if_pos (by rw [Nat.succ_mul]; omega), Nat.mod_eq_of_lt hj]
    · rw [List.getElem?_append_right (by omega), (ih (j - z.length)).2, Nat.succ_mul]
      by_cases hj2 : j - z.length < n * z.length
      · rw [if_pos hj2, if_pos (by omega), Nat.mod_eq_sub_mod (show j ≥ z.length by omega)]
      · rw [if_neg hj2, if_neg (by omega)]

theorem zeros_rel {z : Value} (hg : gr z = true) (n : Nat) : VRs σ (zerosN (cellsL z) n) ((Array.range (n * z.cells.size)).map (z.cells[· % z.cells.size]!)).toList := by
  have hzr := VR.cells (VR.of_gr (σ := σ) hg)
  have hlen := hzr.length
  simp only [Array.length_toList] at hlen
  refine VRs.of_get (by rw [(zerosN_spec _ n 0).1]; simp [hlen]) fun i v hv => ?_
  rw [(zerosN_spec _ n i).2] at hv
  split at hv
  · rename_i hi
    have hm : i % (cellsL z).length < (cellsL z).length := Nat.mod_lt _ (by
      rcases Nat.eq_zero_or_pos (cellsL z).length with h0 | h0
      · rw [h0] at hi; omega
      · exact h0)
    obtain ⟨u, hu, hvu⟩ := hzr.get hv
    refine ⟨u, ?_, hvu⟩
    rw [hlen] at hi hm hu
    simp only [Array.getElem?_toList] at hu
    simp only [Array.getElem?_toList, Array.getElem?_map, Array.getElem?_range]
    rw [if_pos hi]
    simp [getElem!_def, hu]
  · cases hv
end Go.Clo
