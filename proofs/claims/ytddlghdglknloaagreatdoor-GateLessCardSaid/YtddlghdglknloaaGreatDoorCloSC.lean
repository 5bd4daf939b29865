/- Contracts of functions that the laws of this seat call, or the evaluator of closed calls and its runs. Conditions: as each theorem states them. -/
import Derived.Test.YtddlghdglknloaaGreatDoorCloSB
set_option linter.unusedVariables false
set_option linter.unusedSimpArgs false
/- Contracts of functions that the laws of this seat call, or the evaluator of closed calls and its runs. Conditions: as each theorem states them. -/
set_option linter.unusedVariables false
set_option linter.unusedSimpArgs false
namespace Go.Clo
open Go

variable {T : Tb} {σ : Ren} {h h' : Hp} {w : World} {a : AF} {x : Act}

theorem bytes_beq (s t : ByteArray) : (s == t) = decide (s = t) := by
  cases s with
  | mk a =>
    cases t with
    | mk b =>
      show (a == b) = _
      rw [Bool.eq_iff_iff]
      simp

theorem op_buildSlice (hT : TbOK T) (H : HR T σ h w) (hlo : h.lo ≤ h.n) (E : EvR σ a x) {o : Oper} {t : TypeId} {len : Nat} {ps : Array (Nat × Operand)} {nx : ANx} (ho : o.op = .buildSlice t len ps)
    (e : aop T a o h = some (nx, h')) : Good T σ h w nx h' (execOp x.eval o) := by
  simp only [aop, opPickA, opAllocA, opBoxA, opLoadA, opStoreA, opNilCheckA, opFieldAddrA, opFieldA, opIndexAddrA, opIndexA, opSliceA, opBuildA, opBuildSliceA, opMakeSliceA, opMakeMapA, opLookupA, opMapUpdateA, opRangeA, opNextA, opExtractA, opMakeInterfaceA, opMakeFuncA, opTypeAssertA, opCallA, opDeferA, opPanicA, opBinOpA, opConvertA, opUnOpA, ho] at e
  obtain ⟨ps⟩ := ps
  split at e
  · rename_i qs elem hps hu
    split at e
    · rename_i size z hs hz
      replace e := cond_none e; obtain ⟨hb, e⟩ := e
      have hb := Nat.le_of_ble_eq_true hb
      split at e
      · rename_i l hl
        simp only [newSl, Option.some.injEq, Prod.mk.injEq] at e
        obtain ⟨rfl, rfl⟩ := e
        have hq := evalP_spec E hps
        obtain ⟨hzg, i, hi, hzi, hzs⟩ := hT.zero _ _ hz
        have hsi : size = i.size := by
          have h1 := size_spec hT hs w
          rw [run_sizeOf' hi] at h1
          simpa using h1.symm
        subst hsi
        have hzr := zeros_rel (σ := σ) hzg len
        obtain ⟨es, r1, r2⟩ := fillA_spec (pb := fun k => some (k * i.size, i.size)) (by intro k y hy; exact hy) hq hl hzr
        obtain ⟨σ', w', n1, n2, n3, n4⟩ := newSl_spec H hlo r2 elem len len
        refine ⟨σ', w', ⟨_, ?_, n2⟩, n3, n4⟩
        have hbig : ¬ (len * i.size > 16777216) := by have : Nat.mul len i.size = len * i.size := rfl; omega
        have hbig' : ¬ (2 ^ 24 < len * i.size) := by omega
        rw [hzs] at r1
        have n1' : ∀ f : Addr → Sem Next, (do let y ← newRow elem es; f y).run T.P w = (f ⟨w.heap.size, 0, none⟩).run T.P w' := fun f => by simp [n1]
        by_cases h0 : len * i.size = 0
        · rw [h0] at r1
          simp only [Array.range_zero', List.map_toArray, List.map_nil] at r1
          simp only [execOp, ho, Instr.buildSlice, Sem.run_bind, run_underlying (hT.und _ _ hu), Result.andThen_ok, run_sizeOf' hi, gt_iff_lt, h0, if_pos, Sem.run_pure, Sem.run_ite, List.map_toArray, Array.range_zero', List.map_nil, Nat.not_lt_zero, if_false, r1, n1]
        · have r1' : Instr.fill (fun k => some (k * i.size, i.size)) ((Array.range (len * i.size)).map fun y => z.cells[y % i.size]!) (ps.map fun p => (p.1, x.eval p.2)) = some es := r1
          simp only [execOp, ho, Instr.buildSlice, Sem.run_bind, run_underlying (hT.und _ _ hu), Result.andThen_ok, run_sizeOf' hi, gt_iff_lt, if_neg hbig', if_neg h0, Sem.run_pure, Sem.run_ite, zero_run hT hz, List.map_toArray, hzs, r1', n1]
      · cases e
    · cases e
  · cases e

theorem op_makeMap (H : HR T σ h w) (hlo : h.lo ≤ h.n) {o : Oper} {t : TypeId} {r : Option Operand} {nx : ANx} (ho : o.op = .makeMap t r)
    (e : aop T a o h = some (nx, h')) : Good T σ h w nx h' (execOp x.eval o) := by
  simp only [aop, opPickA, opAllocA, opBoxA, opLoadA, opStoreA, opNilCheckA, opFieldAddrA, opFieldA, opIndexAddrA, opIndexA, opSliceA, opBuildA, opBuildSliceA, opMakeSliceA, opMakeMapA, opLookupA, opMapUpdateA, opRangeA, opNextA, opExtractA, opMakeInterfaceA, opMakeFuncA, opTypeAssertA, opCallA, opDeferA, opPanicA, opBinOpA, opConvertA, opUnOpA, ho] at e
  split at e
  · simp only [Option.some.injEq, Prod.mk.injEq] at e
    obtain ⟨rfl, rfl⟩ := e
    obtain ⟨k1, k2⟩ := H.new (.map [] 0) 0 (.map #[] 0) ⟨#[], rfl, .nil⟩ hlo
    exact ⟨_, _, ⟨.map (some w.heap.size), by simp [execOp, ho, Instr.makeMap], .map (Ren.up_self _ _ _)⟩, k1, k2⟩
  · cases e

theorem keyK_spec (hT : TbOK T) {t : TypeId} {k u : Value} (e : keyK T t k = true) (hr : VR σ k u) : u = k ∧ sc k = true ∧ ∃ d, T.P.underlying t = some d ∧ ((∃ kk n m, d = .int kk ∧ k = .int n m) ∨ (∃ s, d = .string ∧ k = .string s) ∨ (∃ b, d = .bool ∧ k = .bool b)) := by
  unfold keyK at e
  split at e
  · rename_i hu; cases hr; exact ⟨rfl, rfl, _, hT.und _ _ hu, .inl ⟨_, _, _, rfl, rfl⟩⟩
  · rename_i hu; cases hr; exact ⟨rfl, rfl, _, hT.und _ _ hu, .inr (.inl ⟨_, rfl, rfl⟩)⟩
  · rename_i hu; cases hr; exact ⟨rfl, rfl, _, hT.und _ _ hu, .inr (.inr ⟨_, rfl, rfl⟩)⟩
  · cases e

theorem findA_cons (k : Value) (en : MapEntry) (es : List MapEntry) : findA k (en :: es) = match sameKey k en.key with | some true => some (some en.val) | some false => findA k es | none => none := rfl

theorem sameKey_now {k e : Value} {b : Bool} {d : TypeDesc} (hd : (∃ kk n m, d = .int kk ∧ k = .int n m) ∨ (∃ s, d = .string ∧ k = .string s) ∨ (∃ b, d = .bool ∧ k = .bool b)) (hs : sameKey k e = some b) :
    Instr.sameNow d k e = some b ∧ sc e = true := by
  rcases hd with ⟨kk, n, m, rfl, rfl⟩ | ⟨s, rfl, rfl⟩ | ⟨c, rfl, rfl⟩ <;> cases e <;> simp [sameKey] at hs
  · replace hs := cond_none hs; obtain ⟨h1, h2⟩ := hs
    simp only [kEq, decide_eq_true_eq] at h1
    simp only [Option.some.injEq] at h2
    refine ⟨?_, rfl⟩
    subst h1; subst h2
    simp only [Instr.sameNow, if_pos, iEq_eq]
    rfl
  · exact ⟨by simp [Instr.sameNow, hs], rfl⟩
  · exact ⟨by simp [Instr.sameNow, hs], rfl⟩

theorem findA_spec {k : Value} {d : TypeDesc} (hd : (∃ kk n m, d = .int kk ∧ k = .int n m) ∨ (∃ s, d = .string ∧ k = .string s) ∨ (∃ b, d = .bool ∧ k = .bool b)) : ∀ {es : List MapEntry} {fs : List MapEntry} {r : Option Value} (i : Nat),
    findA k es = some r → All2 (EnR σ) es fs → (r = none ∧ Instr.findNow d k fs i = some none) ∨ ∃ v u j, r = some v ∧ Instr.findNow d k fs i = some (some (j, u)) ∧ VR σ v u := by
  intro es
  induction es with
  | nil => intro fs r i e hr; cases e; cases hr; exact .inl ⟨rfl, rfl⟩
  | cons en es ih =>
    intro fs r i e hr
    rw [findA_cons] at e
    cases hr with
    | cons hx hr =>
      rename_i f fs
      split at e
      · rename_i hs
        cases e
        obtain ⟨s1, s2⟩ := sameKey_now hd hs
        have hk := VR.sc_eq hx.k s2
        exact .inr ⟨en.val, f.val, i, rfl, by simp [Instr.findNow, hk, s1], hx.v⟩
      · rename_i hs
        obtain ⟨s1, s2⟩ := sameKey_now hd hs
        have hk := VR.sc_eq hx.k s2
        rcases ih (i + 1) e hr with ⟨h1, h2⟩ | ⟨v, u, j, h1, h2, h3⟩
        · exact .inl ⟨h1, by simp [Instr.findNow, hk, s1, h2]⟩
        · exact .inr ⟨v, u, j, h1, by simp [Instr.findNow, hk, s1, h2], h3⟩
      · cases e

theorem checkKey_run {P : Program} {t : TypeId} {k : Value} {d : TypeDesc} (hu : P.underlying t = some d) (hd : (∃ kk n m, d = .int kk ∧ k = .int n m) ∨ (∃ s, d = .string ∧ k = .string s) ∨ (∃ b, d = .bool ∧ k = .bool b)) (b : Bool) (n : Nat) (w : World) :
    (Instr.checkKey b (n + 1) t k).run P w = .ok () w := by
  rcases hd with ⟨kk, n, m, rfl, rfl⟩ | ⟨s, rfl, rfl⟩ | ⟨c, rfl, rfl⟩ <;> simp [Instr.checkKey, run_underlying hu]

/-! keys that are structs of plain values -/
theorem kSc_sc {v : Value} (h : kSc v = true) : sc v = true := by
  cases v <;> simp_all [kSc, sc]

theorem kAgg_gr {v : Value} (h : kAgg v = true) : gr v = true := by
  cases v <;> simp [kAgg, gr, allB_eq] at h ⊢
  intro x hx; exact kSc_sc (h x hx)

theorem kAgg_bits {v : Value} (h : kAgg v = true) (n : Nat) : Instr.sameBits (n + 1) v v = true := by
  have key : ∀ l : List Value, (∀ x ∈ l, kSc x = true) → (l.zip l).all (fun p => Instr.sameBits n p.1 p.2) = true := by
    intro l
    induction l with
    | nil => intro _; rfl
    | cons y l ih =>
      intro hh
      simp only [List.zip_cons_cons, List.all_cons, Bool.and_eq_true]
      refine ⟨?_, ih fun x hx => hh x (by simp [hx])⟩
      have hy := hh y (by simp)
      cases y <;> simp [kSc] at hy <;> cases n <;> simp [Instr.sameBits, bytes_beq]
  cases v with
  | agg cs =>
    simp only [kAgg, allB_eq] at h
    have := key cs.toList (List.all_eq_true.1 h)
    unfold Instr.sameBits
    simpa using this
  | _ => simp [kAgg] at h

theorem eqK1_eq {v u : Value} (h : eqK1 v u = true) : v = u := by
  unfold eqK1 at h
  split at h
  · rename_i k a k' b
    cases hk : kEq k k' with
    | false => rw [hk] at h; cases h
    | true =>
      rw [hk, cond_true, iEq_eq] at h
      have h1 : k = k' := of_decide_eq_true hk
      have h2 : a = b := of_decide_eq_true h
      rw [h1, h2]
  · rename_i a b; cases a <;> cases b <;> simp_all
  · rename_i a b; rw [bytes_beq] at h; rw [of_decide_eq_true h]
  · cases h

theorem eqK2_eq : ∀ {l m : List Value}, eqK2 l m = true → l = m := by
  intro l
  induction l with
  | nil => intro m h; cases m with
    | nil => rfl
    | cons u r => cases h
  | cons v l ih => intro m h; cases m with
    | nil => cases h
    | cons u r =>
      have h' : cond (eqK1 v u) (eqK2 l r) false = true := h
      cases hs : eqK1 v u with
      | false => rw [hs] at h'; cases h'
      | true => rw [hs, cond_true] at h'; rw [eqK1_eq hs, ih h']

theorem eqAgg_eq {v u : Value} (h : eqAgg v u = true) : v = u := by
  unfold eqAgg at h
  split at h
  · rw [Array.toList_inj.1 (eqK2_eq h)]
  · cases h

theorem kAggN_agg {n : Nat} {v : Value} (h : kAggN n v = true) : kAgg v = true := by
  cases v with
  | agg cs =>
    simp only [kAggN, kShp] at h
    simp only [kAgg, allB_eq, List.all_eq_true]
    have hi : ∀ x : Value, kI64 x = true → kSc x = true := fun x hx => by cases x <;> first | rfl | (simp [kI64] at hx)
    have hb : ∀ x : Value, kBo x = true → kSc x = true := fun x hx => by cases x <;> first | rfl | (simp [kBo] at hx)
    intro x hx
    cases hn : Nat.blt n 50 with
    | true =>
      rw [hn, cond_true] at h
      cases hl : Nat.beq cs.toList.length n with
      | false => rw [hl] at h; cases h
      | true =>
        rw [hl, cond_true, allB_eq, List.all_eq_true] at h
        exact hi x (h x hx)
    | false =>
      rw [hn, cond_false] at h
      cases hl : Nat.beq cs.toList.length (n - 40) with
      | false => rw [hl] at h; cases h
      | true =>
        rw [hl, cond_true] at h
        cases ha : allB kI64 (List.take (n - 50) cs.toList) with
        | false => rw [ha] at h; cases h
        | true =>
          rw [ha, cond_true] at h
          rw [allB_eq, List.all_eq_true] at ha h
          rw [← List.take_append_drop (n - 50) cs.toList] at hx
          rcases List.mem_append.1 hx with hx | hx
          · exact hi x (ha x hx)
          · exact hb x (h x hx)
  | _ => simp [kAggN] at h

theorem keyG_shape {t : TypeId} {k : Value} (e : keyG T t k = true) : ∃ n : Nat, T.kq.get t = some n ∧ kAggN n k = true := by
  unfold keyG at e
  split at e
  · rename_i n hn
    exact ⟨n, hn, e⟩
  · cases e

theorem idxG_cons (T : Tb) (kt : TypeId) (k : Value) (e : MapEntry) (es : List MapEntry) : idxG T kt k (e :: es) = cond (keyG T kt e.key) (cond (eqAgg k e.key) (some (some 0)) (match idxG T kt k es with
        | some (some j) => some (some (Nat.succ j))
        | some none => some none
        | none => none)) none := rfl

theorem idxG_spec (hT : TbOK T) {kt : TypeId} {k : Value} (hk0 : keyG T kt k = true) : ∀ {es fs : List MapEntry} {r : Option Nat}, idxG T kt k es = some r → All2 (EnR σ) es fs → ∀ (w : World) (i : Nat),
    (r = none ∧ (Instr.findAsking kt k fs i).run T.P w = .ok none w) ∨ ∃ j en f, r = some j ∧ es[j]? = some en ∧ fs[j]? = some f ∧ EnR σ en f ∧ f.key = k ∧ (Instr.findAsking kt k fs i).run T.P w = .ok (some (i + j, f.val)) w := by
  obtain ⟨n, hn, has⟩ := keyG_shape hk0
  have hq := (hT.kq kt n hn).2
  intro es
  induction es with
  | nil => intro fs r e hr w i; cases e; cases hr; exact .inl ⟨rfl, rfl⟩
  | cons en es ih =>
    intro fs r e hr w i
    rw [idxG_cons] at e
    cases hr with
    | cons hx hr =>
      rename_i f fs
      replace e := cond_none e; obtain ⟨hg, e⟩ := e
      obtain ⟨n', hn', hbl⟩ := keyG_shape hg
      rw [hn] at hn'; cases hn'
      have hk : f.key = en.key := VR.gr_eq hx.k (kAgg_gr (kAggN_agg hbl))
      have hrun := (hq k en.key has hbl w true).2
      cases hd : eqAgg k en.key with
      | true =>
        rw [hd, cond_true] at e
        cases e
        have hab : k = en.key := eqAgg_eq hd
        refine .inr ⟨0, en, f, rfl, rfl, rfl, hx, by rw [hk, hab], ?_⟩
        rw [hd] at hrun
        simp only [Instr.findAsking, hk, Sem.run_bind, hrun, Result.andThen_ok, if_true, Sem.run_pure, Nat.add_zero]
      | false =>
        rw [hd, cond_false] at e
        rw [hd] at hrun
        split at e
        · rename_i j hj
          cases e
          rcases ih hj hr w (i + 1) with ⟨h1, _⟩ | ⟨j', en', f', h1, h2, h3, h4, h5, h6⟩
          · cases h1
          · cases h1
            refine .inr ⟨j + 1, en', f', rfl, by simpa using h2, by simpa using h3, h4, h5, ?_⟩
            have : i + 1 + j = i + (j + 1) := by omega
            rw [this] at h6
            simp only [Instr.findAsking, hk, Sem.run_bind, hrun, Result.andThen_ok, Bool.false_eq_true, if_false, h6]
        · rename_i hj
          cases e
          rcases ih hj hr w (i + 1) with ⟨_, h1⟩ | ⟨j', en', f', h1, _⟩
          · exact .inl ⟨rfl, by simp only [Instr.findAsking, hk, Sem.run_bind, hrun, Result.andThen_ok, Bool.false_eq_true, if_false, h1]⟩
          · cases h1
        · cases e

theorem keyG_spec (hT : TbOK T) {t : TypeId} {k u : Value} (e : keyG T t k = true) (hr : VR σ k u) (b : Bool) (w : World) : u = k ∧ kAgg k = true ∧ (Instr.checkKey b 10000 t k).run T.P w = .ok () w ∧ ∃ _ : Unit, (∃ fs, T.P.underlying t = some (.struct fs)) ∨ ∃ m e, T.P.underlying t = some (.array m e) := by
  obtain ⟨n, hn, has⟩ := keyG_shape e
  obtain ⟨h1, h2⟩ := hT.kq t n hn
  exact ⟨VR.gr_eq hr (kAgg_gr (kAggN_agg has)), kAggN_agg has, (h2 k k has has w b).1, (), h1⟩

theorem findKey_struct {P : Program} {kt : TypeId} {k : Value} (hu : (∃ fs, P.underlying kt = some (.struct fs)) ∨ ∃ m e, P.underlying kt = some (.array m e)) (es : List MapEntry) (w : World) : (Instr.findKey kt k es).run P w = (Instr.findAsking kt k es 0).run P w := by
  rcases hu with ⟨fs, hu⟩ | ⟨m, e, hu⟩
  all_goals
    cases es with
    | nil => simp [Instr.findKey, run_underlying hu, Instr.findNow, Instr.findAsking]
    | cons f es => simp [Instr.findKey, run_underlying hu, Instr.findNow, Instr.sameNow]

theorem All2.empty {α β : Type} {R : α → β → Prop} {l : List α} {m : Array β} (h : All2 R l m.toList) : m.isEmpty = l.isEmpty := by
  have := h.length
  obtain ⟨m⟩ := m
  cases l <;> cases m <;> simp_all

theorem lookA_spec (hT : TbOK T) {kt : TypeId} {k u : Value} {es : List MapEntry} {fs : Array MapEntry} {r : Option Value} (e : lookA T kt k es = some r) (hr : VR σ k u) (ha : All2 (EnR σ) es fs.toList) (w : World) :
    u = k ∧ (Instr.checkKey fs.isEmpty 10000 kt k).run T.P w = .ok () w ∧
      ((r = none ∧ (Instr.findKey kt k fs.toList).run T.P w = .ok none w) ∨ ∃ v x j, r = some v ∧ (Instr.findKey kt k fs.toList).run T.P w = .ok (some (j, x)) w ∧ VR σ v x) := by
  unfold lookA at e
  cases hk : keyK T kt k with
  | true =>
    rw [hk, cond_true] at e
    obtain ⟨q1, q2, d, q3, q4⟩ := keyK_spec hT hk hr
    refine ⟨q1, checkKey_run q3 q4 _ 9999 w, ?_⟩
    rcases findA_spec q4 0 e ha with ⟨h1, h2⟩ | ⟨v', x, j, h1, h2, h3⟩
    · exact .inl ⟨h1, by simp [Instr.findKey, run_underlying q3, h2]⟩
    · exact .inr ⟨v', x, j, h1, by simp [Instr.findKey, run_underlying q3, h2], h3⟩
  | false =>
    rw [hk, cond_false] at e
    replace e := cond_none e; obtain ⟨hg, e⟩ := e
    obtain ⟨q1, q2, q3, ds, q4⟩ := keyG_spec hT hg hr fs.isEmpty w
    refine ⟨q1, q3, ?_⟩
    rw [findKey_struct q4]
    split at e
    · rename_i j hj
      rcases idxG_spec hT hg hj ha w 0 with ⟨h1, _⟩ | ⟨j', en, f, h1, h2, h3, h4, h5, h6⟩
      · cases h1
      · cases h1
        rw [nth_eq, h2] at e
        cases e
        exact .inr ⟨en.val, f.val, _, rfl, h6, h4.v⟩
    · rename_i hj
      cases e
      rcases idxG_spec hT hg hj ha w 0 with ⟨_, h1⟩ | ⟨j', en, f, h1, _⟩
      · exact .inl ⟨rfl, h1⟩
      · cases h1
    · cases e

theorem op_lookup (hT : TbOK T) (H : HR T σ h w) (E : EvR σ a x) {o : Oper} {t : TypeId} {y z : Operand} {ok : Bool} {nx : ANx} (ho : o.op = .lookup t y z ok)
    (e : aop T a o h = some (nx, h')) : Good T σ h w nx h' (execOp x.eval o) := by
  simp only [aop, opPickA, opAllocA, opBoxA, opLoadA, opStoreA, opNilCheckA, opFieldAddrA, opFieldA, opIndexAddrA, opIndexA, opSliceA, opBuildA, opBuildSliceA, opMakeSliceA, opMakeMapA, opLookupA, opMapUpdateA, opRangeA, opNextA, opExtractA, opMakeInterfaceA, opMakeFuncA, opTypeAssertA, opCallA, opDeferA, opPanicA, opBinOpA, opConvertA, opUnOpA, ho] at e
  split at e
  · rename_i kt elem r k hu hy hz
    split at e
    · rename_i es cl zv hbk hzv
      have rk := E.eval hz
      have ry := E.eval hy
      generalize hxy : x.eval y = cy at ry
      generalize hxz : x.eval z = cz at rk
      cases ry
      rename_i c xx hσ
      have k2 := H.blk _ _ _ _ hbk hσ
      obtain ⟨es', k3, k4⟩ := k2
      have hget : (getObj c).run T.P w = .ok (.map es' cl) w := by simp [getObj, Sem.run, k3]
      split at e
      · rename_i v hf
        obtain ⟨q1, hck, q⟩ := lookA_spec hT hf rk k4 w
        subst q1
        rcases q with ⟨h1, _⟩ | ⟨v', u, j, h1, h2, h3⟩
        · cases h1
        · cases h1
          refine good_v1 H e (u := cond ok (.tuple #[u, .bool true]) u) ?_ (by cases ok; exact h3; exact .tuple (.cons h3 (.cons (.bool _) .nil)))
          simp only [execOp, ho, hxy, hxz, Instr.lookup, Sem.run_bind, run_underlying (hT.und _ _ hu), Result.andThen_ok, hget, Sem.run_pure, hck, h2]
          cases ok <;> rfl
      · rename_i hf
        obtain ⟨q1, hck, q⟩ := lookA_spec hT hf rk k4 w
        subst q1
        rcases q with ⟨_, h2⟩ | ⟨v', u, j, h1, _⟩
        · have hzg := (hT.zero _ _ hzv).1
          refine good_v1 H e (u := cond ok (.tuple #[zv, .bool false]) zv) ?_ (by cases ok; exact .of_gr hzg; exact .tuple (.cons (.of_gr hzg) (.cons (.bool _) .nil)))
          simp only [execOp, ho, hxy, hxz, Instr.lookup, Sem.run_bind, run_underlying (hT.und _ _ hu), Result.andThen_ok, hget, Sem.run_pure, hck, h2, zero_run hT hzv]
          cases ok <;> rfl
        · cases h1
      · cases e
    · cases e
  · cases e

theorem op_range (hT : TbOK T) (H : HR T σ h w) (hlo : h.lo ≤ h.n) (E : EvR σ a x) {o : Oper} {t : TypeId} {y : Operand} {nx : ANx} (ho : o.op = .range t y)
    (e : aop T a o h = some (nx, h')) : Good T σ h w nx h' (execOp x.eval o) := by
  simp only [aop, opPickA, opAllocA, opBoxA, opLoadA, opStoreA, opNilCheckA, opFieldAddrA, opFieldA, opIndexAddrA, opIndexA, opSliceA, opBuildA, opBuildSliceA, opMakeSliceA, opMakeMapA, opLookupA, opMapUpdateA, opRangeA, opNextA, opExtractA, opMakeInterfaceA, opMakeFuncA, opTypeAssertA, opCallA, opDeferA, opPanicA, opBinOpA, opConvertA, opUnOpA, ho] at e
  split at e
  · rename_i s hu hy
    simp only [Option.some.injEq, Prod.mk.injEq] at e
    obtain ⟨rfl, rfl⟩ := e
    have ry := E.eval hy
    generalize hxy : x.eval y = cy at ry
    cases ry
    obtain ⟨k1, k2⟩ := H.new (.iter s 0) 0 (.stringIter s 0) rfl hlo
    exact ⟨_, _, ⟨.pointer (some ⟨w.heap.size, 0, none⟩), by simp [execOp, ho, hxy, Instr.range, run_underlying (hT.und _ _ hu)], .ptr (Ren.up_self _ _ _)⟩, k1, k2⟩
  · cases e

theorem op_next (H : HR T σ h w) (E : EvR σ a x) {o : Oper} {y : Operand} {b : Bool} {nx : ANx} (ho : o.op = .next y b)
    (e : aop T a o h = some (nx, h')) : Good T σ h w nx h' (execOp x.eval o) := by
  simp only [aop, opPickA, opAllocA, opBoxA, opLoadA, opStoreA, opNilCheckA, opFieldAddrA, opFieldA, opIndexAddrA, opIndexA, opSliceA, opBuildA, opBuildSliceA, opMakeSliceA, opMakeMapA, opLookupA, opMapUpdateA, opRangeA, opNextA, opExtractA, opMakeInterfaceA, opMakeFuncA, opTypeAssertA, opCallA, opDeferA, opPanicA, opBinOpA, opConvertA, opUnOpA, ho] at e
  split at e
  · rename_i r hy
    have ry := E.eval hy
    generalize hxy : x.eval y = cy at ry
    cases ry
    rename_i c xx hσ
    split at e
    · rename_i s pos hbk
      have k2 := H.blk _ _ _ _ hbk hσ
      have k3 : w.heap[c]? = some (.stringIter s pos) := k2
      have hget : (getObj c).run T.P w = .ok (.stringIter s pos) w := by simp [getObj, Sem.run, k3]
      cases hp : Nat.ble (Nat.succ pos) s.size with
      | false =>
        rw [hp, cond_false] at e
        have : ¬ pos < s.size := fun hh => by rw [Nat.ble_eq_true_of_le hh] at hp; cases hp
        refine good_v1 H e ?_ (.tuple (.cons (.bool _) .nil))
        simp [execOp, ho, hxy, Instr.next, hget, this]
      | true =>
        rw [hp, cond_true] at e
        have hlt : pos < s.size := Nat.le_of_ble_eq_true hp
        split at e
        · rename_i h1 hput
          simp only [v1, Option.some.injEq, Prod.mk.injEq] at e
          obtain ⟨rfl, rfl⟩ := e
          obtain ⟨q1, q2⟩ := H.put (o' := .stringIter s (pos + (Utf8.decode s pos).2)) hput hbk rfl hσ k3 (by intro a b c hh; cases hh) rfl
          have hset : (setObj c (.stringIter s (pos + (Utf8.decode s pos).2))).run T.P w = .ok () { w with heap := w.heap.setIfInBounds c (.stringIter s (pos + (Utf8.decode s pos).2)) } := by simp [setObj, Sem.run, k3]
          refine ⟨σ, _, ⟨_, ?_, .tuple (.cons (.bool _) (.cons (.int _ _) (.cons (.int _ _) .nil)))⟩, q1, q2⟩
          simp [execOp, ho, hxy, Instr.next, hget, hlt, hset, goInt]
        · cases e
    · cases e
  · cases e

theorem updA_cons (k v : Value) (en : MapEntry) (es : List MapEntry) : updA k v (en :: es) = match sameKey k en.key with
      | some true => some (some ({ en with key := k, val := v } :: es))
      | some false => (match updA k v es with
        | some (some r) => some (some (en :: r))
        | some none => some none
        | none => none)
      | none => none := rfl

theorem updA_spec {k v u : Value} {d : TypeDesc} (hd : (∃ kk n m, d = .int kk ∧ k = .int n m) ∨ (∃ s, d = .string ∧ k = .string s) ∨ (∃ b, d = .bool ∧ k = .bool b)) (hv : VR σ v u) (hk : VR σ k k) : ∀ {es : List MapEntry} {fs : List MapEntry} {r : Option (List MapEntry)} (i : Nat),
    updA k v es = some r → All2 (EnR σ) es fs → (r = none ∧ Instr.findNow d k fs i = some none) ∨
      ∃ es' j y, r = some es' ∧ Instr.findNow d k fs i = some (some (i + j, y)) ∧ (∃ f, fs[j]? = some f ∧ f.key = k) ∧ All2 (EnR σ) es' (fs.modify j fun f => { f with key := k, val := u }) := by
  intro es
  induction es with
  | nil => intro fs r i e hr; cases e; cases hr; exact .inl ⟨rfl, rfl⟩
  | cons en es ih =>
    intro fs r i e hr
    rw [updA_cons] at e
    cases hr with
    | cons hx hr =>
      rename_i f fs
      split at e
      · rename_i hs
        cases e
        obtain ⟨s1, s2⟩ := sameKey_now hd hs
        have hke := VR.sc_eq hx.k s2
        refine .inr ⟨_, 0, f.val, rfl, by simp [Instr.findNow, hke, s1], ⟨f, rfl, ?_⟩, ?_⟩
        · rw [hke]
          rcases hd with ⟨kk, n, m, rfl, rfl⟩ | ⟨s, rfl, rfl⟩ | ⟨c, rfl, rfl⟩ <;> cases hen : en.key <;> simp [hen, sameKey] at hs ⊢
          · replace hs := cond_none hs; obtain ⟨h1, h2⟩ := hs
            simp only [kEq, decide_eq_true_eq] at h1
            simp only [Option.some.injEq, iEq_eq, decide_eq_true_eq] at h2
            exact ⟨h1.symm, h2.symm⟩
          · rw [bytes_beq] at hs; exact (by simpa using hs.symm : _ = _).symm
          · exact hs.symm
        · simp only [List.modify_zero_cons]
          exact .cons ⟨hk, hv, hx.b⟩ hr
      · rename_i hs
        obtain ⟨s1, s2⟩ := sameKey_now hd hs
        have hke := VR.sc_eq hx.k s2
        split at e
        · rename_i r' hu
          cases e
          rcases ih (i + 1) hu hr with ⟨h1, _⟩ | ⟨es', j, y, h1, h2, ⟨f', h3, h3'⟩, h4⟩
          · cases h1
          · cases h1
            refine .inr ⟨_, j + 1, y, rfl, ?_, ⟨f', by simpa using h3, h3'⟩, ?_⟩
            · simp only [Instr.findNow, hke, s1, h2]
              congr 3; omega
            · simp only [List.modify_succ_cons]
              exact .cons hx h4
        · rename_i hu
          cases e
          rcases ih (i + 1) hu hr with ⟨_, h2⟩ | ⟨es', j, y, h1, _⟩
          · exact .inl ⟨rfl, by simp [Instr.findNow, hke, s1, h2]⟩
          · cases h1
        · cases e
      · cases e

theorem All2.get {α β : Type} {R : α → β → Prop} : ∀ {l : List α} {m : List β}, All2 R l m → ∀ {i : Nat} {b : β}, m[i]? = some b → ∃ a, l[i]? = some a ∧ R a b
  | _, _, .nil, _, _, h => by simp at h
  | _, _, .cons (a := a) h _, 0, _, e => by simp at e; subst e; exact ⟨a, by simp, h⟩
  | _, _, .cons _ t, i + 1, _, e => by simp at e; obtain ⟨a, h1, h2⟩ := All2.get t e; exact ⟨a, by simpa using h1, h2⟩

theorem sameBits_sc {d : TypeDesc} {k : Value} (hd : (∃ kk n m, d = .int kk ∧ k = .int n m) ∨ (∃ s, d = .string ∧ k = .string s) ∨ (∃ b, d = .bool ∧ k = .bool b)) (n : Nat) : Instr.sameBits n k k = true := by
  rcases hd with ⟨kk, n', m, rfl, rfl⟩ | ⟨s, rfl, rfl⟩ | ⟨c, rfl, rfl⟩ <;> cases n <;> simp [Instr.sameBits, bytes_beq]

theorem All2.modify {α β : Type} {R : α → β → Prop} {f : α → α} {g : β → β} (hf : ∀ a b, R a b → R (f a) (g b)) : ∀ {l : List α} {m : List β}, All2 R l m → ∀ j, All2 R (l.modify j f) (m.modify j g)
  | _, _, .nil, _ => by simp; exact .nil
  | _, _, .cons h t, 0 => by simp only [List.modify_zero_cons]; exact .cons (hf _ _ h) t
  | _, _, .cons h t, j + 1 => by simp only [List.modify_succ_cons]; exact .cons h (All2.modify hf t j)

theorem All2.erase {α β : Type} {R : α → β → Prop} : ∀ {l : List α} {m : List β}, All2 R l m → ∀ j, All2 R (l.eraseIdx j) (m.eraseIdx j)
  | _, _, .nil, _ => by simp; exact .nil
  | _, _, .cons _ t, 0 => by simpa using t
  | _, _, .cons h t, j + 1 => by simp only [List.eraseIdx_cons_succ]; exact .cons h (All2.erase t j)

theorem updM_spec (hT : TbOK T) {kt : TypeId} {k uk v u : Value} {es : List MapEntry} {fs : Array MapEntry} {r : Option (List MapEntry)} (e : updM T kt k v es = some r) (hr : VR σ k uk) (hv : VR σ v u) (ha : All2 (EnR σ) es fs.toList) (w : World) :
    uk = k ∧ VR σ k k ∧ Instr.sameBits 10000 k k = true ∧ (Instr.checkKey false 10000 kt k).run T.P w = .ok () w ∧
      ((r = none ∧ (Instr.findKey kt k fs.toList).run T.P w = .ok none w) ∨
        ∃ es2 j y f, r = some es2 ∧ (Instr.findKey kt k fs.toList).run T.P w = .ok (some (j, y)) w ∧ fs.toList[j]? = some f ∧ f.key = k ∧ All2 (EnR σ) es2 (fs.toList.modify j fun f => { f with key := k, val := u })) := by
  unfold updM at e
  cases hk : keyK T kt k with
  | true =>
    rw [hk, cond_true] at e
    obtain ⟨q1, q2, d, q3, q4⟩ := keyK_spec hT hk hr
    have hkk : VR σ k k := .of_sc q2
    refine ⟨q1, hkk, sameBits_sc q4 _, checkKey_run q3 q4 _ 9999 w, ?_⟩
    rcases updA_spec q4 hv hkk 0 e ha with ⟨h1, h2⟩ | ⟨es2, j, y, h1, h2, ⟨f, h3, h3'⟩, h4⟩
    · exact .inl ⟨h1, by simp [Instr.findKey, run_underlying q3, h2]⟩
    · simp only [Nat.zero_add] at h2
      exact .inr ⟨es2, j, y, f, h1, by simp [Instr.findKey, run_underlying q3, h2], h3, h3', h4⟩
  | false =>
    rw [hk, cond_false] at e
    replace e := cond_none e; obtain ⟨hg, e⟩ := e
    obtain ⟨q1, q2, q3, ds, q4⟩ := keyG_spec hT hg hr false w
    have hkk : VR σ k k := .of_gr (kAgg_gr q2)
    refine ⟨q1, hkk, kAgg_bits q2 9999, q3, ?_⟩
    rw [findKey_struct q4]
    split at e
    · rename_i j hj
      rcases idxG_spec hT hg hj ha w 0 with ⟨h1, _⟩ | ⟨j', en, f, h1, h2, h3, h4, h5, h6⟩
      · cases h1
      · cases h1
        cases e
        simp only [Nat.zero_add] at h6
        exact .inr ⟨_, _, f.val, f, rfl, h6, h3, h5, ha.modify (fun a b hab => ⟨hkk, hv, hab.b⟩) _⟩
    · rename_i hj
      cases e
      rcases idxG_spec hT hg hj ha w 0 with ⟨_, h1⟩ | ⟨j', en, f, h1, _⟩
      · exact .inl ⟨rfl, h1⟩
      · cases h1
    · cases e

theorem idxK_cons (k : Value) (e : MapEntry) (es : List MapEntry) : idxK k (e :: es) = match sameKey k e.key with
      | some true => some (some 0)
      | some false => (match idxK k es with
        | some (some j) => some (some (Nat.succ j))
        | some none => some none
        | none => none)
      | none => none := rfl

theorem idxK_spec {k : Value} {d : TypeDesc} (hd : (∃ kk n m, d = .int kk ∧ k = .int n m) ∨ (∃ s, d = .string ∧ k = .string s) ∨ (∃ b, d = .bool ∧ k = .bool b)) : ∀ {es fs : List MapEntry} {r : Option Nat} (i : Nat),
    idxK k es = some r → All2 (EnR σ) es fs → (r = none ∧ Instr.findNow d k fs i = some none) ∨ ∃ u j, r = some j ∧ Instr.findNow d k fs i = some (some (i + j, u)) := by
  intro es
  induction es with
  | nil => intro fs r i e hr; cases e; cases hr; exact .inl ⟨rfl, rfl⟩
  | cons en es ih =>
    intro fs r i e hr
    rw [idxK_cons] at e
    cases hr with
    | cons hx hr =>
      rename_i f fs
      split at e
      · rename_i hs
        cases e
        obtain ⟨s1, s2⟩ := sameKey_now hd hs
        have hk := VR.sc_eq hx.k s2
        exact .inr ⟨f.val, 0, rfl, by simp [Instr.findNow, hk, s1]⟩
      · rename_i hs
        obtain ⟨s1, s2⟩ := sameKey_now hd hs
        have hk := VR.sc_eq hx.k s2
        split at e
        · rename_i j hj
          cases e
          rcases ih (i + 1) hj hr with ⟨h1, _⟩ | ⟨u, j', h1, h2⟩
          · cases h1
          · cases h1
            refine .inr ⟨u, j + 1, rfl, ?_⟩
            have : i + 1 + j = i + (j + 1) := by omega
            rw [this] at h2
            simp [Instr.findNow, hk, s1, h2]
        · rename_i hj
          cases e
          rcases ih (i + 1) hj hr with ⟨_, h1⟩ | ⟨u, j', h1, _⟩
          · exact .inl ⟨rfl, by simp [Instr.findNow, hk, s1, h1]⟩
          · cases h1
        · cases e
      · cases e

theorem delM_spec (hT : TbOK T) {kt : TypeId} {k u : Value} {es es2 : List MapEntry} {fs : Array MapEntry} (e : delM T kt k es = some es2) (hr : VR σ k u) (ha : All2 (EnR σ) es fs.toList) (w : World) :
    u = k ∧ (Instr.checkKey fs.isEmpty 10000 kt k).run T.P w = .ok () w ∧
      ((es2 = es ∧ (Instr.findKey kt k fs.toList).run T.P w = .ok none w) ∨ ∃ x j, (Instr.findKey kt k fs.toList).run T.P w = .ok (some (j, x)) w ∧ All2 (EnR σ) es2 (fs.toList.eraseIdx j)) := by
  unfold delM at e
  cases hk : keyK T kt k with
  | true =>
    rw [hk, cond_true] at e
    obtain ⟨q1, q2, d, q3, q4⟩ := keyK_spec hT hk hr
    refine ⟨q1, checkKey_run q3 q4 _ 9999 w, ?_⟩
    split at e
    · rename_i j hj
      cases e
      rcases idxK_spec q4 0 hj ha with ⟨h1, _⟩ | ⟨x, j', h1, h2⟩
      · cases h1
      · cases h1
        simp only [Nat.zero_add] at h2
        exact .inr ⟨x, j, by simp [Instr.findKey, run_underlying q3, h2], ha.erase _⟩
    · rename_i hj
      cases e
      rcases idxK_spec q4 0 hj ha with ⟨_, h2⟩ | ⟨x, j', h1, _⟩
      · exact .inl ⟨rfl, by simp [Instr.findKey, run_underlying q3, h2]⟩
      · cases h1
    · cases e
  | false =>
    rw [hk, cond_false] at e
    cases hg : keyG T kt k with
    | false => rw [hg, cond_false] at e; cases e
    | true =>
      rw [hg, cond_true] at e
      obtain ⟨q1, q2, q3, ds, q4⟩ := keyG_spec hT hg hr fs.isEmpty w
      refine ⟨q1, q3, ?_⟩
      rw [findKey_struct q4]
      split at e
      · rename_i j hj
        cases e
        rcases idxG_spec hT hg hj ha w 0 with ⟨h1, _⟩ | ⟨j', en, f, h1, h2, h3, h4, h5, h6⟩
        · cases h1
        · cases h1
          simp only [Nat.zero_add] at h6
          exact .inr ⟨f.val, _, h6, ha.erase _⟩
      · rename_i hj
        cases e
        rcases idxG_spec hT hg hj ha w 0 with ⟨_, h1⟩ | ⟨j', en, f, h1, _⟩
        · exact .inl ⟨rfl, h1⟩
        · cases h1
      · cases e

theorem deleteA_spec (hT : TbOK T) (H : HR T σ h w) {t : TypeId} {m k um uk : Value} {t2 ty : TypeId} {nx : ANx} (e : deleteA T t m k h = some (nx, h')) (rm : VR σ m um) (rk : VR σ k uk) :
    ∃ v, nx = .val v ∧ ∃ w', (Builtin.delete_ #[t, t2] ty #[um, uk]).run T.P w = .ok (.tuple #[]) w' ∧ v = .tuple #[] ∧ HR T σ h' w' ∧ Keep σ h w σ h' w' := by
  unfold deleteA at e
  split at e
  · rename_i kt elem r hu
    split at e
    · rename_i es cl hbk
      split at e
      · rename_i es2 hd
        split at e
        · rename_i h1 hput
          simp only [Option.some.injEq, Prod.mk.injEq] at e
          obtain ⟨rfl, rfl⟩ := e
          cases rm
          rename_i c xx hσ
          have k2 := H.blk _ _ _ _ hbk hσ
          obtain ⟨fs, k3, k4⟩ := k2
          have hget : (getObj c).run T.P w = .ok (.map fs cl) w := by simp [getObj, Sem.run, k3]
          have hset : ∀ o', (setObj c o').run T.P w = .ok () { w with heap := w.heap.setIfInBounds c o' } := fun o' => by simp [setObj, Sem.run, k3]
          obtain ⟨q1, q2, q⟩ := delM_spec hT hd rk k4 w
          subst q1
          rcases q with ⟨rfl, q3⟩ | ⟨y, j, q3, q4⟩
          · obtain ⟨p1, p2⟩ := H.put (o' := .map fs cl) hput hbk rfl hσ k3 (by intro a b c hh; cases hh) ⟨fs, rfl, k4⟩
            exact ⟨_, rfl, _, by simp [Builtin.delete_, run_underlying (hT.und _ _ hu), hget, q2, q3, hset], rfl, p1, p2⟩
          · obtain ⟨p1, p2⟩ := H.put (o' := .map (fs.eraseIdxIfInBounds j) cl) hput hbk rfl hσ k3 (by intro a b c hh; cases hh) ⟨_, rfl, by simpa using q4⟩
            exact ⟨_, rfl, _, by simp [Builtin.delete_, run_underlying (hT.und _ _ hu), hget, q2, q3, hset], rfl, p1, p2⟩
        · cases e
      · cases e
    · cases e
  · cases e

theorem op_mapUpdate (hT : TbOK T) (H : HR T σ h w) (E : EvR σ a x) {o : Oper} {t : TypeId} {m y z : Operand} {nx : ANx} (ho : o.op = .mapUpdate t m y z)
    (e : aop T a o h = some (nx, h')) : Good T σ h w nx h' (execOp x.eval o) := by
  simp only [aop, opPickA, opAllocA, opBoxA, opLoadA, opStoreA, opNilCheckA, opFieldAddrA, opFieldA, opIndexAddrA, opIndexA, opSliceA, opBuildA, opBuildSliceA, opMakeSliceA, opMakeMapA, opLookupA, opMapUpdateA, opRangeA, opNextA, opExtractA, opMakeInterfaceA, opMakeFuncA, opTypeAssertA, opCallA, opDeferA, opPanicA, opBinOpA, opConvertA, opUnOpA, ho] at e
  split at e
  · rename_i kt elem r k v hu hm hy hz
    split at e
    · rename_i es cl hbk
      have rk := E.eval hy
      have rm := E.eval hm
      have rz := E.eval hz
      generalize hxm : x.eval m = cm at rm
      generalize hxy : x.eval y = cy at rk
      generalize hxz : x.eval z = cz at rz
      cases rm
      rename_i c xx hσ
      have k2 := H.blk _ _ _ _ hbk hσ
      obtain ⟨es', k3, k4⟩ := k2
      have hget : (getObj c).run T.P w = .ok (.map es' cl) w := by simp [getObj, Sem.run, k3]
      have hset : ∀ o', (setObj c o').run T.P w = .ok () { w with heap := w.heap.setIfInBounds c o' } := fun o' => by simp [setObj, Sem.run, k3]
      split at e
      · rename_i es2 hf
        split at e
        · rename_i h1 hput
          simp only [Option.some.injEq, Prod.mk.injEq] at e
          obtain ⟨rfl, rfl⟩ := e
          obtain ⟨q1, hkk, hbits, hck, q⟩ := updM_spec hT hf rk rz k4 w
          subst q1
          rcases q with ⟨hn, _⟩ | ⟨es3, j, y', f, hn, h2, h3, h3', h4⟩
          · cases hn
          · cases hn
            obtain ⟨p1, p2⟩ := H.put (o' := .map (es'.modify j fun f => { f with key := cy, val := cz }) cl) hput hbk rfl hσ k3 (by intro a b c hh; cases hh) ⟨_, rfl, by simpa using h4⟩
            refine ⟨σ, _, ?_, p1, p2⟩
            have h3a : es'[j]? = some f := by simpa using h3
            simp [NxR, execOp, ho, hxm, hxy, hxz, Instr.mapUpdate, run_underlying (hT.und _ _ hu), hget, hck, h2, h3a, h3', Instr.keyThatStays, hbits, hset]
        · cases e
      · rename_i hf
        split at e
        · rename_i h1 hput
          simp only [Option.some.injEq, Prod.mk.injEq] at e
          obtain ⟨rfl, rfl⟩ := e
          obtain ⟨q1, hkk, hbits, hck, q⟩ := updM_spec hT hf rk rz k4 w
          subst q1
          rcases q with ⟨_, h2⟩ | ⟨es3, j, y', f, hn, _⟩
          · obtain ⟨p1, p2⟩ := H.put (o' := .map (es'.push { key := cy, val := cz, born := cl }) (cl + 1)) hput hbk rfl hσ k3 (by intro a b c hh; cases hh) ⟨_, rfl, by
              simp only [Array.toList_push]
              exact k4.append (.cons ⟨hkk, rz, rfl⟩ .nil)⟩
            refine ⟨σ, _, ?_, p1, p2⟩
            simp [NxR, execOp, ho, hxm, hxy, hxz, Instr.mapUpdate, run_underlying (hT.und _ _ hu), hget, hck, h2, hset]
          · cases hn
        · cases e
      · cases e
    · cases e
  · cases e
end Go.Clo

namespace Go.Clo
open Go

variable {T : Tb} {σ : Ren} {h h' : Hp} {w : World} {a : AF} {x : Act}

theorem op_makeSlice (hT : TbOK T) (H : HR T σ h w) (hlo : h.lo ≤ h.n) (E : EvR σ a x) {o : Oper} {t : TypeId} {y z : Operand} {nx : ANx} (ho : o.op = .makeSlice t y z)
    (e : aop T a o h = some (nx, h')) : Good T σ h w nx h' (execOp x.eval o) := by
  simp only [aop, opPickA, opAllocA, opBoxA, opLoadA, opStoreA, opNilCheckA, opFieldAddrA, opFieldA, opIndexAddrA, opIndexA, opSliceA, opBuildA, opBuildSliceA, opMakeSliceA, opMakeMapA, opLookupA, opMapUpdateA, opRangeA, opNextA, opExtractA, opMakeInterfaceA, opMakeFuncA, opTypeAssertA, opCallA, opDeferA, opPanicA, opBinOpA, opConvertA, opUnOpA, ho] at e
  split at e
  · rename_i elem lv cv hu hy hz
    split at e
    · rename_i l c i zv hl hc hi hzv
      replace e := cond_none e; obtain ⟨hb, e⟩ := e
      simp only [Bool.and_eq_true] at hb
      have b1 : c * i.bytes ≤ 100000 := Nat.le_of_ble_eq_true hb.1.1
      have b2 : l ≤ c := Nat.le_of_ble_eq_true hb.1.2
      have b3 : c ≤ 100000 := Nat.le_of_ble_eq_true hb.2
      simp only [newSl, Option.some.injEq, Prod.mk.injEq] at e
      obtain ⟨rfl, rfl⟩ := e
      obtain ⟨k1, hk1⟩ := natOf_spec hl (E.eval hy)
      obtain ⟨k2, hk2⟩ := natOf_spec hc (E.eval hz)
      obtain ⟨hzg, i', hi', hzi, hzs⟩ := hT.zero _ _ hzv
      have hii : i' = i := by have := hT.info _ _ hi; rw [hi'] at this; cases this; rfl
      subst hii
      have hzr := zeros_rel (σ := σ) hzg c
      obtain ⟨σ', w', n1, n2, n3, n4⟩ := newSl_spec H hlo hzr elem l c
      refine ⟨σ', w', ⟨_, ?_, n2⟩, n3, n4⟩
      have w1 : IntKind.i64.wrap (l : Int) = l := IntWalk.i64_in _ ⟨by omega, by omega⟩
      have w2 : IntKind.i64.wrap (c : Int) = c := IntWalk.i64_in _ ⟨by omega, by omega⟩
      have hcb : ((i'.bytes : Int) * (c : Int)) = ((c * i'.bytes : Nat) : Int) := by rw [Nat.mul_comm]; simp
      have hlb : l * i'.bytes ≤ 100000 := Nat.le_trans (Nat.mul_le_mul_right _ b2) b1
      have t1 : ¬ ((c : Int) < 0) := by omega
      have t2 : ¬ ((i'.bytes : Int) * (c : Int) > 2 ^ 48) := by rw [hcb]; omega
      have t3 : ¬ ((l : Int) < 0) := by omega
      have t4 : ¬ ((l : Int) > (c : Int)) := by omega
      have hcond : (decide ((c : Int) < 0) || decide ((i'.bytes : Int) * (c : Int) > 2 ^ 48) || decide ((l : Int) < 0) || decide ((l : Int) > (c : Int))) = false := by
        simp only [decide_eq_false t1, decide_eq_false t2, decide_eq_false t3, decide_eq_false t4, Bool.or_self]
      have htn : ((c : Int)).toNat = c := by simp
      have htl : ((l : Int)).toNat = l := by simp
      by_cases h0 : c * i'.size = 0
      · rw [hzs, h0] at n1
        simp only [Array.range_zero', List.map_toArray, List.map_nil] at n1
        simp only [execOp, ho, hk1, hk2, Instr.makeSlice, Sem.run_bind, run_underlying (hT.und _ _ hu), Result.andThen_ok, asInt, asIntOf, Sem.run_pure, run_typeInfo hi', w1, w2, hcond, Bool.false_eq_true, if_false, run_askRoom, htn, htl, run_sizeOf' hi', h0, if_pos, Array.range_zero', List.map_toArray, List.map_nil, n1, Sem.run_ite]
      · rw [hzs] at n1
        simp only [execOp, ho, hk1, hk2, Instr.makeSlice, Sem.run_bind, run_underlying (hT.und _ _ hu), Result.andThen_ok, asInt, asIntOf, Sem.run_pure, run_typeInfo hi', w1, w2, hcond, Bool.false_eq_true, if_false, run_askRoom, htn, htl, run_sizeOf' hi', if_neg h0, zero_run hT hzv, hzs, n1, Sem.run_ite]
    · cases e
  · cases e

/-! calls -/
theorem callFn_spec (hT : TbOK T) (H : HR T σ h w) {f : FuncId} {args : List Value} {us : Array Value} {nx : ANx} (e : callFn T f args h = some (nx, h')) (hr : VRs σ args us.toList) :
    Good T σ h w nx h' (callFunc f us) := by
  unfold callFn at e
  split at e
  · rename_i fn hf
    simp only [Option.some.injEq, Prod.mk.injEq] at e
    obtain ⟨rfl, rfl⟩ := e
    obtain ⟨h1, h2, h3⟩ := hT.fn _ _ hf
    refine ⟨σ, w, ⟨us, ?_, hr⟩, H, .refl _ _ _⟩
    have h2' : ¬ (fn.body = none) := by intro hb; rw [hb] at h2; cases h2
    simp [callFunc, h1, h3, h2']
  · split at e
    · rename_i ef he
      replace e := cond_none e; obtain ⟨hg, e⟩ := e
      split at e
      · rename_i v hv
        replace e := cond_none e; obtain ⟨hgv, e⟩ := e
        rw [allB_eq] at hg
        have heq := VRs.gr_eq hr hg
        obtain ⟨fn, q1, q2, q3, q4, q5⟩ := hT.ext _ _ he
        refine good_v1 H e (u := v) ?_ (.of_gr hgv)
        have hus : us = ⟨args⟩ := by
          apply Array.ext'
          exact heq
        subst hus
        have hrun := pureRun_run T.P _ _ w hv
        simp [callFunc, q1, q2, q3, q4, q5, hrun]
      · cases e
    · split at e
      · rename_i _ hcl
        obtain ⟨fn, q1, q2, q3, q4, q5⟩ := hT.cl _ _ hcl
        unfold cloneA at e
        split at e
        · rename_i t r
          split at e
          · rename_i es cl hbk
            replace e := cond_none e; obtain ⟨hlo, e⟩ := e
            replace hlo := Nat.le_of_ble_eq_true hlo
            simp only [Option.some.injEq, Prod.mk.injEq] at e
            obtain ⟨rfl, rfl⟩ := e
            obtain ⟨us⟩ := us
            simp only at hr
            cases hr with
            | cons hr ht =>
              cases ht
              cases hr with
              | iface _ hr =>
                cases hr
                rename_i c xx hσ
                have k2 := H.blk _ _ _ _ hbk hσ
                obtain ⟨fs, k3, k4⟩ := k2
                have hget : (getObj c).run T.P w = .ok (.map fs cl) w := by simp [getObj, Sem.run, k3]
                have hs := Ren.sub_up H (w.heap.size, 0)
                obtain ⟨n1, n2⟩ := H.new (.map es cl) 0 (.map fs cl) ⟨fs, rfl, k4.mono fun a b e => ⟨e.k.mono hs, e.v.mono hs, e.b⟩⟩ hlo
                refine ⟨_, _, ⟨.iface t (.map (some w.heap.size)), ?_, .iface t (.map (Ren.up_self _ _ _))⟩, n1, n2⟩
                have hc2 : Extern.MapsClone.clone #[.iface t (.map (some c))] = (do
                    let .map entries clock ← getObj c | stuck "maps.clone: a map expected"
                    pure (.iface t (.map (some (← newObj (.map entries clock)))))) := rfl
                simp [callFunc, q1, q2, q3, q4, q5, hc2, hget]
          · cases e
        · cases e
      · cases e

theorem findM_spec (name : String) : ∀ {l : List Method} {m : Method}, findM name l = some m → l.find? (·.name == name) = some m := by
  intro l
  induction l with
  | nil => intro m e; cases e
  | cons y l ih =>
    intro m e
    have e' : cond (decide (y.name = name)) (some y) (findM name l) = some m := e
    by_cases hy : y.name = name
    · rw [decide_eq_true hy] at e'; cases e'; simp [hy]
    · rw [decide_eq_false hy] at e'
      rw [List.find?_cons_of_neg (by simpa using hy)]
      exact ih e'

theorem plainRecv_run {P : Program} {t : TypeId} {d : TypeDesc} {ptr : Bool} (hu : P.underlying t = some d) (hp : plainRecv d ptr = true) (v : Value) (o : Option String) (w : World) : (receiverAt t (.val v) ptr o).run P w = .ok v w := by
  unfold receiverAt
  simp only [Sem.run_bind, run_underlying hu, Result.andThen_ok]
  cases ptr <;> cases d <;> simp_all [plainRecv, Place.get]

theorem callM_spec (hT : TbOK T) (H : HR T σ h w) {recv r : Value} {name : String} {args : List Value} {us : Array Value} {nx : ANx} (e : callM T recv name args h = some (nx, h')) (hrv : VR σ recv r) (hr : VRs σ args us.toList) :
    Good T σ h w nx h' (callMethod r name us) := by
  unfold callM at e
  split at e
  · rename_i t v
    cases hrv
    rename_i u hv
    split at e
    · rename_i f hf
      unfold methodA at hf
      split at hf
      · rename_i i d hi hu
        split at hf
        · rename_i m hm
          split at hf
          · rename_i f0 ptr hpath hfn
            replace hf := cond_none hf; obtain ⟨hp, hf⟩ := hf
            cases hf
            have hmf := findM_spec name hm
            have hmeth : (method (T.P.types.size + Made.depth) t u name).run T.P w = .ok (f, u) w := by
              have : ∃ n, T.P.types.size + Made.depth = n + 1 := ⟨T.P.types.size + Made.depth - 1, by unfold Made.depth; omega⟩
              obtain ⟨n, hn⟩ := this
              rw [hn]
              have hmf' : i.methods.find? (fun x => x.name == name) = some m := by
                rw [← Array.find?_toList]; exact hmf
              simp only [method, Sem.run_bind, run_typeInfo (hT.info _ _ hi), Result.andThen_ok, hmf', hpath, follow, Sem.run_pure, hfn, plainRecv_run (hT.und _ _ hu) hp]
            have := callFn_spec hT H e (us := #[u] ++ us) (by simpa using VRs.cons hv hr)
            obtain ⟨σ', w', g1, g2, g3⟩ := this
            refine ⟨σ', w', ?_, g2, g3⟩
            simpa [callMethod, hmeth] using g1
          · cases hf
        · cases hf
      · cases hf
    · cases e
  · cases e

theorem lenA_spec {v u : Value} {n : Nat} (e : lenA v = some n) (hr : VR σ v u) (P : Program) (w : World) : (Builtin.lenOf u).run P w = .ok n w := by
  unfold lenA at e
  split at e
  · cases e; cases hr <;> simp [Builtin.lenOf]
  · cases e; cases hr; simp [Builtin.lenOf]
  · cases e

theorem cut_zero (l : List Value) (o : Nat) : cut l o 0 = some [] := rfl

theorem storeL_nil (l : List Value) (o : Nat) : storeL l o [] = some l := by cases l <;> rfl

theorem storeC_nil (h : Hp) (b o o' : Nat) : h.storeC ⟨b, o, none⟩ [] = h.storeC ⟨b, o', none⟩ [] := by
  unfold Hp.storeC
  simp only [storeL_nil]

theorem sliceCells_zero {h : Hp} {size : Nat} {v : Value} {l : List Value} (e : sliceCells h size 0 v = some l) : l = [] := by
  unfold sliceCells at e
  have hz : Nat.mul 0 size = 0 := Nat.zero_mul size
  split at e
  · split at e
    · rw [hz, cut_zero] at e; cases e; rfl
    · cases e
  · cases e; rfl
  · cases e
    simp
  · cases e

theorem sliceCells_spec (H : HR T σ h w) {size n : Nat} {v u : Value} {l : List Value} (hn : ∀ k, lenA v = some k → n ≤ k) (e : sliceCells h size n v = some l) (hr : VR σ v u) :
    ∃ us : Array Value, (Builtin.firstCells size n u).run T.P w = .ok us w ∧ VRs σ l us.toList := by
  unfold sliceCells at e
  split at e
  · split at e
    · rename_i c hc
      cases hr
      case slice =>
        rename_i hσ
        obtain ⟨us, r1, r2⟩ := cutCells_spec H hc hσ e
        exact ⟨us, by simpa [Builtin.firstCells] using r1, r2⟩
      case esl =>
        rename_i b1 c1 o1 o2 hσ
        have hn0 : n = 0 := by have := hn 0 rfl; omega
        subst hn0
        have hz : Nat.mul 0 size = 0 := Nat.zero_mul size
        rw [hz] at e
        obtain ⟨us, r1, r2⟩ := cutCells_spec (o := o2) (n := 0) (r := l) H hc hσ (by rw [cut_zero] at e ⊢; exact e)
        exact ⟨us, by simpa [Builtin.firstCells] using r1, r2⟩
    · cases e
  · cases e; cases hr; exact ⟨#[], by simp [Builtin.firstCells], .nil⟩
  · cases e
    cases hr
    rename_i s
    refine ⟨(s.extract 0 n).data.map fun b => .int .u8 b.toNat, by simp [Builtin.firstCells], ?_⟩
    have : VRs σ ((s.extract 0 n).data.toList.map fun b => Value.int .u8 b.toNat) ((s.extract 0 n).data.toList.map fun b => Value.int .u8 b.toNat) :=
      .of_sc (by rw [List.all_eq_true]; intro y hy; obtain ⟨b, _, rfl⟩ := List.mem_map.1 hy; rfl)
    simpa using this
  · cases e

theorem copyA_spec (hT : TbOK T) (H : HR T σ h w) {dt t2 ty : TypeId} {d v d' u : Value} {nx : ANx} (e : copyA T dt d v h = some (nx, h')) (hd : VR σ d d') (hv : VR σ v u) :
    Good T σ h w nx h' (do pure (.value (← Builtin.copy_ #[dt, t2] ty #[d', u]))) := by
  unfold copyA at e
  split at e
  · rename_i elem base dLen cap m hu hm
    split at e
    · rename_i size hs
      split at e
      · rename_i cs hcs
        have hlen := lenA_spec hm hv T.P w
        obtain ⟨us, r1, r2⟩ := sliceCells_spec H (fun k hk => by rw [hm] at hk; cases hk; exact Nat.min_le_left _ _) hcs hv
        split at e
        · replace e := cond_none e; obtain ⟨h0, e⟩ := e
          have h0 := Nat.eq_of_beq_eq_true h0
          cases hd
          refine good_v1 H e (u := .int .i64 0) ?_ (.int _ _)
          rw [h0] at r1
          simp [Builtin.copy_, run_underlying (hT.und _ _ hu), hlen, size_spec hT hs, h0, r1, goInt]
        · replace e := cond_none e; obtain ⟨hok, e⟩ := e
          rw [allB_eq] at hok
          split at e
          · rename_i h1 hst
            simp only [v1, Option.some.injEq, Prod.mk.injEq] at e
            obtain ⟨rfl, rfl⟩ := e
            cases hd
            case slice =>
              rename_i hσ
              obtain ⟨w', s1, s2, s3⟩ := storeC_spec H hst hσ r2 hok
              refine ⟨σ, w', ⟨_, ?_, .int _ _⟩, s2, s3⟩
              simp [Builtin.copy_, run_underlying (hT.und _ _ hu), hlen, size_spec hT hs, r1, s1, goInt]
            case esl =>
              rename_i b1 c1 o1 o2 hσ
              have hmin : Nat.min m 0 = 0 := by show min m 0 = 0; simp
              have hcs0 : cs = [] := by rw [hmin] at hcs; exact sliceCells_zero hcs
              subst hcs0
              rw [storeC_nil h b1 o1 o2] at hst
              obtain ⟨w', s1, s2, s3⟩ := storeC_spec H hst hσ r2 hok
              refine ⟨σ, w', ⟨_, ?_, .int _ _⟩, s2, s3⟩
              simp only [hmin] at r1 ⊢
              simp [Builtin.copy_, run_underlying (hT.und _ _ hu), hlen, size_spec hT hs, r1, s1, goInt]
          · cases e
      · cases e
    · cases e
  · cases e

theorem clearA_spec (hT : TbOK T) (H : HR T σ h w) {t ty : TypeId} {v u : Value} {nx : ANx} (e : clearA T t v h = some (nx, h')) (hv : VR σ v u) :
    Good T σ h w nx h' (do pure (.value (← Builtin.clear_ #[t] ty #[u]))) := by
  unfold clearA at e
  split at e
  · rename_i elem base n cap hu
    split at e
    · cases hv
      refine good_v1 H e (u := .tuple #[]) ?_ (.tuple .nil)
      simp [Builtin.clear_, run_underlying (hT.und _ _ hu)]
    · rename_i ad
      cases hn : Nat.beq n 0 with
      | true =>
        rw [hn, cond_true] at e
        have hn := Nat.eq_of_beq_eq_true hn
        subst hn
        cases hv
        all_goals
          refine good_v1 H e (u := .tuple #[]) ?_ (.tuple .nil)
          simp [Builtin.clear_, run_underlying (hT.und _ _ hu)]
      | false =>
        rw [hn, cond_false] at e
        have hn : n ≠ 0 := fun hh => by rw [hh] at hn; cases hn
        split at e
        · rename_i z hz
          replace e := cond_none e; obtain ⟨hok, e⟩ := e
          rw [allB_eq] at hok
          split at e
          · rename_i h1 hst
            simp only [v1, Option.some.injEq, Prod.mk.injEq] at e
            obtain ⟨rfl, rfl⟩ := e
            obtain ⟨hzg, i, hi, hzi, hzs⟩ := hT.zero _ _ hz
            cases hv
            case slice =>
              rename_i hσ
              obtain ⟨w', s1, s2, s3⟩ := storeC_spec H hst hσ (zeros_rel hzg n) hok
              refine ⟨σ, w', ⟨.tuple #[], ?_, .tuple .nil⟩, s2, s3⟩
              have hzz : Builtin.zeroCells z.cells n = (Array.range (n * z.cells.size)).map (z.cells[· % z.cells.size]!) := rfl
              simp only [← hzz] at s1
              match n, hn with
              | n + 1, _ =>
                simp [Builtin.clear_, run_underlying (hT.und _ _ hu), zero_run hT hz, s1]
            case esl => exact absurd rfl hn
          · cases e
        · cases e
  · cases e

theorem lenB_spec (hT : TbOK T) (H : HR T σ h w) {t ty : TypeId} {v u : Value} {nx : ANx} (e : lenB T t v h = some (nx, h')) (hv : VR σ v u) :
    Good T σ h w nx h' (do pure (.value (← Builtin.len_ #[t] ty #[u]))) := by
  unfold lenB at e
  split at e
  · rename_i d hu
    split at e
    · cases hv
      exact good_v1 H e (by simp [Builtin.len_, run_underlying (hT.und _ _ hu), goInt]) (.int _ _)
    · split at e
      · cases hv
        · exact good_v1 H e (by simp [Builtin.len_, run_underlying (hT.und _ _ hu), goInt]) (.int _ _)
        · exact good_v1 H e (by simp [Builtin.len_, run_underlying (hT.und _ _ hu), goInt]) (.int _ _)
      · cases e
    · cases hv
      exact good_v1 H e (by simp [Builtin.len_, run_underlying (hT.und _ _ hu), goInt]) (.int _ _)
    · cases hv
      exact good_v1 H e (by simp [Builtin.len_, run_underlying (hT.und _ _ hu), goInt]) (.int _ _)
    · split at e
      · rename_i es cl hbk
        cases hv
        rename_i c xx hσ
        have k2 := H.blk _ _ _ _ hbk hσ
        obtain ⟨es', k3, k4⟩ := k2
        have hget : (getObj c).run T.P w = .ok (.map es' cl) w := by simp [getObj, Sem.run, k3]
        have hl := k4.length
        simp only [Array.length_toList] at hl
        exact good_v1 H e (by simp [Builtin.len_, run_underlying (hT.und _ _ hu), goInt, hget, hl]) (.int _ _)
      · cases e
    · cases e
  · cases e
end Go.Clo
