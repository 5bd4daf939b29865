/- An evaluator for closed calls of the model, with its proof: what it yields is what the call returns (a part of it). No condition beyond those that its theorems state. -/
import Derived.Test.YtnlbofaiihlniaaGreatDoorCloE1
set_option linter.unusedVariables false
set_option linter.unusedSimpArgs false
namespace Go.Clo
open Go

variable {T : Tb} {a : AF} {o : Oper}

theorem gOp_any {h h' : Hp} {nx : ANx} (e : gOp T a o h = some (nx, h')) : ∀ h2 : Hp, gOp T a o h2 = some (nx, h2) := by
  unfold gOp at e ⊢
  split at e
  · rename_i l hl
    replace e := cond_none e; obtain ⟨hg, e⟩ := e
    split at e
    · rename_i v hv
      replace e := cond_none e; obtain ⟨hgv, e⟩ := e
      obtain ⟨rfl, rfl⟩ := v1_some e
      exact fun h2 => by simp [hl, hg, hv, hgv, v1]
    · cases e
  · cases e

/-- what does not read the heap is the same over any -/
theorem cls0n {h h' : Hp} {nx : ANx} (hc : cls o = 0) (hr : rdMem o = false) (e : aop T a o h = some (nx, h')) : ∀ h2 : Hp, aop T a o h2 = some (nx, h2) := by
  cases ho : o.op with
  | move y => simp only [aop, opPickA, opAllocA, opBoxA, opLoadA, opStoreA, opNilCheckA, opFieldAddrA, opFieldA, opIndexAddrA, opIndexA, opSliceA, opBuildA, opBuildSliceA, opMakeSliceA, opMakeMapA, opLookupA, opMapUpdateA, opRangeA, opNextA, opExtractA, opMakeInterfaceA, opMakeFuncA, opTypeAssertA, opCallA, opDeferA, opPanicA, opBinOpA, opConvertA, opUnOpA, ho] at e ⊢; obtain ⟨v, h1, rfl, rfl⟩ := retV_some e; exact fun h2 => (by first | rfl | (simp only [v1, retV, *]; done) | (simp [v1, retV, *]; done) | (simp_all [v1, retV]; done))
  | assign y => simp only [aop, opPickA, opAllocA, opBoxA, opLoadA, opStoreA, opNilCheckA, opFieldAddrA, opFieldA, opIndexAddrA, opIndexA, opSliceA, opBuildA, opBuildSliceA, opMakeSliceA, opMakeMapA, opLookupA, opMapUpdateA, opRangeA, opNextA, opExtractA, opMakeInterfaceA, opMakeFuncA, opTypeAssertA, opCallA, opDeferA, opPanicA, opBinOpA, opConvertA, opUnOpA, ho] at e ⊢; obtain ⟨v, h1, rfl, rfl⟩ := retV_some e; exact fun h2 => (by first | rfl | (simp only [v1, retV, *]; done) | (simp [v1, retV, *]; done) | (simp_all [v1, retV]; done))
  | pick c y z =>
    simp only [aop, opPickA, opAllocA, opBoxA, opLoadA, opStoreA, opNilCheckA, opFieldAddrA, opFieldA, opIndexAddrA, opIndexA, opSliceA, opBuildA, opBuildSliceA, opMakeSliceA, opMakeMapA, opLookupA, opMapUpdateA, opRangeA, opNextA, opExtractA, opMakeInterfaceA, opMakeFuncA, opTypeAssertA, opCallA, opDeferA, opPanicA, opBinOpA, opConvertA, opUnOpA, ho] at e ⊢
    split at e
    · rename_i b hb; obtain ⟨v, h1, rfl, rfl⟩ := retV_some e; exact fun h2 => (by first | rfl | (simp only [v1, retV, *]; done) | (simp [v1, retV, *]; done) | (simp_all [v1, retV]; done))
    · cases e
  | load t y => simp [rdMem, ho] at hr
  | nilCheck y =>
    simp only [aop, opPickA, opAllocA, opBoxA, opLoadA, opStoreA, opNilCheckA, opFieldAddrA, opFieldA, opIndexAddrA, opIndexA, opSliceA, opBuildA, opBuildSliceA, opMakeSliceA, opMakeMapA, opLookupA, opMapUpdateA, opRangeA, opNextA, opExtractA, opMakeInterfaceA, opMakeFuncA, opTypeAssertA, opCallA, opDeferA, opPanicA, opBinOpA, opConvertA, opUnOpA, ho] at e ⊢
    split at e
    · rename_i p hp; obtain ⟨rfl, rfl⟩ := v1_some e; exact fun h2 => (by first | rfl | (simp only [v1, retV, *]; done) | (simp [v1, retV, *]; done) | (simp_all [v1, retV]; done))
    · cases e
  | fieldAddr s y f =>
    simp only [aop, opPickA, opAllocA, opBoxA, opLoadA, opStoreA, opNilCheckA, opFieldAddrA, opFieldA, opIndexAddrA, opIndexA, opSliceA, opBuildA, opBuildSliceA, opMakeSliceA, opMakeMapA, opLookupA, opMapUpdateA, opRangeA, opNextA, opExtractA, opMakeInterfaceA, opMakeFuncA, opTypeAssertA, opCallA, opDeferA, opPanicA, opBinOpA, opConvertA, opUnOpA, ho] at e ⊢
    split at e
    · rename_i fs p h1 h2
      split at e
      · rename_i fd h3
        split at e
        · rename_i sz h4
          replace e := cond_none e; obtain ⟨h5, e⟩ := e
          obtain ⟨rfl, rfl⟩ := v1_some e; exact fun h2 => (by first | rfl | (simp only [v1, retV, *]; done) | (simp [v1, retV, *]; done) | (simp_all [v1, retV]; done))
        · cases e
      · cases e
    · cases e
  | field s y f =>
    simp only [aop, opPickA, opAllocA, opBoxA, opLoadA, opStoreA, opNilCheckA, opFieldAddrA, opFieldA, opIndexAddrA, opIndexA, opSliceA, opBuildA, opBuildSliceA, opMakeSliceA, opMakeMapA, opLookupA, opMapUpdateA, opRangeA, opNextA, opExtractA, opMakeInterfaceA, opMakeFuncA, opTypeAssertA, opCallA, opDeferA, opPanicA, opBinOpA, opConvertA, opUnOpA, ho] at e ⊢
    split at e
    · rename_i fs p h1 h2
      split at e
      · rename_i fd h3
        obtain ⟨v, h4, rfl, rfl⟩ := retV_some e; exact fun h2 => (by first | rfl | (simp only [v1, retV, *]; done) | (simp [v1, retV, *]; done) | (simp_all [v1, retV]; done))
      · cases e
    · cases e
  | indexAddr t y z =>
    simp only [aop, opPickA, opAllocA, opBoxA, opLoadA, opStoreA, opNilCheckA, opFieldAddrA, opFieldA, opIndexAddrA, opIndexA, opSliceA, opBuildA, opBuildSliceA, opMakeSliceA, opMakeMapA, opLookupA, opMapUpdateA, opRangeA, opNextA, opExtractA, opMakeInterfaceA, opMakeFuncA, opTypeAssertA, opCallA, opDeferA, opPanicA, opBinOpA, opConvertA, opUnOpA, ho] at e ⊢
    split at e
    · rename_i len elem p v h1 h2 h3
      split at e
      · rename_i i sz h4 h5
        replace e := cond_none e; obtain ⟨h6, e⟩ := e
        obtain ⟨rfl, rfl⟩ := v1_some e; exact fun h2 => (by first | rfl | (simp only [v1, retV, *]; done) | (simp [v1, retV, *]; done) | (simp_all [v1, retV]; done))
      · cases e
    · rename_i elem p len cap v h1 h2 h3
      split at e
      · rename_i i sz h4 h5
        replace e := cond_none e; obtain ⟨h6, e⟩ := e
        obtain ⟨rfl, rfl⟩ := v1_some e; exact fun h2 => (by first | rfl | (simp only [v1, retV, *]; done) | (simp [v1, retV, *]; done) | (simp_all [v1, retV]; done))
      · cases e
    · cases e
  | index t y z =>
    simp only [aop, opPickA, opAllocA, opBoxA, opLoadA, opStoreA, opNilCheckA, opFieldAddrA, opFieldA, opIndexAddrA, opIndexA, opSliceA, opBuildA, opBuildSliceA, opMakeSliceA, opMakeMapA, opLookupA, opMapUpdateA, opRangeA, opNextA, opExtractA, opMakeInterfaceA, opMakeFuncA, opTypeAssertA, opCallA, opDeferA, opPanicA, opBinOpA, opConvertA, opUnOpA, ho] at e ⊢
    split at e
    · rename_i len elem cs v h1 h2 h3
      split at e
      · rename_i i sz h4 h5
        replace e := cond_none e; obtain ⟨h6, e⟩ := e
        obtain ⟨v, h7, rfl, rfl⟩ := retV_some e; exact fun h2 => by simp only [h6, cond_true, h7]; rfl
      · cases e
    · rename_i s v h1 h2 h3
      split at e
      · rename_i i h4
        split at e
        · rename_i b h5
          obtain ⟨rfl, rfl⟩ := v1_some e; exact fun h2 => (by first | rfl | (simp only [v1, retV, *]; done) | (simp [v1, retV, *]; done) | (simp_all [v1, retV]; done))
        · cases e
      · cases e
    · cases e
  | extract y i =>
    simp only [aop, opPickA, opAllocA, opBoxA, opLoadA, opStoreA, opNilCheckA, opFieldAddrA, opFieldA, opIndexAddrA, opIndexA, opSliceA, opBuildA, opBuildSliceA, opMakeSliceA, opMakeMapA, opLookupA, opMapUpdateA, opRangeA, opNextA, opExtractA, opMakeInterfaceA, opMakeFuncA, opTypeAssertA, opCallA, opDeferA, opPanicA, opBinOpA, opConvertA, opUnOpA, ho] at e ⊢
    split at e
    · rename_i vs h1; obtain ⟨v, h2, rfl, rfl⟩ := retV_some e; exact fun h2 => (by first | rfl | (simp only [v1, retV, *]; done) | (simp [v1, retV, *]; done) | (simp_all [v1, retV]; done))
    · cases e
  | makeInterface t y =>
    simp only [aop, opPickA, opAllocA, opBoxA, opLoadA, opStoreA, opNilCheckA, opFieldAddrA, opFieldA, opIndexAddrA, opIndexA, opSliceA, opBuildA, opBuildSliceA, opMakeSliceA, opMakeMapA, opLookupA, opMapUpdateA, opRangeA, opNextA, opExtractA, opMakeInterfaceA, opMakeFuncA, opTypeAssertA, opCallA, opDeferA, opPanicA, opBinOpA, opConvertA, opUnOpA, ho] at e ⊢
    split at e
    · cases e
    · rename_i d v hni h1 h2; obtain ⟨rfl, rfl⟩ := v1_some e
      exact fun h2 => rfl
    · cases e
  | makeFunc fn f c =>
    simp only [aop, opPickA, opAllocA, opBoxA, opLoadA, opStoreA, opNilCheckA, opFieldAddrA, opFieldA, opIndexAddrA, opIndexA, opSliceA, opBuildA, opBuildSliceA, opMakeSliceA, opMakeMapA, opLookupA, opMapUpdateA, opRangeA, opNextA, opExtractA, opMakeInterfaceA, opMakeFuncA, opTypeAssertA, opCallA, opDeferA, opPanicA, opBinOpA, opConvertA, opUnOpA, ho] at e ⊢
    split at e
    · cases e
    · rename_i hny
      split at e
      · rename_i l1 l2 h1 h2; obtain ⟨rfl, rfl⟩ := v1_some e
        exact fun h2 => rfl
      · cases e
  | binOp op t y z t' =>
    simp only [aop, opPickA, opAllocA, opBoxA, opLoadA, opStoreA, opNilCheckA, opFieldAddrA, opFieldA, opIndexAddrA, opIndexA, opSliceA, opBuildA, opBuildSliceA, opMakeSliceA, opMakeMapA, opLookupA, opMapUpdateA, opRangeA, opNextA, opExtractA, opMakeInterfaceA, opMakeFuncA, opTypeAssertA, opCallA, opDeferA, opPanicA, opBinOpA, opConvertA, opUnOpA, ho] at e ⊢
    split at e
    · rename_i u v h1 h2
      split at e
      · rename_i r h3; obtain ⟨rfl, rfl⟩ := v1_some e; exact fun h2 => (by first | rfl | (simp only [v1, retV, *]; done) | (simp [v1, retV, *]; done) | (simp_all [v1, retV]; done))
      · rename_i h3
        split at e
        · rename_i r h4; obtain ⟨rfl, rfl⟩ := v1_some e; exact fun h2 => (by first | rfl | (simp only [v1, retV, *]; done) | (simp [v1, retV, *]; done) | (simp_all [v1, retV]; done))
        · rename_i h4; exact gOp_any e
    · cases e
  | unOp op t y =>
    simp only [aop, opPickA, opAllocA, opBoxA, opLoadA, opStoreA, opNilCheckA, opFieldAddrA, opFieldA, opIndexAddrA, opIndexA, opSliceA, opBuildA, opBuildSliceA, opMakeSliceA, opMakeMapA, opLookupA, opMapUpdateA, opRangeA, opNextA, opExtractA, opMakeInterfaceA, opMakeFuncA, opTypeAssertA, opCallA, opDeferA, opPanicA, opBinOpA, opConvertA, opUnOpA, ho] at e ⊢
    split at e
    · rename_i b h1; obtain ⟨rfl, rfl⟩ := v1_some e; exact fun h2 => (by first | rfl | (simp only [v1, retV, *]; done) | (simp [v1, retV, *]; done) | (simp_all [v1, retV]; done))
    · exact gOp_any e
  | build t ps =>
    simp only [aop, opPickA, opAllocA, opBoxA, opLoadA, opStoreA, opNilCheckA, opFieldAddrA, opFieldA, opIndexAddrA, opIndexA, opSliceA, opBuildA, opBuildSliceA, opMakeSliceA, opMakeMapA, opLookupA, opMapUpdateA, opRangeA, opNextA, opExtractA, opMakeInterfaceA, opMakeFuncA, opTypeAssertA, opCallA, opDeferA, opPanicA, opBinOpA, opConvertA, opUnOpA, ho] at e ⊢
    split at e
    · rename_i qs z fs h1 h2 h3
      split at e
      · rename_i l h4; obtain ⟨rfl, rfl⟩ := v1_some e; exact fun h2 => (by first | rfl | (simp only [v1, retV, *]; done) | (simp [v1, retV, *]; done) | (simp_all [v1, retV]; done))
      · cases e
    · rename_i qs z len elem h1 h2 h3
      split at e
      · rename_i sz h4
        split at e
        · rename_i l h5; obtain ⟨rfl, rfl⟩ := v1_some e; exact fun h2 => (by first | rfl | (simp only [v1, retV, *]; done) | (simp [v1, retV, *]; done) | (simp_all [v1, retV]; done))
        · cases e
      · cases e
    · cases e
  | convert s d y => simp [rdMem, ho] at hr
  | slice t y lo' hi mx => simp [rdMem, ho] at hr
  | lookup t y z ok => simp [rdMem, ho] at hr
  | typeAssert y xt t ok =>
    simp only [aop, opPickA, opAllocA, opBoxA, opLoadA, opStoreA, opNilCheckA, opFieldAddrA, opFieldA, opIndexAddrA, opIndexA, opSliceA, opBuildA, opBuildSliceA, opMakeSliceA, opMakeMapA, opLookupA, opMapUpdateA, opRangeA, opNextA, opExtractA, opMakeInterfaceA, opMakeFuncA, opTypeAssertA, opCallA, opDeferA, opPanicA, opBinOpA, opConvertA, opUnOpA, ho] at e ⊢
    split at e
    · cases e
    · split at e
      · rename_i t' v h3
        cases htt : Nat.beq t' t <;> cases ok <;> simp only [htt, cond_true, cond_false] at e ⊢
        · cases e
        · split at e
          · obtain ⟨rfl, rfl⟩ := v1_some e; exact fun h2 => rfl
          · cases e
        · obtain ⟨rfl, rfl⟩ := v1_some e; exact fun h2 => rfl
        · obtain ⟨rfl, rfl⟩ := v1_some e; exact fun h2 => rfl
      · cases ok <;> simp only [cond_true, cond_false] at e ⊢
        · cases e
        · split at e
          · obtain ⟨rfl, rfl⟩ := v1_some e; exact fun h2 => rfl
          · cases e
      · cases e
    · cases e
  | call c => simp [rdMem, ho] at hr
  | alloc | box | buildSlice | insert | store | ready | waits | sliceToArrayPointer | makeMap | makeChan | makeSlice | mapUpdate | mapEntry | entryStore | range | next | entry | go | defer | panic | send | recv | select => simp [cls, ho] at hc


/-! what a reading operation reads lies below the mark of its heap -/
def Low (n : Nat) (v : Value) : Prop := ∀ (σ : Ren) (u : Value), VR σ v u → VR (σ.cut n) v u

theorem Low.gr {n : Nat} {v : Value} (h : gr v = true) : Low n v := fun σ u hr => by
  have := hr.gr_eq h
  subst this; exact .of_gr h
theorem Low.ptr {n : Nat} {p : Addr} (h : p.block < n) : Low n (.pointer (some p)) := fun σ u hr => by
  cases hr
  exact .ptr (Ren.cut_of (by assumption) h)
theorem Low.slice {n : Nat} {p : Addr} {a b : Nat} (h : p.block < n) : Low n (.slice (some p) a b) := fun σ u hr => by
  cases hr
  · exact .slice _ _ (Ren.cut_of (by assumption) h)
  · exact .esl (Ren.cut_of (by assumption) h)
theorem Low.map {n r : Nat} (h : r < n) : Low n (.map (some r)) := fun σ u hr => by
  cases hr
  exact .map (Ren.cut_of (by assumption) h)

theorem natOf_gr {v : Value} {i : Nat} (h : natOf v = some i) : gr v = true := by
  unfold natOf at h
  split at h
  · rfl
  · cases h

theorem optNat_gr {d i : Nat} {ov : Option Value} (h : optNat d ov = some i) : ∀ v, ov = some v → gr v = true := by
  intro v hv
  subst hv
  exact natOf_gr h

theorem evO_mem {a : AF} {y : Option Operand} {ov : Option Value} (e : evO a y = some ov) {z : Operand} (hz : y = some z) {v : Value} (hv : a.eval z = some v) : ov = some v := by
  subst hz
  simp only [evO, hv] at e
  cases e; rfl

theorem evalL_mem : ∀ {l : List Operand} {vs : List Value}, evalL a l = some vs → ∀ y ∈ l, ∀ v, a.eval y = some v → v ∈ vs := by
  intro l
  induction l with
  | nil => intro vs _ y hy; cases hy
  | cons z l ih =>
    intro vs e y hy v hv
    rw [evalL_cons] at e
    split at e
    · rename_i v' hv'
      split at e
      · rename_i r hr
        cases e
        rcases List.mem_cons.1 hy with h | h
        · subst h; rw [hv'] at hv; cases hv; exact List.mem_cons_self
        · exact List.mem_cons_of_mem _ (ih hr y h v hv)
      · cases e
    · cases e

theorem gOp_low {h h' : Hp} {nx : ANx} {n : Nat} (e : gOp T a o h = some (nx, h')) : ∀ y ∈ o.op.operands.toList, ∀ v, a.eval y = some v → Low n v := by
  unfold gOp at e
  split at e
  · rename_i l hl
    replace e := cond_none e; obtain ⟨hg, e⟩ := e
    rw [allB_eq, List.all_eq_true] at hg
    intro y hy v hv
    exact Low.gr (hg v (evalL_mem hl y hy v hv))
  · cases e

theorem keyK_gr {kt : TypeId} {k : Value} (h : keyK T kt k = true) : gr k = true := by
  unfold keyK at h
  split at h <;> first | rfl | cases h

theorem keyG_gr {kt : TypeId} {k : Value} (h : keyG T kt k = true) : gr k = true := by
  unfold keyG at h
  split at h
  · obtain ⟨as, rfl, _⟩ := kAggN_ints h
    exact kAgg_gr (kAgg_ints as)
  · cases h

theorem lookA_gr {kt : TypeId} {k : Value} {es : List MapEntry} {r : Option Value} (e : lookA T kt k es = some r) : gr k = true := by
  unfold lookA at e
  cases hk : keyK T kt k with
  | true => exact keyK_gr hk
  | false =>
    rw [hk, cond_false] at e
    replace e := cond_none e
    exact keyG_gr e.1

theorem cells_get {h : Hp} {b : Nat} {c : List Value} (e : h.cells b = some c) : ∃ y, h.get b = some y := by
  unfold Hp.cells at e
  split at e
  · rename_i y hy; exact ⟨y, hy⟩
  · cases e

theorem sliceOp_low {h h' : Hp} {nx : ANx} {n : Nat} {t : TypeId} {x : Value} {lo hi : Option Value} (e : sliceOp T t x lo hi none h = some (nx, h')) (hb : ∀ b y, h.get b = some y → b < n) :
    Low n x ∧ (∀ v, lo = some v → gr v = true) ∧ ∀ v, hi = some v → gr v = true := by
  unfold sliceOp at e
  split at e
  · split at e
    · rename_i l hh sz h5 h6 h7 _
      replace e := cond_none e; obtain ⟨h9, e⟩ := e
      refine ⟨?_, optNat_gr h6, optNat_gr h7⟩
      split at e
      · exact Low.gr rfl
      · split at e
        · rename_i h10; exact Low.slice (hb _ _ h10)
        · cases e
    · rename_i heq _ _ _; cases heq
    · cases e
  · split at e
    · rename_i l hh h6 h7
      exact ⟨Low.gr rfl, optNat_gr h6, optNat_gr h7⟩
    · cases e
  · split at e
    · rename_i h6 h7 h8 h10
      exact ⟨Low.ptr (hb _ _ h10), optNat_gr h6, optNat_gr h7⟩
    · cases e
  · cases e

theorem lenB_low {h h' : Hp} {nx : ANx} {n : Nat} {t : TypeId} {y : Value} (e : lenB T t y h = some (nx, h')) (hb : ∀ b y, h.get b = some y → b < n) : Low n y := by
  unfold lenB at e
  split at e
  · split at e
    · exact Low.gr rfl
    · split at e
      · rename_i h4; exact Low.slice (hb _ _ h4)
      · cases e
    · exact Low.gr rfl
    · exact Low.gr rfl
    · split at e
      · rename_i h4; exact Low.map (hb _ _ h4)
      · cases e
    · cases e
  · cases e

theorem aop_low {h h' : Hp} {nx : ANx} {n : Nat} (hc : cls o = 0) (hm : rdMem o = true) (e : aop T a o h = some (nx, h')) (hb : ∀ b y, h.get b = some y → b < n) : ∀ y ∈ o.op.operands.toList, ∀ v, a.eval y = some v → Low n v := by
  cases ho : o.op with
  | load t y =>
    simp only [aop, opPickA, opAllocA, opBoxA, opLoadA, opStoreA, opNilCheckA, opFieldAddrA, opFieldA, opIndexAddrA, opIndexA, opSliceA, opBuildA, opBuildSliceA, opMakeSliceA, opMakeMapA, opLookupA, opMapUpdateA, opRangeA, opNextA, opExtractA, opMakeInterfaceA, opMakeFuncA, opTypeAssertA, opCallA, opDeferA, opPanicA, opBinOpA, opConvertA, opUnOpA, ho] at e
    split at e
    · rename_i p hp
      obtain ⟨v, h1, rfl, rfl⟩ := retV_some e
      intro z hz v' hv'
      simp only [Op.operands, List.mem_singleton] at hz
      subst hz
      rw [hp] at hv'; cases hv'
      unfold Hp.load at h1
      split at h1
      · rename_i c hcl; obtain ⟨y', hy'⟩ := cells_get hcl; exact Low.ptr (hb _ _ hy')
      · cases h1
    · cases e
  | lookup t y z ok =>
    simp only [aop, opPickA, opAllocA, opBoxA, opLoadA, opStoreA, opNilCheckA, opFieldAddrA, opFieldA, opIndexAddrA, opIndexA, opSliceA, opBuildA, opBuildSliceA, opMakeSliceA, opMakeMapA, opLookupA, opMapUpdateA, opRangeA, opNextA, opExtractA, opMakeInterfaceA, opMakeFuncA, opTypeAssertA, opCallA, opDeferA, opPanicA, opBinOpA, opConvertA, opUnOpA, ho] at e
    split at e
    · rename_i kt elem r k h1 h2 h3
      split at e
      · rename_i es cl zv h4 h5
        have hk : gr k = true := by
          split at e
          · rename_i hl; exact lookA_gr hl
          · rename_i hl; exact lookA_gr hl
          · cases e
        intro z' hz' v' hv'
        simp only [Op.operands, List.mem_cons, List.not_mem_nil, or_false] at hz'
        rcases hz' with hz' | hz'
        · subst hz'; rw [h2] at hv'; cases hv'; exact Low.map (hb _ _ h4)
        · subst hz'; rw [h3] at hv'; cases hv'; exact Low.gr hk
      · cases e
    · cases e
  | convert s d y =>
    simp only [aop, opPickA, opAllocA, opBoxA, opLoadA, opStoreA, opNilCheckA, opFieldAddrA, opFieldA, opIndexAddrA, opIndexA, opSliceA, opBuildA, opBuildSliceA, opMakeSliceA, opMakeMapA, opLookupA, opMapUpdateA, opRangeA, opNextA, opExtractA, opMakeInterfaceA, opMakeFuncA, opTypeAssertA, opCallA, opDeferA, opPanicA, opBinOpA, opConvertA, opUnOpA, ho] at e
    split at e
    · rename_i el p len cap h1 h2 h3
      split at e
      · rename_i c h4 h5
        intro z hz v' hv'
        simp only [Op.operands, List.mem_singleton] at hz
        subst hz
        rw [h3] at hv'; cases hv'
        obtain ⟨y', hy'⟩ := cells_get h5
        exact Low.slice (hb _ _ hy')
      · cases e
    · have := gOp_low (n := n) e
      rw [ho] at this; exact this
  | slice t y lo hi mx =>
    cases mx with
    | some m => simp [cls, ho] at hc
    | none =>
      simp only [aop, opPickA, opAllocA, opBoxA, opLoadA, opStoreA, opNilCheckA, opFieldAddrA, opFieldA, opIndexAddrA, opIndexA, opSliceA, opBuildA, opBuildSliceA, opMakeSliceA, opMakeMapA, opLookupA, opMapUpdateA, opRangeA, opNextA, opExtractA, opMakeInterfaceA, opMakeFuncA, opTypeAssertA, opCallA, opDeferA, opPanicA, opBinOpA, opConvertA, opUnOpA, ho] at e
      split at e
      · rename_i v lo1 hi1 mx1 h1 h2 h3 h4
        have hmx : mx1 = none := by simpa [evO] using h4.symm
        subst hmx
        obtain ⟨q1, q2, q3⟩ := sliceOp_low e hb
        intro z hz v' hv'
        have hz' : z = y ∨ lo = some z ∨ hi = some z := by
          cases lo <;> cases hi <;> simp [Op.operands] at hz ⊢ <;> (first | exact hz | (rcases hz with h | h <;> simp [h]) | (rcases hz with h | h | h <;> simp [h]))
        rcases hz' with h | h | h
        · subst h; rw [h1] at hv'; cases hv'; exact q1
        · exact Low.gr (q2 _ (evO_mem h2 h hv'))
        · exact Low.gr (q3 _ (evO_mem h3 h hv'))
      · cases e
  | call c =>
    simp only [aop, opPickA, opAllocA, opBoxA, opLoadA, opStoreA, opNilCheckA, opFieldAddrA, opFieldA, opIndexAddrA, opIndexA, opSliceA, opBuildA, opBuildSliceA, opMakeSliceA, opMakeMapA, opLookupA, opMapUpdateA, opRangeA, opNextA, opExtractA, opMakeInterfaceA, opMakeFuncA, opTypeAssertA, opCallA, opDeferA, opPanicA, opBinOpA, opConvertA, opUnOpA, ho] at e
    split at e
    · rename_i t args hres
      have hbb : ∃ b, c.callee = .builtin b ∧ (b = .len ∨ b = .min ∨ b = .max) := by
        simp only [cls, ho] at hc
        obtain ⟨callee, cargs, cats⟩ := c
        cases callee with
        | builtin b => cases b <;> simp at hc ⊢
        | _ => simp at hc
      obtain ⟨b, hb1, hb2⟩ := hbb
      unfold resolveA at hres
      split at hres
      · rename_i vs hvs
        rw [hb1] at hres
        cases hres
        have hall : ∀ v ∈ args, Low n v := by
          have e' : builtinA T b c.argTypes.toList o.type args h = some (nx, h') := e
          rcases hb2 with rfl | rfl | rfl
          · revert e'
            generalize c.argTypes.toList = ats
            intro e'
            match args, ats, e' with
            | [y], [t], e' =>
              intro v hv
              rw [List.mem_singleton] at hv
              subst hv
              exact lenB_low e' hb
            | [], _, e' => cases e'
            | [_], [], e' => cases e'
            | [_], _ :: _ :: _, e' => cases e'
            | _ :: _ :: _, _, e' => cases e'
          · have key : builtinA T .min c.argTypes.toList o.type args h = cond (allB sc args) (match pureRun T.P (Builtin.min_ ⟨c.argTypes.toList⟩ o.type ⟨args⟩) with | some v => cond (sc v) (v1 v h) none | none => none) none := rfl
            rw [key] at e'
            have h1 := (cond_none e').1
            rw [allB_eq, List.all_eq_true] at h1
            intro v hv
            have := h1 v hv
            refine Low.gr ?_
            cases v <;> simp_all [sc, gr]
          · have key : builtinA T .max c.argTypes.toList o.type args h = cond (allB sc args) (match pureRun T.P (Builtin.max_ ⟨c.argTypes.toList⟩ o.type ⟨args⟩) with | some v => cond (sc v) (v1 v h) none | none => none) none := rfl
            rw [key] at e'
            have h1 := (cond_none e').1
            rw [allB_eq, List.all_eq_true] at h1
            intro v hv
            have := h1 v hv
            refine Low.gr ?_
            cases v <;> simp_all [sc, gr]
        intro z hz v' hv'
        have hz' : z ∈ c.args.toList := by
          have : (Op.call c).operands.toList = c.args.toList := by simp [Op.operands, Call.operands, hb1]
          rw [this] at hz; exact hz
        exact hall v' (evalL_mem hvs z hz' v' hv')
      · cases hres
    · cases e
  | _ => simp [rdMem, ho] at hm
end Go.Clo
