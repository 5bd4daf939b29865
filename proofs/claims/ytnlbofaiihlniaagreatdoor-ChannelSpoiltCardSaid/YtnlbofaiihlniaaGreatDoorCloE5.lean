/- An evaluator for closed calls of the model, with its proof: what it yields is what the call returns (a part of it). No condition beyond those that its theorems state. -/
import Derived.Test.YtnlbofaiihlniaaGreatDoorCloE4
set_option linter.unusedVariables false
set_option linter.unusedSimpArgs false
namespace Go.Clo
open Go

variable {T : Tb} {F : Fns} {rd : Option Nat} {ops : Array Oper} {l : List DO} {S : Nat → St} {V : Nat → Option Value}

theorem memN_cons (i x : Nat) (l : List Nat) : memN i (x :: l) = cond (Nat.beq x i) true (memN i l) := rfl
theorem memN_of {i : Nat} : ∀ {l : List Nat}, i ∈ l → memN i l = true := by
  intro l
  induction l with
  | nil => intro h; cases h
  | cons x l ih =>
    intro h
    rw [memN_cons]
    rcases List.mem_cons.1 h with h | h
    · subst h; rw [Nat.beq_refl]; rfl
    · rw [ih h]; cases Nat.beq x i <;> rfl

theorem againAll_cons (T : Tb) (re : List Nat) (h : Hp) (r : RO) (l : List RO) : againAll T re h (r :: l) = cond (memN r.i re) (cond (again T r h) (againAll T re h l) false) (againAll T re h l) := rfl
theorem againAll_spec {re : List Nat} {h : Hp} : ∀ {l : List RO}, againAll T re h l = true → ∀ r ∈ l, r.i ∈ re → again T r h = true := by
  intro l
  induction l with
  | nil => intro _ r hr; cases hr
  | cons q l ih =>
    intro e r hr hi
    rw [againAll_cons] at e
    have hrest : againAll T re h l = true := by
      cases hm : memN q.i re with
      | false => rw [hm] at e; exact e
      | true =>
        rw [hm, cond_true] at e
        cases ha : again T q h with
        | false => rw [ha] at e; cases e
        | true => rw [ha] at e; exact e
    rcases List.mem_cons.1 hr with h1 | h1
    · subst h1
      rw [memN_of hi, cond_true] at e
      cases ha : again T r h with
      | false => rw [ha] at e; cases e
      | true => rfl
    · exact ih hrest r h1 hi

theorem backAll_zero (T : Tb) (r : RO) (hs : List Hp) : backAll T r 0 hs = true := rfl
theorem backAll_succ (T : Tb) (r : RO) (n : Nat) (hs : List Hp) : backAll T r (n + 1) hs = (match hs with | [] => false | h :: r' => cond (again T r h) (backAll T r n r') false) := by
  cases hs <;> rfl
theorem backAll_spec {r : RO} : ∀ {n : Nat} {hs : List Hp}, backAll T r n hs = true → ∀ j, j < n → ∃ h, hs[j]? = some h ∧ again T r h = true := by
  intro n
  induction n with
  | zero => intro hs _ j hj; omega
  | succ n ih =>
    intro hs e j hj
    rw [backAll_succ] at e
    cases hs with
    | nil => cases e
    | cons h hs =>
      simp only at e
      cases ha : again T r h with
      | false => rw [ha] at e; cases e
      | true =>
        rw [ha, cond_true] at e
        cases j with
        | zero => exact ⟨h, rfl, ha⟩
        | succ j => obtain ⟨h', h1, h2⟩ := ih e j (by omega); exact ⟨h', by simpa using h1, h2⟩

/-! how many effects lie between two places -/
noncomputable def nEff (ops : Array Oper) (a : Nat) : Nat → Nat
  | 0 => 0
  | d + 1 => nEff ops a d + (if clsAt ops.toList (a + d) = 2 then 1 else 0)

theorem Run.hs (R : Run T F rd ops l S V) {q : Nat} (hq : clsAt ops.toList q = 2) : ∀ d, q + 1 + d ≤ ops.size → (S (q + 1 + d)).hs[nEff ops (q + 1) d]? = some (S q).h := by
  have one : ∀ {k : Nat}, k < ops.size → (S (k + 1)).hs = if clsAt ops.toList k = 2 then (S k).h :: (S k).hs else (S k).hs := by
    intro k hk
    have ho := Array.getElem?_eq_getElem hk
    have hst := R.bar ho
    rw [clsAt_of ho]
    generalize hp : mkDO ops.toList (Region.before ops).toList ops[k] k = p at hst
    have heff : p.eff = decide (cls ops[k] = 2) := by
      rw [← hp]
      show Nat.beq (cls ops[k]) 2 = _
      cases hb : Nat.beq (cls ops[k]) 2 with
      | true => simp [Nat.eq_of_beq_eq_true hb]
      | false =>
        have : cls ops[k] ≠ 2 := fun h => by rw [h] at hb; cases hb
        simp [this]
    cases hv : V k with
    | none =>
      rw [hv] at hst
      obtain ⟨_, h2⟩ := hst
      rw [h2, heff]
      by_cases hc : cls ops[k] = 2 <;> simp [hc]
    | some v =>
      rw [hv] at hst
      obtain ⟨_, a1, h1, _, _, _, g1, g2, g3⟩ := hst
      by_cases hc : cls ops[k] = 2
      · rw [if_pos hc]; exact (g1 (by rw [heff]; simp [hc])).2.2
      · rw [if_neg hc]
        have he : p.eff = false := by rw [heff]; simp [hc]
        cases hr : p.rd with
        | true => exact (g2 he hr).2.2
        | false => exact (g3 he hr).2
  intro d
  induction d with
  | zero =>
    intro hd
    rw [Nat.add_zero, one (by omega), if_pos hq]
    rfl
  | succ d ih =>
    intro hd
    have h1 := ih (by omega)
    show (S (q + 1 + d + 1)).hs[nEff ops (q + 1) d + _]? = _
    rw [one (by omega)]
    by_cases hc : clsAt ops.toList (q + 1 + d) = 2
    · rw [if_pos hc, if_pos hc]; simpa using h1
    · rw [if_neg hc, if_neg hc]; simpa using h1

theorem count_le {ops : Array Oper} {p : Nat → Bool} {q : Nat} (hq : p q = true) : ∀ d, (∀ i, q < i → i < q + 1 + d → clsAt ops.toList i = 2 → p i = true) → nEff ops (q + 1) d + 1 ≤ ((List.range (q + 1 + d)).filter p).length := by
  intro d
  induction d with
  | zero =>
    intro _
    rw [Nat.add_zero, List.range_succ, List.filter_append, List.length_append]
    simp [nEff, hq]
  | succ d ih =>
    intro hp
    have h1 := ih (fun i h1 h2 => hp i h1 (by omega))
    have : q + 1 + (d + 1) = q + 1 + d + 1 := by omega
    rw [this, List.range_succ, List.filter_append, List.length_append]
    show nEff ops (q + 1) d + _ + 1 ≤ _
    by_cases hc : clsAt ops.toList (q + 1 + d) = 2
    · rw [if_pos hc]
      have := hp (q + 1 + d) (by omega) (by omega) hc
      simp only [List.filter_cons, this, if_true, List.filter_nil, List.length_cons, List.length_nil]
      omega
    · rw [if_neg hc]; omega

/-- what was read stays on record -/
theorem Run.rs (R : Run T F rd ops l S V) {k : Nat} {o : Oper} {v : Value} (ho : ops[k]? = some o) (hv : V k = some v) (hc : cls o = 0) (hm : rdMem o = true) : ∀ d, k + 1 + d ≤ ops.size → (⟨k, o, (S k).a, v⟩ : RO) ∈ (S (k + 1 + d)).rs := by
  intro d
  induction d with
  | zero =>
    intro _
    have hst := R.bar ho
    rw [hv] at hst
    obtain ⟨_, a1, h1, _, _, _, _, g2, _⟩ := hst
    have he : (mkDO ops.toList (Region.before ops).toList o k).eff = false := by show Nat.beq (cls o) 2 = false; rw [hc]; rfl
    have hr : (mkDO ops.toList (Region.before ops).toList o k).rd = true := by
      show memAt ops.toList k = true
      unfold memAt
      rw [nth_eq, Array.getElem?_toList, ho]
      simp [hc, hm]
    rw [Nat.add_zero, (g2 he hr).2.1]
    simp [mkDO]
  | succ d ih =>
    intro hd
    have h1 := ih (by omega)
    have ho' := Array.getElem?_eq_getElem (show k + 1 + d < ops.size by omega)
    have hst := R.bar ho'
    show _ ∈ (S (k + 1 + d + 1)).rs
    cases hv' : V (k + 1 + d) with
    | none =>
      rw [hv'] at hst
      obtain ⟨_, h2⟩ := hst
      rw [h2]; exact h1
    | some v' =>
      rw [hv'] at hst
      obtain ⟨_, a1, h2, _, _, _, g1, g2, g3⟩ := hst
      cases he : (mkDO ops.toList (Region.before ops).toList ops[k + 1 + d] (k + 1 + d)).eff with
      | true => rw [(g1 he).2.1]; exact h1
      | false =>
        cases hr : (mkDO ops.toList (Region.before ops).toList ops[k + 1 + d] (k + 1 + d)).rd with
        | true => rw [(g2 he hr).2.1]; exact List.mem_cons_of_mem _ h1
        | false => rw [(g3 he hr).1]; exact h1

theorem first_act {e k : Nat} (h : ∃ t, e ≤ t ∧ t < k ∧ act ops V t) : ∃ q, e ≤ q ∧ q < k ∧ act ops V q ∧ ∀ t, e ≤ t → t < q → ¬ act ops V t := by
  obtain ⟨t, h1, h2, h3⟩ := h
  induction t using Nat.strongRecOn with
  | ind t ih =>
    by_cases hx : ∃ t', e ≤ t' ∧ t' < t ∧ act ops V t'
    · obtain ⟨t', g1, g2, g3⟩ := hx
      exact ih t' g2 g1 (by omega) g3
    · exact ⟨t, h1, h2, h3, fun t' g1 g2 g3 => hx ⟨t', g1, g2, g3⟩⟩

variable {σ0 σ : Ren} {w0 w : World} {b : Frame} {cs : List Frame} {E : Nat → Prop} {e : Nat} {x : CX}

/-- a heap at which a reading place reads what it read in the text's order -/
theorem Inv.readAt (C : Ctx T F rd ops l S V σ0 b) (I : Inv T ops S V σ0 w0 b cs E e σ x w) {k : Nat} {o : Oper} (r : Rdy ops E k o) {v : Value} (hv : V k = some v) (hc : cls o = 0) :
    ∃ (σq : Ren) (h : Hp), Sub σq σ ∧ HR T σq h w ∧ h.lo ≤ h.n ∧ (∀ b y, h.lo ≤ b → h.get b ≠ some y) ∧ (∃ h', aop T (S k).a o h = some (.val v, h')) ∧ ∀ d ∈ tmpsOf o, VR σq ((S k).a.tmp d) (x.tmps.getD d undef) := by
  have hkN := (Array.getElem?_eq_some_iff.1 r.ho).1
  have hst := C.R.bar r.ho
  obtain ⟨b1, b2, b3⟩ := mkDO_o ops.toList (Region.before ops).toList o k
  have h0 := (hst.c0 (by rw [b1]; exact hc) b3).2.2 v hv
  have look : ∀ {n : Nat}, (S k).h.n ≤ n → ∀ d ∈ tmpsOf o, VR (σ.cut n) ((S k).a.tmp d) (x.tmps.getD d undef) := fun hn d hd => (I.look C r (mem_looks_opnd hd)).mono (Ren.cut_le _ hn)
  -- at the state of a place
  have at_ : ∀ q, q ≤ ops.size → J T (fun t => (S t).h) ops.size E σ0 w0 q σ w → (∃ h', aop T (S k).a o (S q).h = some (ANx.val v, h')) → (∀ d ∈ tmpsOf o, VR (σ.cut (S q).h.n) ((S k).a.tmp d) (x.tmps.getD d undef)) →
      ∃ (σq : Ren) (h : Hp), Sub σq σ ∧ HR T σq h w ∧ h.lo ≤ h.n ∧ (∀ b y, h.lo ≤ b → h.get b ≠ some y) ∧ (∃ h', aop T (S k).a o h = some (ANx.val v, h')) ∧ ∀ d ∈ tmpsOf o, VR σq ((S k).a.tmp d) (x.tmps.getD d undef) := by
    intro q hq jq ⟨h', ha⟩ hl
    refine ⟨σ.cut (S q).h.n, { (S q).h with lo := (S q).h.n }, Ren.cut_sub _ _, (jq.hr C.hH).lo _, Nat.le_refl _, fun b y hb hy => ?_, ⟨_, (cls0 hc ha).2.2 _ _⟩, hl⟩
    have h1 : b < (S q).h.n := C.hH.bnd q hq b y hy
    have h2 : (S q).h.n ≤ b := hb
    omega
  cases hm : rdMem o with
  | false =>
    refine ⟨σ.cut (S ops.size).h.n, noHp (S ops.size).h.n, Ren.cut_sub _ _, J.none C.hH I.j _, Nat.zero_le _, fun b y _ => noHp_get _ b y, ⟨noHp (S ops.size).h.n, cls0n hc hm (h0 0 0) _⟩, look (C.hH.mono k ops.size (by omega) (Nat.le_refl _))⟩
  | true =>
    by_cases hek : e ≤ k
    · by_cases hx : ∃ t, e ≤ t ∧ t < k ∧ act ops V t
      · -- effects are yet to be done
        obtain ⟨q, q1, q2, q3, q4⟩ := first_act hx
        have hqE := I.ge q q1 q3
        have q3' := q3
        obtain ⟨oq, vq, g1, g2, g3⟩ := q3'
        have hfree : ∀ i, q ≤ i → i < k → clsAt ops.toList i = 2 → freeB (Region.before ops).toList i k = true := by
          intro i i1 i2 i3
          have hoi := Array.getElem?_eq_getElem (show i < ops.size by omega)
          rw [clsAt_of hoi] at i3
          have n1 : ((Region.before ops).getD k 0).testBit i = false := by
            cases hb : ((Region.before ops).getD k 0).testBit i with
            | false => rfl
            | true =>
              have hEi := I.pre r hb
              rcases Nat.lt_or_ge q i with hlt | hge
              · have := okK_eff hoi ((plan_spec C.R.plan).2.2 i _ hoi).1 i3 hlt g1 (by omega)
                exact absurd (I.preE hoi hEi this) hqE
              · have : i = q := by omega
                exact absurd (this ▸ hEi) hqE
          have n2 : ((Region.before ops).getD i 0).testBit k = false := by
            cases hb : ((Region.before ops).getD i 0).testBit k with
            | false => rfl
            | true => have := before_lt C.R.plan hoi hb; omega
          unfold freeB
          rw [at_eq, at_eq, n1, n2]
          have : Nat.beq i k = false := by
            cases hb : Nat.beq i k with
            | false => rfl
            | true => have := Nat.eq_of_beq_eq_true hb; omega
          rw [this]; rfl
        have hst' := hst
        rw [hv] at hst'
        obtain ⟨_, _, _, _, _, _, _, s2, _⟩ := hst'
        have he : (mkDO ops.toList (Region.before ops).toList o k).eff = false := by show Nat.beq (cls o) 2 = false; rw [hc]; rfl
        have hr : (mkDO ops.toList (Region.before ops).toList o k).rd = true := by
          show memAt ops.toList k = true
          unfold memAt
          rw [nth_eq, Array.getElem?_toList, r.ho]
          simp [hc, hm]
        have hback := (s2 he hr).1
        obtain ⟨d, hd⟩ := Nat.le.dest (show q + 1 ≤ k by omega)
        have hcq : clsAt ops.toList q = 2 := by rw [clsAt_of g1]; exact g2
        have hcnt := count_le (ops := ops) (p := fun j => freeB (Region.before ops).toList j k && Nat.beq (clsAt ops.toList j) 2) (q := q) (by simp only [hfree q (Nat.le_refl _) q2 hcq, hcq]; rfl) d (fun i i1 i2 i3 => by simp only [hfree i (by omega) (by omega) i3, i3]; rfl)
        rw [hd] at hcnt
        obtain ⟨hq', u1, u2⟩ := backAll_spec hback (nEff ops (q + 1) d) (by show _ < ((List.range k).filter _).length; omega)
        have hhs := C.R.hs hcq d (by omega)
        rw [hd] at hhs
        rw [hhs] at u1
        cases u1
        obtain ⟨h', hag⟩ := again_spec u2
        have jq := I.j.adv C.hH q1 (by omega) (C.R.grow (by omega) q4)
        refine at_ q (by omega) jq ⟨h', hag⟩ ?_
        -- its operands lie below that mark
        intro d' hd'
        have hl := (I.look C r (mem_looks_opnd hd')).mono (Ren.cut_sub _ _)
        exact aop_low hc hm hag (fun b y hy => C.hH.bnd q (by omega) b y hy) (.tmp d') (mem_tmpsOf.1 hd') _ rfl _ _ hl
      · -- in its time
        have hn : ∀ t, e ≤ t → t < k → ¬ act ops V t := fun t h1 h2 h3 => hx ⟨t, h1, h2, h3⟩
        have jk := I.j.adv C.hH hek (by omega) (C.R.grow (by omega) hn)
        exact at_ k (by omega) jk ⟨_, h0 _ _⟩ (look (Nat.le_refl _))
    · -- effects behind it are done
      rcases I.last with h1 | ⟨q, rfl, hqE, hqa⟩
      · omega
      · have hqa' := hqa
        obtain ⟨oq, vq, g1, g2, g3⟩ := hqa'
        have hqk : k < q := by
          have : q ≠ k := fun h => r.nE (h ▸ hqE)
          omega
        have hqN := (Array.getElem?_eq_some_iff.1 g1).1
        have hstq := C.R.bar g1
        rw [g3] at hstq
        obtain ⟨_, _, _, _, _, _, s1, _, _⟩ := hstq
        have heq : (mkDO ops.toList (Region.before ops).toList oq q).eff = true := by show Nat.beq (cls oq) 2 = true; rw [g2]; rfl
        have hag := (s1 heq).1
        obtain ⟨d, hd⟩ := Nat.le.dest (show k + 1 ≤ q by omega)
        have hrs := C.R.rs r.ho hv hc hm d (by omega)
        rw [hd] at hrs
        have hfree : freeB (Region.before ops).toList k q = true := by
          have n1 : ((Region.before ops).getD q 0).testBit k = false := by
            cases hb : ((Region.before ops).getD q 0).testBit k with
            | false => rfl
            | true => exact absurd (I.preE g1 hqE hb) r.nE
          have n2 : ((Region.before ops).getD k 0).testBit q = false := by
            cases hb : ((Region.before ops).getD k 0).testBit q with
            | false => rfl
            | true => have := before_lt C.R.plan r.ho hb; omega
          unfold freeB
          rw [at_eq, at_eq, n1, n2]
          have : Nat.beq k q = false := by
            cases hb : Nat.beq k q with
            | false => rfl
            | true => have := Nat.eq_of_beq_eq_true hb; omega
          rw [this]; rfl
        have hmem : k ∈ (mkDO ops.toList (Region.before ops).toList oq q).re := by
          show k ∈ (List.range q).filter _
          rw [List.mem_filter, List.mem_range]
          refine ⟨hqk, ?_⟩
          have : memAt ops.toList k = true := by
            unfold memAt
            rw [nth_eq, Array.getElem?_toList, r.ho]
            simp [hc, hm]
          simp [hfree, this]
        obtain ⟨h', ha⟩ := again_spec (againAll_spec hag _ hrs hmem)
        exact at_ (q + 1) (by omega) I.j ⟨h', ha⟩ (look (C.hH.mono k (q + 1) (by omega) (by omega)))
end Go.Clo
