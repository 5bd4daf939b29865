/- Contracts of functions that the laws of this seat call, or the evaluator of closed calls and its runs. Conditions: as each theorem states them. -/
import Derived.Test.YtddlghdglknloaaGreatDoorCloE3
set_option linter.unusedVariables false
set_option linter.unusedSimpArgs false
/- Contracts of functions that the laws of this seat call, or the evaluator of closed calls and its runs. Conditions: as each theorem states them. -/
set_option linter.unusedVariables false
set_option linter.unusedSimpArgs false
namespace Go.Clo
open Go

variable {T : Tb} {F : Fns} {rd : Option Nat} {ops : Array Oper} {l : List DO} {S : Nat → St} {V : Nat → Option Value}
variable {σ0 σ : Ren} {w0 w : World} {b : Frame} {cs : List Frame} {E : Nat → Prop} {e : Nat} {x : CX}

/-- a ready place is listed -/
theorem Inv.step (C : Ctx T F rd ops l S V σ0 b) (I : Inv T ops S V σ0 w0 b cs E e σ x w) {k : Nat} {o : Oper} (r : Rdy ops E k o) (hnp : V k = none → wantedA ops.toList (S k).a o = false) (rest : List Nat) (K : List Item) :
    ∃ e' σ' x' w', Inv T ops S V σ0 w0 b cs (fun i => E i ∨ i = k) e' σ' x' w' ∧ Steps T.P (M b x (.inRegion ops (k :: rest) :: K) cs w) (M b x' (.inRegion ops rest :: K) cs w') := by
  have hkN := (Array.getElem?_eq_some_iff.1 r.ho).1
  have hst := C.R.bar r.ho
  obtain ⟨b1, b2, b3⟩ := mkDO_o ops.toList (Region.before ops).toList o k
  have hwq := I.want C r
  have hEE : ∀ p, E p → (E p ∨ p = k) := fun p h => .inl h
  cases hv : V k with
  | none =>
    have hact : ¬ act ops V k := by rintro ⟨o', v, _, _, h⟩; rw [hv] at h; cases h
    have hw0 := hnp hv
    exact ⟨e, σ, x.put o.dst undef, w, I.next0 C r hact (I.j.listed hEE) (.refl σ) (u := undef) (by rw [hv]; exact undefR _), .one (s_opSkip r.ho (by rw [← hwq]; exact hw0))⟩
  | some v =>
    have hw : Region.wanted o (yielded ops x.tmps) = true := by
      have h1 := hst
      rw [hv] at h1
      have h2 := h1.1
      rw [b1] at h2
      rw [← hwq]; exact h2
    have look : ∀ d ∈ tmpsOf o, VR (σ.cut (S k).h.n) ((S k).a.tmp d) (x.tmps.getD d undef) := fun d hd => I.look C r (mem_looks_opnd hd)
    rcases C.R.cls_le r.ho with hc | hc | hc
    · have hact : ¬ act ops V k := by
        rintro ⟨o', v', h1, h2, _⟩
        rw [r.ho] at h1; cases h1; omega
      obtain ⟨σq, h, q1, q2, q3, q4, ⟨h', q5⟩, q6⟩ := I.readAt C r hv hc
      have G := aop_good (x := x.act) C.R.hT C.R.hS q2 q3 q6 q5
      obtain ⟨σ1, w1, u, g1, g2, g3, g4⟩ := val_step (b := b) (cs := cs) (rest := rest) (K := K) r.ho hw (by omega) G
      have hfix := (cls0 hc q5).2.1
      subst hfix
      have hsub1 : Sub σ1 σ := fun b' y hb => q1 _ _ (g3.new b' y hb (g2.dom b' y hb))
      obtain ⟨σt, ut, c1, c2⟩ := C.val k v hkN hv
      have hval : VR (σ.cut (S (k + 1)).h.n) v u := VR.cut c2 (g1.mono hsub1) c1
      exact ⟨e, σ, _, w1, I.next0 C r hact ((I.j.listed hEE).read q4 g3) (.refl σ) (by rw [hv]; exact hval), g4⟩
    · have hact : ¬ act ops V k := by
        rintro ⟨o', v', h1, h2, _⟩
        rw [r.ho] at h1; cases h1; omega
      have hek : e ≤ k := by
        rcases Nat.lt_or_ge k e with hlt | hge
        · exfalso
          rcases I.last with h1 | ⟨q, h1, hqE, hqa⟩
          · omega
          · obtain ⟨oq, vq, g1, g2, g3⟩ := hqa
            have hqk : q ≠ k := fun h => r.nE (h ▸ hqE)
            have := okK_eff g1 ((plan_spec C.R.plan).2.2 q oq g1).1 g2 (show k < q by omega) r.ho (by omega)
            exact r.nE (I.preE g1 hqE this)
        · exact hge
      obtain ⟨_, hh⟩ := hst.c1 (by rw [b1]; exact hc) b3
      rcases hh with ⟨h1, _⟩ | ⟨v', blk, h1, hform, hnext, haop⟩
      · rw [hv] at h1; cases h1
      · rw [hv] at h1; cases h1
        rw [b1] at haop
        have G := aop_good (x := x.act) C.R.hT C.R.hS (J.none C.hH I.j (S k).h.n (C.hH.mono 0 k (Nat.zero_le _) (by omega))) (Nat.zero_le _) look (haop (noHp (S k).h.n) rfl)
        obtain ⟨σ1, w1, u, g1, g2, g3, g4⟩ := val_step (b := b) (cs := cs) (rest := rest) (K := K) r.ho hw (by omega) G
        have hσ : ∃ c0 x0, σ1 (S k).h.n = some (c0, x0) := by
          rcases hform with hf | ⟨l1, l2, hf⟩
          · subst hf; cases g1; exact ⟨_, _, by assumption⟩
          · subst hf; cases g1 <;> exact ⟨_, _, by assumption⟩
        obtain ⟨c0, x0, hσ⟩ := hσ
        obtain ⟨j1, j2, j3⟩ := J.make (h2 := noHp (S k).h.n) C.hH I.j hkN hek r.nE hEE (.inr rfl) rfl (noHp_get _) hnext g2 g3 hσ
        exact ⟨e, _, _, w1, I.next0 C r hact j1 j2 (by rw [hv]; exact g1.mono j3), g4⟩
    · have hactk : act ops V k := ⟨o, v, r.ho, hc, hv⟩
      have hek : e ≤ k := by
        rcases Nat.lt_or_ge k e with hlt | hge
        · exact absurd (I.lt k hlt hactk) r.nE
        · exact hge
      have hno : ∀ t, e ≤ t → t < k → ¬ act ops V t := by
        intro t t1 t2 t3
        have t3' := t3
        obtain ⟨ot, vt, g1, g2, g3⟩ := t3'
        have := okK_eff r.ho ((plan_spec C.R.plan).2.2 k o r.ho).1 hc t2 g1 (by omega)
        exact I.ge t t1 t3 (I.pre r this)
      have jk := I.j.adv C.hH hek (by omega) (C.R.grow (by omega) hno)
      have hnk : (S e).h.n ≤ (S k).h.n := C.hH.mono e k hek (by omega)
      have A : AR0 (σ.cut (S k).h.n) (S k).a b x cs := by
        obtain ⟨d, hd⟩ := Nat.le.dest hek
        have := C.R.same d (by omega) (fun t h1 h2 => hno t h1 (by omega))
        rw [hd] at this
        exact (I.ar.mono (Ren.cut_le _ hnk)).same this
      have hst' := hst
      rw [hv] at hst'
      obtain ⟨_, a1, h1, hd, e1, e2, _⟩ := hst'
      rw [b1] at hd
      have hlok : (S k).h.lo = (S 0).h.lo := C.lo k (by omega)
      have hn0 : (S 0).h.n ≤ (S k).h.n := C.hH.mono 0 k (Nat.zero_le _) (by omega)
      have hlon : (S k).h.lo ≤ (S k).h.n := by have := C.lon; omega
      have R' : RdR (σ.cut (S k).h.n) rd b.roundOf := C.rdr.mono fun b' y h => Ren.cut_of (I.j.sub b' y h) (Nat.lt_of_lt_of_le (C.dom0 b' y h) hn0)
      have Hk := jk.hr C.hH
      obtain ⟨σ1, w1, x1, r1, A1, k1, k2, k3, H1, K1, q1, q2⟩ := doOp_spec0 C.R.hF hd A (fun nx h2 hop => aop_good (x := x.act) C.R.hT C.R.hS Hk hlon look hop) R' hlon (rest := rest) (k := K) r.ho hw
      cases q1 with
      | ret hvv =>
        rename_i u
        simp only at q2
        obtain ⟨j1, j2, j3⟩ := J.eff (E' := fun i => E i ∨ i = k) C.hH jk hkN r.nE hEE (.inr rfl) (lo' := (S k).h.lo) (by show (S 0).h.lo ≤ _; omega) hlon H1 K1 (fun b' => by show (S (k + 1)).h.get b' = _; rw [e2]) (by show (S (k + 1)).h.n = _; rw [e2])
        obtain ⟨t1, t2⟩ := I.tmNext C r j2 (u := u) (by rw [hv]; exact hvv.mono j3) k3
        refine ⟨k + 1, _, _, w1, ⟨j1, ?_, ?_, .inr ⟨k, rfl, .inr rfl, hactk⟩, ?_, t1, t2, I.clNext r⟩, q2⟩
        · intro t h2 h3
          rcases Nat.lt_or_ge t e with hlt | hge
          · exact .inl (I.lt t hlt h3)
          · rcases Nat.lt_or_ge t k with hlt | hge'
            · exact absurd h3 (hno t hge hlt)
            · exact .inr (by omega)
        · rintro t h2 h3 (h4 | h4)
          · exact I.ge t (by omega) h3 h4
          · omega
        · rw [e1]
          exact ((A1.mono j3).same (AF.put_same a1 _ v)).put _ _

/-! the schedule -/
def Lst (listed : Array Bool) (i : Nat) : Prop := listed.getD i false = true

theorem getD_set_self {listed : Array Bool} {i : Nat} (h : i < listed.size) (d : Bool) : (listed.setIfInBounds i true).getD i d = true := by
  simp [Array.getD_eq_getD_getElem?, h]

theorem Lst_set {listed : Array Bool} {i : Nat} (h : i < listed.size) (j : Nat) : Lst (listed.setIfInBounds i true) j ↔ (Lst listed j ∨ j = i) := by
  unfold Lst
  by_cases hj : j = i
  · subst hj; rw [getD_set_self h]; simp
  · rw [getD_set_ne false (fun h => hj h.symm)]; simp [hj]

def un (listed : Array Bool) (n : Nat) : Nat := ((List.range n).filter fun i => !listed.getD i true).length

theorem filter_lt {p q : Nat → Bool} (hpq : ∀ i, q i = true → p i = true) {i : Nat} (hi : p i = true) (hq : q i = false) : ∀ {l : List Nat}, i ∈ l → (l.filter q).length < (l.filter p).length := by
  have hle : ∀ l : List Nat, (l.filter q).length ≤ (l.filter p).length := by
    intro l
    induction l with
    | nil => simp
    | cons a l ih =>
      cases hqa : q a with
      | true => simp [hqa, hpq a hqa, ih]
      | false => cases hpa : p a <;> simp [hqa, hpa] <;> omega
  intro l
  induction l with
  | nil => intro h; cases h
  | cons a l ih =>
    intro h
    rcases List.mem_cons.1 h with h | h
    · subst h
      simp [hi, hq]
      have := hle l; omega
    · have := ih h
      cases hqa : q a with
      | true => simp [hqa, hpq a hqa, this]
      | false => cases hpa : p a <;> simp [hqa, hpa] <;> omega

theorem un_set {listed : Array Bool} {n i : Nat} (hs : listed.size = n) (hi : i < n) (h : listed.getD i true = false) : un (listed.setIfInBounds i true) n < un listed n := by
  unfold un
  refine filter_lt (i := i) (fun j hj => ?_) (by simp [h]) (by rw [getD_set_self (by omega)]; rfl) (List.mem_range.2 hi)
  by_cases hji : i = j
  · subst hji; rw [getD_set_self (by omega)] at hj; cases hj
  · rw [getD_set_ne true hji] at hj; exact hj

/-- whatever order the tape gives, all is done in the end -/
theorem Inv.all (C : Ctx T F rd ops l S V σ0 b) (hnp : ∀ k o, ops[k]? = some o → V k = none → wantedA ops.toList (S k).a o = false) (K : List Item) : ∀ (fuel t : Nat) (listed : Array Bool) (e : Nat) (σ : Ren) (x : CX) (w : World), listed.size = ops.size → un listed ops.size ≤ fuel → Inv T ops S V σ0 w0 b cs (Lst listed) e σ x w →
    ∃ E' e' σ' x' w', (∀ i, i < ops.size → E' i) ∧ Inv T ops S V σ0 w0 b cs E' e' σ' x' w' ∧ Steps T.P (M b x (.inRegion ops (Region.linearise.go .any ops fuel t listed []) :: K) cs w) (M b x' (.inRegion ops [] :: K) cs w') := by
  intro fuel
  induction fuel with
  | zero =>
    intro t listed e σ x w hs hu I
    refine ⟨Lst listed, e, σ, x, w, ?_, I, ?_⟩
    · intro i hi
      have h0 : un listed ops.size = 0 := by omega
      unfold un at h0
      have h1 := List.length_eq_zero_iff.1 h0
      have h2 : i ∉ (List.range ops.size).filter fun i => !listed.getD i true := by rw [h1]; simp
      rw [List.mem_filter, List.mem_range] at h2
      have h3 : listed.getD i true = true := by
        cases hb : listed.getD i true with
        | true => rfl
        | false => exact absurd ⟨hi, by simp [hb]⟩ h2
      unfold Lst
      rw [Array.getD_eq_getD_getElem?, Array.getElem?_eq_getElem (by omega)] at h3 ⊢
      simpa using h3
    · simp only [Region.linearise.go, List.reverse_nil]
      exact Steps.refl _ _
  | succ fuel ih =>
    intro t listed e σ x w hs hu I
    simp only [Region.linearise.go]
    change ∃ E' e' σ' x' w', _ ∧ _ ∧ Steps T.P (M b x (.inRegion ops (match (Region.ready .any ops listed)[t % (Region.ready .any ops listed).length]? with
      | some i => Region.linearise.go .any ops fuel (t / (Region.ready .any ops listed).length) (listed.setIfInBounds i true) [i]
      | none => [].reverse) :: K) cs w) _
    cases hi : (Region.ready .any ops listed)[t % (Region.ready .any ops listed).length]? with
    | none =>
      have hnil : Region.ready .any ops listed = [] := by
        cases hr : Region.ready .any ops listed with
        | nil => rfl
        | cons a as =>
          rw [hr] at hi
          have hlt : t % (a :: as).length < (a :: as).length := Nat.mod_lt _ (by simp)
          simp at hi
          simp at hlt
          omega
      refine ⟨Lst listed, e, σ, x, w, ?_, I, Steps.refl _ _⟩
      -- the first one that is not listed would be ready
      intro i hiN
      induction i using Nat.strongRecOn with
      | ind i ihi =>
        cases hb : listed.getD i true with
        | true =>
          unfold Lst
          rw [Array.getD_eq_getD_getElem?, Array.getElem?_eq_getElem (by omega)] at hb ⊢
          simpa using hb
        | false =>
          exfalso
          have ho := Array.getElem?_eq_getElem hiN
          have : i ∈ Region.ready .any ops listed := mem_ready.2 ⟨hb, _, ho, fun g hg hgb => by
            have hlt := okA_spec ((plan_spec C.R.plan).2.2 i _ ho).2.2 g hg hgb
            exact ihi g.on hlt (by omega)⟩
          rw [hnil] at this; cases this
    | some i =>
      simp only []
      have hmem := List.mem_of_getElem? hi
      obtain ⟨h1, o, ho, h2⟩ := mem_ready.1 hmem
      have hiN := (Array.getElem?_eq_some_iff.1 ho).1
      have hnE : ¬ Lst listed i := by
        intro h
        have h1' := h1
        unfold Lst at h
        rw [Array.getD_eq_getD_getElem?, Array.getElem?_eq_getElem (by omega)] at h1' h
        simp only [Option.getD_some] at h1' h
        rw [h1'] at h
        cases h
      have r : Rdy ops (Lst listed) i o := ⟨ho, hnE, h2⟩
      rw [linearise_go_acc, List.reverse_singleton, List.singleton_append]
      obtain ⟨e1, σ1, x1, w1, I1, s1⟩ := I.step C r (hnp i o ho) (Region.linearise.go .any ops fuel (t / (Region.ready .any ops listed).length) (listed.setIfInBounds i true) []) K
      have hEq : (fun j => Lst listed j ∨ j = i) = Lst (listed.setIfInBounds i true) := by
        funext j; exact propext (Lst_set (by omega) j).symm
      rw [hEq] at I1
      obtain ⟨E2, e2, σ2, x2, w2, g1, g2, g3⟩ := ih _ _ e1 σ1 x1 w1 (by simp [hs]) (by have := un_set hs hiN h1; omega) I1
      exact ⟨E2, e2, σ2, x2, w2, g1, g2, s1.trans g3⟩

theorem un_start (n : Nat) : un (Array.replicate n false) n ≤ n := by
  unfold un
  refine Nat.le_trans (List.length_filter_le _ _) (by simp)

/-- whatever order the tape gives, the place that all others are before comes last -/
theorem Inv.allP (C : Ctx T F rd ops l S V σ0 b) (K : List Item) {kp : Nat} {op : Oper} (hop : ops[kp]? = some op) (hb4 : ∀ j, j < ops.size → j ≠ kp → ((Region.before ops).getD kp 0).testBit j = true)
    (hnp : ∀ k o, k ≠ kp → ops[k]? = some o → V k = none → wantedA ops.toList (S k).a o = false) : ∀ (fuel t : Nat) (listed : Array Bool) (e : Nat) (σ : Ren) (x : CX) (w : World), listed.size = ops.size → un listed ops.size ≤ fuel → ¬ Lst listed kp → Inv T ops S V σ0 w0 b cs (Lst listed) e σ x w →
    ∃ E' e' σ' x' w' rest, (∀ i, i < ops.size → i ≠ kp → E' i) ∧ Rdy ops E' kp op ∧ Inv T ops S V σ0 w0 b cs E' e' σ' x' w' ∧ Steps T.P (M b x (.inRegion ops (Region.linearise.go .any ops fuel t listed []) :: K) cs w) (M b x' (.inRegion ops (kp :: rest) :: K) cs w') := by
  have hkN := (Array.getElem?_eq_some_iff.1 hop).1
  intro fuel
  induction fuel with
  | zero =>
    intro t listed e σ x w hs hu hk I
    exfalso
    apply hk
    have h0 : un listed ops.size = 0 := by omega
    unfold un at h0
    have h1 := List.length_eq_zero_iff.1 h0
    have h2 : kp ∉ (List.range ops.size).filter fun i => !listed.getD i true := by rw [h1]; simp
    rw [List.mem_filter, List.mem_range] at h2
    have h3 : listed.getD kp true = true := by
      cases hb : listed.getD kp true with
      | true => rfl
      | false => exact absurd ⟨hkN, by simp [hb]⟩ h2
    unfold Lst
    rw [Array.getD_eq_getD_getElem?, Array.getElem?_eq_getElem (by omega)] at h3 ⊢
    simpa using h3
  | succ fuel ih =>
    intro t listed e σ x w hs hu hk I
    simp only [Region.linearise.go]
    change ∃ E' e' σ' x' w' rest, _ ∧ _ ∧ _ ∧ Steps T.P (M b x (.inRegion ops (match (Region.ready .any ops listed)[t % (Region.ready .any ops listed).length]? with
      | some i => Region.linearise.go .any ops fuel (t / (Region.ready .any ops listed).length) (listed.setIfInBounds i true) [i]
      | none => [].reverse) :: K) cs w) _
    cases hi : (Region.ready .any ops listed)[t % (Region.ready .any ops listed).length]? with
    | none =>
      exfalso
      have hnil : Region.ready .any ops listed = [] := by
        cases hr : Region.ready .any ops listed with
        | nil => rfl
        | cons a as =>
          rw [hr] at hi
          have hlt : t % (a :: as).length < (a :: as).length := Nat.mod_lt _ (by simp)
          simp at hi
          simp at hlt
          omega
      have hall : ∀ i, i < ops.size → Lst listed i := by
        intro i hiN
        induction i using Nat.strongRecOn with
        | ind i ihi =>
          cases hb : listed.getD i true with
          | true =>
            unfold Lst
            rw [Array.getD_eq_getD_getElem?, Array.getElem?_eq_getElem (by omega)] at hb ⊢
            simpa using hb
          | false =>
            exfalso
            have ho := Array.getElem?_eq_getElem hiN
            have : i ∈ Region.ready .any ops listed := mem_ready.2 ⟨hb, _, ho, fun g hg hgb => by
              have hlt := okA_spec ((plan_spec C.R.plan).2.2 i _ ho).2.2 g hg hgb
              exact ihi g.on hlt (by omega)⟩
            rw [hnil] at this; cases this
      exact hk (hall kp hkN)
    | some i =>
      simp only []
      have hmem := List.mem_of_getElem? hi
      obtain ⟨h1, o, ho, h2⟩ := mem_ready.1 hmem
      have hiN := (Array.getElem?_eq_some_iff.1 ho).1
      have hnE : ¬ Lst listed i := by
        intro h
        have h1' := h1
        unfold Lst at h
        rw [Array.getD_eq_getD_getElem?, Array.getElem?_eq_getElem (by omega)] at h1' h
        simp only [Option.getD_some] at h1' h
        rw [h1'] at h
        cases h
      have r : Rdy ops (Lst listed) i o := ⟨ho, hnE, h2⟩
      rw [linearise_go_acc, List.reverse_singleton, List.singleton_append]
      by_cases hik : i = kp
      · subst hik
        rw [hop] at ho; cases ho
        exact ⟨Lst listed, e, σ, x, w, _, fun j hj hne => I.pre r (hb4 j hj hne), r, I, Steps.refl _ _⟩
      · obtain ⟨e1, σ1, x1, w1, I1, s1⟩ := I.step C r (hnp i o hik ho) (Region.linearise.go .any ops fuel (t / (Region.ready .any ops listed).length) (listed.setIfInBounds i true) []) K
        have hEq : (fun j => Lst listed j ∨ j = i) = Lst (listed.setIfInBounds i true) := by
          funext j; exact propext (Lst_set (by omega) j).symm
        rw [hEq] at I1
        have hk1 : ¬ Lst (listed.setIfInBounds i true) kp := fun h => ((Lst_set (by omega) kp).1 h).elim hk (fun h => hik h.symm)
        obtain ⟨E2, e2, σ2, x2, w2, rest, g1, g2, g3, g4⟩ := ih _ _ e1 σ1 x1 w1 (by simp [hs]) (by have := un_set hs hiN h1; omega) hk1 I1
        exact ⟨E2, e2, σ2, x2, w2, rest, g1, g2, g3, s1.trans g4⟩

/-- a region that draws its order -/
theorem draw_ok (hT : TbOK T) (hS : StrOK T) (hm : T.P.follows .mixedOrders = true) : DrawOK T := by
  intro F hF rd id ops l a a' h h' en hplan he σ w b x cs A Rd H hlo K
  obtain ⟨S, V, s0, hstep, hend⟩ := evalDraw_trace he
  have hlen := (plan_spec hplan).1
  have tr : TextRun T F rd ops l S V := ⟨hlen, fun t p hp => by
    obtain ⟨o, h1, h2⟩ := (plan_spec hplan).2.1 t p hp
    rw [h2]; exact h1, hstep⟩
  have ea : (S 0).a = a := by rw [s0]
  have eh : (S 0).h = h := by rw [s0]
  have A0 : AR σ (S 0).a b x cs := by rw [ea]; exact A
  have H0 : HR T σ (S 0).h w := by rw [eh]; exact H
  have hlo0 : (S 0).h.lo ≤ (S 0).h.n := by rw [eh]; exact hlo
  have hat := tr.at hT hS hF A0 Rd H0 hlo0
  have hH : HsOK (fun t => (S t).h) ops.size := ⟨fun i j hij hj => by
      obtain ⟨d, rfl⟩ := Nat.le.dest hij
      exact tr.mono hT hS hF A0 Rd H0 hlo0 i d (by omega), fun i hi b' y hy => by
      obtain ⟨_, _, _, _, _, _, H1, _⟩ := hat i (by omega)
      exact H1.bnd _ _ hy⟩
  have C : Ctx T F rd ops l S V σ b := by
    refine ⟨⟨hT, hS, hF, hplan, tr⟩, hH, ?_, ?_, hlo0, Rd, H0.dom⟩
    · intro k v hk hv
      obtain ⟨σ1, w1, x1, _, A1, R1, H1, l1, n1, _⟩ := hat k (by omega)
      have hp := List.getElem?_eq_getElem (show k < l.length by omega)
      obtain ⟨σ2, w2, x2, _, A2, R2, H2, _, _, _, hval⟩ := (tr.step k _ hp).run hT hS hF (tr.op k _ hp) A1 R1 H1 (by omega)
      obtain ⟨u, hu⟩ := hval v hv
      exact ⟨σ2, u, hu, H2.dom⟩
    · intro t ht
      obtain ⟨_, _, _, _, _, _, _, l1, _⟩ := hat t (by omega)
      exact l1
  -- the start
  let w0 : World := { w with drawn := w.drawn + 1 }
  have H0' : HR T σ (S 0).h w0 := ⟨H0.dom, H0.rng, H0.bnd, H0.blk, H0.inj, H0.gl⟩
  have Kd : Keep σ h w σ h w0 := ⟨.refl σ, Nat.le_refl _, rfl, fun _ _ => rfl, fun b y c x hb hy hs e => .inr ⟨b, y, x, hb, hy, hs, e⟩, Nat.le_refl _, fun _ _ _ => rfl, rfl, rfl, rfl, fun _ _ e _ => e, .refl _⟩
  have hcut : Sub σ (σ.cut (S 0).h.n) := fun b' y hb => Ren.cut_of hb (H0.dom b' y hb)
  have hnone : ∀ i, ¬ Lst (Array.replicate ops.size false) i := by
    intro i hi
    unfold Lst at hi
    rw [Array.getD_eq_getD_getElem?, Array.getElem?_replicate] at hi
    split at hi <;> simp at hi
  have I0 : Inv T ops S V σ w0 b cs (Lst (Array.replicate ops.size false)) 0 σ x w0 := by
    refine ⟨J.start hH H0', fun t ht => by omega, fun t _ _ h => hnone t h, .inl rfl, A0.r0.mono hcut, A0.tm.size, fun d => ⟨0, Nat.zero_le _, fun i hi => absurd hi (hnone i), .inl rfl, (A0.tm.val d).mono hcut⟩, fun k o _ hE => absurd hE (hnone k)⟩
  have h1 : step T.P (M b x (.code (.region id ops true) :: K) cs w) = .next (M b x (.inRegion ops (Region.linearise .any ops (w.tape w.drawn (.order b.fn id))) :: K) cs w0) := by
    have := s_draw (P := T.P) (b := b) (x := x) (k := K) (cs := cs) (w := w) (id := id) (ops := ops)
    rw [hm] at this
    have h2 : ∀ t, Region.schedule true ops t = Region.linearise .any ops t := fun t => by simp [Region.schedule]
    rw [h2] at this
    exact this
  have hlow : ∀ b', b' < (S 0).h.lo → (S ops.size).h.get b' = (S 0).h.get b' := by
    obtain ⟨_, _, _, _, _, _, _, _, _, g1⟩ := hat ops.size (by omega)
    exact g1
  rcases hend with ⟨rfl, sa, sh, hnp⟩ | ⟨ch, kp, p, rfl, p1, p2, p3, p4, p5, p6, p7⟩
  · rw [hlen] at sa sh
    have hnp' : ∀ k o, ops[k]? = some o → V k = none → wantedA ops.toList (S k).a o = false := by
      intro k o ho hv
      have hk := (Array.getElem?_eq_some_iff.1 ho).1
      have hp := List.getElem?_eq_getElem (show k < l.length by omega)
      have := hnp k _ hp hv
      rw [← (show o = _ from Option.some.inj (ho.symm.trans (tr.op k _ hp)))] at this
      exact this
    obtain ⟨E', e', σ', x', w', hall, I, hs⟩ := Inv.all C hnp' K ops.size (w.tape w.drawn (.order b.fn id)) (Array.replicate ops.size false) 0 σ x w0 (by simp) (un_start _) I0
    -- the end
    have hno : ∀ t, e' ≤ t → t < ops.size → ¬ act ops V t := fun t h1 h2 h3 => I.ge t h1 h3 (hall t h2)
    have heN := I.j.eN
    have jN := I.j.adv hH heN (Nat.le_refl _) (C.R.grow (Nat.le_refl _) hno)
    have hHR := jN.hr hH
    have hKeep := jN.done hH (C.lo ops.size (Nat.le_refl _)) hlow
    have hAR0 : AR0 (σ'.cut (S ops.size).h.n) (S ops.size).a b x' cs := by
      obtain ⟨d, hd⟩ := Nat.le.dest heN
      have := C.R.same d (by omega) (fun t h1 h2 => hno t h1 (by omega))
      rw [hd] at this
      exact (I.ar.mono (Ren.cut_le _ (hH.mono e' ops.size heN (Nat.le_refl _)))).same this
    have hTm : TmR (σ'.cut (S ops.size).h.n) (S ops.size).a.tm (S ops.size).a.sz x'.tmps := by
      refine ⟨by rw [C.R.sz ops.size (Nat.le_refl _)]; exact I.sz, fun d => ?_⟩
      obtain ⟨m, m1, m2, m3, m4⟩ := I.tm d
      have hc : (S ops.size).a.tmp d = (S m).a.tmp d := by
        obtain ⟨j, hj⟩ := Nat.le.dest m1
        rw [← hj]
        refine C.R.tmpConst j (by omega) fun i i1 i2 hw => ?_
        have := m2 i (hall i (by omega)) hw
        omega
      have : tv (S ops.size).a.tm d = (S ops.size).a.tmp d := rfl
      rw [this, hc]
      exact m4.mono (Ren.cut_le _ (hH.mono m ops.size m1 (Nat.le_refl _)))
    rw [sa] at hAR0 hTm
    rw [← sh]
    rw [← eh] at Kd ⊢
    refine ⟨_, w', x', .normal, ⟨hTm, hAR0.ds, hAR0.fn, hAR0.kind, hAR0.um⟩, hHR, Kd.trans hKeep, .normal, ?_⟩
    exact (Steps.head h1 (hs.trans (.one s_regionEnd)))
  · -- the last place panics
    have hop : ops[kp]? = some p.o := tr.op kp p p2
    have hkN : kp + 1 = ops.size := by omega
    have hfin : ∀ j, j < ops.size → j ≠ kp → ((Region.before ops).getD kp 0).testBit j = true := by
      obtain ⟨o', q1, q2⟩ := (plan_spec hplan).2.1 kp p p2
      rw [q2] at p3
      have p3' : ((List.range ops.toList.length).all fun j => Nat.beq j kp || (at_ (Region.before ops).toList kp).testBit j) = true := p3
      intro j hj hne
      have h2 := (List.all_eq_true.1 p3') j (List.mem_range.2 (by simpa using hj))
      simp only [Bool.or_eq_true] at h2
      rcases h2 with h2 | h2
      · exact absurd (Nat.eq_of_beq_eq_true h2) hne
      · rw [at_eq] at h2; exact h2
    have hnp' : ∀ k o, k ≠ kp → ops[k]? = some o → V k = none → wantedA ops.toList (S k).a o = false := by
      intro k o hne ho hv
      have hk := (Array.getElem?_eq_some_iff.1 ho).1
      have hp := List.getElem?_eq_getElem (show k < l.length by omega)
      have := p7 k _ (by omega) hp hv
      rw [← (show o = _ from Option.some.inj (ho.symm.trans (tr.op k _ hp)))] at this
      exact this
    obtain ⟨E', e', σ', x', w', rest, hall, r, I, hs⟩ := Inv.allP C K hop hfin hnp' ops.size (w.tape w.drawn (.order b.fn id)) (Array.replicate ops.size false) 0 σ x w0 (by simp) (un_start _) (hnone kp) I0
    have hnk : ¬ act ops V kp := by rintro ⟨o', v, _, _, h⟩; rw [p6] at h; cases h
    have hno : ∀ t, e' ≤ t → t < ops.size → ¬ act ops V t := fun t g1 g2 g3 => by
      by_cases ht : t = kp
      · subst ht; exact hnk g3
      · exact I.ge t g1 g3 (hall t g2 ht)
    have hek : e' ≤ kp := by
      rcases I.last with h | ⟨q, g1, g2, g3⟩
      · omega
      · have hqN : q < ops.size := by obtain ⟨oq, _, q1, _⟩ := g3; exact (Array.getElem?_eq_some_iff.1 q1).1
        have : q ≠ kp := fun h => r.nE (h ▸ g2)
        omega
    have heN := I.j.eN
    have jN := I.j.adv hH heN (Nat.le_refl _) (C.R.grow (Nat.le_refl _) hno)
    have jk := I.j.adv hH hek (by omega) (C.R.grow (by omega) fun t g1 g2 => hno t g1 (by omega))
    have hHR := jk.hr hH
    have hSh : (S ops.size).h = (S kp).h := by
      have hst := C.R.bar hop
      rw [p6] at hst
      rw [← hkN, hst.2]
    have hKeep := jN.done hH (C.lo ops.size (Nat.le_refl _)) hlow
    simp only [hSh] at hKeep
    have hAR0 : AR0 (σ'.cut (S kp).h.n) (S kp).a b x' cs := by
      obtain ⟨d, hd⟩ := Nat.le.dest hek
      have := C.R.same d (by omega) (fun t g1 g2 => hno t g1 (by omega))
      rw [hd] at this
      exact (I.ar.mono (Ren.cut_le _ (hH.mono e' kp hek (by omega)))).same this
    have hTm : TmR (σ'.cut (S kp).h.n) (S kp).a.tm (S kp).a.sz x'.tmps := by
      refine ⟨by rw [C.R.sz kp (by omega)]; exact I.sz, fun d => ?_⟩
      obtain ⟨m, m1, m2, m3, m4⟩ := I.tm d
      have hmk : m ≤ kp := by
        rcases m3 with h | ⟨q, g1, g2, g3⟩
        · omega
        · have hqN : q < ops.size := by obtain ⟨oq, q1, _⟩ := g3; exact (Array.getElem?_eq_some_iff.1 q1).1
          have : q ≠ kp := fun h => r.nE (h ▸ g2)
          omega
      have hc : (S kp).a.tmp d = (S m).a.tmp d := by
        obtain ⟨j, hj⟩ := Nat.le.dest hmk
        rw [← hj]
        refine C.R.tmpConst j (by omega) fun i i1 i2 hw => ?_
        have := m2 i (hall i (by omega) (by omega)) hw
        omega
      have : tv (S kp).a.tm d = (S kp).a.tmp d := rfl
      rw [this, hc]
      exact m4.mono (Ren.cut_le _ (hH.mono m kp hmk (by omega)))
    have A' : AR (σ'.cut (S kp).h.n) (S kp).a b x' cs := ⟨hTm, hAR0.ds, hAR0.fn, hAR0.kind, hAR0.um⟩
    have hlok : (S kp).h.lo = (S 0).h.lo := C.lo kp (by omega)
    have hn0 : (S 0).h.n ≤ (S kp).h.n := hH.mono 0 kp (Nat.zero_le _) (by omega)
    have hlon : (S kp).h.lo ≤ (S kp).h.n := by have := C.lon; omega
    have R' : RdR (σ'.cut (S kp).h.n) rd b.roundOf := Rd.mono fun b' y h => Ren.cut_of (I.j.sub b' y h) (Nat.lt_of_lt_of_le (H0.dom b' y h) hn0)
    have hwk : Region.wanted p.o (yielded ops x'.tmps) = true := by rw [← I.want C r]; exact p4
    obtain ⟨σ1, w1, x1, r1, A1, _, _, H1, K1, q1, q2⟩ := doOp_spec hT hS hF p5 A' R' hHR hlon (rest := rest) (k := K) hop hwk
    cases q1 with
    | pan hch =>
      rw [← eh] at Kd ⊢
      exact ⟨σ1, w1, x1, _, A1, H1, (Kd.trans hKeep).trans K1, .panic hch, .of_steps (Steps.head h1 hs) q2⟩
end Go.Clo

namespace Go.Clo
open Go

/-! a call that was run once, laid in place of its function -/
theorem BR.tb {T T' : Tb} (hi : T'.info = T.info) {σ : Ren} {y : ABlk} {x : Nat} {o : Option Obj} (h : BR T σ y x o) : BR T' σ y x o := by
  unfold BR at h ⊢
  rw [hi]
  exact h

theorem HR.tb {T T' : Tb} (hi : T'.info = T.info) (hg : Sub T'.gl T.gl) {σ : Ren} {h : Hp} {w : World} (H : HR T σ h w) : HR T' σ h w :=
  ⟨H.dom, H.rng, H.bnd, fun b y c x e r => (H.blk b y c x e r).tb hi, H.inj, hg.trans H.gl⟩

theorem HR.world {T : Tb} {σ : Ren} {h : Hp} {w w1 : World} (H : HR T σ h w) (hm : ∀ c, c < w.heap.size → w1.heap[c]? = w.heap[c]?) (hs : w.heap.size ≤ w1.heap.size) : HR T σ h w1 :=
  ⟨H.dom, fun b c x r => Nat.lt_of_lt_of_le (H.rng b c x r) hs, H.bnd, fun b y c x e r => by rw [hm c (H.rng b c x r)]; exact H.blk b y c x e r, H.inj, H.gl⟩

theorem Keep.world (σ : Ren) (h : Hp) {w w1 : World} (hm : ∀ c, c < w.heap.size → w1.heap[c]? = w.heap[c]?) (hs : w.heap.size ≤ w1.heap.size) (ho : w1.os = w.os) (ht : w1.tape = w.tape) (hout : w1.output = w.output) : Keep σ h w σ h w1 :=
  ⟨.refl σ, Nat.le_refl _, rfl, fun _ _ => rfl, fun b y c x hb hy hs e => .inr ⟨b, y, x, hb, hy, hs, e⟩, hs, fun c hc _ => hm c hc, ho, ht, hout, fun _ _ e _ => e, fun c o e => ⟨o, by rw [hm c (Array.getElem?_eq_some_iff.1 e).1]; exact e, .refl o⟩⟩

theorem plug_run {T : Tb} (hT : TbOK T) (hS : StrOK T) (hD : DrawOK T) (hP : SpOK T) {n : Nat} {f : FuncId} {args : List Value} {h : Hp} {v : Value} {um' : Option FrameMode} {h' : Hp} (E : (ev T n).call f args none h = some (.ret v, um', h')) (hv : gr v = true) (hlo : h.lo = h.n)
    {σ : Ren} {w : World} {args' : Array Value} (cs : List Frame) (H : HR T σ h w) (hA : VRs σ args args'.toList) :
    ∃ w', Left T.P (lone (Frame.enter T.P f args' .normal) cs w) f .normal (.ret v) none cs w' ∧ w.heap.size ≤ w'.heap.size ∧ (∀ c, c < w.heap.size → w'.heap[c]? = w.heap[c]?) ∧ w'.os = w.os ∧ w'.tape = w.tape ∧ w'.output = w.output := by
  obtain ⟨σ1, w1, r1, m1, q1, q2, q3, q4, q5, q6⟩ := (ev_snd hT hS hD hP n).call E (m := none) (cs := cs) hA trivial H (by omega)
  have hm : m1 = none := by
    cases um' with
    | some u => simp at q3
    | none => cases m1 <;> simp_all [UmR]
  subst hm
  cases q1 with
  | ret hvv =>
    have := hvv.gr_eq hv
    subst this
    refine ⟨w1, q6, q5.size, fun c hc => q5.mem c hc fun b y x hb hy _ => ?_, q5.os, q5.tape, q5.output⟩
    have := H.bnd b y hy
    omega

/-- two blocks of plain values -/
def twoHp (c1 : List Value) (e1 : TypeId) (c2 : List Value) (e2 : TypeId) : Hp := ⟨(Tr.e.set 0 (.cells c1 e1 true)).set 1 (.cells c2 e2 true), 2, 2⟩

theorem twoHp_get {c1 c2 : List Value} {e1 e2 : TypeId} {b : Nat} {y : ABlk} (e : (twoHp c1 e1 c2 e2).get b = some y) : (b = 0 ∧ y = .cells c1 e1 true) ∨ (b = 1 ∧ y = .cells c2 e2 true) := by
  unfold twoHp Hp.get at e
  simp only at e
  rw [Tr.get_set, Tr.get_set] at e
  split at e
  · right; cases e; exact ⟨by assumption, rfl⟩
  · split at e
    · left; cases e; exact ⟨by assumption, rfl⟩
    · cases e

theorem HR.two {T : Tb} {σ : Ren} {h : Hp} {w : World} (H : HR T σ h w) {b1 b2 : Nat} {c1 c2 : List Value} {e1 e2 : TypeId} (h1 : h.get b1 = some (.cells c1 e1 true)) (h2 : h.get b2 = some (.cells c2 e2 true)) (s1 : c1.all sc = true) (s2 : c2.all sc = true)
    (n1 : c1 ≠ []) (n2 : c2 ≠ []) (hne : b1 ≠ b2) (hg : ∀ b, T.gl b = none) : HR T (fun b => if b = 0 then σ b1 else if b = 1 then σ b2 else none) (twoHp c1 e1 c2 e2) w := by
  have solid_of : ∀ {c : List Value} {e : TypeId}, c ≠ [] → solid (.cells c e true) = true := by
    intro c e hc
    cases c with
    | nil => exact absurd rfl hc
    | cons => rfl
  have one : ∀ {b : Nat} {c : List Value} {e : TypeId} {cc x : Nat} {σ' : Ren}, h.get b = some (.cells c e true) → c.all sc = true → σ b = some (cc, x) → BR T σ' (.cells c e true) x w.heap[cc]? := by
    intro b c e cc x σ' hb hs r
    obtain ⟨arr, k1, k2, k3, k4⟩ := H.blk _ _ _ _ hb r
    refine ⟨arr, k1, fun i v hv => ?_, k3, k4⟩
    obtain ⟨u, u1, u2⟩ := k2 i v hv
    have hsv : sc v = true := (List.all_eq_true.1 hs) v (List.mem_of_getElem? hv)
    have := u2.sc_eq hsv
    subst this
    exact ⟨u, u1, .of_sc hsv⟩
  refine ⟨?_, ?_, ?_, ?_, ?_, fun b y e => by rw [hg b] at e; cases e⟩
  · intro b y e
    show b < 2
    split at e
    · omega
    · split at e
      · omega
      · cases e
  · intro b c x e
    split at e
    · exact H.rng _ _ _ e
    · split at e
      · exact H.rng _ _ _ e
      · cases e
  · intro b y e
    show b < 2
    rcases twoHp_get e with ⟨h, _⟩ | ⟨h, _⟩ <;> omega
  · intro b y c x e r
    rcases twoHp_get e with ⟨rfl, rfl⟩ | ⟨rfl, rfl⟩
    · exact one h1 s1 (by simpa using r)
    · exact one h2 s2 (by simpa using r)
  · intro b b' y y' c x x' e e' s s' r r'
    rcases twoHp_get e with ⟨rfl, rfl⟩ | ⟨rfl, rfl⟩ <;> rcases twoHp_get e' with ⟨rfl, rfl⟩ | ⟨rfl, rfl⟩
    · rfl
    · exact absurd (H.inj b1 b2 _ _ c x x' h1 h2 (solid_of n1) (solid_of n2) (by simpa using r) (by simpa using r')) hne
    · exact absurd (H.inj b2 b1 _ _ c x x' h2 h1 (solid_of n2) (solid_of n1) (by simpa using r) (by simpa using r')) (fun h => hne h.symm)
    · rfl

/-- a function of a struct of two slices and of two numbers, laid by a table -/
noncomputable def tab2 (c1 : List Value) (e1 : TypeId) (c2 : List Value) (e2 : TypeId) (rows : List (Value × Value × Value)) (l1 l2 : Nat) (args : List Value) (um : Option FrameMode) (h : Hp) : Option (Rt × Option FrameMode × Hp) :=
  match um, args with
  | none, [.agg cs, x, y] => match cs.toList with
    | [.slice (some ⟨b1, 0, none⟩) m1 k1, .slice (some ⟨b2, 0, none⟩) m2 k2] => match h.get b1, h.get b2 with
      | some (.cells d1 f1 true), some (.cells d2 f2 true) =>
        cond (Nat.beq m1 l1 && Nat.beq k1 l1 && Nat.beq m2 l2 && Nat.beq k2 l2 && eqL d1 c1 && eqL d2 c2 && Nat.beq f1 e1 && Nat.beq f2 e2 && !(Nat.beq b1 b2))
          (match List.find? (fun r => eqS r.1 x && eqS r.2.1 y) rows with
          | some r => some (.ret r.2.2, none, h)
          | none => none) none
      | _, _ => none
    | _ => none
  | _, _ => none

theorem tab2_ok {T0 T1 : Tb} (hT : TbOK T0) (hS : StrOK T0) (hD : DrawOK T0) (hP : SpOK T0) (hi : T1.info = T0.info) (hp : T1.P = T0.P) (hg : ∀ b, T0.gl b = none) {f : FuncId} {c1 c2 : List Value} {e1 e2 : TypeId} {rows : List (Value × Value × Value)} {l1 l2 : Nat}
    (s1 : c1.all sc = true) (s2 : c2.all sc = true) (n1 : c1 ≠ []) (n2 : c2 ≠ [])
    (E : ∀ r ∈ rows, sc r.1 = true ∧ sc r.2.1 = true ∧ gr r.2.2 = true ∧ ∃ n um' h', (ev T0 n).call f [.agg #[.slice (some ⟨0, 0, none⟩) l1 l1, .slice (some ⟨1, 0, none⟩) l2 l2], r.1, r.2.1] none (twoHp c1 e1 c2 e2) = some (.ret r.2.2, um', h'))
    {args : List Value} {um : Option FrameMode} {h : Hp} {r : Rt} {um' : Option FrameMode} {h' : Hp} (e : tab2 c1 e1 c2 e2 rows l1 l2 args um h = some (r, um', h'))
    {σ : Ren} {w : World} {args' : Array Value} {m : Option FrameMode} {cs : List Frame} (hA : VRs σ args args'.toList) (hU : UmR σ um m cs) (H : HR T1 σ h w) :
    ∃ σ' w' r' m', RtR σ' r r' ∧ UmR σ' um' m' cs ∧ um'.isSome = um.isSome ∧ HR T1 σ' h' w' ∧ Keep σ h w σ' h' w' ∧ Left T1.P (lone (Frame.enter T1.P f args' (kd um)) (upc m cs) w) f (kd um) r' m' cs w' := by
  unfold tab2 at e
  split at e
  · rename_i acs x y
    split at e
    · rename_i b1 m1 k1 b2 m2 k2 hcs
      split at e
      · rename_i d1 f1 d2 f2 g1 g2
        replace e := cond_none e; obtain ⟨hc, e⟩ := e
        simp only [Bool.and_eq_true, Bool.not_eq_true'] at hc
        obtain ⟨⟨⟨⟨⟨⟨⟨⟨q1, q2⟩, q3⟩, q4⟩, q5⟩, q6⟩, q7⟩, q8⟩, q9⟩ := hc
        have q1 := Nat.eq_of_beq_eq_true q1
        have q2 := Nat.eq_of_beq_eq_true q2
        have q3 := Nat.eq_of_beq_eq_true q3
        have q4 := Nat.eq_of_beq_eq_true q4
        have q5 := eqL_eq q5
        have q6 := eqL_eq q6
        have q7 := Nat.eq_of_beq_eq_true q7
        have q8 := Nat.eq_of_beq_eq_true q8
        have q9 : b1 ≠ b2 := fun hh => by rw [hh, Nat.beq_refl] at q9; cases q9
        subst q1; subst q2; subst q3; subst q4; subst q5; subst q6; subst q7; subst q8
        split at e
        · rename_i row hrow
          simp only [Option.some.injEq, Prod.mk.injEq] at e
          obtain ⟨rfl, rfl, rfl⟩ := e
          have hmem := List.mem_of_find?_eq_some hrow
          have htest := List.find?_some hrow
          simp only [Bool.and_eq_true] at htest
          have t1 := eqS_eq htest.1
          have t2 := eqS_eq htest.2
          obtain ⟨sx, sy, sg, n, um1, h1, hev⟩ := E row hmem
          have hm : m = none := by cases m <;> simp_all [UmR]
          subst hm
          have H0 : HR T0 σ h w := H.tb hi.symm fun b y e => by rw [hg b] at e; cases e
          have H2 := H0.two g1 g2 s1 s2 n1 n2 q9 hg
          obtain ⟨acl⟩ := acs
          simp only at hcs
          subst hcs
          obtain ⟨args'⟩ := args'
          simp only at hA
          have hA2 : VRs (fun b => if b = 0 then σ b1 else if b = 1 then σ b2 else none : Ren) [.agg #[.slice (some ⟨0, 0, none⟩) k1 k1, .slice (some ⟨1, 0, none⟩) k2 k2], row.1, row.2.1] args' := by
            cases hA with
            | cons ha hA =>
              cases hA with
              | cons hx hA =>
                cases hA with
                | cons hy hA =>
                  cases hA
                  have tx := hx.sc_eq (by rw [← t1]; exact sx)
                  have ty := hy.sc_eq (by rw [← t2]; exact sy)
                  subst tx; subst ty
                  rw [t1, t2]
                  refine .cons ?_ (.cons (.of_sc (by rw [← t1]; exact sx)) (.cons (.of_sc (by rw [← t2]; exact sy)) .nil))
                  cases ha with
                  | agg ha =>
                    cases ha with
                    | cons v1 ha =>
                      cases ha with
                      | cons v2 ha =>
                        cases ha
                        refine .agg (.cons ?_ (.cons ?_ .nil))
                        · cases v1 with
                          | slice _ _ hs => exact .slice _ _ (by simpa using hs)
                          | esl hs => exact .esl (by simpa using hs)
                        · cases v2 with
                          | slice _ _ hs => exact .slice _ _ (by simpa using hs)
                          | esl hs => exact .esl (by simpa using hs)
          obtain ⟨w', z1, z2, z3, z4, z5, z6⟩ := plug_run hT hS hD hP hev sg rfl cs H2 (args' := ⟨args'⟩) hA2
          refine ⟨σ, w', .ret row.2.2, none, .ret (.of_gr sg), trivial, rfl, H.world z3 z2, Keep.world σ h z3 z2 z4 z5 z6, ?_⟩
          rw [hp]
          exact z1
        · cases e
      · cases e
    · cases e
  · cases e

/-- does a call return that value -/
noncomputable def isRet (x : Option (Rt × Option FrameMode × Hp)) (v : Value) : Bool :=
  match x with
  | some (.ret u, _, _) => eqV u v
  | _ => false

theorem ret_of {x : Option (Rt × Option FrameMode × Hp)} {v : Value} (h : isRet x v = true) : ∃ um h', x = some (.ret v, um, h') := by
  unfold isRet at h
  split at h
  · rename_i u um h'
    rw [eqV_eq h]; exact ⟨um, h', rfl⟩
  · cases h

theorem TbOK.withSp {T : Tb} (h : TbOK T) (s : Tr (List Value → Option FrameMode → Hp → Option (Rt × Option FrameMode × Hp))) : TbOK { T with sp := s } :=
  ⟨h.info, h.und, h.fn, h.ext, h.cl, h.kq, h.zero⟩
theorem StrOK.withSp {T : Tb} (h : StrOK T) (s : Tr (List Value → Option FrameMode → Hp → Option (Rt × Option FrameMode × Hp))) : StrOK { T with sp := s } := h

theorem SpOK.tab2 {T0 : Tb} (hT : TbOK T0) (hS : StrOK T0) (hD : DrawOK T0) (hP : SpOK T0) {f : FuncId} {c1 c2 : List Value} {e1 e2 : TypeId} {rows : List (Value × Value × Value)} {l1 l2 : Nat}
    (hg0 : ∀ b, T0.gl b = none) (s1 : c1.all sc = true) (s2 : c2.all sc = true) (n1 : c1 ≠ []) (n2 : c2 ≠ [])
    (E : ∀ r ∈ rows, sc r.1 = true ∧ sc r.2.1 = true ∧ gr r.2.2 = true ∧ ∃ n um' h', (ev T0 n).call f [.agg #[.slice (some ⟨0, 0, none⟩) l1 l1, .slice (some ⟨1, 0, none⟩) l2 l2], r.1, r.2.1] none (twoHp c1 e1 c2 e2) = some (.ret r.2.2, um', h')) :
    SpOK { T0 with sp := Tr.set Tr.e f (Go.Clo.tab2 c1 e1 c2 e2 rows l1 l2) } := by
  intro f' g hg args um h r um' h' e σ w args' m cs hA hU H hlo
  have hg' : (Tr.set Tr.e f (Go.Clo.tab2 c1 e1 c2 e2 rows l1 l2)).get f' = some g := hg
  rw [Tr.get_set] at hg'
  split at hg'
  · rename_i hf
    cases hg'; subst hf
    exact tab2_ok (T0 := T0) (T1 := { T0 with sp := Tr.set Tr.e f' (Go.Clo.tab2 c1 e1 c2 e2 rows l1 l2) }) hT hS hD hP rfl rfl hg0 s1 s2 n1 n2 E e hA hU H
  · cases hg'
end Go.Clo

namespace Go.Clo
open Go

/-! calls that were run once, laid in place of their functions: whatever lists they take and make -/
noncomputable section

/-- what is written in place of a block -/
def asO (ρ : List (Nat × Nat)) (b : Nat) : Option Nat :=
  List.rec (motive := fun _ => Option Nat) none (fun p _ ih => cond (Nat.beq p.1 b) (some p.2) ih) ρ

def asNew (I : List Nat) : Nat → Nat → Option Nat :=
  List.rec (motive := fun _ => Nat → Nat → Option Nat) (fun _ _ => none) (fun i _ ih n b => cond (Nat.beq i b) (some n) (ih (Nat.succ n) b)) I

def asT (ρ : List (Nat × Nat)) (I : List Nat) (n b : Nat) : Option Nat := Option.casesOn (asO ρ b) (asNew I n b) (fun x => some x)

def renS (τ : Nat → Option Nat) (v : Value) : Option Value :=
  match v with
  | .pointer (some ⟨b, o, none⟩) => match τ b with | some b' => some (.pointer (some ⟨b', o, none⟩)) | none => none
  | .slice (some ⟨b, o, none⟩) l k => match τ b with | some b' => some (.slice (some ⟨b', o, none⟩) l k) | none => none
  | .map (some b) => match τ b with | some b' => some (.map (some b')) | none => none
  | v => cond (sc v) (some v) none

def renL (τ : Nat → Option Nat) (l : List Value) : Option (List Value) :=
  List.rec (motive := fun _ => Option (List Value)) (some []) (fun v _ ih => match renS τ v with
    | some u => (match ih with | some r => some (u :: r) | none => none)
    | none => none) l

def renW (τ : Nat → Option Nat) (v : Value) : Option Value :=
  match v with
  | .agg cs => match renL τ cs.toList with | some l => some (.agg ⟨l⟩) | none => none
  | v => renS τ v

def renLW (τ : Nat → Option Nat) (l : List Value) : Option (List Value) :=
  List.rec (motive := fun _ => Option (List Value)) (some []) (fun v _ ih => match renW τ v with
    | some u => (match ih with | some r => some (u :: r) | none => none)
    | none => none) l

def renT (τ : Nat → Option Nat) (v : Value) : Option Value :=
  match v with
  | .tuple cs => match renLW τ cs.toList with | some l => some (.tuple ⟨l⟩) | none => none
  | v => renW τ v

def eqT (v u : Value) : Bool := match v, u with
  | .tuple c, .tuple d => eqLW c.toList d.toList
  | v, u => eqW v u

/-- a block of a row: its cells, their type, whether they are all -/
structure Bk where
  c : List Value
  e : TypeId
  x : Bool

/-- a call: what it takes, in a heap of these blocks; what it returns, in which blocks, and what these are then -/
structure Row where
  A : List Value
  B : List Bk
  v : Value
  I : List Nat
  N : List Bk

def Bk.blk (b : Bk) : ABlk := .cells b.c b.e b.x

def addN (h : Hp) (N : List Bk) : Hp := List.rec (motive := fun _ => Hp → Hp) (fun h => h) (fun b _ ih h => ih (h.add b.blk)) N h

def hpOf (B : List Bk) : Hp := Hp.casesOn (motive := fun _ => Hp) (addN ⟨.e, 0, 0⟩ B) fun t n _ => ⟨t, n, n⟩

def boolEq (a b : Bool) : Bool := cond a b (not b)

def sameBk (o : Option ABlk) (c : List Value) (e : TypeId) (x : Bool) : Bool :=
  match o with
  | some (.cells c' e' x') => eqL c' c && Nat.beq e' e && boolEq x' x
  | _ => false

def allNew (h : Hp) (I : List Nat) : List Bk → Bool :=
  List.rec (motive := fun _ => List Bk → Bool) (fun N => List.casesOn N true (fun _ _ => false))
    (fun i _ ih N => List.casesOn N false (fun b N => cond (sameBk (h.get i) b.c b.e b.x) (ih N) false)) I

def noDup (l : List Nat) : Bool := List.rec (motive := fun _ => Bool) true (fun i l ih => cond (memN i l) false ih) l

/-- the row's call was run -/
def rowRun (T : Tb) (n : Nat) (f : FuncId) (R : Row) : Bool :=
  match (ev T n).call f R.A none (hpOf R.B) with
  | some (.ret v, _, h') => eqT v R.v && allNew h' R.I R.N && noDup R.I && allB (fun i => Nat.ble R.B.length i) R.I
  | _ => false

/-- which block stands for which, at a look -/
def pairS (v u : Value) : List (Nat × Nat) :=
  match v, u with
  | .pointer (some ⟨b, _, _⟩), .pointer (some ⟨b', _, _⟩) => [(b, b')]
  | .slice (some ⟨b, _, _⟩) _ _, .slice (some ⟨b', _, _⟩) _ _ => [(b, b')]
  | .map (some b), .map (some b') => [(b, b')]
  | _, _ => []

def addP (ps : List (Nat × Nat)) (ρ : List (Nat × Nat)) : List (Nat × Nat) :=
  match ps with
  | [p] => Option.casesOn (asO ρ p.1) (p :: ρ) (fun _ => ρ)
  | _ => ρ

def pairL (l : List Value) : List Value → List (Nat × Nat) → List (Nat × Nat) :=
  List.rec (motive := fun _ => List Value → List (Nat × Nat) → List (Nat × Nat)) (fun _ ρ => ρ)
    (fun v _ ih m ρ => List.casesOn m ρ (fun u m => ih m (addP (pairS v u) ρ))) l

def pairLW (l : List Value) : List Value → List (Nat × Nat) → List (Nat × Nat) :=
  List.rec (motive := fun _ => List Value → List (Nat × Nat) → List (Nat × Nat)) (fun _ ρ => ρ)
    (fun v _ ih m ρ => List.casesOn m ρ (fun u m => ih m (match v, u with
      | .agg cs, .agg ds => pairL cs.toList ds.toList ρ
      | v, u => addP (pairS v u) ρ))) l

def pairB (h : Hp) (B : List Bk) : Nat → List (Nat × Nat) → List (Nat × Nat) :=
  List.rec (motive := fun _ => Nat → List (Nat × Nat) → List (Nat × Nat)) (fun _ ρ => ρ)
    (fun b _ ih i ρ => ih (Nat.succ i) (match asO ρ i with
      | some k => (match h.get k with | some (.cells d _ _) => pairL b.c d ρ | _ => ρ)
      | none => ρ)) B

def chkB (h : Hp) (ρ : List (Nat × Nat)) (B : List Bk) : Nat → Bool :=
  List.rec (motive := fun _ => Nat → Bool) (fun _ => true)
    (fun b _ ih i => cond (match asO ρ i with
      | some k => (match renL (asO ρ) b.c with | some c => sameBk (h.get k) c b.e b.x | none => false)
      | none => false) (ih (Nat.succ i)) false) B

def chk (ρ : List (Nat × Nat)) (R : Row) (args : List Value) (h : Hp) : Bool :=
  (match renLW (asO ρ) R.A with | some l => eqLW l args | none => false) && chkB h ρ R.B 0 && noDup (ρ.map (·.2)) && allB (fun p : Nat × Nat => Nat.ble (Nat.succ p.1) R.B.length) ρ

def renN (τ : Nat → Option Nat) (N : List Bk) : Option (List Bk) :=
  List.rec (motive := fun _ => Option (List Bk)) (some []) (fun b _ ih => match renL τ b.c with
    | some c => (match ih with | some r => some (⟨c, b.e, b.x⟩ :: r) | none => none)
    | none => none) N

def lay (ρ : List (Nat × Nat)) (R : Row) (args : List Value) (h : Hp) : Option (Rt × Option FrameMode × Hp) :=
  cond (chk ρ R args h) (match renT (asT ρ R.I h.n) R.v, renN (asT ρ R.I h.n) R.N with
    | some v, some N => some (.ret v, none, addN h N)
    | _, _ => none) none

def tryRow (R : Row) (args : List Value) (h : Hp) : Option (Rt × Option FrameMode × Hp) := lay (pairB h R.B 0 (pairLW R.A args [])) R args h

def memoL (rows : List Row) (args : List Value) (h : Hp) : Option (Rt × Option FrameMode × Hp) :=
  List.rec (motive := fun _ => Option (Rt × Option FrameMode × Hp)) none (fun R _ ih => match tryRow R args h with
    | some r => some r
    | none => ih) rows

def memo (rows : List Row) (args : List Value) (um : Option FrameMode) (h : Hp) : Option (Rt × Option FrameMode × Hp) :=
  match um with
  | some _ => none
  | none => memoL rows args h
end

/-! soundness -/
theorem asO_cons (p : Nat × Nat) (ρ : List (Nat × Nat)) (b : Nat) : asO (p :: ρ) b = if p.1 = b then some p.2 else asO ρ b := by
  show cond (Nat.beq p.1 b) (some p.2) (asO ρ b) = _
  by_cases h : p.1 = b
  · rw [if_pos h, h, Nat.beq_refl]; rfl
  · rw [if_neg h]
    cases hb : Nat.beq p.1 b with
    | true => exact absurd (Nat.eq_of_beq_eq_true hb) h
    | false => rfl

theorem asO_mem : ∀ {ρ : List (Nat × Nat)} {b b' : Nat}, asO ρ b = some b' → (b, b') ∈ ρ
  | [], _, _, h => by cases h
  | p :: ρ, b, b', h => by
    rw [asO_cons] at h
    split at h
    · rename_i hp; cases h; subst hp; exact .head _
    · exact .tail _ (asO_mem h)

theorem asNew_cons (i : Nat) (I : List Nat) (n b : Nat) : asNew (i :: I) n b = if i = b then some n else asNew I (n + 1) b := by
  show cond (Nat.beq i b) (some n) (asNew I (n + 1) b) = _
  by_cases h : i = b
  · rw [if_pos h, h, Nat.beq_refl]; rfl
  · rw [if_neg h]
    cases hb : Nat.beq i b with
    | true => exact absurd (Nat.eq_of_beq_eq_true hb) h
    | false => rfl

theorem asNew_some : ∀ {I : List Nat} {n b b' : Nat}, asNew I n b = some b' → ∃ j, I[j]? = some b ∧ b' = n + j
  | [], _, _, _, h => by cases h
  | i :: I, n, b, b', h => by
    rw [asNew_cons] at h
    split at h
    · rename_i hi; cases h; subst hi; exact ⟨0, by simp, rfl⟩
    · obtain ⟨j, h1, h2⟩ := asNew_some h
      exact ⟨j + 1, by simpa using h1, by omega⟩

theorem asT_some {ρ : List (Nat × Nat)} {I : List Nat} {n b b' : Nat} (h : asT ρ I n b = some b') : asO ρ b = some b' ∨ ∃ j, I[j]? = some b ∧ b' = n + j := by
  unfold asT at h
  cases ha : asO ρ b with
  | some x => rw [ha] at h; exact .inl h
  | none => rw [ha] at h; exact .inr (asNew_some h)

/-- from one renaming to another -/
theorem renS_VR {τ : Nat → Option Nat} {σ1 σ' : Ren} (C : ∀ b b' y, τ b = some b' → σ1 b = some y → σ' b' = some y) {v u x : Value} (e : renS τ v = some u) (h : VR σ1 v x) : VR σ' u x := by
  unfold renS at e
  split at e
  · split at e
    · rename_i b o _ b' hb
      cases e
      cases h with
      | ptr h => exact .ptr (C _ _ _ hb h)
    · cases e
  · split at e
    · rename_i b o l k _ b' hb
      cases e
      cases h with
      | slice _ _ h => exact .slice _ _ (C _ _ _ hb h)
      | esl h => exact .esl (C _ _ _ hb h)
    · cases e
  · split at e
    · rename_i b _ b' hb
      cases e
      cases h with
      | map h => exact .map (C _ _ _ hb h)
    · cases e
  · cases hs : sc v with
    | false => rw [hs] at e; cases e
    | true => rw [hs] at e; cases e; rw [h.sc_eq hs]; exact .of_sc hs

theorem renS_back {τ : Nat → Option Nat} {σ σ0 : Ren} (C : ∀ b b' y, τ b = some b' → σ b' = some y → σ0 b = some y) {v u x : Value} (e : renS τ v = some u) (h : VR σ u x) : VR σ0 v x := by
  unfold renS at e
  split at e
  · split at e
    · rename_i b o _ b' hb
      cases e
      cases h with
      | ptr h => exact .ptr (C _ _ _ hb h)
    · cases e
  · split at e
    · rename_i b o l k _ b' hb
      cases e
      cases h with
      | slice _ _ h => exact .slice _ _ (C _ _ _ hb h)
      | esl h => exact .esl (C _ _ _ hb h)
    · cases e
  · split at e
    · rename_i b _ b' hb
      cases e
      cases h with
      | map h => exact .map (C _ _ _ hb h)
    · cases e
  · cases hs : sc v with
    | false => rw [hs] at e; cases e
    | true => rw [hs] at e; cases e; rw [h.sc_eq hs]; exact .of_sc hs

theorem renL_cons {τ : Nat → Option Nat} {v : Value} {l m : List Value} (e : renL τ (v :: l) = some m) : ∃ u r, renS τ v = some u ∧ renL τ l = some r ∧ m = u :: r := by
  change (match renS τ v with
    | some u => (match renL τ l with | some r => some (u :: r) | none => none)
    | none => none) = some m at e
  split at e
  · rename_i u hu
    split at e
    · rename_i r hr; cases e; exact ⟨u, r, hu, hr, rfl⟩
    · cases e
  · cases e

theorem renL_get {τ : Nat → Option Nat} : ∀ {l m : List Value}, renL τ l = some m → m.length = l.length ∧ ∀ (i : Nat) (u : Value), m[i]? = some u → ∃ v, l[i]? = some v ∧ renS τ v = some u
  | [], m, e => by cases e; exact ⟨rfl, fun i u h => by simp at h⟩
  | v :: l, m, e => by
    obtain ⟨u, r, h1, h2, rfl⟩ := renL_cons e
    obtain ⟨hl, hg⟩ := renL_get h2
    refine ⟨by simp [hl], fun i z hz => ?_⟩
    cases i with
    | zero => simp at hz; subst hz; exact ⟨v, by simp, h1⟩
    | succ i => simp at hz; obtain ⟨y, hy, hr⟩ := hg i z hz; exact ⟨y, by simpa using hy, hr⟩

theorem renL_VRs {τ : Nat → Option Nat} {σ1 σ' : Ren} (C : ∀ b b' y, τ b = some b' → σ1 b = some y → σ' b' = some y) : ∀ {l m xs : List Value}, renL τ l = some m → VRs σ1 l xs → VRs σ' m xs
  | [], m, xs, e, h => by cases e; cases h; exact .nil
  | v :: l, m, xs, e, h => by
    obtain ⟨u, r, h1, h2, rfl⟩ := renL_cons e
    cases h with
    | cons a t => exact .cons (renS_VR C h1 a) (renL_VRs C h2 t)

theorem renL_back {τ : Nat → Option Nat} {σ σ0 : Ren} (C : ∀ b b' y, τ b = some b' → σ b' = some y → σ0 b = some y) : ∀ {l m xs : List Value}, renL τ l = some m → VRs σ m xs → VRs σ0 l xs
  | [], m, xs, e, h => by cases e; cases h; exact .nil
  | v :: l, m, xs, e, h => by
    obtain ⟨u, r, h1, h2, rfl⟩ := renL_cons e
    cases h with
    | cons a t => exact .cons (renS_back C h1 a) (renL_back C h2 t)

theorem renW_VR {τ : Nat → Option Nat} {σ1 σ' : Ren} (C : ∀ b b' y, τ b = some b' → σ1 b = some y → σ' b' = some y) {v u x : Value} (e : renW τ v = some u) (h : VR σ1 v x) : VR σ' u x := by
  unfold renW at e
  split at e
  · split at e
    · rename_i cs _ l hl
      cases e
      cases h with
      | agg h => exact .agg (renL_VRs C hl h)
    · cases e
  · exact renS_VR C e h

theorem renW_back {τ : Nat → Option Nat} {σ σ0 : Ren} (C : ∀ b b' y, τ b = some b' → σ b' = some y → σ0 b = some y) {v u x : Value} (e : renW τ v = some u) (h : VR σ u x) : VR σ0 v x := by
  unfold renW at e
  split at e
  · split at e
    · rename_i cs _ l hl
      cases e
      obtain ⟨cs⟩ := cs
      cases h with
      | agg h => exact .agg (renL_back C hl h)
    · cases e
  · exact renS_back C e h

theorem renLW_cons {τ : Nat → Option Nat} {v : Value} {l m : List Value} (e : renLW τ (v :: l) = some m) : ∃ u r, renW τ v = some u ∧ renLW τ l = some r ∧ m = u :: r := by
  change (match renW τ v with
    | some u => (match renLW τ l with | some r => some (u :: r) | none => none)
    | none => none) = some m at e
  split at e
  · rename_i u hu
    split at e
    · rename_i r hr; cases e; exact ⟨u, r, hu, hr, rfl⟩
    · cases e
  · cases e

theorem renLW_VRs {τ : Nat → Option Nat} {σ1 σ' : Ren} (C : ∀ b b' y, τ b = some b' → σ1 b = some y → σ' b' = some y) : ∀ {l m xs : List Value}, renLW τ l = some m → VRs σ1 l xs → VRs σ' m xs
  | [], m, xs, e, h => by cases e; cases h; exact .nil
  | v :: l, m, xs, e, h => by
    obtain ⟨u, r, h1, h2, rfl⟩ := renLW_cons e
    cases h with
    | cons a t => exact .cons (renW_VR C h1 a) (renLW_VRs C h2 t)

theorem renLW_back {τ : Nat → Option Nat} {σ σ0 : Ren} (C : ∀ b b' y, τ b = some b' → σ b' = some y → σ0 b = some y) : ∀ {l m xs : List Value}, renLW τ l = some m → VRs σ m xs → VRs σ0 l xs
  | [], m, xs, e, h => by cases e; cases h; exact .nil
  | v :: l, m, xs, e, h => by
    obtain ⟨u, r, h1, h2, rfl⟩ := renLW_cons e
    cases h with
    | cons a t => exact .cons (renW_back C h1 a) (renLW_back C h2 t)

theorem renT_VR {τ : Nat → Option Nat} {σ1 σ' : Ren} (C : ∀ b b' y, τ b = some b' → σ1 b = some y → σ' b' = some y) {v u x : Value} (e : renT τ v = some u) (h : VR σ1 v x) : VR σ' u x := by
  unfold renT at e
  split at e
  · split at e
    · rename_i cs _ l hl
      cases e
      cases h with
      | tuple h => exact .tuple (renLW_VRs C hl h)
    · cases e
  · exact renW_VR C e h

theorem eqT_eq {v u : Value} (h : eqT v u = true) : v = u := by
  unfold eqT at h
  split at h
  · rename_i c d
    rw [Array.toList_inj.1 (eqLW_eq h)]
  · exact eqW_eq h

theorem boolEq_eq {a b : Bool} (h : boolEq a b = true) : a = b := by cases a <;> cases b <;> simp_all [boolEq]

theorem sameBk_eq {o : Option ABlk} {c : List Value} {e : TypeId} {x : Bool} (h : sameBk o c e x = true) : o = some (.cells c e x) := by
  unfold sameBk at h
  split at h
  · simp only [Bool.and_eq_true] at h
    rw [eqL_eq h.1.1, Nat.eq_of_beq_eq_true h.1.2, boolEq_eq h.2]
  · cases h

theorem allNew_get {h : Hp} : ∀ {I : List Nat} {N : List Bk}, allNew h I N = true → I.length = N.length ∧ ∀ (j i : Nat), I[j]? = some i → ∃ b, N[j]? = some b ∧ h.get i = some b.blk
  | [], [], _ => ⟨rfl, fun j i e => by simp at e⟩
  | [], _ :: _, e => by cases e
  | _ :: _, [], e => by cases e
  | i :: I, b :: N, e => by
    change cond (sameBk (h.get i) b.c b.e b.x) (allNew h I N) false = true at e
    cases hs : sameBk (h.get i) b.c b.e b.x with
    | false => rw [hs] at e; cases e
    | true =>
      rw [hs] at e
      obtain ⟨h1, h2⟩ := allNew_get (I := I) (N := N) e
      refine ⟨by simp [h1], fun j k hk => ?_⟩
      cases j with
      | zero => simp at hk; subst hk; exact ⟨b, by simp, sameBk_eq hs⟩
      | succ j => simp at hk; obtain ⟨y, hy, hr⟩ := h2 j k hk; exact ⟨y, by simpa using hy, hr⟩

theorem memN_iff : ∀ {i : Nat} {l : List Nat}, memN i l = true ↔ i ∈ l
  | i, [] => by simp [memN]
  | i, x :: l => by
    have : memN i (x :: l) = cond (Nat.beq x i) true (memN i l) := rfl
    rw [this]
    by_cases h : x = i
    · subst h; simp
    · have hb : Nat.beq x i = false := by
        cases hb : Nat.beq x i with
        | true => exact absurd (Nat.eq_of_beq_eq_true hb) h
        | false => rfl
      rw [hb, cond_false, memN_iff]
      simp [Ne.symm h]

theorem noDup_get : ∀ {l : List Nat}, noDup l = true → ∀ (j j' i : Nat), l[j]? = some i → l[j']? = some i → j = j'
  | [], _, j, j', i, e, _ => by simp at e
  | x :: l, h, j, j', i, e, e' => by
    change cond (memN x l) false (noDup l) = true at h
    cases hm : memN x l with
    | true => rw [hm] at h; cases h
    | false =>
      rw [hm, cond_false] at h
      have nm : x ∉ l := fun hx => by rw [memN_iff.2 hx] at hm; cases hm
      cases j with
      | zero =>
        cases j' with
        | zero => rfl
        | succ j' => simp at e e'; subst e; exact absurd (List.mem_of_getElem? e') nm
      | succ j =>
        cases j' with
        | zero => simp at e e'; subst e'; exact absurd (List.mem_of_getElem? e) nm
        | succ j' => simp at e e'; rw [noDup_get h j j' i e e']

theorem noDup_snd : ∀ {ρ : List (Nat × Nat)}, noDup (ρ.map (·.2)) = true → ∀ {b1 b2 b' : Nat}, (b1, b') ∈ ρ → (b2, b') ∈ ρ → b1 = b2 := by
  intro ρ h b1 b2 b' h1 h2
  obtain ⟨j, hj⟩ := List.getElem?_of_mem h1
  obtain ⟨j', hj'⟩ := List.getElem?_of_mem h2
  have := noDup_get h j j' b' (by simp [List.getElem?_map, hj]) (by simp [List.getElem?_map, hj'])
  subst this
  rw [hj] at hj'; cases hj'; rfl

theorem addN_spec : ∀ (N : List Bk) (h : Hp), (addN h N).n = h.n + N.length ∧ (addN h N).lo = h.lo ∧ ∀ b, (addN h N).get b = if h.n ≤ b ∧ b < h.n + N.length then (N[b - h.n]?).map Bk.blk else h.get b
  | [], h => ⟨rfl, rfl, fun b => by rw [if_neg (by simp)]; rfl⟩
  | x :: N, h => by
    obtain ⟨h1, h2, h3⟩ := addN_spec N (h.add x.blk)
    have hn : (h.add x.blk).n = h.n + 1 := rfl
    have hl : (h.add x.blk).lo = h.lo := rfl
    refine ⟨?_, ?_, fun b => ?_⟩
    · show (addN (h.add x.blk) N).n = _
      rw [h1, hn]; simp; omega
    · show (addN (h.add x.blk) N).lo = _
      rw [h2, hl]
    · show (addN (h.add x.blk) N).get b = _
      rw [h3 b, hn, Hp.get_add]
      simp only [List.length_cons]
      by_cases hb : b = h.n
      · subst hb
        rw [if_neg (by omega), if_pos rfl, if_pos (by omega)]
        simp
      · by_cases hb2 : h.n + 1 ≤ b ∧ b < h.n + 1 + N.length
        · rw [if_pos hb2, if_pos (by omega)]
          have : b - h.n = (b - (h.n + 1)) + 1 := by omega
          rw [this]; simp
        · rw [if_neg hb2, if_neg hb, if_neg (by omega)]

theorem hpOf_spec (B : List Bk) : (hpOf B).n = B.length ∧ (hpOf B).lo = B.length ∧ ∀ b, (hpOf B).get b = (B[b]?).map Bk.blk := by
  obtain ⟨h1, _, h3⟩ := addN_spec B ⟨.e, 0, 0⟩
  have h1' : (addN ⟨.e, 0, 0⟩ B).n = B.length := by rw [h1]; exact Nat.zero_add _
  refine ⟨h1', h1', fun b => ?_⟩
  show (addN ⟨.e, 0, 0⟩ B).get b = _
  rw [h3 b]
  by_cases hb : b < B.length
  · rw [if_pos (by show 0 ≤ b ∧ b < 0 + B.length; omega)]; rfl
  · rw [if_neg (by show ¬ (0 ≤ b ∧ b < 0 + B.length); omega), List.getElem?_eq_none (by omega)]
    rfl

theorem chkB_get {h : Hp} {ρ : List (Nat × Nat)} : ∀ {B : List Bk} {i : Nat}, chkB h ρ B i = true → ∀ (j : Nat) (b : Bk), B[j]? = some b →
    ∃ k c, asO ρ (i + j) = some k ∧ renL (asO ρ) b.c = some c ∧ h.get k = some (.cells c b.e b.x)
  | [], i, _, j, b, e => by simp at e
  | x :: B, i, hc, j, b, e => by
    change cond (match asO ρ i with
      | some k => (match renL (asO ρ) x.c with | some c => sameBk (h.get k) c x.e x.x | none => false)
      | none => false) (chkB h ρ B (i + 1)) false = true at hc
    cases hx : (match asO ρ i with
      | some k => (match renL (asO ρ) x.c with | some c => sameBk (h.get k) c x.e x.x | none => false)
      | none => false) with
    | false => rw [hx] at hc; cases hc
    | true =>
      rw [hx] at hc
      cases j with
      | zero =>
        simp at e; subst e
        split at hx
        · rename_i k hk
          split at hx
          · rename_i c hr; exact ⟨k, c, hk, hr, sameBk_eq hx⟩
          · cases hx
        · cases hx
      | succ j =>
        obtain ⟨k, c, h1, h2, h3⟩ := chkB_get (i := i + 1) hc j b (by simpa using e)
        exact ⟨k, c, by rw [← h1]; congr 1; omega, h2, h3⟩

theorem renN_get {τ : Nat → Option Nat} : ∀ {N M : List Bk}, renN τ N = some M → M.length = N.length ∧ ∀ (j : Nat) (b : Bk), M[j]? = some b → ∃ a, N[j]? = some a ∧ renL τ a.c = some b.c ∧ b.e = a.e ∧ b.x = a.x
  | [], M, e => by cases e; exact ⟨rfl, fun j b h => by simp at h⟩
  | a :: N, M, e => by
    change (match renL τ a.c with
    | some c => (match renN τ N with | some r => some (⟨c, a.e, a.x⟩ :: r) | none => none)
    | none => none) = some M at e
    split at e
    · rename_i c hc
      split at e
      · rename_i r hr
        cases e
        obtain ⟨h1, h2⟩ := renN_get hr
        refine ⟨by simp [h1], fun j b hj => ?_⟩
        cases j with
        | zero => simp at hj; subst hj; exact ⟨a, by simp, hc, rfl, rfl⟩
        | succ j => simp at hj; obtain ⟨y, hy, hr⟩ := h2 j b hj; exact ⟨y, by simpa using hy, hr⟩
      · cases e
    · cases e

/-- a row is laid -/
theorem lay_ok {T0 T1 : Tb} (hT : TbOK T0) (hS : StrOK T0) (hD : DrawOK T0) (hP : SpOK T0) (hi : T1.info = T0.info) (hp : T1.P = T0.P) (hg : ∀ b, T0.gl b = none) {n : Nat} {f : FuncId} {R : Row} (E : rowRun T0 n f R = true)
    {ρ : List (Nat × Nat)} {args : List Value} {h : Hp} {r : Rt} {um' : Option FrameMode} {h' : Hp} (e : lay ρ R args h = some (r, um', h'))
    {σ : Ren} {w : World} {args' : Array Value} {cs : List Frame} (hA : VRs σ args args'.toList) (H : HR T1 σ h w) (hlo : h.lo ≤ h.n) :
    um' = none ∧ ∃ σ' w' r', RtR σ' r r' ∧ HR T1 σ' h' w' ∧ Keep σ h w σ' h' w' ∧ Left T1.P (lone (Frame.enter T1.P f args' .normal) cs w) f .normal r' none cs w' := by
  unfold lay at e
  replace e := cond_none e; obtain ⟨hc, e⟩ := e
  split at e
  · rename_i v M hv hM
    simp only [Option.some.injEq, Prod.mk.injEq] at e
    obtain ⟨rfl, rfl, rfl⟩ := e
    refine ⟨rfl, ?_⟩
    unfold chk at hc
    simp only [Bool.and_eq_true] at hc
    obtain ⟨⟨⟨c1, c2⟩, c3⟩, c4⟩ := hc
    rw [allB_eq, List.all_eq_true] at c4
    -- the row's run
    unfold rowRun at E
    split at E
    · rename_i v0 um0 h0 hev
      simp only [Bool.and_eq_true] at E
      obtain ⟨⟨⟨e1, e2⟩, e3⟩, e4⟩ := E
      have e1 := eqT_eq e1
      subst e1
      rw [allB_eq, List.all_eq_true] at e4
      obtain ⟨i1, i2⟩ := allNew_get e2
      obtain ⟨p1, p2, p3⟩ := hpOf_spec R.B
      obtain ⟨m1, m2⟩ := renN_get hM
      -- the heap of the row
      have hdom : ∀ {b b' : Nat}, asO ρ b = some b' → b < R.B.length := fun hb => Nat.le_of_ble_eq_true (c4 _ (asO_mem hb))
      have H0 : HR T0 σ h w := H.tb hi.symm fun b y e => by rw [hg b] at e; cases e
      have C0 : ∀ b b' y, asO ρ b = some b' → σ b' = some y → ((asO ρ b).bind σ) = some y := fun b b' y h1 h2 => by rw [h1]; exact h2
      have HS : HR T0 (fun b => (asO ρ b).bind σ) (hpOf R.B) w := by
        refine ⟨?_, ?_, ?_, ?_, ?_, fun b y e => by rw [hg b] at e; cases e⟩
        · intro b y hy
          rw [p1]
          cases hb : asO ρ b with
          | none => simp [hb] at hy
          | some b' => exact hdom hb
        · intro b c x hy
          cases hb : asO ρ b with
          | none => simp [hb] at hy
          | some b' => simp [hb] at hy; exact H0.rng _ _ _ hy
        · intro b y hy
          rw [p1]
          rw [p3] at hy
          cases hb : R.B[b]? with
          | none => simp [hb] at hy
          | some z => exact (List.getElem?_eq_some_iff.1 hb).1
        · intro b y c x hy hr
          rw [p3] at hy
          cases hb : R.B[b]? with
          | none => simp [hb] at hy
          | some z =>
            simp [hb] at hy
            subst hy
            obtain ⟨k, cc, k1, k2, k3⟩ := chkB_get c2 b z hb
            rw [Nat.zero_add] at k1
            simp [k1] at hr
            obtain ⟨arr, a1, a2, a3, a4⟩ := H0.blk _ _ _ _ k3 hr
            obtain ⟨l1, l2⟩ := renL_get k2
            refine ⟨arr, a1, fun i v hv => ?_, a3, fun hx => ?_⟩
            · have hlt : i < cc.length := by rw [l1]; exact (List.getElem?_eq_some_iff.1 hv).1
              obtain ⟨u, u1, u2⟩ := a2 i cc[i] (List.getElem?_eq_getElem hlt)
              obtain ⟨v', v1, v2⟩ := l2 i cc[i] (List.getElem?_eq_getElem hlt)
              rw [hv] at v1; cases v1
              exact ⟨u, u1, renS_back C0 v2 u2⟩
            · obtain ⟨q, q1, q2⟩ := a4 hx
              exact ⟨q, q1, by rw [← l1]; exact q2⟩
        · intro b b' y y' c x x' hy hy' s s' hr hr'
          rw [p3] at hy hy'
          cases hb : R.B[b]? with
          | none => simp [hb] at hy
          | some z =>
            cases hb' : R.B[b']? with
            | none => simp [hb'] at hy'
            | some z' =>
              simp [hb] at hy; simp [hb'] at hy'
              subst hy; subst hy'
              obtain ⟨k, cc, k1, k2, k3⟩ := chkB_get c2 b z hb
              obtain ⟨k', cc', k1', k2', k3'⟩ := chkB_get c2 b' z' hb'
              rw [Nat.zero_add] at k1 k1'
              simp [k1] at hr; simp [k1'] at hr'
              have sol : ∀ {a : Bk} {d : List Value}, solid a.blk = true → renL (asO ρ) a.c = some d → solid (.cells d a.e a.x) = true := by
                intro a d ha hd
                obtain ⟨l1, _⟩ := renL_get hd
                cases d with
                | nil =>
                  have : a.c = [] := List.eq_nil_of_length_eq_zero l1.symm
                  simp [Bk.blk, this, solid] at ha
                | cons => rfl
              have := H0.inj k k' _ _ c x x' k3 k3' (sol s k2) (sol s' k2') hr hr'
              subst this
              exact noDup_snd c3 (asO_mem k1) (asO_mem k1')
      have hA0 : VRs (fun b => (asO ρ b).bind σ : Ren) R.A args'.toList := by
        split at c1
        · rename_i l hl
          rw [← eqLW_eq c1] at hA
          exact renLW_back C0 hl hA
        · cases c1
      obtain ⟨σ1, w1, r1, m1', q1, q2, q3, q4, q5, q6⟩ := (ev_snd hT hS hD hP n).call hev (m := none) (cs := cs) hA0 trivial HS (by rw [p1, p2]; exact Nat.le_refl _)
      have hm : m1' = none := by
        cases um0 with
        | some u => simp at q3
        | none => cases m1' <;> simp_all [UmR]
      subst hm
      have hmem : ∀ c, c < w.heap.size → w1.heap[c]? = w.heap[c]? := fun c hc => q5.mem c hc fun b y x hb hy _ => by
        have := HS.bnd b y hy
        rw [p2] at hb; rw [p1] at this; omega
      have hnew : ∀ (j i : Nat) (c x : Nat) (b : Bk), R.I[j]? = some i → h0.get i = some b.blk → solid b.blk = true → σ1 i = some (c, x) → w.heap.size ≤ c := by
        intro j i c x b hj hg hs hr
        have hle : (hpOf R.B).lo ≤ i := by rw [p2]; exact Nat.le_of_ble_eq_true (e4 i (List.mem_of_getElem? hj))
        rcases q5.img i _ c x hle hg hs hr with h1 | ⟨b0, y0, x0, g1, g2, _, _⟩
        · exact h1
        · have := HS.bnd b0 y0 g2
          rw [p2] at g1; rw [p1] at this; omega
      obtain ⟨n1, n2, n3⟩ := addN_spec M h
      -- the new renaming
      have hC : ∀ b b' y, asT ρ R.I h.n b = some b' → σ1 b = some y → (if b' < h.n then σ b' else (R.I[b' - h.n]?).bind σ1) = some y := by
        intro b b' y hb hy
        rcases asT_some hb with h1 | ⟨j, h1, rfl⟩
        · have h2 := q5.new b y hy (by rw [p1]; exact hdom h1)
          simp [h1] at h2
          rw [if_pos (H0.dom _ _ h2)]; exact h2
        · rw [if_neg (by omega)]
          have : h.n + j - h.n = j := by omega
          rw [this, h1]; exact hy
      have hsub : Sub σ (fun b' => if b' < h.n then σ b' else (R.I[b' - h.n]?).bind σ1) := fun b y hy => by
        show (if b < h.n then σ b else _) = some y
        rw [if_pos (H0.dom _ _ hy)]; exact hy
      cases q1 with
      | ret hvv =>
        rename_i u
        refine ⟨fun b' => if b' < h.n then σ b' else (R.I[b' - h.n]?).bind σ1, w1, .ret u, .ret (renT_VR hC hv hvv), ?_, ?_, by rw [hp]; exact q6⟩
        · -- the heap
          refine ⟨?_, ?_, ?_, ?_, ?_, H.gl.trans hsub⟩
          · intro b y hy
            rw [n1]
            split at hy
            · omega
            · cases hb : R.I[b - h.n]? with
              | none => simp [hb] at hy
              | some i => have := (List.getElem?_eq_some_iff.1 hb).1; rw [m1, ← i1]; omega
          · intro b c x hy
            split at hy
            · exact Nat.lt_of_lt_of_le (H0.rng _ _ _ hy) q5.size
            · cases hb : R.I[b - h.n]? with
              | none => simp [hb] at hy
              | some i => simp [hb] at hy; exact q4.rng _ _ _ hy
          · intro b y hy
            rw [n1]
            rw [n3] at hy
            split at hy
            · omega
            · have := H0.bnd _ _ hy; omega
          · intro b y c x hy hr
            rw [n3] at hy
            split at hy
            · rename_i hb
              rw [if_neg (by omega)] at hr
              cases hI : R.I[b - h.n]? with
              | none => simp [hI] at hr
              | some i =>
                simp [hI] at hr
                cases hMb : M[b - h.n]? with
                | none => simp [hMb] at hy
                | some bk =>
                  simp [hMb] at hy
                  subst hy
                  obtain ⟨a, a1, a2, a3, a4⟩ := m2 _ _ hMb
                  obtain ⟨a', a5, a6⟩ := i2 _ _ hI
                  rw [a1] at a5; cases a5
                  have hbr := q4.blk _ _ _ _ a6 hr
                  obtain ⟨arr, z1, z2, z3, z4⟩ := hbr
                  obtain ⟨l1, l2⟩ := renL_get a2
                  refine ⟨arr, by rw [a3]; exact z1, fun k vv hk => ?_, fun hx => z3 (by rw [← a4]; exact hx), fun hx => ?_⟩
                  · obtain ⟨v', v1, v2⟩ := l2 k vv hk
                    obtain ⟨uu, u1, u2⟩ := z2 k v' v1
                    exact ⟨uu, u1, renS_VR hC v2 u2⟩
                  · obtain ⟨q, q1, q2⟩ := z4 (by rw [← a4]; exact hx)
                    exact ⟨q, by rw [hi, a3]; exact q1, by rw [l1]; exact q2⟩
            · have hbn := H0.bnd _ _ hy
              rw [if_pos hbn] at hr
              have := H.blk _ _ _ _ hy hr
              rw [hmem _ (H0.rng _ _ _ hr)]
              exact this.mono hsub
          · intro b b' y y' c x x' hy hy' s s' hr hr'
            rw [n3] at hy hy'
            have new1 : ∀ {b : Nat} {y : ABlk} {x : Nat}, (h.n ≤ b ∧ b < h.n + M.length) → (M[b - h.n]?).map Bk.blk = some y → solid y = true → (R.I[b - h.n]?).bind σ1 = some (c, x) →
                ∃ i a, R.I[b - h.n]? = some i ∧ h0.get i = some (Bk.blk a) ∧ solid (Bk.blk a) = true ∧ σ1 i = some (c, x) ∧ w.heap.size ≤ c := by
              intro b y x hb hy s hr
              cases hI : R.I[b - h.n]? with
              | none => simp [hI] at hr
              | some i =>
                simp [hI] at hr
                cases hMb : M[b - h.n]? with
                | none => simp [hMb] at hy
                | some bk =>
                  simp [hMb] at hy
                  subst hy
                  obtain ⟨a, a1, a2, a3, a4⟩ := m2 _ _ hMb
                  obtain ⟨a', a5, a6⟩ := i2 _ _ hI
                  rw [a1] at a5; cases a5
                  obtain ⟨l1, _⟩ := renL_get a2
                  have hsol : solid (Bk.blk a) = true := by
                    cases hac : a.c with
                    | nil =>
                      rw [hac] at l1
                      have : bk.c = [] := List.eq_nil_of_length_eq_zero l1
                      simp [Bk.blk, this, solid] at s
                    | cons => simp [Bk.blk, hac, solid]
                  exact ⟨i, a, rfl, a6, hsol, hr, hnew _ _ _ _ a hI a6 hsol hr⟩
            by_cases g1 : h.n ≤ b ∧ b < h.n + M.length <;> by_cases g2 : h.n ≤ b' ∧ b' < h.n + M.length
            · rw [if_pos g1] at hy; rw [if_pos g2] at hy'
              rw [if_neg (by omega)] at hr hr'
              obtain ⟨i, a, x1, x2, x3, x4, _⟩ := new1 g1 hy s hr
              obtain ⟨i', a', y1, y2, y3, y4, _⟩ := new1 g2 hy' s' hr'
              have := q4.inj i i' _ _ _ _ _ x2 y2 x3 y3 x4 y4
              subst this
              have := noDup_get e3 _ _ _ x1 y1
              omega
            · rw [if_pos g1] at hy; rw [if_neg g2] at hy'
              rw [if_neg (by omega)] at hr
              obtain ⟨i, a, x1, x2, x3, x4, x5⟩ := new1 g1 hy s hr
              rw [if_pos (H0.bnd _ _ hy')] at hr'
              have := H0.rng _ _ _ hr'
              omega
            · rw [if_neg g1] at hy; rw [if_pos g2] at hy'
              rw [if_neg (by omega)] at hr'
              obtain ⟨i, a, x1, x2, x3, x4, x5⟩ := new1 g2 hy' s' hr'
              rw [if_pos (H0.bnd _ _ hy)] at hr
              have := H0.rng _ _ _ hr
              omega
            · rw [if_neg g1] at hy; rw [if_neg g2] at hy'
              rw [if_pos (H0.bnd _ _ hy)] at hr
              rw [if_pos (H0.bnd _ _ hy')] at hr'
              exact H0.inj _ _ _ _ _ _ _ hy hy' s s' hr hr'
        · -- what is kept
          refine ⟨hsub, by rw [n1]; omega, n2, ?_, ?_, q5.size, fun c hc _ => hmem c hc, q5.os, q5.tape, q5.output, ?_, ?_⟩
          · intro b hb
            rw [n3, if_neg (by omega)]
          · intro b y c x hb hy s hr
            rw [n3] at hy
            by_cases g1 : h.n ≤ b ∧ b < h.n + M.length
            · rw [if_pos g1] at hy
              rw [if_neg (by omega)] at hr
              cases hI : R.I[b - h.n]? with
              | none => simp [hI] at hr
              | some i =>
                simp [hI] at hr
                cases hMb : M[b - h.n]? with
                | none => simp [hMb] at hy
                | some bk =>
                  simp [hMb] at hy
                  subst hy
                  obtain ⟨a, a1, a2, a3, a4⟩ := m2 _ _ hMb
                  obtain ⟨a', a5, a6⟩ := i2 _ _ hI
                  rw [a1] at a5; cases a5
                  obtain ⟨l1, _⟩ := renL_get a2
                  have hsol : solid (Bk.blk a) = true := by
                    cases hac : a.c with
                    | nil =>
                      rw [hac] at l1
                      have : bk.c = [] := List.eq_nil_of_length_eq_zero l1
                      simp [Bk.blk, this, solid] at s
                    | cons => simp [Bk.blk, hac, solid]
                  exact .inl (hnew _ _ _ _ a hI a6 hsol hr)
            · rw [if_neg g1] at hy
              rw [if_pos (H0.bnd _ _ hy)] at hr
              exact .inr ⟨b, y, x, hb, hy, s, hr⟩
          · intro b y hy hb
            rw [if_pos hb] at hy; exact hy
          · intro c o ho
            exact ⟨o, by rw [hmem _ (Array.getElem?_eq_some_iff.1 ho).1]; exact ho, .refl o⟩
    · cases E
  · cases e

theorem memoL_cons (R : Row) (rows : List Row) (args : List Value) (h : Hp) : memoL (R :: rows) args h = match tryRow R args h with | some r => some r | none => memoL rows args h := rfl

theorem memo_ok {T0 T1 : Tb} (hT : TbOK T0) (hS : StrOK T0) (hD : DrawOK T0) (hP : SpOK T0) (hi : T1.info = T0.info) (hp : T1.P = T0.P) (hg : ∀ b, T0.gl b = none) {f : FuncId} {rows : List Row} (E : ∀ R ∈ rows, ∃ n, rowRun T0 n f R = true)
    {args : List Value} {um : Option FrameMode} {h : Hp} {r : Rt} {um' : Option FrameMode} {h' : Hp} (e : memo rows args um h = some (r, um', h'))
    {σ : Ren} {w : World} {args' : Array Value} {m : Option FrameMode} {cs : List Frame} (hA : VRs σ args args'.toList) (hU : UmR σ um m cs) (H : HR T1 σ h w) (hlo : h.lo ≤ h.n) :
    ∃ σ' w' r' m', RtR σ' r r' ∧ UmR σ' um' m' cs ∧ um'.isSome = um.isSome ∧ HR T1 σ' h' w' ∧ Keep σ h w σ' h' w' ∧ Left T1.P (lone (Frame.enter T1.P f args' (kd um)) (upc m cs) w) f (kd um) r' m' cs w' := by
  unfold memo at e
  split at e
  · cases e
  · have hm : m = none := by cases m <;> simp_all [UmR]
    subst hm
    induction rows with
    | nil => cases e
    | cons R rows ih =>
      rw [memoL_cons] at e
      split at e
      · rename_i z hz
        cases e
        obtain ⟨n, hn⟩ := E R (.head _)
        obtain ⟨rfl, σ', w', r', g1, g2, g3, g4⟩ := lay_ok hT hS hD hP hi hp hg hn hz hA H hlo
        exact ⟨σ', w', r', none, g1, trivial, rfl, g2, g3, g4⟩
      · exact ih (fun R hR => E R (.tail _ hR)) e

theorem SpOK.add {T0 T : Tb} (hT : TbOK T0) (hS : StrOK T0) (hD : DrawOK T0) (hP0 : SpOK T0) (hP : SpOK T) (hi : T.info = T0.info) (hp : T.P = T0.P) (hg0 : ∀ b, T0.gl b = none) {f : FuncId} {rows : List Row} (E : ∀ R ∈ rows, ∃ n, rowRun T0 n f R = true) :
    SpOK { T with sp := T.sp.set f (memo rows) } := by
  intro f' g hg args um h r um' h' e σ w args' m cs hA hU H hlo
  have hg' : (T.sp.set f (memo rows)).get f' = some g := hg
  rw [Tr.get_set] at hg'
  split at hg'
  · rename_i hf
    cases hg'; subst hf
    exact memo_ok (T0 := T0) (T1 := { T with sp := T.sp.set f' (memo rows) }) hT hS hD hP0 hi hp hg0 E e hA hU H hlo
  · have H' : HR T σ h w := HR.tb (T := { T with sp := T.sp.set f (memo rows) }) (T' := T) rfl (.refl _) H
    obtain ⟨σ', w', r', m', z1, z2, z3, z4, z5, z6⟩ := hP hg' e hA hU H' hlo
    exact ⟨σ', w', r', m', z1, z2, z3, HR.tb (T := T) (T' := { T with sp := T.sp.set f (memo rows) }) rfl (.refl _) z4, z5, z6⟩
end Go.Clo
