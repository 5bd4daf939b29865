/- An evaluator for closed calls of the model, with its proof: what it yields is what the call returns (a part of it). No condition beyond those that its theorems state. -/
import Derived.Test.YtnlbofaiihlniaaGreatDoorCloE5
set_option linter.unusedVariables false
set_option linter.unusedSimpArgs false
namespace Go.Clo
open Go

variable {T : Tb} {F : Fns} {rd : Option Nat} {ops : Array Oper} {l : List DO} {S : Nat → St} {V : Nat → Option Value}
variable {σ0 σ : Ren} {w0 w : World} {b : Frame} {cs : List Frame} {E : Nat → Prop} {e : Nat} {x : CX}

/-- a ready place is listed -/
theorem Inv.step (C : Ctx T F rd ops l S V σ0 b) (I : Inv T ops S V σ0 w0 b cs E e σ x w) {k : Nat} {o : Oper} (r : Rdy ops E k o) (rest : List Nat) (K : List Item) :
    ∃ e' σ' x' w', Inv T ops S V σ0 w0 b cs (fun i => E i ∨ i = k) e' σ' x' w' ∧ Steps T.P (M b x (.inRegion ops (k :: rest) :: K) cs w) (M b x' (.inRegion ops rest :: K) cs w') := by
  have hkN := (Array.getElem?_eq_some_iff.1 r.ho).1
  have hst := C.R.bar r.ho
  obtain ⟨b1, b2, b3⟩ := mkDO_o ops.toList (Region.before ops).toList o k
  have hwq := I.want C r
  have hEE : ∀ p, E p → (E p ∨ p = k) := fun p h => .inl h
  cases hv : V k with
  | none =>
    have hact : ¬ act ops V k := by rintro ⟨o', v, _, _, h⟩; rw [hv] at h; cases h
    rw [hv] at hst
    obtain ⟨hw0, _⟩ := hst
    rw [b1] at hw0
    exact ⟨e, σ, x.put o.dst undef, w, I.next0 C r hact (I.j.listed hEE) (.refl σ) (u := undef) (by rw [hv]; exact undefR _), .one (s_opSkip r.ho (by rw [← hwq]; exact hw0))⟩
  | some v =>
    have hw : Region.wanted o (yielded ops x.tmps) = true := by
      have h1 := hst
      rw [hv] at h1
      have h2 := h1.1
      rw [b1] at h2
      rw [← hwq]; exact h2
    have look : ∀ d ∈ tmpsOf o, VR (σ.cut (S k).h.n) ((S k).a.tmp d) (x.tmps.getD d undef) := fun d hd => I.look C r (mem_looks_opnd hd)
    rcases C.R.cls_le r.ho with hc | hc | hc
    · have hact : ¬ act ops V k := by
        rintro ⟨o', v', h1, h2, _⟩
        rw [r.ho] at h1; cases h1; omega
      obtain ⟨σq, h, q1, q2, q3, q4, ⟨h', q5⟩, q6⟩ := I.readAt C r hv hc
      have G := aop_good (x := x.act) C.R.hT C.R.hS q2 q3 q6 q5
      obtain ⟨σ1, w1, u, g1, g2, g3, g4⟩ := val_step (b := b) (cs := cs) (rest := rest) (K := K) r.ho hw (by omega) G
      have hfix := (cls0 hc q5).2.1
      subst hfix
      have hsub1 : Sub σ1 σ := fun b' y hb => q1 _ _ (g3.new b' y hb (g2.dom b' y hb))
      obtain ⟨σt, ut, c1, c2⟩ := C.val k v hkN hv
      have hval : VR (σ.cut (S (k + 1)).h.n) v u := VR.cut c2 (g1.mono hsub1) c1
      exact ⟨e, σ, _, w1, I.next0 C r hact ((I.j.listed hEE).read q4 g3) (.refl σ) (by rw [hv]; exact hval), g4⟩
    · have hact : ¬ act ops V k := by
        rintro ⟨o', v', h1, h2, _⟩
        rw [r.ho] at h1; cases h1; omega
      have hek : e ≤ k := by
        rcases Nat.lt_or_ge k e with hlt | hge
        · exfalso
          rcases I.last with h1 | ⟨q, h1, hqE, hqa⟩
          · omega
          · obtain ⟨oq, vq, g1, g2, g3⟩ := hqa
            have hqk : q ≠ k := fun h => r.nE (h ▸ hqE)
            have := okK_eff g1 ((plan_spec C.R.plan).2.2 q oq g1).1 g2 (show k < q by omega) r.ho (by omega)
            exact r.nE (I.preE g1 hqE this)
        · exact hge
      obtain ⟨_, hh⟩ := hst.c1 (by rw [b1]; exact hc) b3
      rcases hh with ⟨h1, _⟩ | ⟨v', blk, h1, hform, hnext, haop⟩
      · rw [hv] at h1; cases h1
      · rw [hv] at h1; cases h1
        rw [b1] at haop
        have G := aop_good (x := x.act) C.R.hT C.R.hS (J.none C.hH I.j (S k).h.n) (Nat.zero_le _) look (haop (noHp (S k).h.n) rfl)
        obtain ⟨σ1, w1, u, g1, g2, g3, g4⟩ := val_step (b := b) (cs := cs) (rest := rest) (K := K) r.ho hw (by omega) G
        have hσ : ∃ c0 x0, σ1 (S k).h.n = some (c0, x0) := by
          rcases hform with hf | ⟨l1, l2, hf⟩
          · subst hf; cases g1; exact ⟨_, _, by assumption⟩
          · subst hf; cases g1 <;> exact ⟨_, _, by assumption⟩
        obtain ⟨c0, x0, hσ⟩ := hσ
        obtain ⟨j1, j2, j3⟩ := J.make (h2 := noHp (S k).h.n) C.hH I.j hkN hek r.nE hEE (.inr rfl) rfl (noHp_get _) hnext g2 g3 hσ
        exact ⟨e, _, _, w1, I.next0 C r hact j1 j2 (by rw [hv]; exact g1.mono j3), g4⟩
    · have hactk : act ops V k := ⟨o, v, r.ho, hc, hv⟩
      have hek : e ≤ k := by
        rcases Nat.lt_or_ge k e with hlt | hge
        · exact absurd (I.lt k hlt hactk) r.nE
        · exact hge
      have hno : ∀ t, e ≤ t → t < k → ¬ act ops V t := by
        intro t t1 t2 t3
        have t3' := t3
        obtain ⟨ot, vt, g1, g2, g3⟩ := t3'
        have := okK_eff r.ho ((plan_spec C.R.plan).2.2 k o r.ho).1 hc t2 g1 (by omega)
        exact I.ge t t1 t3 (I.pre r this)
      have jk := I.j.adv C.hH hek (by omega) (C.R.grow (by omega) hno)
      have hnk : (S e).h.n ≤ (S k).h.n := C.hH.mono e k hek (by omega)
      have A : AR0 (σ.cut (S k).h.n) (S k).a b x cs := by
        obtain ⟨d, hd⟩ := Nat.le.dest hek
        have := C.R.same d (by omega) (fun t h1 h2 => hno t h1 (by omega))
        rw [hd] at this
        exact (I.ar.mono (Ren.cut_le _ hnk)).same this
      have hst' := hst
      rw [hv] at hst'
      obtain ⟨_, a1, h1, hd, e1, e2, _⟩ := hst'
      rw [b1] at hd
      have hlok : (S k).h.lo = (S 0).h.lo := C.lo k (by omega)
      have hn0 : (S 0).h.n ≤ (S k).h.n := C.hH.mono 0 k (Nat.zero_le _) (by omega)
      have hlon : (S k).h.lo ≤ (S k).h.n := by have := C.lon; omega
      have R' : RdR (σ.cut (S k).h.n) rd b.roundOf := C.rdr.mono fun b' y h => Ren.cut_of (I.j.sub b' y h) (Nat.lt_of_lt_of_le (C.dom0 b' y h) hn0)
      have Hk := jk.hr C.hH
      obtain ⟨σ1, w1, x1, r1, A1, k1, k2, k3, H1, K1, q1, q2⟩ := doOp_spec0 C.R.hF hd A (fun nx h2 hop => aop_good (x := x.act) C.R.hT C.R.hS Hk hlon look hop) R' hlon (rest := rest) (k := K) r.ho hw
      cases q1 with
      | ret hvv =>
        rename_i u
        simp only at q2
        obtain ⟨j1, j2, j3⟩ := J.eff (E' := fun i => E i ∨ i = k) C.hH jk hkN r.nE hEE (.inr rfl) (lo' := (S k).h.lo) (by show (S 0).h.lo ≤ _; omega) hlon H1 K1 (fun b' => by show (S (k + 1)).h.get b' = _; rw [e2]) (by show (S (k + 1)).h.n = _; rw [e2])
        obtain ⟨t1, t2⟩ := I.tmNext C r j2 (u := u) (by rw [hv]; exact hvv.mono j3) k3
        refine ⟨k + 1, _, _, w1, ⟨j1, ?_, ?_, .inr ⟨k, rfl, .inr rfl, hactk⟩, ?_, t1, t2, I.clNext r⟩, q2⟩
        · intro t h2 h3
          rcases Nat.lt_or_ge t e with hlt | hge
          · exact .inl (I.lt t hlt h3)
          · rcases Nat.lt_or_ge t k with hlt | hge'
            · exact absurd h3 (hno t hge hlt)
            · exact .inr (by omega)
        · rintro t h2 h3 (h4 | h4)
          · exact I.ge t (by omega) h3 h4
          · omega
        · rw [e1]
          exact ((A1.mono j3).same (AF.put_same a1 _ v)).put _ _

/-! the schedule -/
def Lst (listed : Array Bool) (i : Nat) : Prop := listed.getD i false = true

theorem getD_set_self {listed : Array Bool} {i : Nat} (h : i < listed.size) (d : Bool) : (listed.setIfInBounds i true).getD i d = true := by
  simp [Array.getD_eq_getD_getElem?, h]

theorem Lst_set {listed : Array Bool} {i : Nat} (h : i < listed.size) (j : Nat) : Lst (listed.setIfInBounds i true) j ↔ (Lst listed j ∨ j = i) := by
  unfold Lst
  by_cases hj : j = i
  · subst hj; rw [getD_set_self h]; simp
  · rw [getD_set_ne false (fun h => hj h.symm)]; simp [hj]

def un (listed : Array Bool) (n : Nat) : Nat := ((List.range n).filter fun i => !listed.getD i true).length

theorem filter_lt {p q : Nat → Bool} (hpq : ∀ i, q i = true → p i = true) {i : Nat} (hi : p i = true) (hq : q i = false) : ∀ {l : List Nat}, i ∈ l → (l.filter q).length < (l.filter p).length := by
  have hle : ∀ l : List Nat, (l.filter q).length ≤ (l.filter p).length := by
    intro l
    induction l with
    | nil => simp
    | cons a l ih =>
      cases hqa : q a with
      | true => simp [hqa, hpq a hqa, ih]
      | false => cases hpa : p a <;> simp [hqa, hpa] <;> omega
  intro l
  induction l with
  | nil => intro h; cases h
  | cons a l ih =>
    intro h
    rcases List.mem_cons.1 h with h | h
    · subst h
      simp [hi, hq]
      have := hle l; omega
    · have := ih h
      cases hqa : q a with
      | true => simp [hqa, hpq a hqa, this]
      | false => cases hpa : p a <;> simp [hqa, hpa] <;> omega

theorem un_set {listed : Array Bool} {n i : Nat} (hs : listed.size = n) (hi : i < n) (h : listed.getD i true = false) : un (listed.setIfInBounds i true) n < un listed n := by
  unfold un
  refine filter_lt (i := i) (fun j hj => ?_) (by simp [h]) (by rw [getD_set_self (by omega)]; rfl) (List.mem_range.2 hi)
  by_cases hji : i = j
  · subst hji; rw [getD_set_self (by omega)] at hj; cases hj
  · rw [getD_set_ne true hji] at hj; exact hj

/-- whatever order the tape gives, all is done in the end -/
theorem Inv.all (C : Ctx T F rd ops l S V σ0 b) (K : List Item) : ∀ (fuel t : Nat) (listed : Array Bool) (e : Nat) (σ : Ren) (x : CX) (w : World), listed.size = ops.size → un listed ops.size ≤ fuel → Inv T ops S V σ0 w0 b cs (Lst listed) e σ x w →
    ∃ E' e' σ' x' w', (∀ i, i < ops.size → E' i) ∧ Inv T ops S V σ0 w0 b cs E' e' σ' x' w' ∧ Steps T.P (M b x (.inRegion ops (Region.linearise.go .any ops fuel t listed []) :: K) cs w) (M b x' (.inRegion ops [] :: K) cs w') := by
  intro fuel
  induction fuel with
  | zero =>
    intro t listed e σ x w hs hu I
    refine ⟨Lst listed, e, σ, x, w, ?_, I, ?_⟩
    · intro i hi
      have h0 : un listed ops.size = 0 := by omega
      unfold un at h0
      have h1 := List.length_eq_zero_iff.1 h0
      have h2 : i ∉ (List.range ops.size).filter fun i => !listed.getD i true := by rw [h1]; simp
      rw [List.mem_filter, List.mem_range] at h2
      have h3 : listed.getD i true = true := by
        cases hb : listed.getD i true with
        | true => rfl
        | false => exact absurd ⟨hi, by simp [hb]⟩ h2
      unfold Lst
      rw [Array.getD_eq_getD_getElem?, Array.getElem?_eq_getElem (by omega)] at h3 ⊢
      simpa using h3
    · simp only [Region.linearise.go, List.reverse_nil]
      exact Steps.refl _ _
  | succ fuel ih =>
    intro t listed e σ x w hs hu I
    simp only [Region.linearise.go]
    change ∃ E' e' σ' x' w', _ ∧ _ ∧ Steps T.P (M b x (.inRegion ops (match (Region.ready .any ops listed)[t % (Region.ready .any ops listed).length]? with
      | some i => Region.linearise.go .any ops fuel (t / (Region.ready .any ops listed).length) (listed.setIfInBounds i true) [i]
      | none => [].reverse) :: K) cs w) _
    cases hi : (Region.ready .any ops listed)[t % (Region.ready .any ops listed).length]? with
    | none =>
      have hnil : Region.ready .any ops listed = [] := by
        cases hr : Region.ready .any ops listed with
        | nil => rfl
        | cons a as =>
          rw [hr] at hi
          have hlt : t % (a :: as).length < (a :: as).length := Nat.mod_lt _ (by simp)
          simp at hi
          simp at hlt
          omega
      refine ⟨Lst listed, e, σ, x, w, ?_, I, Steps.refl _ _⟩
      -- the first one that is not listed would be ready
      intro i hiN
      induction i using Nat.strongRecOn with
      | ind i ihi =>
        cases hb : listed.getD i true with
        | true =>
          unfold Lst
          rw [Array.getD_eq_getD_getElem?, Array.getElem?_eq_getElem (by omega)] at hb ⊢
          simpa using hb
        | false =>
          exfalso
          have ho := Array.getElem?_eq_getElem hiN
          have : i ∈ Region.ready .any ops listed := mem_ready.2 ⟨hb, _, ho, fun g hg hgb => by
            have hlt := okA_spec ((plan_spec C.R.plan).2.2 i _ ho).2.2 g hg hgb
            exact ihi g.on hlt (by omega)⟩
          rw [hnil] at this; cases this
    | some i =>
      simp only []
      have hmem := List.mem_of_getElem? hi
      obtain ⟨h1, o, ho, h2⟩ := mem_ready.1 hmem
      have hiN := (Array.getElem?_eq_some_iff.1 ho).1
      have hnE : ¬ Lst listed i := by
        intro h
        have h1' := h1
        unfold Lst at h
        rw [Array.getD_eq_getD_getElem?, Array.getElem?_eq_getElem (by omega)] at h1' h
        simp only [Option.getD_some] at h1' h
        rw [h1'] at h
        cases h
      have r : Rdy ops (Lst listed) i o := ⟨ho, hnE, h2⟩
      rw [linearise_go_acc, List.reverse_singleton, List.singleton_append]
      obtain ⟨e1, σ1, x1, w1, I1, s1⟩ := I.step C r (Region.linearise.go .any ops fuel (t / (Region.ready .any ops listed).length) (listed.setIfInBounds i true) []) K
      have hEq : (fun j => Lst listed j ∨ j = i) = Lst (listed.setIfInBounds i true) := by
        funext j; exact propext (Lst_set (by omega) j).symm
      rw [hEq] at I1
      obtain ⟨E2, e2, σ2, x2, w2, g1, g2, g3⟩ := ih _ _ e1 σ1 x1 w1 (by simp [hs]) (by have := un_set hs hiN h1; omega) I1
      exact ⟨E2, e2, σ2, x2, w2, g1, g2, s1.trans g3⟩

theorem un_start (n : Nat) : un (Array.replicate n false) n ≤ n := by
  unfold un
  refine Nat.le_trans (List.length_filter_le _ _) (by simp)

/-- a region that draws its order -/
theorem draw_ok (hT : TbOK T) (hS : StrOK T) (hm : T.P.follows .mixedOrders = true) : DrawOK T := by
  intro F hF rd id ops l a a' h h' en hplan he σ w b x cs A Rd H hlo K
  obtain ⟨rfl, S, V, s0, sa, sh, hstep⟩ := evalDraw_trace he
  have hlen := (plan_spec hplan).1
  have tr : TextRun T F rd ops l S V := ⟨hlen, fun t p hp => by
    obtain ⟨o, h1, h2⟩ := (plan_spec hplan).2.1 t p hp
    rw [h2]; exact h1, hstep⟩
  rw [hlen] at sa sh
  have ea : (S 0).a = a := by rw [s0]
  have eh : (S 0).h = h := by rw [s0]
  have A0 : AR σ (S 0).a b x cs := by rw [ea]; exact A
  have H0 : HR T σ (S 0).h w := by rw [eh]; exact H
  have hlo0 : (S 0).h.lo ≤ (S 0).h.n := by rw [eh]; exact hlo
  have hat := tr.at hT hS hF A0 Rd H0 hlo0
  have hH : HsOK (fun t => (S t).h) ops.size := ⟨fun i j hij hj => by
      obtain ⟨d, rfl⟩ := Nat.le.dest hij
      exact tr.mono hT hS hF A0 Rd H0 hlo0 i d (by omega), fun i hi b' y hy => by
      obtain ⟨_, _, _, _, _, _, H1, _⟩ := hat i (by omega)
      exact H1.bnd _ _ hy⟩
  have C : Ctx T F rd ops l S V σ b := by
    refine ⟨⟨hT, hS, hF, hplan, tr⟩, hH, ?_, ?_, hlo0, Rd, H0.dom⟩
    · intro k v hk hv
      obtain ⟨σ1, w1, x1, _, A1, R1, H1, l1, n1, _⟩ := hat k (by omega)
      have hp := List.getElem?_eq_getElem (show k < l.length by omega)
      obtain ⟨σ2, w2, x2, _, A2, R2, H2, _, _, _, hval⟩ := (tr.step k _ hp).run hT hS hF (tr.op k _ hp) A1 R1 H1 (by omega)
      obtain ⟨u, hu⟩ := hval v hv
      exact ⟨σ2, u, hu, H2.dom⟩
    · intro t ht
      obtain ⟨_, _, _, _, _, _, _, l1, _⟩ := hat t (by omega)
      exact l1
  -- the start
  let w0 : World := { w with drawn := w.drawn + 1 }
  have H0' : HR T σ (S 0).h w0 := ⟨H0.dom, H0.rng, H0.bnd, H0.blk, H0.inj⟩
  have Kd : Keep σ h w σ h w0 := ⟨.refl σ, Nat.le_refl _, rfl, fun _ _ => rfl, fun b y c x hb hy hs e => .inr ⟨b, y, x, hb, hy, hs, e⟩, Nat.le_refl _, fun _ _ _ => rfl, rfl, rfl, rfl, fun _ _ e _ => e, .refl _⟩
  have hcut : Sub σ (σ.cut (S 0).h.n) := fun b' y hb => Ren.cut_of hb (H0.dom b' y hb)
  have hnone : ∀ i, ¬ Lst (Array.replicate ops.size false) i := by
    intro i hi
    unfold Lst at hi
    rw [Array.getD_eq_getD_getElem?, Array.getElem?_replicate] at hi
    split at hi <;> simp at hi
  have I0 : Inv T ops S V σ w0 b cs (Lst (Array.replicate ops.size false)) 0 σ x w0 := by
    refine ⟨J.start hH H0', fun t ht => by omega, fun t _ _ h => hnone t h, .inl rfl, A0.r0.mono hcut, A0.tm.size, fun d => ⟨0, Nat.zero_le _, fun i hi => absurd hi (hnone i), .inl rfl, (A0.tm.val d).mono hcut⟩, fun k o _ hE => absurd hE (hnone k)⟩
  obtain ⟨E', e', σ', x', w', hall, I, hs⟩ := Inv.all C K ops.size (w.tape w.drawn (.order b.fn id)) (Array.replicate ops.size false) 0 σ x w0 (by simp) (un_start _) I0
  -- the end
  have hno : ∀ t, e' ≤ t → t < ops.size → ¬ act ops V t := fun t h1 h2 h3 => I.ge t h1 h3 (hall t h2)
  have heN := I.j.eN
  have jN := I.j.adv hH heN (Nat.le_refl _) (C.R.grow (Nat.le_refl _) hno)
  have hHR := jN.hr hH
  have hlow : ∀ b', b' < (S 0).h.lo → (S ops.size).h.get b' = (S 0).h.get b' := by
    obtain ⟨_, _, _, _, _, _, _, _, _, g1⟩ := hat ops.size (by omega)
    exact g1
  have hKeep := jN.done hH (C.lo ops.size (Nat.le_refl _)) hlow
  have hAR0 : AR0 (σ'.cut (S ops.size).h.n) (S ops.size).a b x' cs := by
    obtain ⟨d, hd⟩ := Nat.le.dest heN
    have := C.R.same d (by omega) (fun t h1 h2 => hno t h1 (by omega))
    rw [hd] at this
    exact (I.ar.mono (Ren.cut_le _ (hH.mono e' ops.size heN (Nat.le_refl _)))).same this
  have hTm : TmR (σ'.cut (S ops.size).h.n) (S ops.size).a.tm (S ops.size).a.sz x'.tmps := by
    refine ⟨by rw [C.R.sz ops.size (Nat.le_refl _)]; exact I.sz, fun d => ?_⟩
    obtain ⟨m, m1, m2, m3, m4⟩ := I.tm d
    have hc : (S ops.size).a.tmp d = (S m).a.tmp d := by
      obtain ⟨j, hj⟩ := Nat.le.dest m1
      rw [← hj]
      refine C.R.tmpConst j (by omega) fun i i1 i2 hw => ?_
      have := m2 i (hall i (by omega)) hw
      omega
    have : tv (S ops.size).a.tm d = (S ops.size).a.tmp d := rfl
    rw [this, hc]
    exact m4.mono (Ren.cut_le _ (hH.mono m ops.size m1 (Nat.le_refl _)))
  rw [sa] at hAR0 hTm
  rw [← sh]
  rw [← eh] at Kd ⊢
  refine ⟨_, w', x', .normal, ⟨hTm, hAR0.ds, hAR0.fn, hAR0.kind, hAR0.um⟩, hHR, Kd.trans hKeep, .normal, ?_⟩
  have h1 : step T.P (M b x (.code (.region id ops true) :: K) cs w) = .next (M b x (.inRegion ops (Region.linearise .any ops (w.tape w.drawn (.order b.fn id))) :: K) cs w0) := by
    have := s_draw (P := T.P) (b := b) (x := x) (k := K) (cs := cs) (w := w) (id := id) (ops := ops)
    rw [hm] at this
    have h2 : ∀ t, Region.schedule true ops t = Region.linearise .any ops t := fun t => by simp [Region.schedule]
    rw [h2] at this
    exact this
  exact (Steps.head h1 (hs.trans (.one s_regionEnd)))
end Go.Clo
