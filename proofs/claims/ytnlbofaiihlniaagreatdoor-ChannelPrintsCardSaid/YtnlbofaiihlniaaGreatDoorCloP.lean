/- An evaluator for closed calls of the model, with its proof: what it yields is what the call returns (a part of it). No condition beyond those that its theorems state. -/
import Derived.Test.YtnlbofaiihlniaaGreatDoorCloE6
set_option linter.unusedVariables false
set_option linter.unusedSimpArgs false
namespace Go.Clo
open Go

/-! a call that was run once, laid in place of its function -/
theorem BR.tb {T T' : Tb} (hi : T'.info = T.info) {σ : Ren} {y : ABlk} {x : Nat} {o : Option Obj} (h : BR T σ y x o) : BR T' σ y x o := by
  unfold BR at h ⊢
  rw [hi]
  exact h

theorem HR.tb {T T' : Tb} (hi : T'.info = T.info) {σ : Ren} {h : Hp} {w : World} (H : HR T σ h w) : HR T' σ h w :=
  ⟨H.dom, H.rng, H.bnd, fun b y c x e r => (H.blk b y c x e r).tb hi, H.inj⟩

theorem HR.world {T : Tb} {σ : Ren} {h : Hp} {w w1 : World} (H : HR T σ h w) (hm : ∀ c, c < w.heap.size → w1.heap[c]? = w.heap[c]?) (hs : w.heap.size ≤ w1.heap.size) : HR T σ h w1 :=
  ⟨H.dom, fun b c x r => Nat.lt_of_lt_of_le (H.rng b c x r) hs, H.bnd, fun b y c x e r => by rw [hm c (H.rng b c x r)]; exact H.blk b y c x e r, H.inj⟩

theorem Keep.world (σ : Ren) (h : Hp) {w w1 : World} (hm : ∀ c, c < w.heap.size → w1.heap[c]? = w.heap[c]?) (hs : w.heap.size ≤ w1.heap.size) (ho : w1.os = w.os) (ht : w1.tape = w.tape) (hout : w1.output = w.output) : Keep σ h w σ h w1 :=
  ⟨.refl σ, Nat.le_refl _, rfl, fun _ _ => rfl, fun b y c x hb hy hs e => .inr ⟨b, y, x, hb, hy, hs, e⟩, hs, fun c hc _ => hm c hc, ho, ht, hout, fun _ _ e _ => e, fun c o e => ⟨o, by rw [hm c (Array.getElem?_eq_some_iff.1 e).1]; exact e, .refl o⟩⟩

theorem plug_run {T : Tb} (hT : TbOK T) (hS : StrOK T) (hD : DrawOK T) (hP : SpOK T) {n : Nat} {f : FuncId} {args : List Value} {h : Hp} {v : Value} {um' : Option FrameMode} {h' : Hp} (E : (ev T n).call f args none h = some (.ret v, um', h')) (hv : gr v = true) (hlo : h.lo = h.n)
    {σ : Ren} {w : World} {args' : Array Value} (cs : List Frame) (H : HR T σ h w) (hA : VRs σ args args'.toList) :
    ∃ w', Left T.P (lone (Frame.enter T.P f args' .normal) cs w) f .normal (.ret v) none cs w' ∧ w.heap.size ≤ w'.heap.size ∧ (∀ c, c < w.heap.size → w'.heap[c]? = w.heap[c]?) ∧ w'.os = w.os ∧ w'.tape = w.tape ∧ w'.output = w.output := by
  obtain ⟨σ1, w1, r1, m1, q1, q2, q3, q4, q5, q6⟩ := (ev_snd hT hS hD hP n).call E (m := none) (cs := cs) hA trivial H (by omega)
  have hm : m1 = none := by
    cases um' with
    | some u => simp at q3
    | none => cases m1 <;> simp_all [UmR]
  subst hm
  cases q1 with
  | ret hvv =>
    have := hvv.gr_eq hv
    subst this
    refine ⟨w1, q6, q5.size, fun c hc => q5.mem c hc fun b y x hb hy _ => ?_, q5.os, q5.tape, q5.output⟩
    have := H.bnd b y hy
    omega

/-- two blocks of plain values -/
def twoHp (c1 : List Value) (e1 : TypeId) (c2 : List Value) (e2 : TypeId) : Hp := ⟨(Tr.e.set 0 (.cells c1 e1 true)).set 1 (.cells c2 e2 true), 2, 2⟩

theorem twoHp_get {c1 c2 : List Value} {e1 e2 : TypeId} {b : Nat} {y : ABlk} (e : (twoHp c1 e1 c2 e2).get b = some y) : (b = 0 ∧ y = .cells c1 e1 true) ∨ (b = 1 ∧ y = .cells c2 e2 true) := by
  unfold twoHp Hp.get at e
  simp only at e
  rw [Tr.get_set, Tr.get_set] at e
  split at e
  · right; cases e; exact ⟨by assumption, rfl⟩
  · split at e
    · left; cases e; exact ⟨by assumption, rfl⟩
    · cases e

theorem HR.two {T : Tb} {σ : Ren} {h : Hp} {w : World} (H : HR T σ h w) {b1 b2 : Nat} {c1 c2 : List Value} {e1 e2 : TypeId} (h1 : h.get b1 = some (.cells c1 e1 true)) (h2 : h.get b2 = some (.cells c2 e2 true)) (s1 : c1.all sc = true) (s2 : c2.all sc = true)
    (n1 : c1 ≠ []) (n2 : c2 ≠ []) (hne : b1 ≠ b2) : HR T (fun b => if b = 0 then σ b1 else if b = 1 then σ b2 else none) (twoHp c1 e1 c2 e2) w := by
  have solid_of : ∀ {c : List Value} {e : TypeId}, c ≠ [] → solid (.cells c e true) = true := by
    intro c e hc
    cases c with
    | nil => exact absurd rfl hc
    | cons => rfl
  have one : ∀ {b : Nat} {c : List Value} {e : TypeId} {cc x : Nat} {σ' : Ren}, h.get b = some (.cells c e true) → c.all sc = true → σ b = some (cc, x) → BR T σ' (.cells c e true) x w.heap[cc]? := by
    intro b c e cc x σ' hb hs r
    obtain ⟨arr, k1, k2, k3, k4⟩ := H.blk _ _ _ _ hb r
    refine ⟨arr, k1, fun i v hv => ?_, k3, k4⟩
    obtain ⟨u, u1, u2⟩ := k2 i v hv
    have hsv : sc v = true := (List.all_eq_true.1 hs) v (List.mem_of_getElem? hv)
    have := u2.sc_eq hsv
    subst this
    exact ⟨u, u1, .of_sc hsv⟩
  refine ⟨?_, ?_, ?_, ?_, ?_⟩
  · intro b y e
    show b < 2
    split at e
    · omega
    · split at e
      · omega
      · cases e
  · intro b c x e
    split at e
    · exact H.rng _ _ _ e
    · split at e
      · exact H.rng _ _ _ e
      · cases e
  · intro b y e
    show b < 2
    rcases twoHp_get e with ⟨h, _⟩ | ⟨h, _⟩ <;> omega
  · intro b y c x e r
    rcases twoHp_get e with ⟨rfl, rfl⟩ | ⟨rfl, rfl⟩
    · exact one h1 s1 (by simpa using r)
    · exact one h2 s2 (by simpa using r)
  · intro b b' y y' c x x' e e' s s' r r'
    rcases twoHp_get e with ⟨rfl, rfl⟩ | ⟨rfl, rfl⟩ <;> rcases twoHp_get e' with ⟨rfl, rfl⟩ | ⟨rfl, rfl⟩
    · rfl
    · exact absurd (H.inj b1 b2 _ _ c x x' h1 h2 (solid_of n1) (solid_of n2) (by simpa using r) (by simpa using r')) hne
    · exact absurd (H.inj b2 b1 _ _ c x x' h2 h1 (solid_of n2) (solid_of n1) (by simpa using r) (by simpa using r')) (fun h => hne h.symm)
    · rfl

/-- a function of a struct of two slices and of two numbers, laid by a table -/
noncomputable def tab2 (c1 : List Value) (e1 : TypeId) (c2 : List Value) (e2 : TypeId) (rows : List (Value × Value × Value)) (l1 l2 : Nat) (args : List Value) (um : Option FrameMode) (h : Hp) : Option (Rt × Option FrameMode × Hp) :=
  match um, args with
  | none, [.agg cs, x, y] => match cs.toList with
    | [.slice (some ⟨b1, 0, none⟩) m1 k1, .slice (some ⟨b2, 0, none⟩) m2 k2] => match h.get b1, h.get b2 with
      | some (.cells d1 f1 true), some (.cells d2 f2 true) =>
        cond (Nat.beq m1 l1 && Nat.beq k1 l1 && Nat.beq m2 l2 && Nat.beq k2 l2 && eqL d1 c1 && eqL d2 c2 && Nat.beq f1 e1 && Nat.beq f2 e2 && !(Nat.beq b1 b2))
          (match List.find? (fun r => eqS r.1 x && eqS r.2.1 y) rows with
          | some r => some (.ret r.2.2, none, h)
          | none => none) none
      | _, _ => none
    | _ => none
  | _, _ => none

theorem tab2_ok {T0 T1 : Tb} (hT : TbOK T0) (hS : StrOK T0) (hD : DrawOK T0) (hP : SpOK T0) (hi : T1.info = T0.info) (hp : T1.P = T0.P) {f : FuncId} {c1 c2 : List Value} {e1 e2 : TypeId} {rows : List (Value × Value × Value)} {l1 l2 : Nat}
    (s1 : c1.all sc = true) (s2 : c2.all sc = true) (n1 : c1 ≠ []) (n2 : c2 ≠ [])
    (E : ∀ r ∈ rows, sc r.1 = true ∧ sc r.2.1 = true ∧ gr r.2.2 = true ∧ ∃ n um' h', (ev T0 n).call f [.agg #[.slice (some ⟨0, 0, none⟩) l1 l1, .slice (some ⟨1, 0, none⟩) l2 l2], r.1, r.2.1] none (twoHp c1 e1 c2 e2) = some (.ret r.2.2, um', h'))
    {args : List Value} {um : Option FrameMode} {h : Hp} {r : Rt} {um' : Option FrameMode} {h' : Hp} (e : tab2 c1 e1 c2 e2 rows l1 l2 args um h = some (r, um', h'))
    {σ : Ren} {w : World} {args' : Array Value} {m : Option FrameMode} {cs : List Frame} (hA : VRs σ args args'.toList) (hU : UmR σ um m cs) (H : HR T1 σ h w) :
    ∃ σ' w' r' m', RtR σ' r r' ∧ UmR σ' um' m' cs ∧ um'.isSome = um.isSome ∧ HR T1 σ' h' w' ∧ Keep σ h w σ' h' w' ∧ Left T1.P (lone (Frame.enter T1.P f args' (kd um)) (upc m cs) w) f (kd um) r' m' cs w' := by
  unfold tab2 at e
  split at e
  · rename_i acs x y
    split at e
    · rename_i b1 m1 k1 b2 m2 k2 hcs
      split at e
      · rename_i d1 f1 d2 f2 g1 g2
        replace e := cond_none e; obtain ⟨hc, e⟩ := e
        simp only [Bool.and_eq_true, Bool.not_eq_true'] at hc
        obtain ⟨⟨⟨⟨⟨⟨⟨⟨q1, q2⟩, q3⟩, q4⟩, q5⟩, q6⟩, q7⟩, q8⟩, q9⟩ := hc
        have q1 := Nat.eq_of_beq_eq_true q1
        have q2 := Nat.eq_of_beq_eq_true q2
        have q3 := Nat.eq_of_beq_eq_true q3
        have q4 := Nat.eq_of_beq_eq_true q4
        have q5 := eqL_eq q5
        have q6 := eqL_eq q6
        have q7 := Nat.eq_of_beq_eq_true q7
        have q8 := Nat.eq_of_beq_eq_true q8
        have q9 : b1 ≠ b2 := fun hh => by rw [hh, Nat.beq_refl] at q9; cases q9
        subst q1; subst q2; subst q3; subst q4; subst q5; subst q6; subst q7; subst q8
        split at e
        · rename_i row hrow
          simp only [Option.some.injEq, Prod.mk.injEq] at e
          obtain ⟨rfl, rfl, rfl⟩ := e
          have hmem := List.mem_of_find?_eq_some hrow
          have htest := List.find?_some hrow
          simp only [Bool.and_eq_true] at htest
          have t1 := eqS_eq htest.1
          have t2 := eqS_eq htest.2
          obtain ⟨sx, sy, sg, n, um1, h1, hev⟩ := E row hmem
          have hm : m = none := by cases m <;> simp_all [UmR]
          subst hm
          have H0 : HR T0 σ h w := H.tb hi.symm
          have H2 := H0.two g1 g2 s1 s2 n1 n2 q9
          obtain ⟨acl⟩ := acs
          simp only at hcs
          subst hcs
          obtain ⟨args'⟩ := args'
          simp only at hA
          have hA2 : VRs (fun b => if b = 0 then σ b1 else if b = 1 then σ b2 else none : Ren) [.agg #[.slice (some ⟨0, 0, none⟩) k1 k1, .slice (some ⟨1, 0, none⟩) k2 k2], row.1, row.2.1] args' := by
            cases hA with
            | cons ha hA =>
              cases hA with
              | cons hx hA =>
                cases hA with
                | cons hy hA =>
                  cases hA
                  have tx := hx.sc_eq (by rw [← t1]; exact sx)
                  have ty := hy.sc_eq (by rw [← t2]; exact sy)
                  subst tx; subst ty
                  rw [t1, t2]
                  refine .cons ?_ (.cons (.of_sc (by rw [← t1]; exact sx)) (.cons (.of_sc (by rw [← t2]; exact sy)) .nil))
                  cases ha with
                  | agg ha =>
                    cases ha with
                    | cons v1 ha =>
                      cases ha with
                      | cons v2 ha =>
                        cases ha
                        refine .agg (.cons ?_ (.cons ?_ .nil))
                        · cases v1 with
                          | slice _ _ hs => exact .slice _ _ (by simpa using hs)
                          | esl hs => exact .esl (by simpa using hs)
                        · cases v2 with
                          | slice _ _ hs => exact .slice _ _ (by simpa using hs)
                          | esl hs => exact .esl (by simpa using hs)
          obtain ⟨w', z1, z2, z3, z4, z5, z6⟩ := plug_run hT hS hD hP hev sg rfl cs H2 (args' := ⟨args'⟩) hA2
          refine ⟨σ, w', .ret row.2.2, none, .ret (.of_gr sg), trivial, rfl, H.world z3 z2, Keep.world σ h z3 z2 z4 z5 z6, ?_⟩
          rw [hp]
          exact z1
        · cases e
      · cases e
    · cases e
  · cases e

/-- does a call return that value -/
noncomputable def isRet (x : Option (Rt × Option FrameMode × Hp)) (v : Value) : Bool :=
  match x with
  | some (.ret u, _, _) => eqV u v
  | _ => false

theorem ret_of {x : Option (Rt × Option FrameMode × Hp)} {v : Value} (h : isRet x v = true) : ∃ um h', x = some (.ret v, um, h') := by
  unfold isRet at h
  split at h
  · rename_i u um h'
    rw [eqV_eq h]; exact ⟨um, h', rfl⟩
  · cases h

theorem TbOK.withSp {T : Tb} (h : TbOK T) (s : Tr (List Value → Option FrameMode → Hp → Option (Rt × Option FrameMode × Hp))) : TbOK { T with sp := s } :=
  ⟨h.info, h.und, h.fn, h.ext, h.cl, h.kq, h.zero⟩
theorem StrOK.withSp {T : Tb} (h : StrOK T) (s : Tr (List Value → Option FrameMode → Hp → Option (Rt × Option FrameMode × Hp))) : StrOK { T with sp := s } := h

theorem SpOK.tab2 {T0 : Tb} (hT : TbOK T0) (hS : StrOK T0) (hD : DrawOK T0) (hP : SpOK T0) {f : FuncId} {c1 c2 : List Value} {e1 e2 : TypeId} {rows : List (Value × Value × Value)} {l1 l2 : Nat}
    (s1 : c1.all sc = true) (s2 : c2.all sc = true) (n1 : c1 ≠ []) (n2 : c2 ≠ [])
    (E : ∀ r ∈ rows, sc r.1 = true ∧ sc r.2.1 = true ∧ gr r.2.2 = true ∧ ∃ n um' h', (ev T0 n).call f [.agg #[.slice (some ⟨0, 0, none⟩) l1 l1, .slice (some ⟨1, 0, none⟩) l2 l2], r.1, r.2.1] none (twoHp c1 e1 c2 e2) = some (.ret r.2.2, um', h')) :
    SpOK { T0 with sp := Tr.set Tr.e f (Go.Clo.tab2 c1 e1 c2 e2 rows l1 l2) } := by
  intro f' g hg args um h r um' h' e σ w args' m cs hA hU H hlo
  have hg' : (Tr.set Tr.e f (Go.Clo.tab2 c1 e1 c2 e2 rows l1 l2)).get f' = some g := hg
  rw [Tr.get_set] at hg'
  split at hg'
  · rename_i hf
    cases hg'; subst hf
    exact tab2_ok (T0 := T0) (T1 := { T0 with sp := Tr.set Tr.e f' (Go.Clo.tab2 c1 e1 c2 e2 rows l1 l2) }) hT hS hD hP rfl rfl s1 s2 n1 n2 E e hA hU H
  · cases hg'
end Go.Clo
