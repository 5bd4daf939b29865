/- Contracts of functions that the laws of this seat call, or the evaluator of closed calls and its runs. Conditions: as each theorem states them. -/
import Derived.Test.YtddlghdglknloaaGreatDoorCloDB
set_option linter.unusedVariables false
set_option linter.unusedSimpArgs false
/- Contracts of functions that the laws of this seat call, or the evaluator of closed calls and its runs. Conditions: as each theorem states them. -/
set_option linter.unusedVariables false
set_option linter.unusedSimpArgs false
namespace Go.Clo
open Go

variable {T : Tb}

theorem Ren.cut_le (σ : Ren) {n m : Nat} (h : n ≤ m) : Sub (σ.cut n) (σ.cut m) := fun _ _ e =>
  Ren.cut_of (Ren.cut_sub _ _ _ _ e) (Nat.lt_of_lt_of_le (Ren.cut_dom e) h)

theorem BR.ns {σ σ' : Ren} {y : ABlk} {x : Nat} {o o' : Option Obj} (hs : solid y = false) (h : BR T σ y x o)
    (hl : ∀ o1, o = some o1 → ∃ o2, o' = some o2 ∧ likeCells o1 o2) : BR T σ' y x o' := by
  unfold solid at hs
  split at hs
  · trivial
  · simp only [BR] at h ⊢
    obtain ⟨c', ho, _, r1, r2⟩ := h
    obtain ⟨o2, q1, q2⟩ := hl _ ho
    obtain ⟨c'', q3, q4⟩ := q2 _ _ _ rfl
    exact ⟨c'', by rw [q1, q3], fun i v hv => by simp at hv, r1, fun hx => by rw [q4]; exact r2 hx⟩
  · cases hs

/-- heaps of a run: numbers grow, blocks lie below -/
structure HsOK (H : Nat → Hp) (N : Nat) : Prop where
  mono : ∀ i j, i ≤ j → j ≤ N → (H i).n ≤ (H j).n
  bnd : ∀ i, i ≤ N → ∀ b y, (H i).get b = some y → b < (H i).n

/-- a block, at the first place from e on at which it is there -/
def Vis (H : Nat → Hp) (N e b t : Nat) (y : ABlk) : Prop := e ≤ t ∧ t ≤ N ∧ (t = e ∨ (H (t - 1)).n ≤ b) ∧ (H t).get b = some y

/-- no place from e to e' changes a block that is there -/
def Grow (H : Nat → Hp) (e e' : Nat) : Prop := ∀ t, e ≤ t → t < e' → ∀ b, b < (H t).n → (H (t + 1)).get b = (H t).get b

variable {H : Nat → Hp} {N : Nat}

theorem Vis.low (hH : HsOK H N) {e b t : Nat} {y : ABlk} (v : Vis H N e b t y) (hb : b < (H e).n) : t = e := by
  obtain ⟨h1, h2, h3, h4⟩ := v
  rcases h3 with h3 | h3
  · exact h3
  · rcases Nat.lt_or_ge e t with hlt | hge
    · have := hH.mono e (t - 1) (by omega) (by omega); omega
    · omega

theorem Vis.back (hH : HsOK H N) {e b : Nat} {y : ABlk} : ∀ d, e + d ≤ N → Grow H e (e + d) → (H (e + d)).get b = some y → ∃ t, Vis H N e b t y ∧ t ≤ e + d := by
  intro d
  induction d with
  | zero => intro hN _ h; exact ⟨e, ⟨Nat.le_refl _, hN, .inl rfl, h⟩, Nat.le_refl _⟩
  | succ d ih =>
    intro hN hg h
    rcases Nat.lt_or_ge b (H (e + d)).n with hlt | hge
    · have h' : (H (e + d)).get b = some y := by rw [← hg (e + d) (by omega) (by omega) b hlt]; exact h
      obtain ⟨t, hv, ht⟩ := ih (by omega) (fun t h1 h2 => hg t h1 (by omega)) h'
      exact ⟨t, hv, by omega⟩
    · have h1 : e + (d + 1) - 1 = e + d := by omega
      exact ⟨e + (d + 1), ⟨by omega, hN, .inr (by rw [h1]; exact hge), h⟩, Nat.le_refl _⟩

structure J (T : Tb) (H : Nat → Hp) (N : Nat) (E : Nat → Prop) (σ0 : Ren) (w0 : World) (e : Nat) (σ : Ren) (w : World) : Prop where
  eN : e ≤ N
  sub : Sub σ0 σ
  dom : ∀ b y, σ b = some y → (b < (H 0).n ∧ σ0 b = some y) ∨ ∃ p, p < N ∧ E p ∧ (H p).n ≤ b ∧ b < (H (p + 1)).n
  rng : ∀ b c x, σ b = some (c, x) → c < w.heap.size
  blk : ∀ b t y c x, Vis H N e b t y → σ b = some (c, x) → BR T (σ.cut (H t).n) y x w.heap[c]?
  inj : ∀ b b' t t' y y' c x x', Vis H N e b t y → Vis H N e b' t' y' → solid y = true → solid y' = true → σ b = some (c, x) → σ b' = some (c, x') → b = b'
  img : ∀ b t y c x, (H 0).lo ≤ b → Vis H N e b t y → solid y = true → σ b = some (c, x) → w0.heap.size ≤ c ∨ ∃ b0 y0 x0, (H 0).lo ≤ b0 ∧ (H 0).get b0 = some y0 ∧ solid y0 = true ∧ σ0 b0 = some (c, x0)
  size : w0.heap.size ≤ w.heap.size
  mem : ∀ c, c < w0.heap.size → (∀ b y x, (H 0).lo ≤ b → (H 0).get b = some y → solid y = true → σ0 b ≠ some (c, x)) → w.heap[c]? = w0.heap[c]?
  os : w.os = w0.os
  tape : w.tape = w0.tape
  output : w.output = w0.output
  like : LikeW w0 w
  gl : Sub T.gl (σ0.cut (H 0).n)

variable {E E' : Nat → Prop} {σ0 σ : Ren} {w0 w : World} {e : Nat}

theorem J.hr (hH : HsOK H N) (j : J T H N E σ0 w0 e σ w) : HR T (σ.cut (H e).n) (H e) w where
  dom := fun _ _ h => Ren.cut_dom h
  rng := fun b c x h => j.rng b c x (Ren.cut_sub _ _ _ _ h)
  bnd := hH.bnd e j.eN
  blk := fun b y c x hy h => j.blk b e y c x ⟨Nat.le_refl _, j.eN, .inl rfl, hy⟩ (Ren.cut_sub _ _ _ _ h)
  inj := fun b b' y y' c x x' h1 h2 s1 s2 r1 r2 => j.inj b b' e e y y' c x x' ⟨Nat.le_refl _, j.eN, .inl rfl, h1⟩ ⟨Nat.le_refl _, j.eN, .inl rfl, h2⟩ s1 s2 (Ren.cut_sub _ _ _ _ r1) (Ren.cut_sub _ _ _ _ r2)
  gl := fun b y h => Ren.cut_of (j.sub _ _ (Ren.cut_sub _ _ _ _ (j.gl b y h))) (Nat.lt_of_lt_of_le (Ren.cut_dom (j.gl b y h)) (hH.mono 0 e (Nat.zero_le _) j.eN))

theorem J.start (hH : HsOK H N) (H0 : HR T σ0 (H 0) w0) : J T H N E σ0 w0 0 σ0 w0 where
  eN := Nat.zero_le _
  sub := .refl _
  dom := fun b y h => .inl ⟨H0.dom b y h, h⟩
  rng := H0.rng
  blk := fun b t y c x v r => by
    have ht := v.low hH (H0.dom _ _ r)
    subst ht
    exact (H0.blk b y c x v.2.2.2 r).mono fun b' y' h => Ren.cut_of h (H0.dom _ _ h)
  inj := fun b b' t t' y y' c x x' v v' s s' r r' => by
    have h1 := v.low hH (H0.dom _ _ r); subst h1
    have h2 := v'.low hH (H0.dom _ _ r'); subst h2
    exact H0.inj b b' y y' c x x' v.2.2.2 v'.2.2.2 s s' r r'
  img := fun b t y c x hb v s r => by
    have h1 := v.low hH (H0.dom _ _ r); subst h1
    exact .inr ⟨b, y, x, hb, v.2.2.2, s, r⟩
  size := Nat.le_refl _
  mem := fun _ _ _ => rfl
  os := rfl
  tape := rfl
  output := rfl
  like := .refl _
  gl := fun b y h => Ren.cut_of (H0.gl b y h) (H0.dom b y (H0.gl b y h))

theorem J.listed (j : J T H N E σ0 w0 e σ w) (hE : ∀ p, E p → E' p) : J T H N E' σ0 w0 e σ w :=
  { j with dom := fun b y h => (j.dom b y h).imp id fun ⟨p, h1, h2, h3⟩ => ⟨p, h1, hE p h2, h3⟩ }

theorem J.adv (hH : HsOK H N) (j : J T H N E σ0 w0 e σ w) {e' : Nat} (he : e ≤ e') (hN : e' ≤ N) (hg : Grow H e e') : J T H N E σ0 w0 e' σ w := by
  have back : ∀ b t y, Vis H N e' b t y → ∃ t0, Vis H N e b t0 y ∧ t0 ≤ t := by
    intro b t y v
    obtain ⟨h1, h2, h3, h4⟩ := v
    by_cases ht : t = e'
    · subst ht
      obtain ⟨d, rfl⟩ := Nat.le.dest he
      exact Vis.back hH d hN hg h4
    · exact ⟨t, ⟨by omega, h2, .inr (h3.resolve_left ht), h4⟩, Nat.le_refl _⟩
  refine { j with eN := hN, blk := ?_, inj := ?_, img := ?_ }
  · intro b t y c x v r
    obtain ⟨t0, v0, h0⟩ := back b t y v
    exact (j.blk b t0 y c x v0 r).mono (Ren.cut_le _ (hH.mono _ _ h0 v.2.1))
  · intro b b' t t' y y' c x x' v v' s s' r r'
    obtain ⟨t0, v0, _⟩ := back b t y v
    obtain ⟨t0', v0', _⟩ := back b' t' y' v'
    exact j.inj b b' t0 t0' y y' c x x' v0 v0' s s' r r'
  · intro b t y c x hb v s r
    obtain ⟨t0, v0, _⟩ := back b t y v
    exact j.img b t0 y c x hb v0 s r

/-- old memory stands -/
theorem J.world (j : J T H N E σ0 w0 e σ w) {w1 : World} (hm : ∀ c, c < w.heap.size → w1.heap[c]? = w.heap[c]?) (hs : w.heap.size ≤ w1.heap.size) (ho : w1.os = w.os) (ht : w1.tape = w.tape) (hout : w1.output = w.output) :
    J T H N E σ0 w0 e σ w1 := by
  refine { j with rng := ?_, blk := ?_, size := Nat.le_trans j.size hs, mem := ?_, os := ho.trans j.os, tape := ht.trans j.tape, output := hout.trans j.output, like := ?_ }
  · intro b c x r; exact Nat.lt_of_lt_of_le (j.rng b c x r) hs
  · intro b t y c x v r
    rw [hm c (j.rng b c x r)]; exact j.blk b t y c x v r
  · intro c hc hn
    rw [hm c (Nat.lt_of_lt_of_le hc j.size)]; exact j.mem c hc hn
  · intro c o h
    obtain ⟨o', h1, h2⟩ := j.like c o h
    exact ⟨o', by rw [hm c (Array.getElem?_eq_some_iff.1 h1).1]; exact h1, h2⟩

/-- a reading operation -/
theorem J.read (j : J T H N E σ0 w0 e σ w) {σ' σ1 : Ren} {h h1 : Hp} {w1 : World} (hh : ∀ b y, h.lo ≤ b → h.get b ≠ some y) (K : Keep σ' h w σ1 h1 w1) : J T H N E σ0 w0 e σ w1 :=
  j.world (fun c hc => K.mem c hc fun b y _ hb hy => absurd hy (hh b y hb)) K.size K.os K.tape K.output

/-- a new block -/
theorem J.make (hH : HsOK H N) (j : J T H N E σ0 w0 e σ w) {p : Nat} (hp : p < N) (hep : e ≤ p) (hE : ¬ E p) (hE' : ∀ q, E q → E' q) (hE'p : E' p) {h2 : Hp} {y : ABlk} (hn : h2.n = (H p).n) (h20 : ∀ b y, h2.get b ≠ some y)
    (hnext : H (p + 1) = (H p).add y) {σ1 : Ren} {w1 : World} (H1 : HR T σ1 (h2.add y) w1) (K : Keep (σ.cut (H p).n) h2 w σ1 (h2.add y) w1) {c0 x0 : Nat} (hσ : σ1 (H p).n = some (c0, x0)) :
    J T H N E' σ0 w0 e (σ.up (H p).n (c0, x0)) w1 ∧ Sub σ (σ.up (H p).n (c0, x0)) ∧ Sub σ1 ((σ.up (H p).n (c0, x0)).cut (H (p + 1)).n) := by
  have hn1 : (H (p + 1)).n = (H p).n + 1 := by rw [hnext]; rfl
  have hfree : ∀ z, σ (H p).n ≠ some z := by
    intro z hz
    rcases j.dom _ _ hz with ⟨h1, _⟩ | ⟨q, h1, h2, h3, h4⟩
    · have := hH.mono 0 p (Nat.zero_le _) (by omega); omega
    · rcases Nat.lt_trichotomy q p with hq | hq | hq
      · have := hH.mono (q + 1) p (by omega) (by omega); omega
      · subst hq; exact hE h2
      · have := hH.mono (p + 1) q (by omega) (by omega); omega
  have hsub : Sub σ (σ.up (H p).n (c0, x0)) := by
    intro b z hz
    unfold Ren.up
    rw [if_neg]
    · exact hz
    · intro hb; subst hb; exact hfree z hz
  have hs1 : Sub σ1 ((σ.up (H p).n (c0, x0)).cut (H (p + 1)).n) := by
    intro b z hz
    have hb := H1.dom b z hz
    have hb' : b < (H p).n + 1 := by rw [← hn]; exact hb
    refine Ren.cut_of ?_ (by rw [hn1]; exact hb')
    unfold Ren.up
    by_cases hbn : b = (H p).n
    · rw [if_pos hbn]; rw [hbn, hσ] at hz; exact hz
    · rw [if_neg hbn]
      exact Ren.cut_sub _ _ _ _ (K.new b z hz (by omega))
  have hmem : ∀ c, c < w.heap.size → w1.heap[c]? = w.heap[c]? := fun c hc => K.mem c hc fun b y' _ _ hy => absurd hy (h20 b y')
  have jw := j.world hmem K.size K.os K.tape K.output
  have hvis : ∀ t y', Vis H N e (H p).n t y' → t = p + 1 ∧ y' = y := by
    intro t y' v
    obtain ⟨h1, h2, h3, h4⟩ := v
    have hb := hH.bnd t h2 _ _ h4
    have ht : t = p + 1 := by
      rcases Nat.lt_trichotomy t (p + 1) with hq | hq | hq
      · have := hH.mono t p (by omega) (by omega); omega
      · exact hq
      · rcases h3 with h3 | h3
        · omega
        · have := hH.mono (p + 1) (t - 1) (by omega) (by omega); omega
    refine ⟨ht, ?_⟩
    rw [ht, hnext, Hp.get_add, if_pos rfl] at h4
    cases h4; rfl
  have hfresh : solid y = true → w.heap.size ≤ c0 := by
    intro hs
    rcases K.img (H p).n y c0 x0 (by have := K.lo; rcases Nat.lt_or_ge (H p).n h2.lo with hh | hh
                                     · have hl := K.low (H p).n hh
                                       rw [Hp.get_add, if_pos hn.symm] at hl
                                       exact absurd hl.symm (h20 _ _)
                                     · exact hh) (by rw [Hp.get_add, if_pos hn.symm]) hs hσ with h | ⟨b0, y0, _, _, hy0, _⟩
    · exact h
    · exact absurd hy0 (h20 _ _)
  refine ⟨⟨j.eN, j.sub.trans hsub, ?_, ?_, ?_, ?_, ?_, jw.size, jw.mem, jw.os, jw.tape, jw.output, jw.like, j.gl⟩, hsub, hs1⟩
  · intro b z hz
    unfold Ren.up at hz
    by_cases hbn : b = (H p).n
    · exact .inr ⟨p, hp, hE'p, by omega, by omega⟩
    · rw [if_neg hbn] at hz
      exact (j.dom b z hz).imp id fun ⟨q, h1, h2, h3⟩ => ⟨q, h1, hE' q h2, h3⟩
  · intro b c x hz
    unfold Ren.up at hz
    by_cases hbn : b = (H p).n
    · rw [if_pos hbn] at hz; cases hz; exact H1.rng _ _ _ hσ
    · rw [if_neg hbn] at hz; exact jw.rng b c x hz
  · intro b t y' c x v hz
    unfold Ren.up at hz
    by_cases hbn : b = (H p).n
    · rw [if_pos hbn] at hz; cases hz
      subst hbn
      obtain ⟨rfl, rfl⟩ := hvis _ _ v
      exact (H1.blk _ _ _ _ (by rw [Hp.get_add, if_pos hn.symm]) hσ).mono hs1
    · rw [if_neg hbn] at hz
      exact (jw.blk b t y' c x v hz).mono (hsub.cut _)
  · intro b b' t t' y1 y2 c x x' v v' s s' r r'
    unfold Ren.up at r r'
    by_cases h1 : b = (H p).n <;> by_cases h2 : b' = (H p).n
    · rw [h1, h2]
    · rw [if_pos h1] at r; rw [if_neg h2] at r'; cases r
      subst h1
      obtain ⟨_, rfl⟩ := hvis _ _ v
      have := hfresh s; have := j.rng _ _ _ r'; omega
    · rw [if_neg h1] at r; rw [if_pos h2] at r'; cases r'
      subst h2
      obtain ⟨_, rfl⟩ := hvis _ _ v'
      have := hfresh s'; have := j.rng _ _ _ r; omega
    · rw [if_neg h1] at r; rw [if_neg h2] at r'
      exact j.inj b b' t t' y1 y2 c x x' v v' s s' r r'
  · intro b t y' c x hb v s r
    unfold Ren.up at r
    by_cases hbn : b = (H p).n
    · rw [if_pos hbn] at r; cases r
      subst hbn
      obtain ⟨_, rfl⟩ := hvis _ _ v
      exact .inl (Nat.le_trans j.size (hfresh s))
    · rw [if_neg hbn] at r
      exact j.img b t y' c x hb v s r

def Ren.join (σ1 σ : Ren) (n : Nat) : Ren := fun b => if b < n then σ1 b else σ b

/-- an effect -/
theorem J.eff (hH : HsOK H N) {k : Nat} (j : J T H N E σ0 w0 k σ w) (hk : k < N) (hE : ¬ E k) (hE' : ∀ q, E q → E' q) (hE'k : E' k) {lo' : Nat} (hl1 : (H 0).lo ≤ lo') (hl2 : lo' ≤ (H k).n) {h1 : Hp} {σ1 : Ren} {w1 : World}
    (H1 : HR T σ1 h1 w1) (K : Keep (σ.cut (H k).n) { H k with lo := lo' } w σ1 h1 w1) (hg : ∀ b, (H (k + 1)).get b = h1.get b) (hn : (H (k + 1)).n = h1.n) :
    J T H N E' σ0 w0 (k + 1) (σ1.join σ (H (k + 1)).n) w1 ∧ Sub σ (σ1.join σ (H (k + 1)).n) ∧ Sub σ1 ((σ1.join σ (H (k + 1)).n).cut (H (k + 1)).n) := by
  have hkn := hH.mono k (k + 1) (by omega) (by omega)
  have jl : ∀ b, b < (H (k + 1)).n → σ1.join σ (H (k + 1)).n b = σ1 b := fun b hb => by unfold Ren.join; rw [if_pos hb]
  have jh : ∀ b, ¬ b < (H (k + 1)).n → σ1.join σ (H (k + 1)).n b = σ b := fun b hb => by unfold Ren.join; rw [if_neg hb]
  have hs1 : Sub σ1 ((σ1.join σ (H (k + 1)).n).cut (H (k + 1)).n) := by
    intro b z hz
    have hb := H1.dom b z hz
    rw [← hn] at hb
    exact Ren.cut_of (by rw [jl b hb]; exact hz) hb
  have hsub : Sub σ (σ1.join σ (H (k + 1)).n) := by
    intro b z hz
    by_cases hb : b < (H (k + 1)).n
    · rw [jl b hb]
      by_cases hbk : b < (H k).n
      · exact K.sub b z (Ren.cut_of hz hbk)
      · exfalso
        rcases j.dom _ _ hz with ⟨h1, _⟩ | ⟨q, h1, h2, h3, h4⟩
        · have := hH.mono 0 k (Nat.zero_le _) (by omega); omega
        · rcases Nat.lt_trichotomy q k with hq | hq | hq
          · have := hH.mono (q + 1) k (by omega) (by omega); omega
          · subst hq; exact hE h2
          · have := hH.mono (k + 1) q (by omega) (by omega); omega
    · rw [jh b hb]; exact hz
  have low : ∀ b t y, Vis H N (k + 1) b t y → b < (H (k + 1)).n → t = k + 1 ∧ h1.get b = some y := by
    intro b t y v hb
    have ht := v.low hH hb
    subst ht
    exact ⟨rfl, by rw [← hg]; exact v.2.2.2⟩
  have high : ∀ b t y, Vis H N (k + 1) b t y → ¬ b < (H (k + 1)).n → Vis H N k b t y := by
    intro b t y v hb
    obtain ⟨h1, h2, h3, h4⟩ := v
    refine ⟨by omega, h2, .inr ?_, h4⟩
    rcases h3 with h3 | h3
    · exfalso; rw [h3] at h4; exact hb (hH.bnd _ (by omega) _ _ h4)
    · exact h3
  -- a low block that is seen behind the effect and bears solid contents: what it was before it
  have was : ∀ b y c x, h1.get b = some y → solid y = true → σ1 b = some (c, x) → w.heap.size ≤ c ∨ ∃ b0 y0 x0, lo' ≤ b0 ∧ Vis H N k b0 k y0 ∧ solid y0 = true ∧ b0 < (H k).n ∧ σ b0 = some (c, x0) ∨ ∃ x0, b < lo' ∧ Vis H N k b k y ∧ b < (H k).n ∧ σ b = some (c, x0) := by
    intro b y c x hy hs r
    by_cases hb : lo' ≤ b
    · rcases K.img b y c x hb hy hs r with h | ⟨b0, y0, x0, h1, h2, h3, h4⟩
      · exact .inl h
      · exact .inr ⟨b0, y0, x0, .inl ⟨h1, ⟨Nat.le_refl _, by omega, .inl rfl, h2⟩, h3, Ren.cut_dom h4, Ren.cut_sub _ _ _ _ h4⟩⟩
    · have hb' : b < (H k).n := by omega
      have h2 : (H k).get b = some y := by
        have h3 := K.low b (show b < lo' by omega)
        rw [hy] at h3; exact h3.symm
      have h4 := Ren.cut_sub _ _ _ _ (K.new b _ r hb')
      exact .inr ⟨b, y, x, .inr ⟨x, by omega, ⟨Nat.le_refl _, by omega, .inl rfl, h2⟩, hb', h4⟩⟩
  have mix : ∀ b b' t' y y' c x x', h1.get b = some y → solid y = true → σ1 b = some (c, x) → Vis H N k b' t' y' → ¬ b' < (H (k + 1)).n → solid y' = true → σ b' = some (c, x') → False := by
    intro b b' t' y y' c x x' hy hs r v' hb' hs' r'
    rcases was b y c x hy hs r with h | ⟨b0, y0, x0, ⟨_, g2, g3, g4, g5⟩ | ⟨x1, _, g2, g3, g4⟩⟩
    · have := j.rng _ _ _ r'; omega
    · have := j.inj b0 b' k t' y0 y' c x0 x' g2 v' g3 hs' g5 r'; omega
    · have := j.inj b b' k t' y y' c x1 x' g2 v' hs hs' g4 r'; omega
  refine ⟨⟨by omega, j.sub.trans hsub, ?_, ?_, ?_, ?_, ?_, Nat.le_trans j.size K.size, ?_, K.os.trans j.os, K.tape.trans j.tape, K.output.trans j.output, j.like.trans K.like, j.gl⟩, hsub, hs1⟩
  · intro b z hz
    by_cases hb : b < (H (k + 1)).n
    · rw [jl b hb] at hz
      by_cases hbk : b < (H k).n
      · exact (j.dom b z (Ren.cut_sub _ _ _ _ (K.new b z hz hbk))).imp id fun ⟨q, h1, h2, h3⟩ => ⟨q, h1, hE' q h2, h3⟩
      · exact .inr ⟨k, hk, hE'k, by omega, hb⟩
    · rw [jh b hb] at hz
      exact (j.dom b z hz).imp id fun ⟨q, h1, h2, h3⟩ => ⟨q, h1, hE' q h2, h3⟩
  · intro b c x hz
    by_cases hb : b < (H (k + 1)).n
    · rw [jl b hb] at hz; exact H1.rng b c x hz
    · rw [jh b hb] at hz; exact Nat.lt_of_lt_of_le (j.rng b c x hz) K.size
  · intro b t y c x v hz
    by_cases hb : b < (H (k + 1)).n
    · rw [jl b hb] at hz
      obtain ⟨rfl, hy⟩ := low b t y v hb
      exact (H1.blk b y c x hy hz).mono hs1
    · rw [jh b hb] at hz
      have v' := high b t y v hb
      have B := (j.blk b t y c x v' hz).mono (hsub.cut (H t).n)
      by_cases hs : solid y = true
      · have hm := K.mem c (j.rng b c x hz) fun b' y' x' _ hy' hs' r' => by
          have hb' := Ren.cut_dom r'
          have := j.inj b b' t k y y' c x x' v' ⟨Nat.le_refl _, by omega, .inl rfl, hy'⟩ hs hs' hz (Ren.cut_sub _ _ _ _ r')
          omega
        rw [hm]; exact B
      · exact B.ns (by simpa using hs) fun o1 ho1 => K.like c o1 ho1
  · intro b b' t t' y y' c x x' v v' s s' r r'
    by_cases hb : b < (H (k + 1)).n <;> by_cases hb' : b' < (H (k + 1)).n
    · rw [jl b hb] at r; rw [jl b' hb'] at r'
      exact H1.inj b b' y y' c x x' (low _ _ _ v hb).2 (low _ _ _ v' hb').2 s s' r r'
    · rw [jl b hb] at r; rw [jh b' hb'] at r'
      exact (mix b b' t' y y' c x x' (low _ _ _ v hb).2 s r (high _ _ _ v' hb') hb' s' r').elim
    · rw [jh b hb] at r; rw [jl b' hb'] at r'
      exact (mix b' b t y' y c x' x (low _ _ _ v' hb').2 s' r' (high _ _ _ v hb) hb s r).elim
    · rw [jh b hb] at r; rw [jh b' hb'] at r'
      exact j.inj b b' t t' y y' c x x' (high _ _ _ v hb) (high _ _ _ v' hb') s s' r r'
  · intro b t y c x hlb v s r
    by_cases hb : b < (H (k + 1)).n
    · rw [jl b hb] at r
      rcases was b y c x (low _ _ _ v hb).2 s r with h | ⟨b0, y0, x0, ⟨g1, g2, g3, _, g5⟩ | ⟨x1, _, g2, _, g4⟩⟩
      · exact .inl (Nat.le_trans j.size h)
      · exact j.img b0 k y0 c x0 (by omega) g2 g3 g5
      · exact j.img b k y c x1 hlb g2 s g4
    · rw [jh b hb] at r
      exact j.img b t y c x hlb (high _ _ _ v hb) s r
  · intro c hc hn'
    refine (K.mem c (Nat.lt_of_lt_of_le hc j.size) fun b y x hb hy hs r => ?_).trans (j.mem c hc hn')
    rcases j.img b k y c x (Nat.le_trans hl1 hb) ⟨Nat.le_refl _, by omega, .inl rfl, hy⟩ hs (Ren.cut_sub _ _ _ _ r) with h | ⟨b0, y0, x0, g1, g2, g3, g4⟩
    · omega
    · exact hn' b0 y0 x0 g1 g2 g3 g4

/-- the end -/
theorem J.done (hH : HsOK H N) (j : J T H N E σ0 w0 N σ w) (hl : (H N).lo = (H 0).lo) (hlow : ∀ b, b < (H 0).lo → (H N).get b = (H 0).get b) : Keep σ0 (H 0) w0 (σ.cut (H N).n) (H N) w where
  sub := by
    intro b y h
    have h1 := j.sub b y h
    rcases j.dom b y h1 with ⟨h2, _⟩ | ⟨p, h1, _, _, h4⟩
    · have := hH.mono 0 N (Nat.zero_le _) (Nat.le_refl _); exact Ren.cut_of (j.sub b y h) (by omega)
    · have := hH.mono (p + 1) N (by omega) (Nat.le_refl _); exact Ren.cut_of (j.sub b y h) (by omega)
  n := hH.mono 0 N (Nat.zero_le _) (Nat.le_refl _)
  lo := hl
  low := hlow
  img := fun b y c x hb hy hs r => j.img b N y c x hb ⟨Nat.le_refl _, Nat.le_refl _, .inl rfl, hy⟩ hs (Ren.cut_sub _ _ _ _ r)
  size := j.size
  mem := j.mem
  os := j.os
  tape := j.tape
  output := j.output
  new := fun b y h hb => by
    rcases j.dom b y (Ren.cut_sub _ _ _ _ h) with ⟨_, h2⟩ | ⟨p, h1, _, h3, _⟩
    · exact h2
    · have := hH.mono 0 p (Nat.zero_le _) (by omega); omega
  like := j.like
end Go.Clo

namespace Go.Clo
open Go

variable {T : Tb} {a : AF} {o : Oper}

theorem gOp_any {h h' : Hp} {nx : ANx} (e : gOp T a o h = some (nx, h')) : ∀ h2 : Hp, gOp T a o h2 = some (nx, h2) := by
  unfold gOp at e ⊢
  split at e
  · rename_i l hl
    replace e := cond_none e; obtain ⟨hg, e⟩ := e
    split at e
    · rename_i v hv
      replace e := cond_none e; obtain ⟨hgv, e⟩ := e
      obtain ⟨rfl, rfl⟩ := v1_some e
      exact fun h2 => by simp [hl, hg, hv, hgv, v1]
    · cases e
  · cases e

/-- what does not read the heap is the same over any -/
theorem cls0n {h h' : Hp} {nx : ANx} (hc : cls o = 0) (hr : rdMem o = false) (e : aop T a o h = some (nx, h')) : ∀ h2 : Hp, aop T a o h2 = some (nx, h2) := by
  cases ho : o.op with
  | move y => simp only [aop, opPickA, opAllocA, opBoxA, opLoadA, opStoreA, opNilCheckA, opFieldAddrA, opFieldA, opIndexAddrA, opIndexA, opSliceA, opBuildA, opBuildSliceA, opMakeSliceA, opMakeMapA, opLookupA, opMapUpdateA, opRangeA, opNextA, opExtractA, opMakeInterfaceA, opMakeFuncA, opTypeAssertA, opCallA, opDeferA, opPanicA, opBinOpA, opConvertA, opUnOpA, ho] at e ⊢; obtain ⟨v, h1, rfl, rfl⟩ := retV_some e; exact fun h2 => (by first | rfl | (simp only [v1, retV, *]; done) | (simp [v1, retV, *]; done) | (simp_all [v1, retV]; done))
  | assign y => simp only [aop, opPickA, opAllocA, opBoxA, opLoadA, opStoreA, opNilCheckA, opFieldAddrA, opFieldA, opIndexAddrA, opIndexA, opSliceA, opBuildA, opBuildSliceA, opMakeSliceA, opMakeMapA, opLookupA, opMapUpdateA, opRangeA, opNextA, opExtractA, opMakeInterfaceA, opMakeFuncA, opTypeAssertA, opCallA, opDeferA, opPanicA, opBinOpA, opConvertA, opUnOpA, ho] at e ⊢; obtain ⟨v, h1, rfl, rfl⟩ := retV_some e; exact fun h2 => (by first | rfl | (simp only [v1, retV, *]; done) | (simp [v1, retV, *]; done) | (simp_all [v1, retV]; done))
  | pick c y z =>
    simp only [aop, opPickA, opAllocA, opBoxA, opLoadA, opStoreA, opNilCheckA, opFieldAddrA, opFieldA, opIndexAddrA, opIndexA, opSliceA, opBuildA, opBuildSliceA, opMakeSliceA, opMakeMapA, opLookupA, opMapUpdateA, opRangeA, opNextA, opExtractA, opMakeInterfaceA, opMakeFuncA, opTypeAssertA, opCallA, opDeferA, opPanicA, opBinOpA, opConvertA, opUnOpA, ho] at e ⊢
    split at e
    · rename_i b hb; obtain ⟨v, h1, rfl, rfl⟩ := retV_some e; exact fun h2 => (by first | rfl | (simp only [v1, retV, *]; done) | (simp [v1, retV, *]; done) | (simp_all [v1, retV]; done))
    · cases e
  | load t y => simp [rdMem, ho] at hr
  | nilCheck y =>
    simp only [aop, opPickA, opAllocA, opBoxA, opLoadA, opStoreA, opNilCheckA, opFieldAddrA, opFieldA, opIndexAddrA, opIndexA, opSliceA, opBuildA, opBuildSliceA, opMakeSliceA, opMakeMapA, opLookupA, opMapUpdateA, opRangeA, opNextA, opExtractA, opMakeInterfaceA, opMakeFuncA, opTypeAssertA, opCallA, opDeferA, opPanicA, opBinOpA, opConvertA, opUnOpA, ho] at e ⊢
    split at e
    · rename_i p hp; obtain ⟨rfl, rfl⟩ := v1_some e; exact fun h2 => (by first | rfl | (simp only [v1, retV, *]; done) | (simp [v1, retV, *]; done) | (simp_all [v1, retV]; done))
    · cases e
  | fieldAddr s y f =>
    simp only [aop, opPickA, opAllocA, opBoxA, opLoadA, opStoreA, opNilCheckA, opFieldAddrA, opFieldA, opIndexAddrA, opIndexA, opSliceA, opBuildA, opBuildSliceA, opMakeSliceA, opMakeMapA, opLookupA, opMapUpdateA, opRangeA, opNextA, opExtractA, opMakeInterfaceA, opMakeFuncA, opTypeAssertA, opCallA, opDeferA, opPanicA, opBinOpA, opConvertA, opUnOpA, ho] at e ⊢
    split at e
    · rename_i fs p h1 h2
      split at e
      · rename_i fd h3
        split at e
        · rename_i sz h4
          replace e := cond_none e; obtain ⟨h5, e⟩ := e
          obtain ⟨rfl, rfl⟩ := v1_some e; exact fun h2 => (by first | rfl | (simp only [v1, retV, *]; done) | (simp [v1, retV, *]; done) | (simp_all [v1, retV]; done))
        · cases e
      · cases e
    · cases e
  | field s y f =>
    simp only [aop, opPickA, opAllocA, opBoxA, opLoadA, opStoreA, opNilCheckA, opFieldAddrA, opFieldA, opIndexAddrA, opIndexA, opSliceA, opBuildA, opBuildSliceA, opMakeSliceA, opMakeMapA, opLookupA, opMapUpdateA, opRangeA, opNextA, opExtractA, opMakeInterfaceA, opMakeFuncA, opTypeAssertA, opCallA, opDeferA, opPanicA, opBinOpA, opConvertA, opUnOpA, ho] at e ⊢
    split at e
    · rename_i fs p h1 h2
      split at e
      · rename_i fd h3
        obtain ⟨v, h4, rfl, rfl⟩ := retV_some e; exact fun h2 => (by first | rfl | (simp only [v1, retV, *]; done) | (simp [v1, retV, *]; done) | (simp_all [v1, retV]; done))
      · cases e
    · cases e
  | indexAddr t y z =>
    simp only [aop, opPickA, opAllocA, opBoxA, opLoadA, opStoreA, opNilCheckA, opFieldAddrA, opFieldA, opIndexAddrA, opIndexA, opSliceA, opBuildA, opBuildSliceA, opMakeSliceA, opMakeMapA, opLookupA, opMapUpdateA, opRangeA, opNextA, opExtractA, opMakeInterfaceA, opMakeFuncA, opTypeAssertA, opCallA, opDeferA, opPanicA, opBinOpA, opConvertA, opUnOpA, ho] at e ⊢
    split at e
    · rename_i len elem p v h1 h2 h3
      split at e
      · rename_i i sz h4 h5
        replace e := cond_none e; obtain ⟨h6, e⟩ := e
        obtain ⟨rfl, rfl⟩ := v1_some e; exact fun h2 => (by first | rfl | (simp only [v1, retV, *]; done) | (simp [v1, retV, *]; done) | (simp_all [v1, retV]; done))
      · cases e
    · rename_i elem p len cap v h1 h2 h3
      split at e
      · rename_i i sz h4 h5
        replace e := cond_none e; obtain ⟨h6, e⟩ := e
        obtain ⟨rfl, rfl⟩ := v1_some e; exact fun h2 => (by first | rfl | (simp only [v1, retV, *]; done) | (simp [v1, retV, *]; done) | (simp_all [v1, retV]; done))
      · cases e
    · cases e
  | index t y z =>
    simp only [aop, opPickA, opAllocA, opBoxA, opLoadA, opStoreA, opNilCheckA, opFieldAddrA, opFieldA, opIndexAddrA, opIndexA, opSliceA, opBuildA, opBuildSliceA, opMakeSliceA, opMakeMapA, opLookupA, opMapUpdateA, opRangeA, opNextA, opExtractA, opMakeInterfaceA, opMakeFuncA, opTypeAssertA, opCallA, opDeferA, opPanicA, opBinOpA, opConvertA, opUnOpA, ho] at e ⊢
    split at e
    · rename_i len elem cs v h1 h2 h3
      split at e
      · rename_i i sz h4 h5
        replace e := cond_none e; obtain ⟨h6, e⟩ := e
        obtain ⟨v, h7, rfl, rfl⟩ := retV_some e; exact fun h2 => by simp only [h6, cond_true, h7]; rfl
      · cases e
    · rename_i s v h1 h2 h3
      split at e
      · rename_i i h4
        split at e
        · rename_i b h5
          obtain ⟨rfl, rfl⟩ := v1_some e; exact fun h2 => (by first | rfl | (simp only [v1, retV, *]; done) | (simp [v1, retV, *]; done) | (simp_all [v1, retV]; done))
        · cases e
      · cases e
    · cases e
  | extract y i =>
    simp only [aop, opPickA, opAllocA, opBoxA, opLoadA, opStoreA, opNilCheckA, opFieldAddrA, opFieldA, opIndexAddrA, opIndexA, opSliceA, opBuildA, opBuildSliceA, opMakeSliceA, opMakeMapA, opLookupA, opMapUpdateA, opRangeA, opNextA, opExtractA, opMakeInterfaceA, opMakeFuncA, opTypeAssertA, opCallA, opDeferA, opPanicA, opBinOpA, opConvertA, opUnOpA, ho] at e ⊢
    split at e
    · rename_i vs h1; obtain ⟨v, h2, rfl, rfl⟩ := retV_some e; exact fun h2 => (by first | rfl | (simp only [v1, retV, *]; done) | (simp [v1, retV, *]; done) | (simp_all [v1, retV]; done))
    · cases e
  | makeInterface t y =>
    simp only [aop, opPickA, opAllocA, opBoxA, opLoadA, opStoreA, opNilCheckA, opFieldAddrA, opFieldA, opIndexAddrA, opIndexA, opSliceA, opBuildA, opBuildSliceA, opMakeSliceA, opMakeMapA, opLookupA, opMapUpdateA, opRangeA, opNextA, opExtractA, opMakeInterfaceA, opMakeFuncA, opTypeAssertA, opCallA, opDeferA, opPanicA, opBinOpA, opConvertA, opUnOpA, ho] at e ⊢
    split at e
    · cases e
    · rename_i d v hni h1 h2; obtain ⟨rfl, rfl⟩ := v1_some e
      exact fun h2 => rfl
    · cases e
  | makeFunc fn f c =>
    simp only [aop, opPickA, opAllocA, opBoxA, opLoadA, opStoreA, opNilCheckA, opFieldAddrA, opFieldA, opIndexAddrA, opIndexA, opSliceA, opBuildA, opBuildSliceA, opMakeSliceA, opMakeMapA, opLookupA, opMapUpdateA, opRangeA, opNextA, opExtractA, opMakeInterfaceA, opMakeFuncA, opTypeAssertA, opCallA, opDeferA, opPanicA, opBinOpA, opConvertA, opUnOpA, ho] at e ⊢
    split at e
    · cases e
    · rename_i hny
      split at e
      · rename_i l1 l2 h1 h2; obtain ⟨rfl, rfl⟩ := v1_some e
        exact fun h2 => rfl
      · cases e
  | binOp op t y z t' =>
    simp only [aop, opPickA, opAllocA, opBoxA, opLoadA, opStoreA, opNilCheckA, opFieldAddrA, opFieldA, opIndexAddrA, opIndexA, opSliceA, opBuildA, opBuildSliceA, opMakeSliceA, opMakeMapA, opLookupA, opMapUpdateA, opRangeA, opNextA, opExtractA, opMakeInterfaceA, opMakeFuncA, opTypeAssertA, opCallA, opDeferA, opPanicA, opBinOpA, opConvertA, opUnOpA, ho] at e ⊢
    split at e
    · rename_i u v h1 h2
      split at e
      · rename_i r h3; obtain ⟨rfl, rfl⟩ := v1_some e; exact fun h2 => (by first | rfl | (simp only [v1, retV, *]; done) | (simp [v1, retV, *]; done) | (simp_all [v1, retV]; done))
      · rename_i h3
        split at e
        · rename_i r h4; obtain ⟨rfl, rfl⟩ := v1_some e; exact fun h2 => (by first | rfl | (simp only [v1, retV, *]; done) | (simp [v1, retV, *]; done) | (simp_all [v1, retV]; done))
        · rename_i h4; exact gOp_any e
    · cases e
  | unOp op t y =>
    simp only [aop, opPickA, opAllocA, opBoxA, opLoadA, opStoreA, opNilCheckA, opFieldAddrA, opFieldA, opIndexAddrA, opIndexA, opSliceA, opBuildA, opBuildSliceA, opMakeSliceA, opMakeMapA, opLookupA, opMapUpdateA, opRangeA, opNextA, opExtractA, opMakeInterfaceA, opMakeFuncA, opTypeAssertA, opCallA, opDeferA, opPanicA, opBinOpA, opConvertA, opUnOpA, ho] at e ⊢
    split at e
    · rename_i b h1; obtain ⟨rfl, rfl⟩ := v1_some e; exact fun h2 => (by first | rfl | (simp only [v1, retV, *]; done) | (simp [v1, retV, *]; done) | (simp_all [v1, retV]; done))
    · exact gOp_any e
  | build t ps =>
    simp only [aop, opPickA, opAllocA, opBoxA, opLoadA, opStoreA, opNilCheckA, opFieldAddrA, opFieldA, opIndexAddrA, opIndexA, opSliceA, opBuildA, opBuildSliceA, opMakeSliceA, opMakeMapA, opLookupA, opMapUpdateA, opRangeA, opNextA, opExtractA, opMakeInterfaceA, opMakeFuncA, opTypeAssertA, opCallA, opDeferA, opPanicA, opBinOpA, opConvertA, opUnOpA, ho] at e ⊢
    split at e
    · rename_i qs z fs h1 h2 h3
      split at e
      · rename_i l h4; obtain ⟨rfl, rfl⟩ := v1_some e; exact fun h2 => (by first | rfl | (simp only [v1, retV, *]; done) | (simp [v1, retV, *]; done) | (simp_all [v1, retV]; done))
      · cases e
    · rename_i qs z len elem h1 h2 h3
      split at e
      · rename_i sz h4
        split at e
        · rename_i l h5; obtain ⟨rfl, rfl⟩ := v1_some e; exact fun h2 => (by first | rfl | (simp only [v1, retV, *]; done) | (simp [v1, retV, *]; done) | (simp_all [v1, retV]; done))
        · cases e
      · cases e
    · cases e
  | convert s d y => simp [rdMem, ho] at hr
  | slice t y lo' hi mx => simp [rdMem, ho] at hr
  | lookup t y z ok => simp [rdMem, ho] at hr
  | typeAssert y xt t ok =>
    simp only [aop, opPickA, opAllocA, opBoxA, opLoadA, opStoreA, opNilCheckA, opFieldAddrA, opFieldA, opIndexAddrA, opIndexA, opSliceA, opBuildA, opBuildSliceA, opMakeSliceA, opMakeMapA, opLookupA, opMapUpdateA, opRangeA, opNextA, opExtractA, opMakeInterfaceA, opMakeFuncA, opTypeAssertA, opCallA, opDeferA, opPanicA, opBinOpA, opConvertA, opUnOpA, ho] at e ⊢
    split at e
    · cases e
    · split at e
      · rename_i t' v h3
        cases htt : Nat.beq t' t <;> cases ok <;> simp only [htt, cond_true, cond_false] at e ⊢
        · cases e
        · split at e
          · obtain ⟨rfl, rfl⟩ := v1_some e; exact fun h2 => rfl
          · cases e
        · obtain ⟨rfl, rfl⟩ := v1_some e; exact fun h2 => rfl
        · obtain ⟨rfl, rfl⟩ := v1_some e; exact fun h2 => rfl
      · cases ok <;> simp only [cond_true, cond_false] at e ⊢
        · cases e
        · split at e
          · obtain ⟨rfl, rfl⟩ := v1_some e; exact fun h2 => rfl
          · cases e
      · cases e
    · cases e
  | call c => simp [rdMem, ho] at hr
  | alloc | box | buildSlice | insert | store | ready | waits | sliceToArrayPointer | makeMap | makeChan | makeSlice | mapUpdate | mapEntry | entryStore | range | next | entry | go | defer | panic | send | recv | select => simp [cls, ho] at hc


/-! what a reading operation reads lies below the mark of its heap -/
def Low (n : Nat) (v : Value) : Prop := ∀ (σ : Ren) (u : Value), VR σ v u → VR (σ.cut n) v u

theorem Low.gr {n : Nat} {v : Value} (h : gr v = true) : Low n v := fun σ u hr => by
  have := hr.gr_eq h
  subst this; exact .of_gr h
theorem Low.ptr {n : Nat} {p : Addr} (h : p.block < n) : Low n (.pointer (some p)) := fun σ u hr => by
  cases hr
  exact .ptr (Ren.cut_of (by assumption) h)
theorem Low.slice {n : Nat} {p : Addr} {a b : Nat} (h : p.block < n) : Low n (.slice (some p) a b) := fun σ u hr => by
  cases hr
  · exact .slice _ _ (Ren.cut_of (by assumption) h)
  · exact .esl (Ren.cut_of (by assumption) h)
theorem Low.map {n r : Nat} (h : r < n) : Low n (.map (some r)) := fun σ u hr => by
  cases hr
  exact .map (Ren.cut_of (by assumption) h)

theorem natOf_gr {v : Value} {i : Nat} (h : natOf v = some i) : gr v = true := by
  unfold natOf at h
  split at h
  · rfl
  · cases h

theorem optNat_gr {d i : Nat} {ov : Option Value} (h : optNat d ov = some i) : ∀ v, ov = some v → gr v = true := by
  intro v hv
  subst hv
  exact natOf_gr h

theorem evO_mem {a : AF} {y : Option Operand} {ov : Option Value} (e : evO a y = some ov) {z : Operand} (hz : y = some z) {v : Value} (hv : a.eval z = some v) : ov = some v := by
  subst hz
  simp only [evO, hv] at e
  cases e; rfl

theorem evalL_mem : ∀ {l : List Operand} {vs : List Value}, evalL a l = some vs → ∀ y ∈ l, ∀ v, a.eval y = some v → v ∈ vs := by
  intro l
  induction l with
  | nil => intro vs _ y hy; cases hy
  | cons z l ih =>
    intro vs e y hy v hv
    rw [evalL_cons] at e
    split at e
    · rename_i v' hv'
      split at e
      · rename_i r hr
        cases e
        rcases List.mem_cons.1 hy with h | h
        · subst h; rw [hv'] at hv; cases hv; exact List.mem_cons_self
        · exact List.mem_cons_of_mem _ (ih hr y h v hv)
      · cases e
    · cases e

theorem gOp_low {h h' : Hp} {nx : ANx} {n : Nat} (e : gOp T a o h = some (nx, h')) : ∀ y ∈ o.op.operands.toList, ∀ v, a.eval y = some v → Low n v := by
  unfold gOp at e
  split at e
  · rename_i l hl
    replace e := cond_none e; obtain ⟨hg, e⟩ := e
    rw [allB_eq, List.all_eq_true] at hg
    intro y hy v hv
    exact Low.gr (hg v (evalL_mem hl y hy v hv))
  · cases e

theorem keyK_gr {kt : TypeId} {k : Value} (h : keyK T kt k = true) : gr k = true := by
  unfold keyK at h
  split at h <;> first | rfl | cases h

theorem keyG_gr {kt : TypeId} {k : Value} (h : keyG T kt k = true) : gr k = true := by
  unfold keyG at h
  split at h
  · exact kAgg_gr (kAggN_agg h)
  · cases h

theorem lookA_gr {kt : TypeId} {k : Value} {es : List MapEntry} {r : Option Value} (e : lookA T kt k es = some r) : gr k = true := by
  unfold lookA at e
  cases hk : keyK T kt k with
  | true => exact keyK_gr hk
  | false =>
    rw [hk, cond_false] at e
    replace e := cond_none e
    exact keyG_gr e.1

theorem cells_get {h : Hp} {b : Nat} {c : List Value} (e : h.cells b = some c) : ∃ y, h.get b = some y := by
  unfold Hp.cells at e
  split at e
  · rename_i y hy; exact ⟨y, hy⟩
  · cases e

theorem sliceOp_low {h h' : Hp} {nx : ANx} {n : Nat} {t : TypeId} {x : Value} {lo hi : Option Value} (e : sliceOp T t x lo hi none h = some (nx, h')) (hb : ∀ b y, h.get b = some y → b < n) :
    Low n x ∧ (∀ v, lo = some v → gr v = true) ∧ ∀ v, hi = some v → gr v = true := by
  unfold sliceOp at e
  split at e
  · split at e
    · rename_i l hh sz h5 h6 h7 _
      replace e := cond_none e; obtain ⟨h9, e⟩ := e
      refine ⟨?_, optNat_gr h6, optNat_gr h7⟩
      split at e
      · exact Low.gr rfl
      · split at e
        · rename_i h10; exact Low.slice (hb _ _ h10)
        · cases e
    · rename_i heq _ _ _; cases heq
    · cases e
  · split at e
    · rename_i l hh h6 h7
      exact ⟨Low.gr rfl, optNat_gr h6, optNat_gr h7⟩
    · cases e
  · split at e
    · rename_i h6 h7 h8 h10
      exact ⟨Low.ptr (hb _ _ h10), optNat_gr h6, optNat_gr h7⟩
    · cases e
  · cases e

theorem lenB_low {h h' : Hp} {nx : ANx} {n : Nat} {t : TypeId} {y : Value} (e : lenB T t y h = some (nx, h')) (hb : ∀ b y, h.get b = some y → b < n) : Low n y := by
  unfold lenB at e
  split at e
  · split at e
    · exact Low.gr rfl
    · split at e
      · rename_i h4; exact Low.slice (hb _ _ h4)
      · cases e
    · exact Low.gr rfl
    · exact Low.gr rfl
    · split at e
      · rename_i h4; exact Low.map (hb _ _ h4)
      · cases e
    · cases e
  · cases e

theorem aop_low {h h' : Hp} {nx : ANx} {n : Nat} (hc : cls o = 0) (hm : rdMem o = true) (e : aop T a o h = some (nx, h')) (hb : ∀ b y, h.get b = some y → b < n) : ∀ y ∈ o.op.operands.toList, ∀ v, a.eval y = some v → Low n v := by
  cases ho : o.op with
  | load t y =>
    simp only [aop, opPickA, opAllocA, opBoxA, opLoadA, opStoreA, opNilCheckA, opFieldAddrA, opFieldA, opIndexAddrA, opIndexA, opSliceA, opBuildA, opBuildSliceA, opMakeSliceA, opMakeMapA, opLookupA, opMapUpdateA, opRangeA, opNextA, opExtractA, opMakeInterfaceA, opMakeFuncA, opTypeAssertA, opCallA, opDeferA, opPanicA, opBinOpA, opConvertA, opUnOpA, ho] at e
    split at e
    · rename_i p hp
      obtain ⟨v, h1, rfl, rfl⟩ := retV_some e
      intro z hz v' hv'
      simp only [Op.operands, List.mem_singleton] at hz
      subst hz
      rw [hp] at hv'; cases hv'
      unfold Hp.load at h1
      split at h1
      · rename_i c hcl; obtain ⟨y', hy'⟩ := cells_get hcl; exact Low.ptr (hb _ _ hy')
      · cases h1
    · cases e
  | lookup t y z ok =>
    simp only [aop, opPickA, opAllocA, opBoxA, opLoadA, opStoreA, opNilCheckA, opFieldAddrA, opFieldA, opIndexAddrA, opIndexA, opSliceA, opBuildA, opBuildSliceA, opMakeSliceA, opMakeMapA, opLookupA, opMapUpdateA, opRangeA, opNextA, opExtractA, opMakeInterfaceA, opMakeFuncA, opTypeAssertA, opCallA, opDeferA, opPanicA, opBinOpA, opConvertA, opUnOpA, ho] at e
    split at e
    · rename_i kt elem r k h1 h2 h3
      split at e
      · rename_i es cl zv h4 h5
        have hk : gr k = true := by
          split at e
          · rename_i hl; exact lookA_gr hl
          · rename_i hl; exact lookA_gr hl
          · cases e
        intro z' hz' v' hv'
        simp only [Op.operands, List.mem_cons, List.not_mem_nil, or_false] at hz'
        rcases hz' with hz' | hz'
        · subst hz'; rw [h2] at hv'; cases hv'; exact Low.map (hb _ _ h4)
        · subst hz'; rw [h3] at hv'; cases hv'; exact Low.gr hk
      · cases e
    · cases e
  | convert s d y =>
    simp only [aop, opPickA, opAllocA, opBoxA, opLoadA, opStoreA, opNilCheckA, opFieldAddrA, opFieldA, opIndexAddrA, opIndexA, opSliceA, opBuildA, opBuildSliceA, opMakeSliceA, opMakeMapA, opLookupA, opMapUpdateA, opRangeA, opNextA, opExtractA, opMakeInterfaceA, opMakeFuncA, opTypeAssertA, opCallA, opDeferA, opPanicA, opBinOpA, opConvertA, opUnOpA, ho] at e
    split at e
    · rename_i el p len cap h1 h2 h3
      split at e
      · rename_i c h4 h5
        intro z hz v' hv'
        simp only [Op.operands, List.mem_singleton] at hz
        subst hz
        rw [h3] at hv'; cases hv'
        obtain ⟨y', hy'⟩ := cells_get h5
        exact Low.slice (hb _ _ hy')
      · cases e
    · have := gOp_low (n := n) e
      rw [ho] at this; exact this
  | slice t y lo hi mx =>
    cases mx with
    | some m => simp [cls, ho] at hc
    | none =>
      simp only [aop, opPickA, opAllocA, opBoxA, opLoadA, opStoreA, opNilCheckA, opFieldAddrA, opFieldA, opIndexAddrA, opIndexA, opSliceA, opBuildA, opBuildSliceA, opMakeSliceA, opMakeMapA, opLookupA, opMapUpdateA, opRangeA, opNextA, opExtractA, opMakeInterfaceA, opMakeFuncA, opTypeAssertA, opCallA, opDeferA, opPanicA, opBinOpA, opConvertA, opUnOpA, ho] at e
      split at e
      · rename_i v lo1 hi1 mx1 h1 h2 h3 h4
        have hmx : mx1 = none := by simpa [evO] using h4.symm
        subst hmx
        obtain ⟨q1, q2, q3⟩ := sliceOp_low e hb
        intro z hz v' hv'
        have hz' : z = y ∨ lo = some z ∨ hi = some z := by
          cases lo <;> cases hi <;> simp [Op.operands] at hz ⊢ <;> (first | exact hz | (rcases hz with h | h <;> simp [h]) | (rcases hz with h | h | h <;> simp [h]))
        rcases hz' with h | h | h
        · subst h; rw [h1] at hv'; cases hv'; exact q1
        · exact Low.gr (q2 _ (evO_mem h2 h hv'))
        · exact Low.gr (q3 _ (evO_mem h3 h hv'))
      · cases e
  | call c =>
    simp only [aop, opPickA, opAllocA, opBoxA, opLoadA, opStoreA, opNilCheckA, opFieldAddrA, opFieldA, opIndexAddrA, opIndexA, opSliceA, opBuildA, opBuildSliceA, opMakeSliceA, opMakeMapA, opLookupA, opMapUpdateA, opRangeA, opNextA, opExtractA, opMakeInterfaceA, opMakeFuncA, opTypeAssertA, opCallA, opDeferA, opPanicA, opBinOpA, opConvertA, opUnOpA, ho] at e
    split at e
    · rename_i t args hres
      have hbb : ∃ b, c.callee = .builtin b ∧ (b = .len ∨ b = .min ∨ b = .max) := by
        simp only [cls, ho] at hc
        obtain ⟨callee, cargs, cats⟩ := c
        cases callee with
        | builtin b => cases b <;> simp at hc ⊢
        | _ => simp at hc
      obtain ⟨b, hb1, hb2⟩ := hbb
      unfold resolveA at hres
      split at hres
      · rename_i vs hvs
        rw [hb1] at hres
        cases hres
        have hall : ∀ v ∈ args, Low n v := by
          have e' : builtinA T b c.argTypes.toList o.type args h = some (nx, h') := e
          rcases hb2 with rfl | rfl | rfl
          · revert e'
            generalize c.argTypes.toList = ats
            intro e'
            match args, ats, e' with
            | [y], [t], e' =>
              intro v hv
              rw [List.mem_singleton] at hv
              subst hv
              exact lenB_low e' hb
            | [], _, e' => cases e'
            | [_], [], e' => cases e'
            | [_], _ :: _ :: _, e' => cases e'
            | _ :: _ :: _, _, e' => cases e'
          · have key : builtinA T .min c.argTypes.toList o.type args h = cond (allB sc args) (match pureRun T.P (Builtin.min_ ⟨c.argTypes.toList⟩ o.type ⟨args⟩) with | some v => cond (sc v) (v1 v h) none | none => none) none := rfl
            rw [key] at e'
            have h1 := (cond_none e').1
            rw [allB_eq, List.all_eq_true] at h1
            intro v hv
            have := h1 v hv
            refine Low.gr ?_
            cases v <;> simp_all [sc, gr]
          · have key : builtinA T .max c.argTypes.toList o.type args h = cond (allB sc args) (match pureRun T.P (Builtin.max_ ⟨c.argTypes.toList⟩ o.type ⟨args⟩) with | some v => cond (sc v) (v1 v h) none | none => none) none := rfl
            rw [key] at e'
            have h1 := (cond_none e').1
            rw [allB_eq, List.all_eq_true] at h1
            intro v hv
            have := h1 v hv
            refine Low.gr ?_
            cases v <;> simp_all [sc, gr]
        intro z hz v' hv'
        have hz' : z ∈ c.args.toList := by
          have : (Op.call c).operands.toList = c.args.toList := by simp [Op.operands, Call.operands, hb1]
          rw [this] at hz; exact hz
        exact hall v' (evalL_mem hvs z hz' v' hv')
      · cases hres
    · cases e
  | _ => simp [rdMem, ho] at hm
end Go.Clo
