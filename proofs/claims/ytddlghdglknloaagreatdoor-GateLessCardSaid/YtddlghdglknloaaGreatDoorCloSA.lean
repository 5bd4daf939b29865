/- Contracts of functions that the laws of this seat call, or the evaluator of closed calls and its runs. Conditions: as each theorem states them. -/
import Derived.Test.YtddlghdglknloaaGreatDoorCloF
import Derived.Calls
import Derived.Laws.Entries
set_option linter.unusedVariables false
set_option linter.unusedSimpArgs false
/- Contracts of functions that the laws of this seat call, or the evaluator of closed calls and its runs. Conditions: as each theorem states them. -/
set_option linter.unusedVariables false
set_option linter.unusedSimpArgs false
namespace Go.Clo
open Go

/-! trees and lists -/
theorem Tr.get_e {α : Type} (k : Nat) : (Tr.e : Tr α).get k = none := rfl
theorem Tr.get_zero {α : Type} (t : Tr α) : t.get 0 = t.v := by cases t <;> rfl
theorem Tr.get_succ {α : Type} (t : Tr α) (k : Nat) : t.get (k + 1) = cond (Nat.beq (Nat.mod k 2) 0) (t.l.get (Nat.div k 2)) (t.r.get (Nat.div k 2)) := by
  cases t with
  | e => show none = _; cases Nat.beq (Nat.mod k 2) 0 <;> rfl
  | n l v r => rfl
theorem Tr.setF_zero {α : Type} (f : Nat) (t : Tr α) (x : α) : Tr.setF (f + 1) t 0 x = .n t.l (some x) t.r := by cases t <;> rfl
theorem Tr.setF_succ {α : Type} (f : Nat) (t : Tr α) (k : Nat) (x : α) : Tr.setF (f + 1) t (k + 1) x =
    cond (Nat.beq (Nat.mod k 2) 0) (.n (Tr.setF f t.l (Nat.div k 2) x) t.v t.r) (.n t.l t.v (Tr.setF f t.r (Nat.div k 2) x)) := by cases t <;> rfl

theorem mod_cases (k : Nat) : (Nat.beq (Nat.mod k 2) 0 = true ∧ k = 2 * (Nat.div k 2)) ∨ (Nat.beq (Nat.mod k 2) 0 = false ∧ k = 2 * (Nat.div k 2) + 1) := by
  have h1 : Nat.mod k 2 = k % 2 := rfl
  have h2 : Nat.div k 2 = k / 2 := rfl
  rw [h1, h2]
  rcases Nat.mod_two_eq_zero_or_one k with h | h
  · left; exact ⟨by rw [h]; rfl, by omega⟩
  · right; exact ⟨by rw [h]; rfl, by omega⟩

theorem Tr.get_setF {α : Type} : ∀ (f : Nat) (t : Tr α) (k : Nat) (x : α) (j : Nat), k + 1 < 2 ^ f → (Tr.setF f t k x).get j = if j = k then some x else t.get j := by
  intro f
  induction f with
  | zero => intro t k x j h; simp at h
  | succ f ih =>
    intro t k x j h
    cases k with
    | zero =>
      rw [Tr.setF_zero]
      cases j with
      | zero => simp [Tr.get_zero, Tr.v]
      | succ j => simp [Tr.get_succ, Tr.l, Tr.r]
    | succ k =>
      rw [Tr.setF_succ]
      have hk : Nat.div k 2 + 1 < 2 ^ f := by
        have : Nat.div k 2 = k / 2 := rfl
        rw [this, Nat.pow_succ] at *
        omega
      cases j with
      | zero => rcases mod_cases k with ⟨h1, _⟩ | ⟨h1, _⟩ <;> simp [h1, Tr.get_zero, Tr.v]
      | succ j =>
        rcases mod_cases k with ⟨h1, e1⟩ | ⟨h1, e1⟩ <;> rcases mod_cases j with ⟨h2, e2⟩ | ⟨h2, e2⟩ <;> simp only [h1, h2, Tr.get_succ, Tr.l, Tr.r, cond_true, cond_false]
        · rw [ih _ _ _ _ hk]
          by_cases hj : Nat.div j 2 = Nat.div k 2
          · rw [if_pos hj, if_pos (by omega)]
          · rw [if_neg hj, if_neg (by omega)]
        · rw [if_neg (by omega)]
        · rw [if_neg (by omega)]
        · rw [ih _ _ _ _ hk]
          by_cases hj : Nat.div j 2 = Nat.div k 2
          · rw [if_pos hj, if_pos (by omega)]
          · rw [if_neg hj, if_neg (by omega)]

theorem Tr.get_set {α : Type} (t : Tr α) (k : Nat) (x : α) (j : Nat) : (t.set k x).get j = if j = k then some x else t.get j := by
  unfold Tr.set
  refine Tr.get_setF _ _ _ _ _ ?_
  exact Nat.lt_log2_self

theorem nth_eq {α : Type} : ∀ (l : List α) (k : Nat), nth l k = l[k]? := by
  intro l
  induction l with
  | nil => intro k; rfl
  | cons x l ih =>
    intro k
    cases k with
    | zero => rfl
    | succ k => exact ih k

theorem dropR_eq {α : Type} : ∀ (n : Nat) (l : List α), dropR n l = l.drop n := by
  intro n
  induction n with
  | zero => intro l; rfl
  | succ n ih =>
    intro l
    cases l with
    | nil => exact (ih []).trans (by simp)
    | cons x l => exact ih l

theorem takeN_eq {α : Type} : ∀ (n : Nat) (l r : List α), takeN n l = some r → n ≤ l.length ∧ r = l.take n := by
  intro n
  induction n with
  | zero => intro l r h; cases h; simp
  | succ n ih =>
    intro l r h
    cases l with
    | nil => cases h
    | cons x l =>
      have h' : (match takeN n l with | none => none | some r => some (x :: r)) = some r := by
        rw [← h]
        show _ = (Option.casesOn (takeN n l) none (fun r => some (x :: r)) : Option (List α))
        cases takeN n l <;> rfl
      cases hr : takeN n l with
      | none => rw [hr] at h'; cases h'
      | some r' =>
        rw [hr] at h'
        cases h'
        obtain ⟨h1, h2⟩ := ih l r' hr
        exact ⟨by simp; exact h1, by simp [h2]⟩

theorem cut_eq {l r : List Value} {off n : Nat} (h : cut l off n = some r) : (n = 0 ∧ r = [] ∨ off + n ≤ l.length) ∧ r.length = n ∧ ∀ j, j < n → r[j]? = l[off + j]? := by
  unfold cut at h
  rw [dropR_eq] at h
  obtain ⟨h1, h2⟩ := takeN_eq _ _ _ h
  rw [List.length_drop] at h1
  subst h2
  refine ⟨?_, by simp; omega, fun j hj => by rw [List.getElem?_take_of_lt hj, List.getElem?_drop]⟩
  by_cases hn : n = 0
  · left; subst hn; simp
  · right; omega

theorem storeL_spec : ∀ (l : List Value) (k : Nat) (vs r : List Value), storeL l k vs = some r →
    (vs = [] ∨ k + vs.length ≤ l.length) ∧ r.length = l.length ∧ ∀ j, r[j]? = if k ≤ j ∧ j < k + vs.length then vs[j - k]? else l[j]? := by
  intro l
  induction l with
  | nil =>
    intro k vs r h
    cases vs with
    | nil => cases h; simp
    | cons v vs => cases h
  | cons x l ih =>
    intro k vs r h
    cases vs with
    | nil => cases h; exact ⟨.inl rfl, rfl, fun j => by rw [if_neg (by simp)]⟩
    | cons v vs =>
      cases k with
      | zero =>
        have h' : (match storeL l 0 vs with | none => none | some t => some (v :: t)) = some r := by
          rw [← h]; show _ = storeL (x :: l) 0 (v :: vs)
          show _ = (Option.casesOn (storeL l 0 vs) none (fun t => some (v :: t)) : Option (List Value))
          cases storeL l 0 vs <;> rfl
        cases hr : storeL l 0 vs with
        | none => rw [hr] at h'; cases h'
        | some t =>
          rw [hr] at h'; cases h'
          obtain ⟨h1, h2, h3⟩ := ih 0 vs t hr
          refine ⟨.inr ?_, by simp [h2], fun j => ?_⟩
          · simp only [List.length_cons]
            rcases h1 with rfl | h1
            · simp
            · omega
          · cases j with
            | zero => simp
            | succ j =>
              have := h3 j
              simp only [List.getElem?_cons_succ, this, List.length_cons]
              by_cases hj : j < vs.length
              · rw [if_pos ⟨by omega, by omega⟩, if_pos ⟨by omega, by omega⟩]; simp
              · rw [if_neg (by omega), if_neg (by omega)]
      | succ k =>
        have h' : (match storeL l k (v :: vs) with | none => none | some t => some (x :: t)) = some r := by
          rw [← h]
          show _ = (Option.casesOn (storeL l k (v :: vs)) none (fun t => some (x :: t)) : Option (List Value))
          cases storeL l k (v :: vs) <;> rfl
        cases hr : storeL l k (v :: vs) with
        | none => rw [hr] at h'; cases h'
        | some t =>
          rw [hr] at h'; cases h'
          obtain ⟨h1, h2, h3⟩ := ih k (v :: vs) t hr
          refine ⟨.inr ?_, by simp [h2], fun j => ?_⟩
          · rcases h1 with h1 | h1
            · cases h1
            · simp only [List.length_cons] at *; omega
          · cases j with
            | zero => simp
            | succ j =>
              have := h3 j
              simp only [List.getElem?_cons_succ, this]
              by_cases hj : k ≤ j ∧ j < k + (v :: vs).length
              · rw [if_pos hj, if_pos ⟨by omega, by omega⟩, Nat.add_sub_add_right]
              · rw [if_neg hj, if_neg (by omega)]

theorem allB_eq {α : Type} (f : α → Bool) : ∀ (l : List α), allB f l = l.all f := by
  intro l
  induction l with
  | nil => rfl
  | cons x l ih =>
    show cond (f x) (allB f l) false = _
    rw [ih]; cases hx : f x <;> simp [hx]

/-! renaming -/
abbrev Ren := Nat → Option (Nat × Nat)

def FnR (σ : Ren) : Fn → Fn → Prop
  | .yield l, .yield c => ∃ x, σ l = some (c, x)
  | .yield _, _ => False
  | f, g => f = g

mutual
inductive VR (σ : Ren) : Value → Value → Prop
  | bool (b : Bool) : VR σ (.bool b) (.bool b)
  | int (k : IntKind) (n : Int) : VR σ (.int k n) (.int k n)
  | float (k : FloatKind) (n : Nat) : VR σ (.float k n) (.float k n)
  | complex (k : FloatKind) (n m : Nat) : VR σ (.complex k n m) (.complex k n m)
  | string (s : ByteArray) : VR σ (.string s) (.string s)
  | nilPtr : VR σ (.pointer none) (.pointer none)
  | ptr {b c x o : Nat} (h : σ b = some (c, x)) : VR σ (.pointer (some ⟨b, o, none⟩)) (.pointer (some ⟨c, o, none⟩))
  | nilSlice (l k : Nat) : VR σ (.slice none l k) (.slice none l k)
  | slice {b c x o : Nat} (l k : Nat) (h : σ b = some (c, x)) : VR σ (.slice (some ⟨b, o, none⟩) l k) (.slice (some ⟨c, o, none⟩) l (k + x))
  | esl {b c o o' : Nat} (h : σ b = some (c, 0)) : VR σ (.slice (some ⟨b, o, none⟩) 0 0) (.slice (some ⟨c, o', none⟩) 0 0)
  | nilMap : VR σ (.map none) (.map none)
  | map {b c x : Nat} (h : σ b = some (c, x)) : VR σ (.map (some b)) (.map (some c))
  | nilFunc : VR σ .nilFunc .nilFunc
  | nilIface : VR σ .nilIface .nilIface
  | func {f g : Fn} {a b c d : List Value} (hf : FnR σ f g) (h1 : VRs σ a b) (h2 : VRs σ c d) : VR σ (.func f ⟨a⟩ ⟨c⟩) (.func g ⟨b⟩ ⟨d⟩)
  | iface (t : TypeId) {v u : Value} (h : VR σ v u) : VR σ (.iface t v) (.iface t u)
  | agg {a b : List Value} (h : VRs σ a b) : VR σ (.agg ⟨a⟩) (.agg ⟨b⟩)
  | tuple {a b : List Value} (h : VRs σ a b) : VR σ (.tuple ⟨a⟩) (.tuple ⟨b⟩)
inductive VRs (σ : Ren) : List Value → List Value → Prop
  | nil : VRs σ [] []
  | cons {v u : Value} {a b : List Value} (h : VR σ v u) (t : VRs σ a b) : VRs σ (v :: a) (u :: b)
end

def Sub (σ σ' : Ren) : Prop := ∀ b y, σ b = some y → σ' b = some y

theorem Sub.refl (σ : Ren) : Sub σ σ := fun _ _ h => h
theorem Sub.trans {σ σ' σ'' : Ren} (h : Sub σ σ') (h' : Sub σ' σ'') : Sub σ σ'' := fun _ _ e => h' _ _ (h _ _ e)

theorem FnR.mono {σ σ' : Ren} (hs : Sub σ σ') {f g : Fn} (h : FnR σ f g) : FnR σ' f g := by
  cases f <;> cases g <;> simp_all [FnR]
  obtain ⟨x, hx⟩ := h
  exact ⟨x, hs _ _ hx⟩

mutual
theorem VR.mono {σ σ' : Ren} (hs : Sub σ σ') : ∀ {v u : Value}, VR σ v u → VR σ' v u
  | _, _, .bool b => .bool b
  | _, _, .int k n => .int k n
  | _, _, .float k n => .float k n
  | _, _, .complex k n m => .complex k n m
  | _, _, .string s => .string s
  | _, _, .nilPtr => .nilPtr
  | _, _, .ptr h => .ptr (hs _ _ h)
  | _, _, .nilSlice l k => .nilSlice l k
  | _, _, .slice l k h => .slice l k (hs _ _ h)
  | _, _, .esl h => .esl (hs _ _ h)
  | _, _, .nilMap => .nilMap
  | _, _, .map h => .map (hs _ _ h)
  | _, _, .nilFunc => .nilFunc
  | _, _, .nilIface => .nilIface
  | _, _, .func hf h1 h2 => .func (hf.mono hs) (VRs.mono hs h1) (VRs.mono hs h2)
  | _, _, .iface t h => .iface t (VR.mono hs h)
  | _, _, .agg h => .agg (VRs.mono hs h)
  | _, _, .tuple h => .tuple (VRs.mono hs h)
theorem VRs.mono {σ σ' : Ren} (hs : Sub σ σ') : ∀ {a b : List Value}, VRs σ a b → VRs σ' a b
  | _, _, .nil => .nil
  | _, _, .cons h t => .cons (VR.mono hs h) (VRs.mono hs t)
end

theorem VRs.length {σ : Ren} : ∀ {a b : List Value}, VRs σ a b → a.length = b.length
  | _, _, .nil => rfl
  | _, _, .cons _ t => by simp [VRs.length t]

theorem VRs.get {σ : Ren} : ∀ {a b : List Value}, VRs σ a b → ∀ {i : Nat} {v : Value}, a[i]? = some v → ∃ u, b[i]? = some u ∧ VR σ v u
  | _, _, .nil, _, _, h => by simp at h
  | _, _, .cons (v := v) (u := u) h t, 0, _, e => by simp at e; subst e; exact ⟨u, by simp, h⟩
  | _, _, .cons h t, i + 1, _, e => by simp at e; obtain ⟨u, h1, h2⟩ := VRs.get t e; exact ⟨u, by simpa using h1, h2⟩

theorem VRs.of_get {σ : Ren} : ∀ {a b : List Value}, a.length = b.length → (∀ (i : Nat) (v : Value), a[i]? = some v → ∃ u, b[i]? = some u ∧ VR σ v u) → VRs σ a b
  | [], [], _, _ => .nil
  | [], _ :: _, h, _ => by simp at h
  | _ :: _, [], h, _ => by simp at h
  | v :: a, u :: b, h, hg => by
    refine .cons ?_ (VRs.of_get (by simpa using h) fun i w hw => ?_)
    · obtain ⟨u', h1, h2⟩ := hg 0 v (by simp)
      simp at h1; subst h1; exact h2
    · obtain ⟨u', h1, h2⟩ := hg (i + 1) w (by simpa using hw)
      exact ⟨u', by simpa using h1, h2⟩

theorem VRs.append {σ : Ren} : ∀ {a b c d : List Value}, VRs σ a b → VRs σ c d → VRs σ (a ++ c) (b ++ d)
  | _, _, _, _, .nil, h => h
  | _, _, _, _, .cons h t, h' => .cons h (VRs.append t h')

/-- plain values rename to themselves -/
theorem VR.of_sc {σ : Ren} {v : Value} (h : sc v = true) : VR σ v v := by
  unfold sc at h
  split at h <;> first | exact .bool _ | exact .int _ _ | exact .string _ | exact .nilFunc | exact .nilIface | exact .nilPtr | exact .nilSlice _ _ | exact .nilMap | cases h

theorem VRs.of_sc {σ : Ren} : ∀ {l : List Value}, l.all sc = true → VRs σ l l
  | [], _ => .nil
  | v :: l, h => by simp at h; exact .cons (.of_sc h.1) (VRs.of_sc (by simpa using h.2))

theorem VR.of_gr {σ : Ren} {v : Value} (h : gr v = true) : VR σ v v := by
  unfold gr at h
  split at h
  · rw [allB_eq] at h; rename_i cs; obtain ⟨l⟩ := cs; exact .agg (.of_sc h)
  · rw [allB_eq] at h; rename_i cs; obtain ⟨l⟩ := cs; exact .tuple (.of_sc h)
  · exact .iface _ (.of_sc h)
  · exact .of_sc h

theorem VR.sc_eq {σ : Ren} {v u : Value} (h : VR σ v u) (hs : sc v = true) : u = v := by
  cases h <;> simp_all [sc]

theorem VRs.sc_eq {σ : Ren} : ∀ {a b : List Value}, VRs σ a b → a.all sc = true → b = a
  | _, _, .nil, _ => rfl
  | _, _, .cons h t, hs => by simp at hs; rw [VR.sc_eq h hs.1, VRs.sc_eq t (by simpa using hs.2)]

theorem VR.gr_eq {σ : Ren} {v u : Value} (h : VR σ v u) (hs : gr v = true) : u = v := by
  cases h with
  | agg h => unfold gr at hs; simp only [allB_eq] at hs; rw [VRs.sc_eq h hs]
  | tuple h => unfold gr at hs; simp only [allB_eq] at hs; rw [VRs.sc_eq h hs]
  | iface t h => unfold gr at hs; simp only at hs; rw [VR.sc_eq h hs]
  | bool | int | float | complex | string | nilPtr | nilSlice | nilMap | nilFunc | nilIface => rfl
  | ptr h => simp [gr, sc] at hs
  | slice l k h => simp [gr, sc] at hs
  | esl h => simp [gr, sc] at hs
  | map h => simp [gr, sc] at hs
  | func hf h1 h2 => simp [gr, sc] at hs

theorem VRs.gr_eq {σ : Ren} : ∀ {a b : List Value}, VRs σ a b → a.all gr = true → b = a
  | _, _, .nil, _ => rfl
  | _, _, .cons h t, hs => by simp at hs; rw [VR.gr_eq h hs.1, VRs.gr_eq t (by simpa using hs.2)]

theorem VR.cells {σ : Ren} {v u : Value} (h : VR σ v u) : VRs σ (cellsL v) u.cells.toList := by
  cases h with
  | agg h => simpa [cellsL, Value.cells] using h
  | tuple h => simp [cellsL, Value.cells]; exact .cons (.tuple h) .nil
  | bool => simp [cellsL, Value.cells]; exact .cons (.bool _) .nil
  | int => simp [cellsL, Value.cells]; exact .cons (.int _ _) .nil
  | float => simp [cellsL, Value.cells]; exact .cons (.float _ _) .nil
  | complex => simp [cellsL, Value.cells]; exact .cons (.complex _ _ _) .nil
  | string => simp [cellsL, Value.cells]; exact .cons (.string _) .nil
  | nilPtr => simp [cellsL, Value.cells]; exact .cons .nilPtr .nil
  | ptr h => simp [cellsL, Value.cells]; exact .cons (.ptr h) .nil
  | nilSlice => simp [cellsL, Value.cells]; exact .cons (.nilSlice _ _) .nil
  | slice l k h => simp [cellsL, Value.cells]; exact .cons (.slice l k h) .nil
  | esl h => simp [cellsL, Value.cells]; exact .cons (.esl h) .nil
  | nilMap => simp [cellsL, Value.cells]; exact .cons .nilMap .nil
  | map h => simp [cellsL, Value.cells]; exact .cons (.map h) .nil
  | nilFunc => simp [cellsL, Value.cells]; exact .cons .nilFunc .nil
  | nilIface => simp [cellsL, Value.cells]; exact .cons .nilIface .nil
  | func hf h1 h2 => simp [cellsL, Value.cells]; exact .cons (.func hf h1 h2) .nil
  | iface t h => simp [cellsL, Value.cells]; exact .cons (.iface t h) .nil

theorem VR.okCell {σ : Ren} {v u : Value} (h : VR σ v u) (ho : okCell v = true) : okCell u = true := by
  cases h <;> simp_all [Clo.okCell]
end Go.Clo

namespace Go.Clo
open Go

inductive All2 {α β : Type} (R : α → β → Prop) : List α → List β → Prop
  | nil : All2 R [] []
  | cons {a : α} {b : β} {l : List α} {m : List β} (h : R a b) (t : All2 R l m) : All2 R (a :: l) (b :: m)

theorem All2.mono {α β : Type} {R S : α → β → Prop} (h : ∀ a b, R a b → S a b) : ∀ {l : List α} {m : List β}, All2 R l m → All2 S l m
  | _, _, .nil => .nil
  | _, _, .cons x t => .cons (h _ _ x) (All2.mono h t)
theorem All2.append {α β : Type} {R : α → β → Prop} : ∀ {l : List α} {m : List β} {l' : List α} {m' : List β}, All2 R l m → All2 R l' m' → All2 R (l ++ l') (m ++ m')
  | _, _, _, _, .nil, h => h
  | _, _, _, _, .cons x t, h => .cons x (All2.append t h)
theorem All2.length {α β : Type} {R : α → β → Prop} : ∀ {l : List α} {m : List β}, All2 R l m → l.length = m.length
  | _, _, .nil => rfl
  | _, _, .cons _ t => by simp [All2.length t]

def TgR (σ : Ren) : Target → Target → Prop
  | .fn f c, .fn g d => FnR σ f g ∧ VRs σ c.toList d.toList
  | .collected b, .collected c => ∃ x, σ b = some (c, x)
  | _, _ => False

structure DR (σ : Ren) (d e : Deferred) : Prop where
  t : TgR σ d.target e.target
  a : VRs σ d.args.toList e.args.toList

theorem DR.mono {σ σ' : Ren} (hs : Sub σ σ') (d e : Deferred) (h : DR σ d e) : DR σ' d e := by
  obtain ⟨t, a⟩ := h
  refine ⟨?_, a.mono hs⟩
  obtain ⟨dt, da⟩ := d
  obtain ⟨et, ea⟩ := e
  cases dt <;> cases et <;> simp_all [TgR]
  · exact ⟨t.1.mono hs, t.2.mono hs⟩
  · obtain ⟨x, hx⟩ := t; exact ⟨x, hs _ _ hx⟩

structure PR (σ : Ren) (p q : PanicEntry) : Prop where
  v : VR σ p.v q.v
  r : p.recovered = q.recovered
  g : p.goexit = q.goexit

theorem PR.mono {σ σ' : Ren} (hs : Sub σ σ') (p q : PanicEntry) (h : PR σ p q) : PR σ' p q := ⟨h.v.mono hs, h.r, h.g⟩

inductive MR (σ : Ren) : FrameMode → FrameMode → Prop
  | run : MR σ .run .run
  | returning : MR σ .returning .returning
  | panicking {a b : List PanicEntry} (h : All2 (PR σ) a b) : MR σ (.panicking a) (.panicking b)

theorem MR.mono {σ σ' : Ren} (hs : Sub σ σ') {m n : FrameMode} (h : MR σ m n) : MR σ' m n := by
  cases h with
  | run => exact .run
  | returning => exact .returning
  | panicking h => exact .panicking (h.mono (PR.mono hs))

theorem undefR (σ : Ren) : VR σ undef undef := .tuple .nil

noncomputable def tv (t : Tr Value) (i : Nat) : Value := match t.get i with | some v => v | none => undef

structure TmR (σ : Ren) (t : Tr Value) (sz : Nat) (a : Array Value) : Prop where
  size : a.size = sz
  val : ∀ i, VR σ (tv t i) (a.getD i undef)

theorem TmR.mono {σ σ' : Ren} (hs : Sub σ σ') {t : Tr Value} {sz : Nat} {a : Array Value} (h : TmR σ t sz a) : TmR σ' t sz a :=
  ⟨h.size, fun i => (h.val i).mono hs⟩

theorem getD_set (a : Array Value) (d : Nat) (v : Value) (i : Nat) (hd : d < a.size) : (a.setIfInBounds d v).getD i undef = if i = d then v else a.getD i undef := by
  simp only [Array.getD_eq_getD_getElem?, Array.getElem?_setIfInBounds]
  by_cases h : d = i
  · subst h; simp [hd]
  · rw [if_neg h, if_neg (fun e => h e.symm)]

theorem TmR.set {σ : Ren} {t : Tr Value} {sz : Nat} {a : Array Value} (h : TmR σ t sz a) {d : Nat} {v u : Value} (hd : d < sz) (hv : VR σ v u) :
    TmR σ (t.set d v) sz (a.setIfInBounds d u) := by
  refine ⟨by simp [h.size], fun i => ?_⟩
  rw [getD_set _ _ _ _ (by rw [h.size]; exact hd)]
  unfold tv
  rw [Tr.get_set]
  by_cases hi : i = d
  · simp [hi]; exact hv
  · simp only [if_neg hi]; exact h.val i

structure EnR (σ : Ren) (e f : MapEntry) : Prop where
  k : VR σ e.key f.key
  v : VR σ e.val f.val
  b : e.born = f.born

def BR (T : Tb) (σ : Ren) (y : ABlk) (x : Nat) (o : Option Obj) : Prop :=
  match y with
  | .dead => True
  | .cells c e ex => ∃ c' : Array Value, o = some (.cells c' e (0, 0)) ∧ (∀ (i : Nat) (v : Value), c[i]? = some v → ∃ u, c'[i]? = some u ∧ VR σ v u) ∧
      (ex = true → x = 0) ∧ (ex = false → ∃ i, T.info.get e = some i ∧ c.length + x * i.size ≤ c'.size)
  | .map es cl => ∃ es' : Array MapEntry, o = some (.map es' cl) ∧ All2 (EnR σ) es es'.toList
  | .iter s p => o = some (.stringIter s p)
  | .loop st p fn tm sz ps as bd d => ∃ (l : Loop) (x' : Nat), o = some (.loop l) ∧ l.state = st ∧ l.pending = p ∧ l.fn = fn ∧ TmR σ tm sz l.tmps ∧ l.params.toList = ps ∧ l.assign = as ∧ l.body = bd ∧ σ d = some (l.defers, x')
  | .defs none => o = some (.deferred none)
  | .defs (some l) => ∃ l', o = some (.deferred (some l')) ∧ All2 (DR σ) l l'

theorem BR.mono {T : Tb} {σ σ' : Ren} (hs : Sub σ σ') {y : ABlk} {x : Nat} {o : Option Obj} (h : BR T σ y x o) : BR T σ' y x o := by
  unfold BR at h ⊢
  split
  · trivial
  · obtain ⟨c', ho, hc, r1, r2⟩ := h
    exact ⟨c', ho, fun i v hi => let ⟨u, a, b⟩ := hc i v hi; ⟨u, a, b.mono hs⟩, r1, r2⟩
  · obtain ⟨es', ho, ha⟩ := h
    exact ⟨es', ho, ha.mono fun a b e => ⟨e.k.mono hs, e.v.mono hs, e.b⟩⟩
  · exact h
  · obtain ⟨l, x', ho, a1, a2, a3, a4, a5, a6, a7, a8⟩ := h
    exact ⟨l, x', ho, a1, a2, a3, a4.mono hs, a5, a6, a7, hs _ _ a8⟩
  · exact h
  · obtain ⟨l', ho, ha⟩ := h
    exact ⟨l', ho, ha.mono (DR.mono hs)⟩

def solid : ABlk → Bool
  | .dead => false
  | .cells [] _ _ => false
  | _ => true

structure HR (T : Tb) (σ : Ren) (h : Hp) (w : World) : Prop where
  dom : ∀ b y, σ b = some y → b < h.n
  rng : ∀ b c x, σ b = some (c, x) → c < w.heap.size
  bnd : ∀ b y, h.get b = some y → b < h.n
  blk : ∀ b y c x, h.get b = some y → σ b = some (c, x) → BR T σ y x w.heap[c]?
  inj : ∀ b b' y y' c x x', h.get b = some y → h.get b' = some y' → solid y = true → solid y' = true → σ b = some (c, x) → σ b' = some (c, x') → b = b'
  gl : Sub T.gl σ

def likeCells (o o' : Obj) : Prop := ∀ c e f, o = .cells c e f → ∃ c', o' = .cells c' e f ∧ c'.size = c.size

theorem likeCells.refl (o : Obj) : likeCells o o := fun c _ _ h => ⟨c, h, rfl⟩
theorem likeCells.trans {o o' o'' : Obj} (h : likeCells o o') (h' : likeCells o' o'') : likeCells o o'' := fun c e f he =>
  let ⟨c1, h1, h2⟩ := h c e f he
  let ⟨c2, h3, h4⟩ := h' c1 e f h1
  ⟨c2, h3, h4.trans h2⟩

/-- cells stay cells, of the same size -/
def LikeW (w w' : World) : Prop := ∀ (c : Nat) (o : Obj), w.heap[c]? = some o → ∃ o', w'.heap[c]? = some o' ∧ likeCells o o'
theorem LikeW.refl (w : World) : LikeW w w := fun _ o h => ⟨o, h, .refl o⟩
theorem LikeW.trans {w w' w'' : World} (h : LikeW w w') (h' : LikeW w' w'') : LikeW w w'' := fun c o e =>
  let ⟨o1, h1, h2⟩ := h c o e
  let ⟨o2, h3, h4⟩ := h' c o1 h1
  ⟨o2, h3, h2.trans h4⟩

structure Keep (σ : Ren) (h : Hp) (w : World) (σ' : Ren) (h' : Hp) (w' : World) : Prop where
  sub : Sub σ σ'
  n : h.n ≤ h'.n
  lo : h'.lo = h.lo
  low : ∀ b, b < h.lo → h'.get b = h.get b
  img : ∀ b y c x, h.lo ≤ b → h'.get b = some y → solid y = true → σ' b = some (c, x) → w.heap.size ≤ c ∨ ∃ b0 y0 x0, h.lo ≤ b0 ∧ h.get b0 = some y0 ∧ solid y0 = true ∧ σ b0 = some (c, x0)
  size : w.heap.size ≤ w'.heap.size
  mem : ∀ c, c < w.heap.size → (∀ b y x, h.lo ≤ b → h.get b = some y → solid y = true → σ b ≠ some (c, x)) → w'.heap[c]? = w.heap[c]?
  os : w'.os = w.os
  tape : w'.tape = w.tape
  output : w'.output = w.output
  new : ∀ b y, σ' b = some y → b < h.n → σ b = some y
  like : LikeW w w'

theorem Keep.refl (σ : Ren) (h : Hp) (w : World) : Keep σ h w σ h w :=
  ⟨.refl σ, Nat.le_refl _, rfl, fun _ _ => rfl, fun b y c x hb hy hs e => .inr ⟨b, y, x, hb, hy, hs, e⟩, Nat.le_refl _, fun _ _ _ => rfl, rfl, rfl, rfl, fun _ _ e _ => e, .refl w⟩

theorem Keep.trans {σ σ' σ'' : Ren} {h h' h'' : Hp} {w w' w'' : World} (a : Keep σ h w σ' h' w') (b : Keep σ' h' w' σ'' h'' w'') : Keep σ h w σ'' h'' w'' where
  sub := a.sub.trans b.sub
  n := Nat.le_trans a.n b.n
  lo := b.lo.trans a.lo
  low := fun k hk => (b.low k (by rw [a.lo]; exact hk)).trans (a.low k hk)
  img := fun k y c x hk hy hs e => by
    rcases b.img k y c x (by rw [a.lo]; exact hk) hy hs e with h1 | ⟨b0, y0, x0, h1, h2, h3, h4⟩
    · exact .inl (Nat.le_trans a.size h1)
    · rw [a.lo] at h1; exact a.img b0 y0 c x0 h1 h2 h3 h4
  size := Nat.le_trans a.size b.size
  mem := fun c hc hn => by
    rw [b.mem c (Nat.lt_of_lt_of_le hc a.size) ?_]
    · exact a.mem c hc hn
    · intro k y x hk hy hs e
      rw [a.lo] at hk
      rcases a.img k y c x hk hy hs e with h1 | ⟨b0, y0, x0, h1, h2, h3, h4⟩
      · omega
      · exact hn b0 y0 x0 h1 h2 h3 h4
  os := b.os.trans a.os
  tape := b.tape.trans a.tape
  output := b.output.trans a.output
  new := fun k y e hk => a.new k y (b.new k y e (Nat.lt_of_lt_of_le hk a.n)) hk
  like := a.like.trans b.like

theorem Hp.get_add (h : Hp) (y : ABlk) (b : Nat) : (h.add y).get b = if b = h.n then some y else h.get b := by
  unfold Hp.add Hp.get; rw [Tr.get_set]

theorem Hp.put_spec {h h' : Hp} {k : Nat} {y : ABlk} (e : h.put k y = some h') : h.lo ≤ k ∧ h'.n = h.n ∧ h'.lo = h.lo ∧ ∀ b, h'.get b = if b = k then some y else h.get b := by
  change (cond (Nat.ble h.lo k) (some { t := h.t.set k y, n := h.n, lo := h.lo }) none) = some h' at e
  cases hb : Nat.ble h.lo k with
  | false => rw [hb] at e; cases e
  | true =>
    rw [hb] at e
    cases e
    exact ⟨Nat.le_of_ble_eq_true hb, rfl, rfl, fun b => by unfold Hp.get; rw [Tr.get_set]⟩

/-- the renaming with one block more -/
def Ren.up (σ : Ren) (n : Nat) (y : Nat × Nat) : Ren := fun b => if b = n then some y else σ b

theorem Ren.sub_up {T : Tb} {σ : Ren} {h : Hp} {w : World} (H : HR T σ h w) (y : Nat × Nat) : Sub σ (σ.up h.n y) := fun b z e => by
  have := H.dom b z e
  unfold Ren.up
  rw [if_neg (by omega)]; exact e

theorem Ren.new_up (σ : Ren) (n : Nat) (y : Nat × Nat) : ∀ b z, σ.up n y b = some z → b < n → σ b = some z := fun b z e hb => by
  unfold Ren.up at e; rw [if_neg (by omega)] at e; exact e

theorem Ren.up_self (σ : Ren) (n : Nat) (y : Nat × Nat) : σ.up n y n = some y := by unfold Ren.up; simp

variable {T : Tb} {P : Program} {σ : Ren} {h : Hp} {w : World}

theorem HR.lt (H : HR T σ h w) {b : Nat} {y : ABlk} (e : h.get b = some y) : b < h.n := by
  exact H.bnd _ _ e

/-- a new block in new memory -/
theorem HR.new (H : HR T σ h w) (y : ABlk) (x : Nat) (o : Obj) (hb : BR T (σ.up h.n (w.heap.size, x)) y x (some o)) (hlo : h.lo ≤ h.n) :
    HR T (σ.up h.n (w.heap.size, x)) (h.add y) { w with heap := w.heap.push o } ∧
    Keep σ h w (σ.up h.n (w.heap.size, x)) (h.add y) { w with heap := w.heap.push o } := by
  have hs := Ren.sub_up H (w.heap.size, x)
  refine ⟨⟨?_, ?_, ?_, ?_, ?_, H.gl.trans hs⟩, ⟨hs, Nat.le_succ _, rfl, ?_, ?_, ?_, ?_, rfl, rfl, rfl, Ren.new_up _ _ _, ?_⟩⟩
  · intro b z e
    show b < h.n + 1
    unfold Ren.up at e
    split at e
    · omega
    · have := H.dom b z e; omega
  · intro b c z e
    simp only [Array.size_push]
    unfold Ren.up at e
    split at e
    · cases e; omega
    · have := H.rng b c z e; omega
  · intro b z e
    rw [Hp.get_add] at e
    show b < h.n + 1
    split at e
    · omega
    · have := H.bnd _ _ e; omega
  · intro b z c x' e r
    rw [Hp.get_add] at e
    unfold Ren.up at r
    by_cases hbn : b = h.n
    · rw [if_pos hbn] at e r; cases e; cases r; simpa using hb
    · rw [if_neg hbn] at e r
      have h2 := H.blk b z c x' e r
      have := H.rng _ _ _ r
      simp only [Array.getElem?_push]
      rw [if_neg (by omega)]
      exact h2.mono hs
  · intro b b' z z' c x1 x2 e e' s s' r r'
    rw [Hp.get_add] at e e'
    unfold Ren.up at r r'
    by_cases h1 : b = h.n <;> by_cases h2 : b' = h.n
    · omega
    · rw [if_pos h1] at r; rw [if_neg h2] at r'; cases r
      have := H.rng _ _ _ r'; omega
    · rw [if_neg h1] at r; rw [if_pos h2] at r'; cases r'
      have := H.rng _ _ _ r; omega
    · rw [if_neg h1] at r e; rw [if_neg h2] at r' e'
      exact H.inj b b' z z' c x1 x2 e e' s s' r r'
  · intro b hb'
    rw [Hp.get_add, if_neg (by omega)]
  · intro b y' c z hb' hy' hs' e
    rw [Hp.get_add] at hy'
    unfold Ren.up at e
    by_cases hbn : b = h.n
    · rw [if_pos hbn] at e; cases e; exact .inl (Nat.le_refl _)
    · rw [if_neg hbn] at e hy'; exact .inr ⟨b, y', z, hb', hy', hs', e⟩
  · simp
  · intro c hc _
    simp only [Array.getElem?_push]
    rw [if_neg (by omega)]
  · intro c o2 ho2
    have hc := (Array.getElem?_eq_some_iff.1 ho2).1
    refine ⟨o2, ?_, .refl _⟩
    simp only [Array.getElem?_push]
    rw [if_neg (by omega)]; exact ho2

/-- a block is given up, and a new one lies where it lay -/
theorem HR.killNew (H : HR T σ h w) {k : Nat} {y0 : ABlk} {c0 x0 : Nat} {h1 : Hp} (hk : h.get k = some y0) (hs0 : solid y0 = true) (hσ : σ k = some (c0, x0)) (ek : h.put k .dead = some h1)
    (y : ABlk) (x : Nat) (w' : World) (hlo : h.lo ≤ h.n) (hw : w'.heap.size = w.heap.size) (hwm : ∀ c, c ≠ c0 → w'.heap[c]? = w.heap[c]?) (hlike : ∀ o, w.heap[c0]? = some o → ∃ o', w'.heap[c0]? = some o' ∧ (∀ cs e f, o = .cells cs e f → ∃ c', o' = .cells c' e f ∧ c'.size = cs.size))
    (how : w'.os = w.os ∧ w'.tape = w.tape ∧ w'.output = w.output)
    (hb : BR T (σ.up h.n (c0, x)) y x w'.heap[c0]?) :
    HR T (σ.up h.n (c0, x)) (h1.add y) w' ∧ Keep σ h w (σ.up h.n (c0, x)) (h1.add y) w' := by
  have hs := Ren.sub_up H (c0, x)
  obtain ⟨p1, p2, p3, p4⟩ := Hp.put_spec ek
  have hc : c0 < w.heap.size := H.rng _ _ _ hσ
  have hkn : k < h.n := H.dom _ _ hσ
  have hg : ∀ b, (h1.add y).get b = if b = h.n then some y else if b = k then some .dead else h.get b := by
    intro b; rw [Hp.get_add, p2, p4]
  refine ⟨⟨?_, ?_, ?_, ?_, ?_, H.gl.trans hs⟩, ⟨hs, by show h.n ≤ h1.n + 1; omega, p3, ?_, ?_, by omega, ?_, how.1, how.2.1, how.2.2, Ren.new_up _ _ _, ?_⟩⟩
  · intro b z e
    show b < h1.n + 1
    unfold Ren.up at e
    split at e
    · omega
    · have := H.dom b z e; omega
  · intro b c' z e
    rw [hw]
    unfold Ren.up at e
    split at e
    · cases e; exact hc
    · exact H.rng b c' z e
  · intro b z e
    rw [hg] at e
    show b < h1.n + 1
    by_cases hbn : b = h.n
    · omega
    · rw [if_neg hbn] at e
      by_cases hbk : b = k
      · have := H.bnd _ _ hk; omega
      · rw [if_neg hbk] at e; have := H.bnd _ _ e; omega
  · intro b z c' x' e r
    rw [hg] at e
    unfold Ren.up at r
    by_cases hbn : b = h.n
    · rw [if_pos hbn] at e r; cases e; cases r; exact hb
    · rw [if_neg hbn] at e r
      by_cases hbk : b = k
      · rw [if_pos hbk] at e; cases e; exact trivial
      · rw [if_neg hbk] at e
        have h1' := r
        have h2 := H.blk b z c' x' e r
        by_cases hcc : c' = c0
        · subst hcc
          by_cases hz : solid z = true
          · exact absurd (H.inj b k z y0 _ _ _ e hk hz hs0 h1' hσ) hbk
          · unfold solid at hz
            split at hz
            · trivial
            · simp only [BR] at h2 ⊢
              obtain ⟨cs', ho', _, r1, r2⟩ := h2
              obtain ⟨o', q1, q2⟩ := hlike _ ho'
              obtain ⟨c'', q3, q4⟩ := q2 _ _ _ rfl
              refine ⟨c'', by rw [q1, q3], fun i v hv => by simp at hv, r1, fun hx => ?_⟩
              rw [q4]; exact r2 hx
            · exact absurd rfl hz
        · rw [hwm _ hcc]; exact h2.mono hs
  · intro b b' z z' c' x1 x2 e e' s s' r r'
    rw [hg] at e e'
    unfold Ren.up at r r'
    have key : ∀ (b : Nat) (z : ABlk) (x1 : Nat), b ≠ h.n → (if b = k then some ABlk.dead else h.get b) = some z → solid z = true → σ b = some (c0, x1) → False := by
      intro b z x1 _ e s r
      by_cases hbk : b = k
      · rw [if_pos hbk] at e; cases e; simp [solid] at s
      · rw [if_neg hbk] at e
        exact hbk (H.inj b k z y0 _ _ _ e hk s hs0 r hσ)
    by_cases g1 : b = h.n <;> by_cases g2 : b' = h.n
    · omega
    · rw [if_pos g1] at r; rw [if_neg g2] at r' e'; cases r
      exact absurd r' (fun hh => key b' z' _ g2 e' s' hh)
    · rw [if_neg g1] at r e; rw [if_pos g2] at r'; cases r'
      exact absurd r (fun hh => key b z _ g1 e s hh)
    · rw [if_neg g1] at r e; rw [if_neg g2] at r' e'
      have d1 : b ≠ k := fun hbk => by rw [if_pos hbk] at e; cases e; simp [solid] at s
      have d2 : b' ≠ k := fun hbk => by rw [if_pos hbk] at e'; cases e'; simp [solid] at s'
      rw [if_neg d1] at e; rw [if_neg d2] at e'
      exact H.inj b b' z z' c' x1 x2 e e' s s' r r'
  · intro b hb'
    rw [hg, if_neg (by omega), if_neg (by omega)]
  · intro b y' c' z hb' hy' hs' e
    rw [hg] at hy'
    unfold Ren.up at e
    by_cases hbn : b = h.n
    · rw [if_pos hbn] at e; cases e; exact .inr ⟨k, y0, x0, p1, hk, hs0, hσ⟩
    · rw [if_neg hbn] at e hy'
      by_cases hbk : b = k
      · rw [if_pos hbk] at hy'; cases hy'; simp [solid] at hs'
      · rw [if_neg hbk] at hy'; exact .inr ⟨b, y', z, hb', hy', hs', e⟩
  · intro c' hc' hn
    refine hwm c' fun hcc => ?_
    subst hcc
    exact hn k y0 x0 p1 hk hs0 hσ
  · intro c' o2 ho2
    by_cases hcc : c' = c0
    · subst hcc; exact hlike _ ho2
    · exact ⟨o2, by rw [hwm _ hcc]; exact ho2, .refl _⟩

/-- an empty view of a block -/
theorem HR.newAt0 (H : HR T σ h w) {c : Nat} {el : TypeId} {arr : Array Value} (hc : c < w.heap.size) (hb : w.heap[c]? = some (.cells arr el (0, 0))) (hlo : h.lo ≤ h.n) :
    HR T (σ.up h.n (c, 0)) (h.add (.cells [] el true)) w ∧ Keep σ h w (σ.up h.n (c, 0)) (h.add (.cells [] el true)) w := by
  have hs := Ren.sub_up H (c, 0)
  refine ⟨⟨?_, ?_, ?_, ?_, ?_, H.gl.trans hs⟩, ⟨hs, Nat.le_succ _, rfl, ?_, ?_, Nat.le_refl _, fun _ _ _ => rfl, rfl, rfl, rfl, Ren.new_up _ _ _, .refl _⟩⟩
  · intro b z e
    show b < h.n + 1
    unfold Ren.up at e
    split at e
    · omega
    · have := H.dom b z e; omega
  · intro b c' z e
    unfold Ren.up at e
    split at e
    · cases e; exact hc
    · exact H.rng b c' z e
  · intro b z e
    rw [Hp.get_add] at e
    show b < h.n + 1
    split at e
    · omega
    · have := H.bnd _ _ e; omega
  · intro b z c' x' e r
    rw [Hp.get_add] at e
    unfold Ren.up at r
    by_cases hbn : b = h.n
    · rw [if_pos hbn] at e r; cases e; cases r
      exact ⟨arr, hb, fun i v hv => by simp at hv, fun _ => rfl, fun hx => by cases hx⟩
    · rw [if_neg hbn] at e r
      exact (H.blk b z c' x' e r).mono hs
  · intro b b' z z' c' x1 x2 e e' s s' r r'
    rw [Hp.get_add] at e e'
    unfold Ren.up at r r'
    by_cases h1 : b = h.n
    · rw [if_pos h1] at e; cases e; simp [solid] at s
    · by_cases h2 : b' = h.n
      · rw [if_pos h2] at e'; cases e'; simp [solid] at s'
      · rw [if_neg h1] at r e; rw [if_neg h2] at r' e'
        exact H.inj b b' z z' c' x1 x2 e e' s s' r r'
  · intro b hb'
    rw [Hp.get_add, if_neg (by omega)]
  · intro b y' c' z hb' hy' hs' e
    rw [Hp.get_add] at hy'
    unfold Ren.up at e
    by_cases hbn : b = h.n
    · rw [if_pos hbn] at hy'; cases hy'; simp [solid] at hs'
    · rw [if_neg hbn] at e hy'; exact .inr ⟨b, y', z, hb', hy', hs', e⟩


/-- a block is written -/
theorem HR.put (H : HR T σ h w) {k : Nat} {y y' : ABlk} {h' : Hp} {c x : Nat} {o o' : Obj} (e : h.put k y' = some h') (hk : h.get k = some y) (hs : solid y = true) (hσ : σ k = some (c, x))
    (ho : w.heap[c]? = some o) (hl : likeCells o o') (hb : BR T σ y' x (some o')) :
    HR T σ h' { w with heap := w.heap.setIfInBounds c o' } ∧ Keep σ h w σ h' { w with heap := w.heap.setIfInBounds c o' } := by
  obtain ⟨p1, p2, p3, p4⟩ := Hp.put_spec e
  have hcs : c < w.heap.size := H.rng _ _ _ hσ
  refine ⟨⟨?_, ?_, ?_, ?_, ?_, H.gl⟩, ⟨.refl σ, by rw [p2]; exact Nat.le_refl _, p3, ?_, ?_, by simp, ?_, rfl, rfl, rfl, fun _ _ e _ => e, ?_⟩⟩
  · intro b z e; rw [p2]; exact H.dom b z e
  · intro b c z e; simp only [Array.size_setIfInBounds]; exact H.rng b c z e
  · intro b z ez
    rw [p2]; rw [p4] at ez
    by_cases hbk : b = k
    · rw [hbk]; exact H.bnd _ _ hk
    · rw [if_neg hbk] at ez; exact H.bnd _ _ ez
  · intro b z c1 x1 ez h1
    rw [p4] at ez
    by_cases hbk : b = k
    · rw [if_pos hbk] at ez; cases ez; rw [hbk, hσ] at h1; cases h1; simpa [hcs] using hb
    · rw [if_neg hbk] at ez
      have h2 := H.blk b z c1 x1 ez h1
      by_cases hc1 : c1 = c
      · subst hc1
        by_cases hz : solid z = true
        · exact absurd (H.inj b k z y _ _ _ ez hk hz hs h1 hσ) hbk
        · unfold solid at hz
          split at hz
          · trivial
          · simp only [BR] at h2 ⊢
            obtain ⟨c', ho', _, r1, r2⟩ := h2
            rw [ho] at ho'
            cases ho'
            obtain ⟨c'', q1, q2⟩ := hl _ _ _ rfl
            refine ⟨c'', by simp [hcs, q1], fun i v hv => by simp at hv, r1, fun hx => ?_⟩
            rw [q2]; exact r2 hx
          · exact absurd rfl hz
      · simp only [Array.getElem?_setIfInBounds]
        rw [if_neg (fun hh => hc1 hh.symm)]
        exact h2
  · intro b b' z z' c1 x1 x2 e e' s s' r r'
    rw [p4] at e e'
    have key : ∀ (b : Nat) (z : ABlk), (if b = k then some y' else h.get b) = some z → solid z = true → ∃ z0, h.get b = some z0 ∧ solid z0 = true := by
      intro b z e s
      split at e
      · subst_vars; exact ⟨y, hk, hs⟩
      · exact ⟨z, e, s⟩
    obtain ⟨z0, q1, q2⟩ := key b z e s
    obtain ⟨z0', q3, q4⟩ := key b' z' e' s'
    exact H.inj b b' z0 z0' c1 x1 x2 q1 q3 q2 q4 r r'
  · intro b hb'
    rw [p4, if_neg (by omega)]
  · intro b y2 c2 x2 hb2 hy2 hs2 e2
    rw [p4] at hy2
    by_cases hbk : b = k
    · subst hbk; exact .inr ⟨b, y, x2, hb2, hk, hs, e2⟩
    · rw [if_neg hbk] at hy2; exact .inr ⟨b, y2, x2, hb2, hy2, hs2, e2⟩
  · intro c1 hc1 hn
    simp only [Array.getElem?_setIfInBounds]
    rw [if_neg]
    intro hcc
    subst hcc
    exact hn k y x p1 hk hs hσ
  · intro c1 o2 ho2
    simp only [Array.getElem?_setIfInBounds]
    by_cases hcc : c = c1
    · subst hcc
      rw [if_pos rfl, if_pos hcs]
      rw [ho] at ho2; cases ho2
      exact ⟨o', rfl, hl⟩
    · rw [if_neg hcc]; exact ⟨o2, ho2, .refl _⟩

theorem HR.putSame (H : HR T σ h w) {k : Nat} {h' : Hp} {y : ABlk} (hk : h.get k = some y) (e : h.put k y = some h') : HR T σ h' w ∧ Keep σ h w σ h' w := by
  obtain ⟨p1, p2, p3, p4⟩ := Hp.put_spec e
  have hg : ∀ b, h'.get b = h.get b := fun b => by rw [p4]; split <;> simp_all
  refine ⟨⟨?_, H.rng, ?_, ?_, ?_, H.gl⟩, ⟨.refl σ, by rw [p2]; exact Nat.le_refl _, p3, fun b _ => hg b, fun b y c x hb hy hs e => .inr ⟨b, y, x, hb, by rw [← hg]; exact hy, hs, e⟩, Nat.le_refl _, fun _ _ _ => rfl, rfl, rfl, rfl, fun _ _ e _ => e, .refl w⟩⟩
  · intro b z e; rw [p2]; exact H.dom b z e
  · intro b z e; rw [p2]; rw [hg] at e; exact H.bnd b z e
  · intro b z c x e r; rw [hg] at e; exact H.blk b z c x e r
  · intro b b' z z' c1 x1 x2 e e' s s' r r'
    rw [hg] at e e'
    exact H.inj b b' z z' c1 x1 x2 e e' s s' r r'

/-! memory -/
theorem add_mk (c o i : Nat) : (⟨c, o, none⟩ : Addr).add i = ⟨c, o + i, none⟩ := by
  unfold Addr.add
  split
  · subst_vars; rfl
  · rfl

theorem cell_of {w : World} {c o : Nat} {a : Array Value} {e : TypeId} {f : Nat × Nat} (h : w.heap[c]? = some (.cells a e f)) : w.cell? ⟨c, o, none⟩ = a[o]? := by
  simp [World.cell?, h]

theorem loadCellsFrom_run {w : World} {c o : Nat} {a : Array Value} {e : TypeId} {f : Nat × Nat} (h : w.heap[c]? = some (.cells a e f)) :
    ∀ (n i : Nat) (acc : Array Value), o + i + n ≤ a.size → ∃ r : Array Value, (loadCellsFrom ⟨c, o, none⟩ i n acc).run P w = .ok r w ∧ r.toList = acc.toList ++ (a.toList.drop (o + i)).take n := by
  intro n
  induction n with
  | zero => intro i acc _; exact ⟨acc, rfl, by simp⟩
  | succ n ih =>
    intro i acc hn
    have hlt : o + i < a.size := by omega
    obtain ⟨r, h1, h2⟩ := ih (i + 1) (acc.push a[o + i]) (by omega)
    refine ⟨r, ?_, ?_⟩
    · show (Sem.run P (Sem.bind (Go.load ((⟨c, o, none⟩ : Addr).add i)) fun v => loadCellsFrom ⟨c, o, none⟩ (i + 1) n (acc.push v)) w) = _
      simp only [Go.load, Sem.bind, Sem.run, add_mk, cell_of h, Array.getElem?_eq_getElem hlt]
      exact h1
    · rw [h2]
      have : a.toList.drop (o + i) = a[o + i] :: a.toList.drop (o + (i + 1)) := by
        rw [List.drop_eq_getElem_cons (by simpa using hlt)]
        simp [Nat.add_assoc]
      rw [this]
      simp

theorem loadCells_run {w : World} {c o n : Nat} {a : Array Value} {e : TypeId} {f : Nat × Nat} (h : w.heap[c]? = some (.cells a e f)) (hn : n = 0 ∨ o + n ≤ a.size) :
    ∃ r : Array Value, (loadCells ⟨c, o, none⟩ n).run P w = .ok r w ∧ r.toList.length = n ∧ ∀ j, j < n → r.toList[j]? = a[o + j]? := by
  rcases Nat.eq_zero_or_pos n with h0 | h0
  · subst h0; exact ⟨#[], rfl, rfl, fun j hj => by omega⟩
  · have hn' : o + n ≤ a.size := by omega
    obtain ⟨r, h1, h2⟩ := loadCellsFrom_run (P := P) (o := o) h n 0 #[] (by omega)
    refine ⟨r, h1, by rw [h2]; simp; omega, fun j hj => ?_⟩
    rw [h2]
    simp [List.getElem?_take_of_lt hj]

theorem storeCells_run : ∀ (vs : List Value) (i : Nat) (w : World) (c o : Nat) (a : Array Value) (e : TypeId), w.heap[c]? = some (.cells a e (0, 0)) → vs.all okCell = true → (vs = [] ∨ o + i + vs.length ≤ a.size) →
    ∃ a' : Array Value, (storeCells ⟨c, o, none⟩ vs i).run P w = .ok () { w with heap := w.heap.setIfInBounds c (.cells a' e (0, 0)) } ∧ a'.size = a.size ∧
      ∀ j, a'[j]? = if o + i ≤ j ∧ j < o + i + vs.length then vs[j - (o + i)]? else a[j]? := by
  intro vs
  induction vs with
  | nil =>
    intro i w c o a e h _ _
    refine ⟨a, ?_, rfl, fun j => by rw [if_neg (by simp)]⟩
    have hc : c < w.heap.size := (Array.getElem?_eq_some_iff.1 h).1
    have : w.heap.setIfInBounds c (.cells a e (0, 0)) = w.heap := by
      apply Array.ext_getElem?
      intro k
      simp only [Array.getElem?_setIfInBounds]
      by_cases hk : c = k
      · subst hk; rw [if_pos rfl, if_pos hc, h]
      · rw [if_neg hk]
    rw [this]; rfl
  | cons v vs ih =>
    intro i w c o a e h hok hn
    have hlt : o + i < a.size := by
      rcases hn with hn | hn
      · cases hn
      · simp at hn; omega
    have hc : c < w.heap.size := (Array.getElem?_eq_some_iff.1 h).1
    simp only [List.all_cons, Bool.and_eq_true] at hok
    have hfr : w.frozen? ⟨c, o + i, none⟩ = false := by simp [World.frozen?, h]
    have hset : w.setCell ⟨c, o + i, none⟩ v = { w with heap := w.heap.setIfInBounds c (.cells (a.setIfInBounds (o + i) v) e (0, 0)) } := by
      unfold World.setCell
      congr 1
      apply Array.ext_getElem?
      intro k
      simp only [Array.getElem?_modify, Array.getElem?_setIfInBounds]
      by_cases hk : c = k
      · subst hk; rw [if_pos rfl, if_pos rfl, if_pos hc, h]; rfl
      · rw [if_neg hk, if_neg hk]
    have hw : ({ w with heap := w.heap.setIfInBounds c (.cells (a.setIfInBounds (o + i) v) e (0, 0)) } : World).heap[c]? = some (.cells (a.setIfInBounds (o + i) v) e (0, 0)) := by simp [hc]
    obtain ⟨a', h1, h2, h3⟩ := ih (i + 1) _ c o (a.setIfInBounds (o + i) v) e hw hok.2 (by
      rcases hn with hn | hn
      · cases hn
      · right; simp at hn ⊢; omega)
    refine ⟨a', ?_, by simpa using h2, fun j => ?_⟩
    · show Sem.run P (Sem.bind (Go.store ((⟨c, o, none⟩ : Addr).add i) v) fun _ => storeCells ⟨c, o, none⟩ vs (i + 1)) w = _
      have hv : ∀ k : Sem Unit, Sem.run P (Sem.store .plain ⟨c, o + i, none⟩ v k) w = k.run P (w.setCell ⟨c, o + i, none⟩ v) := by
        intro k
        cases v <;> simp_all [Sem.run, cell_of h, okCell]
      simp only [Go.store, Sem.bind, add_mk]
      rw [hv, hset]
      rw [h1]
      congr 2
      apply Array.ext_getElem?
      intro k
      simp only [Array.getElem?_setIfInBounds, Array.size_setIfInBounds]
      by_cases hk : c = k
      · subst hk; rw [if_pos rfl, if_pos rfl]
      · rw [if_neg hk, if_neg hk, if_neg hk]
    · rw [h3 j]
      simp only [Array.getElem?_setIfInBounds, List.length_cons]
      by_cases hj : j = o + i
      · subst hj
        rw [if_neg (by omega), if_pos rfl, if_pos (by omega), if_pos ⟨by omega, by omega⟩]
        simp
      · by_cases hj2 : o + i + 1 ≤ j ∧ j < o + i + 1 + vs.length
        · rw [if_pos (by omega), if_pos (by omega)]
          have : j - (o + i) = (j - (o + (i + 1))) + 1 := by omega
          rw [this]; simp
        · rw [if_neg (by omega), if_neg (fun e => hj e.symm), if_neg (by omega)]
end Go.Clo

namespace Go.Clo
open Go

structure TbOK (T : Tb) : Prop where
  info : ∀ t i, T.info.get t = some i → T.P.info? t = some i
  und : ∀ t d, T.und.get t = some d → T.P.underlying t = some d
  fn : ∀ f x, T.fn.get f = some x → T.P.funcs[f]? = some x ∧ x.body.isSome = true ∧ x.name ≠ "runtime.NumGoroutine"
  ext : ∀ f e, T.ext.get f = some e → ∃ fn, T.P.funcs[f]? = some fn ∧ fn.name ≠ "runtime.NumGoroutine" ∧ fn.body = none ∧ Extern.findNext fn = none ∧ Extern.find fn = some e
  cl : ∀ f u, T.cl.get f = some u → ∃ fn, T.P.funcs[f]? = some fn ∧ fn.name ≠ "runtime.NumGoroutine" ∧ fn.body = none ∧ Extern.findNext fn = none ∧ Extern.find fn = some Extern.MapsClone.clone
  kq : ∀ t n, T.kq.get t = some n → ((∃ fs, T.P.underlying t = some (.struct fs)) ∨ ∃ m e, T.P.underlying t = some (.array m e)) ∧ ∀ (k1 k2 : Value), kAggN n k1 = true → kAggN n k2 = true → ∀ (w : World) (e : Bool),
    (Instr.checkKey e 10000 t k1).run T.P w = .ok () w ∧ (Op.equal t k1 k2).run T.P w = .ok (eqAgg k1 k2) w
  zero : ∀ t z, T.zero.get t = some z → gr z = true ∧ ∃ i, T.P.info? t = some i ∧ i.zero = some z ∧ z.cells.size = i.size

theorem pureRun_run {α : Type} (P : Program) : ∀ (s : Sem α) (a : α) (w : World), pureRun P s = some a → s.run P w = .ok a w
  | .pure a, b, w, h => by simp only [pureRun, Option.some.injEq] at h; subst h; rfl
  | .program k, b, w, h => by simp only [pureRun] at h; exact pureRun_run P (k P) b w h
  | .mark m k, b, w, h => by simp only [pureRun] at h; exact pureRun_run P k b w h
  | .load .., b, w, h | .store .., b, w, h | .new .., b, w, h | .shape .., b, w, h | .freeze .., b, w, h | .frozen .., b, w, h | .getObj .., b, w, h | .setObj .., b, w, h
  | .choose .., b, w, h | .sys .., b, w, h | .halt .., b, w, h => by simp [pureRun] at h

variable {T : Tb} {σ : Ren} {h h' : Hp} {w : World}

theorem run_typeInfo {P : Program} {t : TypeId} {i : TypeInfo} (h : P.info? t = some i) (w : World) : (typeInfo t).run P w = .ok i w := by
  simp [typeInfo, h]
theorem run_sizeOf' {P : Program} {t : TypeId} {i : TypeInfo} (h : P.info? t = some i) (w : World) : (sizeOf t).run P w = .ok i.size w := by
  simp [sizeOf, run_typeInfo h]
theorem run_zeroValue' {P : Program} {t : TypeId} {i : TypeInfo} {z : Value} (h : P.info? t = some i) (hz : i.zero = some z) (w : World) : (zeroValue t).run P w = .ok z w := by
  simp [zeroValue, run_typeInfo h, hz]

theorem size_spec (hT : TbOK T) {t : TypeId} {n : Nat} (e : T.size t = some n) (w : World) : (sizeOf t).run T.P w = .ok n w := by
  unfold Tb.size at e
  split at e
  · rename_i i hi; cases e; exact run_sizeOf' (hT.info _ _ hi) w
  · cases e

theorem isAgg_spec (hT : TbOK T) {t : TypeId} {b : Bool} (e : T.isAgg t = some b) (w : World) : (isAgg t).run T.P w = .ok b w := by
  unfold Tb.isAgg at e
  split at e
  · rename_i d hd
    have := run_underlying (hT.und _ _ hd) w
    split at e <;> cases e <;> simp [Go.isAgg, this]
    all_goals (cases d <;> simp_all)
  · cases e

theorem partA_spec (hT : TbOK T) {t : TypeId} {cs ds : List Value} {off : Nat} {v : Value} (e : partA T t cs off = some v) (hr : VRs σ cs ds) (w : World) :
    ∃ u, (part t ⟨ds⟩ off).run T.P w = .ok u w ∧ VR σ v u := by
  unfold partA at e
  split at e
  · rename_i ha
    split at e
    · rename_i n hn
      split at e
      · rename_i l hl
        cases e
        obtain ⟨h1, h2, h3⟩ := cut_eq hl
        refine ⟨.agg ((⟨ds⟩ : Array Value).extract off (off + n)), ?_, ?_⟩
        · simp [part, isAgg_spec hT ha, size_spec hT hn]
        · have hlen := hr.length
          have : VRs σ l (((⟨ds⟩ : Array Value).extract off (off + n)).toList) := by
            refine VRs.of_get ?_ fun i v hv => ?_
            · simp [h2]; omega
            · have hi : i < n := by rw [← h2]; exact (List.getElem?_eq_some_iff.1 hv).1
              rw [h3 i hi] at hv
              obtain ⟨u, hu, hvu⟩ := hr.get hv
              refine ⟨u, ?_, hvu⟩
              simp [hi, hu]
          exact .agg this
      · cases e
    · cases e
  · rename_i ha
    rw [nth_eq] at e
    obtain ⟨u, hu, hvu⟩ := hr.get e
    refine ⟨u, ?_, hvu⟩
    simp [part, isAgg_spec hT ha, hu]
  · cases e

theorem HR.cells (H : HR T σ h w) {b c x : Nat} {l : List Value} (e : h.cells b = some l) (hσ : σ b = some (c, x)) :
    ∃ el ex arr, h.get b = some (.cells l el ex) ∧ w.heap[c]? = some (.cells arr el (0, 0)) ∧ (∀ (i : Nat) (v : Value), l[i]? = some v → ∃ u, arr[i]? = some u ∧ VR σ v u) ∧
      (ex = true → x = 0) ∧ (ex = false → ∃ i, T.info.get el = some i ∧ l.length + x * i.size ≤ arr.size) := by
  unfold Hp.cells at e
  split at e
  · rename_i y hy
    split at e
    · cases e
      have h2 := H.blk _ _ _ _ hy hσ
      obtain ⟨arr, a1, a2, a3, a4⟩ := h2
      exact ⟨_, _, arr, hy, a1, a2, a3, a4⟩
    · cases e
  · cases e

theorem len_le_of_prefix {l : List Value} {arr : Array Value} (hp : ∀ (i : Nat) (v : Value), l[i]? = some v → ∃ u, arr[i]? = some u ∧ VR σ v u) : l.length ≤ arr.size := by
  rcases Nat.eq_zero_or_pos l.length with h0 | h0
  · omega
  · obtain ⟨u, hu, _⟩ := hp (l.length - 1) _ (List.getElem?_eq_getElem (by omega))
    have := (Array.getElem?_eq_some_iff.1 hu).1
    omega

theorem cutCells_spec (H : HR T σ h w) {b c x o n : Nat} {l r : List Value} (e : h.cells b = some l) (hσ : σ b = some (c, x)) (hc : cut l o n = some r) :
    ∃ us : Array Value, (loadCells ⟨c, o, none⟩ n).run T.P w = .ok us w ∧ VRs σ r us.toList := by
  obtain ⟨el, ex, arr, _, h2, h3, _⟩ := H.cells e hσ
  obtain ⟨q1, q2, q3⟩ := cut_eq hc
  have hle := len_le_of_prefix h3
  obtain ⟨us, r1, r2, r3⟩ := loadCells_run (P := T.P) (o := o) (n := n) h2 (by rcases q1 with ⟨h0, _⟩ | h0 <;> omega)
  refine ⟨us, r1, VRs.of_get (by rw [q2, r2]) fun i v hv => ?_⟩
  have hi : i < n := by rw [← q2]; exact (List.getElem?_eq_some_iff.1 hv).1
  rw [q3 i hi] at hv
  obtain ⟨u, hu, hvu⟩ := h3 _ _ hv
  exact ⟨u, by rw [r3 i hi]; exact hu, hvu⟩

theorem load_spec (hT : TbOK T) (H : HR T σ h w) {t : TypeId} {b c x o : Nat} {v : Value} (e : h.load T t ⟨b, o, none⟩ = some v) (hσ : σ b = some (c, x)) :
    ∃ u, (loadVar t ⟨c, o, none⟩).run T.P w = .ok u w ∧ VR σ v u := by
  unfold Hp.load at e
  split at e
  · rename_i l hl
    unfold partA at e
    split at e
    · rename_i ha
      split at e
      · rename_i n hn
        split at e
        · rename_i r hr
          cases e
          obtain ⟨us, r1, r2⟩ := cutCells_spec H hl hσ hr
          exact ⟨.agg us, by simp [loadVar, isAgg_spec hT ha, size_spec hT hn, r1], .agg r2⟩
        · cases e
      · cases e
    · rename_i ha
      rw [nth_eq] at e
      obtain ⟨el, ex, arr, _, h2, h3, _⟩ := H.cells hl hσ
      obtain ⟨u, hu, hvu⟩ := h3 _ _ e
      exact ⟨u, by simp [loadVar, isAgg_spec hT ha, cell_of h2, hu], hvu⟩
    · cases e
  · cases e

theorem VRs.okCell {σ : Ren} : ∀ {a b : List Value}, VRs σ a b → a.all Clo.okCell = true → b.all Clo.okCell = true
  | _, _, .nil, _ => rfl
  | _, _, .cons h t, hs => by
    simp only [List.all_cons, Bool.and_eq_true] at hs ⊢
    exact ⟨h.okCell hs.1, t.okCell hs.2⟩

theorem storeC_spec (H : HR T σ h w) {b c x o : Nat} {vs us : List Value} (e : h.storeC ⟨b, o, none⟩ vs = some h') (hσ : σ b = some (c, x)) (hr : VRs σ vs us) (hok : vs.all okCell = true) :
    ∃ w', (storeCells ⟨c, o, none⟩ us 0).run T.P w = .ok () w' ∧ HR T σ h' w' ∧ Keep σ h w σ h' w' := by
  unfold Hp.storeC at e
  split at e
  · rename_i y hy
    split at e
    · rename_i cs el ex
      split at e
      · rename_i cs' hcs
        obtain ⟨s1, s2, s3⟩ := storeL_spec _ _ _ _ (show storeL cs o vs = some cs' from hcs)
        have h2 := H.blk _ _ _ _ hy hσ
        obtain ⟨arr, a1, a2, a3, a4⟩ := h2
        have hle := len_le_of_prefix a2
        have hlen := hr.length
        obtain ⟨arr', r1, r2, r3⟩ := storeCells_run (P := T.P) us 0 w c o arr el a1 (hr.okCell hok) (by
          rcases s1 with s1 | s1
          · left; subst s1; cases hr; rfl
          · right; omega)
        by_cases hcs0 : cs = []
        · subst hcs0
          have : vs = [] := by
            rcases s1 with s1 | s1
            · exact s1
            · exact List.eq_nil_of_length_eq_zero (by simp only [List.length_nil] at s1; omega)
          subst this
          cases hr
          have : cs' = [] := List.eq_nil_of_length_eq_zero (by simpa using s2)
          subst this
          obtain ⟨k1, k2⟩ := H.putSame hy e
          exact ⟨w, rfl, k1, k2⟩
        · have hsol : solid (.cells cs el ex) = true := by cases cs with | nil => exact absurd rfl hcs0 | cons => rfl
          obtain ⟨k1, k2⟩ := H.put (o' := .cells arr' el (0, 0)) e hy hsol hσ a1 (by
            intro c2 e2 f2 h2
            cases h2
            exact ⟨arr', rfl, r2⟩) (by
            refine ⟨arr', rfl, fun i v hv => ?_, a3, fun hx => ?_⟩
            · rw [s3 i] at hv
              rw [r3 i]
              simp only [Nat.add_zero]
              by_cases hi : o ≤ i ∧ i < o + vs.length
              · rw [if_pos hi] at hv
                rw [if_pos (by omega)]
                exact hr.get hv
              · rw [if_neg hi] at hv
                rw [if_neg (by omega)]
                exact a2 i v hv
            · obtain ⟨i, i1, i2⟩ := a4 hx
              exact ⟨i, i1, by rw [r2, s2]; exact i2⟩)
          exact ⟨_, r1, k1, k2⟩
      · cases e
    · cases e
  · cases e

theorem store_spec (hT : TbOK T) (H : HR T σ h w) {t : TypeId} {b c x o : Nat} {v u : Value} (e : h.store T t ⟨b, o, none⟩ v = some h') (hσ : σ b = some (c, x)) (hr : VR σ v u) :
    ∃ w', (storeVar t ⟨c, o, none⟩ u).run T.P w = .ok () w' ∧ HR T σ h' w' ∧ Keep σ h w σ h' w' := by
  unfold Hp.store at e
  split at e
  · rename_i n hn
    cases hc : (Nat.beq n (cellsL v).length && allB okCell (cellsL v)) with
    | false => rw [hc] at e; cases e
    | true =>
      rw [hc] at e
      simp only [cond_true] at e
      simp only [Bool.and_eq_true, allB_eq] at hc
      have hcr := hr.cells
      obtain ⟨w', r1, r2, r3⟩ := storeC_spec H e hσ hcr hc.2
      refine ⟨w', ?_, r2, r3⟩
      have hs : u.cells.size = n := by
        have := hcr.length
        have h2 := Nat.eq_of_beq_eq_true hc.1
        rw [h2, this]; simp
      simp [storeVar, size_spec hT hn, hs, r1]
  · cases e

theorem newPtr_spec (H : HR T σ h w) (hlo : h.lo ≤ h.n) {c : List Value} {cs : Array Value} (hr : VRs σ c cs.toList) (e : TypeId) :
    ∃ σ' w', (newRow e cs).run T.P w = .ok ⟨w.heap.size, 0, none⟩ w' ∧ VR σ' (.pointer (some ⟨h.n, 0, none⟩)) (.pointer (some ⟨w.heap.size, 0, none⟩)) ∧
      HR T σ' (h.add (.cells c e true)) w' ∧ Keep σ h w σ' (h.add (.cells c e true)) w' := by
  have hs := Ren.sub_up H (w.heap.size, 0)
  obtain ⟨k1, k2⟩ := H.new (.cells c e true) 0 (.cells cs e (0, 0)) ⟨cs, rfl, fun i v hv => by
    obtain ⟨u, hu, hvu⟩ := hr.get hv
    exact ⟨u, by simpa using hu, hvu.mono hs⟩, fun _ => rfl, fun hx => by cases hx⟩ hlo
  exact ⟨_, _, by simp [newRow], .ptr (Ren.up_self _ _ _), k1, k2⟩

theorem newSl_spec (H : HR T σ h w) (hlo : h.lo ≤ h.n) {c : List Value} {cs : Array Value} (hr : VRs σ c cs.toList) (e : TypeId) (len cap : Nat) :
    ∃ σ' w', (newRow e cs).run T.P w = .ok ⟨w.heap.size, 0, none⟩ w' ∧ VR σ' (.slice (some ⟨h.n, 0, none⟩) len cap) (.slice (some ⟨w.heap.size, 0, none⟩) len cap) ∧
      HR T σ' (h.add (.cells c e true)) w' ∧ Keep σ h w σ' (h.add (.cells c e true)) w' := by
  have hs := Ren.sub_up H (w.heap.size, 0)
  obtain ⟨k1, k2⟩ := H.new (.cells c e true) 0 (.cells cs e (0, 0)) ⟨cs, rfl, fun i v hv => by
    obtain ⟨u, hu, hvu⟩ := hr.get hv
    exact ⟨u, by simpa using hu, hvu.mono hs⟩, fun _ => rfl, fun hx => by cases hx⟩ hlo
  refine ⟨_, _, by simp [newRow], ?_, k1, k2⟩
  have := VR.slice (σ := σ.up h.n (w.heap.size, 0)) (o := 0) len cap (Ren.up_self σ h.n (w.heap.size, 0))
  simpa using this

theorem addr_eq (b o n : Nat) : addr ⟨b, o, none⟩ n = ⟨b, o + n, none⟩ := by
  unfold addr
  split
  · rfl
  · rfl
end Go.Clo

namespace Go.Clo
open Go

def EvR (σ : Ren) (a : AF) (x : Act) : Prop := ∀ i, VR σ (a.tmp i) (x.tmps.getD i undef)

theorem EvR.eval {σ : Ren} {a : AF} {x : Act} (h : EvR σ a x) {o : Operand} {v : Value} (e : a.eval o = some v) : VR σ v (x.eval o) := by
  cases o with
  | tmp t => simp only [AF.eval, Option.some.injEq] at e; subst e; exact h t
  | const v' =>
    simp only [AF.eval] at e
    cases hg : gr v' with
    | false => rw [hg] at e; cases e
    | true => rw [hg] at e; cases e; exact .of_gr hg
  | global g => cases e
  | func f => simp only [AF.eval, Option.some.injEq] at e; subst e; exact .func rfl .nil .nil

def NxR (P : Program) (σ : Ren) (w : World) (nx : ANx) (r : Result Next) : Prop :=
  match nx with
  | .val v => ∃ u, r = .ok (.value u) w ∧ VR σ v u
  | .skip => r = .ok .skip w
  | .enter f args => ∃ args', r = .ok (.enter f args') w ∧ VRs σ args args'.toList
  | .round l args => ∃ c x args', σ l = some (c, x) ∧ VRs σ args args'.toList ∧ r = (Instr.yield c args').run P w
  | .defer d => ∃ d', r = .ok (.defer d') w ∧ DR σ d d'
  | .recover => r = .ok .recover w
  | .pan v => ∃ u, r = .halt (.panic u) w ∧ VR σ v u

def Good (T : Tb) (σ : Ren) (h : Hp) (w : World) (nx : ANx) (h' : Hp) (s : Sem Next) : Prop :=
  ∃ σ' w', NxR T.P σ' w' nx (s.run T.P w) ∧ HR T σ' h' w' ∧ Keep σ h w σ' h' w'

variable {T : Tb} {σ : Ren} {h h' : Hp} {w : World} {a : AF} {x : Act}

theorem good_val (H : HR T σ h w) {s : Sem Next} {v u : Value} (e : s.run T.P w = .ok (.value u) w) (hv : VR σ v u) : Good T σ h w (.val v) h s :=
  ⟨σ, w, ⟨u, e, hv⟩, H, .refl _ _ _⟩

theorem good_retV (H : HR T σ h w) {s : Sem Next} {ov : Option Value} {nx : ANx} (e : retV h ov = some (nx, h')) (hs : ∀ v, ov = some v → ∃ u, s.run T.P w = .ok (.value u) w ∧ VR σ v u) : Good T σ h w nx h' s := by
  cases ov with
  | none => cases e
  | some v =>
    simp only [retV, v1, Option.some.injEq, Prod.mk.injEq] at e
    obtain ⟨rfl, rfl⟩ := e
    obtain ⟨u, h1, h2⟩ := hs v rfl
    exact good_val H h1 h2

theorem good_v1 (H : HR T σ h w) {s : Sem Next} {v u : Value} {nx : ANx} (e : v1 v h = some (nx, h')) (hs : s.run T.P w = .ok (.value u) w) (hv : VR σ v u) : Good T σ h w nx h' s := by
  simp only [v1, Option.some.injEq, Prod.mk.injEq] at e
  obtain ⟨rfl, rfl⟩ := e
  exact good_val H hs hv

theorem cond_none {α : Type} {b : Bool} {x : Option α} {y : α} (e : cond b x none = some y) : b = true ∧ x = some y := by
  cases b <;> simp_all

theorem op_move (H : HR T σ h w) (E : EvR σ a x) {o : Oper} {y : Operand} {nx : ANx} (e : retV h (a.eval y) = some (nx, h')) (ho : execOp x.eval o = pure (.value (x.eval y))) : Good T σ h w nx h' (execOp x.eval o) :=
  good_retV H e fun v hv => ⟨_, by rw [ho]; rfl, E.eval hv⟩

theorem op_pick (H : HR T σ h w) (E : EvR σ a x) {o : Oper} {c y z : Operand} {nx : ANx} (ho : o.op = .pick c y z)
    (e : aop T a o h = some (nx, h')) : Good T σ h w nx h' (execOp x.eval o) := by
  simp only [aop, opPickA, opAllocA, opBoxA, opLoadA, opStoreA, opNilCheckA, opFieldAddrA, opFieldA, opIndexAddrA, opIndexA, opSliceA, opBuildA, opBuildSliceA, opMakeSliceA, opMakeMapA, opLookupA, opMapUpdateA, opRangeA, opNextA, opExtractA, opMakeInterfaceA, opMakeFuncA, opTypeAssertA, opCallA, opDeferA, opPanicA, opBinOpA, opConvertA, opUnOpA, ho] at e
  split at e
  · rename_i b hb
    have hc := E.eval hb
    generalize hxc : x.eval c = cv at hc
    cases hc
    refine good_retV H e fun v hv => ?_
    cases b with
    | true => exact ⟨_, by simp [execOp, ho, hxc, asBool], E.eval hv⟩
    | false => exact ⟨_, by simp [execOp, ho, hxc, asBool], E.eval hv⟩
  · cases e

theorem op_alloc (hT : TbOK T) (H : HR T σ h w) (hlo : h.lo ≤ h.n) {o : Oper} {el : TypeId} {nx : ANx} (ho : o.op = .alloc el)
    (e : aop T a o h = some (nx, h')) : Good T σ h w nx h' (execOp x.eval o) := by
  simp only [aop, opPickA, opAllocA, opBoxA, opLoadA, opStoreA, opNilCheckA, opFieldAddrA, opFieldA, opIndexAddrA, opIndexA, opSliceA, opBuildA, opBuildSliceA, opMakeSliceA, opMakeMapA, opLookupA, opMapUpdateA, opRangeA, opNextA, opExtractA, opMakeInterfaceA, opMakeFuncA, opTypeAssertA, opCallA, opDeferA, opPanicA, opBinOpA, opConvertA, opUnOpA, ho] at e
  split at e
  · rename_i z hz
    simp only [newPtr, Option.some.injEq, Prod.mk.injEq] at e
    obtain ⟨rfl, rfl⟩ := e
    obtain ⟨hg, i, hi, hzi, _⟩ := hT.zero _ _ hz
    obtain ⟨σ', w', r1, r2, r3, r4⟩ := newPtr_spec H hlo (VR.cells (VR.of_gr hg)) el
    refine ⟨σ', w', ⟨_, ?_, r2⟩, r3, r4⟩
    simp [execOp, ho, Instr.alloc, run_zeroValue' hi hzi, newVar, r1]
  · cases e

theorem op_box (H : HR T σ h w) (hlo : h.lo ≤ h.n) (E : EvR σ a x) {o : Oper} {el : TypeId} {y : Operand} {nx : ANx} (ho : o.op = .box el y)
    (e : aop T a o h = some (nx, h')) : Good T σ h w nx h' (execOp x.eval o) := by
  simp only [aop, opPickA, opAllocA, opBoxA, opLoadA, opStoreA, opNilCheckA, opFieldAddrA, opFieldA, opIndexAddrA, opIndexA, opSliceA, opBuildA, opBuildSliceA, opMakeSliceA, opMakeMapA, opLookupA, opMapUpdateA, opRangeA, opNextA, opExtractA, opMakeInterfaceA, opMakeFuncA, opTypeAssertA, opCallA, opDeferA, opPanicA, opBinOpA, opConvertA, opUnOpA, ho] at e
  split at e
  · rename_i v hv
    simp only [newPtr, Option.some.injEq, Prod.mk.injEq] at e
    obtain ⟨rfl, rfl⟩ := e
    obtain ⟨σ', w', r1, r2, r3, r4⟩ := newPtr_spec H hlo (VR.cells (E.eval hv)) el
    refine ⟨σ', w', ⟨_, ?_, r2⟩, r3, r4⟩
    simp [execOp, ho, Instr.box, newVar, r1]
  · cases e

theorem op_load (hT : TbOK T) (H : HR T σ h w) (E : EvR σ a x) {o : Oper} {t : TypeId} {y : Operand} {nx : ANx} (ho : o.op = .load t y)
    (e : aop T a o h = some (nx, h')) : Good T σ h w nx h' (execOp x.eval o) := by
  simp only [aop, opPickA, opAllocA, opBoxA, opLoadA, opStoreA, opNilCheckA, opFieldAddrA, opFieldA, opIndexAddrA, opIndexA, opSliceA, opBuildA, opBuildSliceA, opMakeSliceA, opMakeMapA, opLookupA, opMapUpdateA, opRangeA, opNextA, opExtractA, opMakeInterfaceA, opMakeFuncA, opTypeAssertA, opCallA, opDeferA, opPanicA, opBinOpA, opConvertA, opUnOpA, ho] at e
  split at e
  · rename_i p hp
    have hc := E.eval hp
    generalize hxc : x.eval y = cv at hc
    cases hc
    rename_i hσ
    refine good_retV H e fun v hv => ?_
    obtain ⟨u, r1, r2⟩ := load_spec hT H hv hσ
    exact ⟨u, by simp [execOp, ho, hxc, Instr.loadAt, Instr.sureAddr, r1], r2⟩
  · cases e

theorem op_store (hT : TbOK T) (H : HR T σ h w) (E : EvR σ a x) {o : Oper} {t : TypeId} {y z : Operand} {nx : ANx} (ho : o.op = .store t y z)
    (e : aop T a o h = some (nx, h')) : Good T σ h w nx h' (execOp x.eval o) := by
  simp only [aop, opPickA, opAllocA, opBoxA, opLoadA, opStoreA, opNilCheckA, opFieldAddrA, opFieldA, opIndexAddrA, opIndexA, opSliceA, opBuildA, opBuildSliceA, opMakeSliceA, opMakeMapA, opLookupA, opMapUpdateA, opRangeA, opNextA, opExtractA, opMakeInterfaceA, opMakeFuncA, opTypeAssertA, opCallA, opDeferA, opPanicA, opBinOpA, opConvertA, opUnOpA, ho] at e
  split at e
  · rename_i p v hp hz
    split at e
    · rename_i h1 hst
      simp only [Option.some.injEq, Prod.mk.injEq] at e
      obtain ⟨rfl, rfl⟩ := e
      have hc := E.eval hp
      generalize hxc : x.eval y = cv at hc
      cases hc
      rename_i hσ
      obtain ⟨w', r1, r2, r3⟩ := store_spec hT H hst hσ (E.eval hz)
      exact ⟨σ, w', by simp [NxR, execOp, ho, hxc, Instr.storeAt, Instr.sureAddr, r1], r2, r3⟩
    · cases e
  · cases e

theorem op_nilCheck (H : HR T σ h w) (E : EvR σ a x) {o : Oper} {y : Operand} {nx : ANx} (ho : o.op = .nilCheck y)
    (e : aop T a o h = some (nx, h')) : Good T σ h w nx h' (execOp x.eval o) := by
  simp only [aop, opPickA, opAllocA, opBoxA, opLoadA, opStoreA, opNilCheckA, opFieldAddrA, opFieldA, opIndexAddrA, opIndexA, opSliceA, opBuildA, opBuildSliceA, opMakeSliceA, opMakeMapA, opLookupA, opMapUpdateA, opRangeA, opNextA, opExtractA, opMakeInterfaceA, opMakeFuncA, opTypeAssertA, opCallA, opDeferA, opPanicA, opBinOpA, opConvertA, opUnOpA, ho] at e
  split at e
  · rename_i p hp
    have hc := E.eval hp
    generalize hxc : x.eval y = cv at hc
    cases hc
    rename_i hσ
    exact good_v1 H e (by simp [execOp, ho, hxc]) (.ptr hσ)
  · cases e

theorem op_fieldAddr (hT : TbOK T) (H : HR T σ h w) (E : EvR σ a x) {o : Oper} {s : TypeId} {y : Operand} {f : Nat} {nx : ANx} (ho : o.op = .fieldAddr s y f)
    (e : aop T a o h = some (nx, h')) : Good T σ h w nx h' (execOp x.eval o) := by
  simp only [aop, opPickA, opAllocA, opBoxA, opLoadA, opStoreA, opNilCheckA, opFieldAddrA, opFieldA, opIndexAddrA, opIndexA, opSliceA, opBuildA, opBuildSliceA, opMakeSliceA, opMakeMapA, opLookupA, opMapUpdateA, opRangeA, opNextA, opExtractA, opMakeInterfaceA, opMakeFuncA, opTypeAssertA, opCallA, opDeferA, opPanicA, opBinOpA, opConvertA, opUnOpA, ho] at e
  split at e
  · rename_i fields p hu hp
    split at e
    · rename_i fd hf
      split at e
      · rename_i n hn
        replace e := cond_none e; obtain ⟨h1, e⟩ := e
        rw [nth_eq] at hf
        have hc := E.eval hp
        generalize hxc : x.eval y = cv at hc
        cases hc
        rename_i hσ
        rw [addr_eq] at e
        have hn0 : n ≠ 0 := by have := Nat.le_of_ble_eq_true h1; omega
        refine good_v1 H e ?_ (.ptr hσ)
        have hf' : fields[f]? = some fd := by simpa using hf
        simp [execOp, ho, hxc, Instr.fieldAt, run_underlying (hT.und _ _ hu), hf', Instr.sureAddr, fieldPlace, size_spec hT hn, hn0, add_mk]
      · cases e
    · cases e
  · cases e

theorem op_field (hT : TbOK T) (H : HR T σ h w) (E : EvR σ a x) {o : Oper} {s : TypeId} {y : Operand} {f : Nat} {nx : ANx} (ho : o.op = .field s y f)
    (e : aop T a o h = some (nx, h')) : Good T σ h w nx h' (execOp x.eval o) := by
  simp only [aop, opPickA, opAllocA, opBoxA, opLoadA, opStoreA, opNilCheckA, opFieldAddrA, opFieldA, opIndexAddrA, opIndexA, opSliceA, opBuildA, opBuildSliceA, opMakeSliceA, opMakeMapA, opLookupA, opMapUpdateA, opRangeA, opNextA, opExtractA, opMakeInterfaceA, opMakeFuncA, opTypeAssertA, opCallA, opDeferA, opPanicA, opBinOpA, opConvertA, opUnOpA, ho] at e
  split at e
  · rename_i fields cs hu hp
    split at e
    · rename_i fd hf
      rw [nth_eq] at hf
      have hc := E.eval hp
      generalize hxc : x.eval y = cv at hc
      cases hc
      rename_i l1 l2 hr
      refine good_retV H e fun v hv => ?_
      obtain ⟨u, r1, r2⟩ := partA_spec hT hv hr w
      have hf' : fields[f]? = some fd := by simpa using hf
      exact ⟨u, by simp [execOp, ho, hxc, Instr.field, run_underlying (hT.und _ _ hu), hf', asAgg, r1], r2⟩
    · cases e
  · cases e

theorem natOf_spec {v u : Value} {i : Nat} (e : natOf v = some i) (hr : VR σ v u) : ∃ k, u = .int k (i : Int) := by
  unfold natOf at e
  split at e
  · rename_i k n
    split at e
    · cases e; cases hr; exact ⟨k, rfl⟩
    · cases e
  · cases e

theorem op_indexAddr (hT : TbOK T) (H : HR T σ h w) (E : EvR σ a x) {o : Oper} {t : TypeId} {y z : Operand} {nx : ANx} (ho : o.op = .indexAddr t y z)
    (e : aop T a o h = some (nx, h')) : Good T σ h w nx h' (execOp x.eval o) := by
  simp only [aop, opPickA, opAllocA, opBoxA, opLoadA, opStoreA, opNilCheckA, opFieldAddrA, opFieldA, opIndexAddrA, opIndexA, opSliceA, opBuildA, opBuildSliceA, opMakeSliceA, opMakeMapA, opLookupA, opMapUpdateA, opRangeA, opNextA, opExtractA, opMakeInterfaceA, opMakeFuncA, opTypeAssertA, opCallA, opDeferA, opPanicA, opBinOpA, opConvertA, opUnOpA, ho] at e
  split at e
  · rename_i len elem p v hu hp hz
    split at e
    · rename_i i size hi hs
      replace e := cond_none e; obtain ⟨h1, e⟩ := e
      have hc := E.eval hp
      generalize hxc : x.eval y = cv at hc
      cases hc
      rename_i hσ
      obtain ⟨k, hk⟩ := natOf_spec hi (E.eval hz)
      rw [addr_eq] at e
      have hlt := Nat.le_of_ble_eq_true h1
      refine good_v1 H e ?_ (.ptr hσ)
      have h2 : (i : Int) < (len : Int) := by omega
      have hn : ¬ len ≤ i := by omega
      simp [execOp, ho, hxc, hk, Instr.indexAt, run_underlying (hT.und _ _ hu), asIntOf, Instr.sureAddr, size_spec hT hs, hn, add_mk]
    · cases e
  · rename_i elem p len cap v hu hp hz
    split at e
    · rename_i i size hi hs
      replace e := cond_none e; obtain ⟨h1, e⟩ := e
      have hc := E.eval hp
      generalize hxc : x.eval y = cv at hc
      cases hc
      case esl => have := Nat.le_of_ble_eq_true h1; omega
      rename_i hσ
      obtain ⟨k, hk⟩ := natOf_spec hi (E.eval hz)
      rw [addr_eq] at e
      have hlt := Nat.le_of_ble_eq_true h1
      refine good_v1 H e ?_ (.ptr hσ)
      have h2 : (i : Int) < (len : Int) := by omega
      have hn : ¬ len ≤ i := by omega
      simp [execOp, ho, hxc, hk, Instr.indexAt, run_underlying (hT.und _ _ hu), asIntOf, size_spec hT hs, hn, add_mk]
    · cases e
  · cases e

theorem op_index (hT : TbOK T) (H : HR T σ h w) (E : EvR σ a x) {o : Oper} {t : TypeId} {y z : Operand} {nx : ANx} (ho : o.op = .index t y z)
    (e : aop T a o h = some (nx, h')) : Good T σ h w nx h' (execOp x.eval o) := by
  simp only [aop, opPickA, opAllocA, opBoxA, opLoadA, opStoreA, opNilCheckA, opFieldAddrA, opFieldA, opIndexAddrA, opIndexA, opSliceA, opBuildA, opBuildSliceA, opMakeSliceA, opMakeMapA, opLookupA, opMapUpdateA, opRangeA, opNextA, opExtractA, opMakeInterfaceA, opMakeFuncA, opTypeAssertA, opCallA, opDeferA, opPanicA, opBinOpA, opConvertA, opUnOpA, ho] at e
  split at e
  · rename_i len elem cs v hu hp hz
    split at e
    · rename_i i size hi hs
      replace e := cond_none e; obtain ⟨h1, e⟩ := e
      have hc := E.eval hp
      generalize hxc : x.eval y = cv at hc
      cases hc
      rename_i l1 l2 hr
      obtain ⟨k, hk⟩ := natOf_spec hi (E.eval hz)
      have hlt := Nat.le_of_ble_eq_true h1
      refine good_retV H e fun v hv => ?_
      obtain ⟨u, r1, r2⟩ := partA_spec hT hv hr w
      have h2 : (i : Int) < (len : Int) := by omega
      have hn : ¬ len ≤ i := by omega
      refine ⟨u, ?_, r2⟩
      have r1' : (part elem ⟨l2⟩ (i * size)).run T.P w = .ok u w := r1
      simp [execOp, ho, hxc, hk, Instr.index, run_underlying (hT.und _ _ hu), asIntOf, size_spec hT hs, hn, r1']
    · cases e
  · rename_i s v hu hp hz
    split at e
    · rename_i i hi
      split at e
      · rename_i b hb
        rw [nth_eq] at hb
        have hc := E.eval hp
        generalize hxc : x.eval y = cv at hc
        cases hc
        obtain ⟨k, hk⟩ := natOf_spec hi (E.eval hz)
        refine good_v1 H e ?_ (.int _ _)
        have hb' : s[i]? = some b := by
          have hlt : i < s.size := by
            have := (List.getElem?_eq_some_iff.1 hb).1
            simpa using this
          rw [getElem?_pos s i hlt]
          have := (List.getElem?_eq_some_iff.1 hb).2
          congr 1
        simp [execOp, ho, hxc, hk, Instr.index, run_underlying (hT.und _ _ hu), asIntOf, hb']
      · cases e
    · cases e
  · cases e

theorem op_extract (H : HR T σ h w) (E : EvR σ a x) {o : Oper} {y : Operand} {i : Nat} {nx : ANx} (ho : o.op = .extract y i)
    (e : aop T a o h = some (nx, h')) : Good T σ h w nx h' (execOp x.eval o) := by
  simp only [aop, opPickA, opAllocA, opBoxA, opLoadA, opStoreA, opNilCheckA, opFieldAddrA, opFieldA, opIndexAddrA, opIndexA, opSliceA, opBuildA, opBuildSliceA, opMakeSliceA, opMakeMapA, opLookupA, opMapUpdateA, opRangeA, opNextA, opExtractA, opMakeInterfaceA, opMakeFuncA, opTypeAssertA, opCallA, opDeferA, opPanicA, opBinOpA, opConvertA, opUnOpA, ho] at e
  split at e
  · rename_i vs hp
    have hc := E.eval hp
    generalize hxc : x.eval y = cv at hc
    cases hc
    rename_i l1 l2 hr
    refine good_retV H e fun v hv => ?_
    rw [nth_eq] at hv
    obtain ⟨u, hu, hvu⟩ := hr.get hv
    exact ⟨u, by simp [execOp, ho, hxc, Instr.extract, hu], hvu⟩
  · cases e

theorem op_makeInterface (hT : TbOK T) (H : HR T σ h w) (E : EvR σ a x) {o : Oper} {t : TypeId} {y : Operand} {nx : ANx} (ho : o.op = .makeInterface t y)
    (e : aop T a o h = some (nx, h')) : Good T σ h w nx h' (execOp x.eval o) := by
  simp only [aop, opPickA, opAllocA, opBoxA, opLoadA, opStoreA, opNilCheckA, opFieldAddrA, opFieldA, opIndexAddrA, opIndexA, opSliceA, opBuildA, opBuildSliceA, opMakeSliceA, opMakeMapA, opLookupA, opMapUpdateA, opRangeA, opNextA, opExtractA, opMakeInterfaceA, opMakeFuncA, opTypeAssertA, opCallA, opDeferA, opPanicA, opBinOpA, opConvertA, opUnOpA, ho] at e
  split at e
  · cases e
  · rename_i d v hni hu hp
    refine good_v1 H e ?_ (.iface t (E.eval hp))
    have : ∀ ms, d ≠ .interface ms := fun ms hd => hni ms hd
    simp only [execOp, ho, Instr.makeInterface, Sem.run_bind, run_underlying (hT.und _ _ hu), Result.andThen_ok]
    cases d <;> simp_all
  · cases e

theorem evalL_spec (E : EvR σ a x) : ∀ {l : List Operand} {vs : List Value}, evalL a l = some vs → VRs σ vs (l.map x.eval) := by
  intro l
  induction l with
  | nil => intro vs e; cases e; exact .nil
  | cons o l ih =>
    intro vs e
    have e' : (match a.eval o with | some v => (match evalL a l with | some r => some (v :: r) | none => none) | none => none) = some vs := e
    split at e'
    · rename_i v hv
      split at e'
      · rename_i r hr
        cases e'
        exact .cons (E.eval hv) (ih hr)
      · cases e'
    · cases e'

theorem op_makeFunc (H : HR T σ h w) (E : EvR σ a x) {o : Oper} {fn : Fn} {f c : Array Operand} {nx : ANx} (ho : o.op = .makeFunc fn f c)
    (e : aop T a o h = some (nx, h')) : Good T σ h w nx h' (execOp x.eval o) := by
  simp only [aop, opPickA, opAllocA, opBoxA, opLoadA, opStoreA, opNilCheckA, opFieldAddrA, opFieldA, opIndexAddrA, opIndexA, opSliceA, opBuildA, opBuildSliceA, opMakeSliceA, opMakeMapA, opLookupA, opMapUpdateA, opRangeA, opNextA, opExtractA, opMakeInterfaceA, opMakeFuncA, opTypeAssertA, opCallA, opDeferA, opPanicA, opBinOpA, opConvertA, opUnOpA, ho] at e
  split at e
  · cases e
  · rename_i hny
    split at e
    · rename_i l1 l2 h1 h2
      have r1 := evalL_spec E h1
      have r2 := evalL_spec E h2
      obtain ⟨f⟩ := f
      obtain ⟨c⟩ := c
      have hfn : FnR σ fn fn := by cases fn <;> first | rfl | exact absurd rfl (hny _)
      refine good_v1 H e (u := .func fn ⟨f.map x.eval⟩ ⟨c.map x.eval⟩) ?_ (.func hfn (by simpa using r1) (by simpa using r2))
      simp [execOp, ho, Instr.makeFunc]
    · cases e

theorem zero_run (hT : TbOK T) {t : TypeId} {z : Value} (hz : T.zero.get t = some z) (w : World) : (zeroValue t).run T.P w = .ok z w := by
  obtain ⟨_, i, hi, hzi, _⟩ := hT.zero _ _ hz
  exact run_zeroValue' hi hzi w

theorem op_typeAssert (hT : TbOK T) (H : HR T σ h w) (E : EvR σ a x) {o : Oper} {y : Operand} {xt t : TypeId} {ok : Bool} {nx : ANx} (ho : o.op = .typeAssert y xt t ok)
    (e : aop T a o h = some (nx, h')) : Good T σ h w nx h' (execOp x.eval o) := by
  simp only [aop, opPickA, opAllocA, opBoxA, opLoadA, opStoreA, opNilCheckA, opFieldAddrA, opFieldA, opIndexAddrA, opIndexA, opSliceA, opBuildA, opBuildSliceA, opMakeSliceA, opMakeMapA, opLookupA, opMapUpdateA, opRangeA, opNextA, opExtractA, opMakeInterfaceA, opMakeFuncA, opTypeAssertA, opCallA, opDeferA, opPanicA, opBinOpA, opConvertA, opUnOpA, ho] at e
  split at e
  · cases e
  · rename_i d hni hu
    have hd : ∀ ms, d ≠ .interface ms := fun ms hd => hni ms hd
    split at e
    · rename_i t' v hp
      have hc := E.eval hp
      generalize hxc : x.eval y = cv at hc
      cases hc
      rename_i u hv
      cases htt : Nat.beq t' t with
      | true =>
        rw [htt] at e
        have htt' := Nat.eq_of_beq_eq_true htt
        subst htt'
        refine good_v1 H e (u := cond ok (.tuple #[u, .bool true]) u) ?_ ?_
        · simp only [execOp, ho, hxc, Instr.typeAssert, Sem.run_bind, run_underlying (hT.und _ _ hu), Result.andThen_ok]
          cases d <;> cases ok <;> simp_all
        · cases ok
          · exact hv
          · exact .tuple (.cons hv (.cons (.bool _) .nil))
      | false =>
        rw [htt] at e
        have hne : t' ≠ t := fun hh => by subst hh; simp at htt
        cases ok with
        | false => cases e
        | true =>
          simp only [cond_false, cond_true] at e
          split at e
          · rename_i z hz
            refine good_v1 H e (u := .tuple #[z, .bool false]) ?_ (.tuple (.cons (.of_gr (hT.zero _ _ hz).1) (.cons (.bool _) .nil)))
            simp only [execOp, ho, hxc, Instr.typeAssert, Sem.run_bind, run_underlying (hT.und _ _ hu), Result.andThen_ok]
            cases d <;> simp_all [zero_run hT hz]
          · cases e
    · rename_i hp
      have hc := E.eval hp
      generalize hxc : x.eval y = cv at hc
      cases hc
      cases ok with
      | false => cases e
      | true =>
        simp only [cond_true] at e
        split at e
        · rename_i z hz
          refine good_v1 H e (u := .tuple #[z, .bool false]) ?_ (.tuple (.cons (.of_gr (hT.zero _ _ hz).1) (.cons (.bool _) .nil)))
          simp only [execOp, ho, hxc, Instr.typeAssert, Sem.run_bind, run_underlying (hT.und _ _ hu), Result.andThen_ok]
          cases d <;> simp_all [zero_run hT hz]
        · cases e
    · cases e
  · cases e

theorem op_panic (H : HR T σ h w) (E : EvR σ a x) {o : Oper} {y : Operand} {nx : ANx} (ho : o.op = .panic y)
    (e : aop T a o h = some (nx, h')) : Good T σ h w nx h' (execOp x.eval o) := by
  simp only [aop, opPickA, opAllocA, opBoxA, opLoadA, opStoreA, opNilCheckA, opFieldAddrA, opFieldA, opIndexAddrA, opIndexA, opSliceA, opBuildA, opBuildSliceA, opMakeSliceA, opMakeMapA, opLookupA, opMapUpdateA, opRangeA, opNextA, opExtractA, opMakeInterfaceA, opMakeFuncA, opTypeAssertA, opCallA, opDeferA, opPanicA, opBinOpA, opConvertA, opUnOpA, ho] at e
  split at e
  · rename_i t v hp
    simp only [Option.some.injEq, Prod.mk.injEq] at e
    obtain ⟨rfl, rfl⟩ := e
    have hc := E.eval hp
    generalize hxc : x.eval y = cv at hc
    cases hc
    rename_i u hv
    exact ⟨σ, w, ⟨.iface t u, by simp [execOp, ho, hxc, Instr.panic], .iface t hv⟩, H, .refl _ _ _⟩
  · cases e

theorem gOp_spec (H : HR T σ h w) (E : EvR σ a x) {o : Oper} {nx : ANx} (hex : ∀ ρ ρ' : Operand → Value, (∀ y ∈ o.op.operands.toList, ρ y = ρ' y) → execOp ρ o = execOp ρ' o)
    (e : gOp T a o h = some (nx, h')) : Good T σ h w nx h' (execOp x.eval o) := by
  unfold gOp at e
  split at e
  · rename_i l hl
    replace e := cond_none e; obtain ⟨hg, e⟩ := e
    split at e
    · rename_i v hv
      replace e := cond_none e; obtain ⟨hgv, e⟩ := e
      rw [allB_eq] at hg
      have hr := evalL_spec E hl
      have heq := VRs.gr_eq hr hg
      have : execOp x.eval o = execOp a.ev0 o := by
        refine hex _ _ ?_
        clear hv e hex hr
        generalize o.op.operands.toList = ops at hl heq
        induction ops generalizing l with
        | nil => intro y hy; cases hy
        | cons p ops ih =>
          have e' : (match a.eval p with | some v => (match evalL a ops with | some r => some (v :: r) | none => none) | none => none) = some l := hl
          split at e'
          · rename_i v' hv'
            split at e'
            · rename_i r hr'
              cases e'
              simp only [List.map_cons, List.cons.injEq] at heq
              intro y hy
              rcases List.mem_cons.1 hy with rfl | hy
              · simp only [AF.ev0, hv']; exact heq.1
              · simp only [List.all_cons, Bool.and_eq_true] at hg
                exact ih _ hg.2 hr' heq.2 y hy
            · cases e'
          · cases e'
      refine good_v1 H e (u := v) ?_ (.of_gr hgv)
      rw [this]
      exact pureRun_run _ _ _ _ hv
    · cases e
  · cases e
end Go.Clo
