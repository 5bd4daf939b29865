/- Walks of functions of layer 2 (contracts that the laws of this seat use). Conditions: as each theorem states them. -/
import Derived.Test.YtgjgcgonibldmaaGreatDoorFW
import Derived.Deep.QuietTactic
import Derived.Test.YtgjgcgonibldmaaGreatDoorFC
import Derived.Deep.RegionHeld3
import Derived.Deep.AppendLies
import Derived.Test.YtgjgcgonibldmaaGreatDoorFP
import Derived.BigQuiet
set_option linter.unusedVariables false
set_option linter.unusedSimpArgs false
namespace Go.Kn
open Go Go.Proofs Go.RowKit

/-- The lexical walk, behind a door: so that nobody lays it open unasked. -/
structure Calm (P : Program) (ops : Array Oper) (C : World → Prop) (Q : Act → Prop) (l : List Oper) (a : Act) : Prop where
  out : wpQuiet P ops C Q l a

/-- One walk of the lexical order serves every order: the class of worlds in which nothing below a mark has changed. -/
theorem wp_region_calm {P : Program} {id : Nat} {Q : Exit → Act → World → Prop} {a : Act} {w W : World} {l : List Oper} (hm : P.follows .mixedOrders = true) (hB : Region.lexB .any l.toArray = true) (h0 : Below W.heap.size W w)
    (h : Calm P l.toArray (fun w' => Below W.heap.size W w') (fun a' => ∀ w', Below W.heap.size W w' → Q .normal a' w') l a) : (Code.region id l.toArray true).wp P Q a w :=
  wp_region_quiet (C := fun w' => Below W.heap.size W w') hm hB (below_drew h0) (by simpa using h.out)

theorem calm_nil {P : Program} {ops : Array Oper} {C : World → Prop} {Q : Act → Prop} {a : Act} (h : Q a) : Calm P ops C Q [] a := ⟨wpQuiet_nil h⟩

theorem calm_yes {P : Program} {ops : Array Oper} {C : World → Prop} {Q : Act → Prop} {a : Act} {o : Oper} {rest : List Oper} {v : Value} (hw : Region.wanted o (yielded ops a.tmps) = true)
    (h1 : ∀ w', C w' → o.quietAt P a C w' v) (h2 : Calm P ops C Q rest (a.put o.dst v)) : Calm P ops C Q (o :: rest) a := by
  refine ⟨?_⟩
  unfold wpQuiet
  rw [if_pos hw]
  exact ⟨v, h1, h2.out⟩

theorem calm_no {P : Program} {ops : Array Oper} {C : World → Prop} {Q : Act → Prop} {a : Act} {o : Oper} {rest : List Oper} (hw : Region.wanted o (yielded ops a.tmps) = false)
    (h2 : Calm P ops C Q rest (a.put o.dst undef)) : Calm P ops C Q (o :: rest) a := by
  refine ⟨?_⟩
  unfold wpQuiet
  rw [if_neg (by rw [hw]; decide)]
  exact h2.out
end Go.Kn

namespace Go.Kn
open Go Go.Proofs Go.RowKit

/-- an append of any length, in a drawn region -/
theorem step_append_at {P : Program} {w : World} {ops : Array Oper} {o : Oper} {a : Act} {K : Act → World → Prop} {Q : Exit → Act → World → Prop} {E : Prop} (hgd : o.guard = none) (s x : Operand) (t : TypeId)
    (ho : o.op = .call { callee := .builtin .append, args := #[s, x], argTypes := #[t, t] })
    (base : Nat) (e : TypeId) (i : TypeInfo) (z : Value) (size bytes : Nat) (ht : P.underlying t = some (.slice e)) (hi : P.info? e = some i) (hz : i.zero = some z)
    (hsize : i.size = size) (hby : i.bytes = bytes) (hzs : z.cells.size = size) (hsz : 0 < size)
    (v : Value) (n : Nat) (xs : List Value) (hs : a.eval s = v) (hown : w.ownsRow base e size v n xs)
    (ad : Addr) (m c : Nat) (news : List Value) (hx : a.eval x = .slice (some ad) m c) (hl : news.length = m * size) (hnews : ∀ j u, news[j]? = some u → w.cell? (ad.add j) = some u) (h1 : ∀ u ∈ news, u.oneCell' = true)
    (h63 : n + m ≤ maxLen) (hbytes : (n + m) * bytes ≤ 140737488355328) (hbase : base ≤ w.heap.size)
    (h : ∀ v' w', w'.ownsRow base e size v' (n + m) (xs ++ news) → w.grownBy w' v.ownBlock → (v'.ownBlock = v.ownBlock ∨ v'.ownBlock = some w.heap.size) → K (a.put o.dst v') w') :
    if Region.wanted o (yielded ops a.tmps) = true then Oper.wp P o a w K Q else E := by
  have hw : Region.wanted o (yielded ops a.tmps) = true := by simp [Region.wanted, hgd]
  rw [if_pos hw]
  obtain ⟨v', w', hr, h2, h3, h4, h5⟩ := run_append_own_at (P := P) w base t o.type e i z size bytes ht hi hz hsize hby hzs hsz v n xs hown ad m c news hl hnews h1 h63 hbytes hbase
  unfold Oper.wp execOp
  simp only [ho, resolve, invoke, builtin, Sem.run_bind, Sem.run_pure, Result.andThen_ok, List.map_toArray, List.map_cons, List.map_nil, hs, hx, hr]
  exact h v' w' h2 h3 h5

theorem addr_add (B O j : Nat) : (⟨B, O, none⟩ : Addr).add j = ⟨B, O + j, none⟩ := by
  unfold Addr.add
  split
  · rename_i h; subst h; rfl
  · rfl

theorem take_news {w : World} {A O m k : Nat} {xs : List Int} (h : NumAt w A O m (fun i => xs.getD i 0)) (hm : xs.length = m) :
    ∀ j u, ((xs.take k).map (Value.int .i64))[j]? = some u → w.cell? ((⟨A, O, none⟩ : Addr).add j) = some u := by
  intro j u hj
  rw [addr_add]
  rw [List.getElem?_map, List.getElem?_take] at hj
  split at hj
  · by_cases hjl : j < xs.length
    · rw [h j (by omega)]
      simp only [List.getElem?_eq_getElem hjl, Option.map_some] at hj
      rw [← hj]
      simp [List.getD, hjl]
    · rw [List.getElem?_eq_none (by omega)] at hj; cases hj
  · cases hj

theorem drop_news {w : World} {A O m k : Nat} {xs : List Int} (h : NumAt w A O m (fun i => xs.getD i 0)) (hm : xs.length = m) {O' : Nat} (hO : O' = O + k ∨ m ≤ k) :
    ∀ j u, ((xs.drop k).map (Value.int .i64))[j]? = some u → w.cell? ((⟨A, O', none⟩ : Addr).add j) = some u := by
  intro j u hj
  rw [addr_add]
  rw [List.getElem?_map, List.getElem?_drop] at hj
  by_cases hjl : k + j < xs.length
  · have hO' : O' = O + k := by omega
    have := h (k + j) (by omega)
    rw [hO', Nat.add_assoc, this]
    simp only [List.getElem?_eq_getElem hjl, Option.map_some] at hj
    rw [← hj]
    simp [List.getD, hjl]
  · rw [List.getElem?_eq_none (by omega)] at hj; cases hj

theorem one_ints (xs : List Int) : ∀ u ∈ xs.map (Value.int .i64), u.oneCell' = true := by
  intro u hu
  obtain ⟨a, _, rfl⟩ := List.mem_map.mp hu
  rfl

set_option maxRecDepth 100000 in
set_option maxHeartbeats 1000000 in
theorem without_w (A O m c at' : Nat) (xs : List Int) (w : World) (hm : xs.length = m) (hat : at' < m) (hmc : m ≤ c) (hc : c ≤ maxLen) (hml : m ≤ 1000) (hA : A < w.heap.size) (HX : Hid (NumAt w A O m (fun i => xs.getD i 0))) :
    Calls Tryz.prog 55 #[.slice (some ⟨A, O, none⟩) m c, .int .i64 (at' : Int)] w
      fun e w' => (∃ v, e = .returned v ∧ w'.ownsRow w.heap.size 3 1 v (at' + (m - (at' + 1))) ((xs.eraseIdx at').map (Value.int .i64))) ∧ Below w.heap.size w w' := by
  obtain ⟨i0, hi, hz0, hz1, hz22⟩ := info_parts info3'
  have HM := Lib.hid hm
  clear hm
  have HN : Hid (∀ w', Below w.heap.size w w' → NumAt w' A O m (fun i => xs.getD i 0)) := Lib.hid fun w' h => HX.out.below hA h
  have n1 : (0 : Int) ≤ (at' : Int) + 1 := by omega
  have n2 : (at' : Int) + 1 ≤ (m : Int) := by omega
  have n3 : (at' : Int) ≤ (m : Int) := by omega
  have n4 : (0 : Int) ≤ (at' : Int) := by omega
  have hwr : IntKind.i64.wrap ((at' : Int) + 1) = (at' : Int) + 1 := IntWalk.i64_in _ (by omega)
  have n5 : (at' : Int) ≤ (c : Int) := by omega
  have n6 : ¬ (c = 0) := by omega
  obtain ⟨O', hO', hck⟩ : ∃ O', (O' = O + (at' + 1) ∨ m ≤ at' + 1) ∧ ((c = at' + 1) = False ∧ O' = O + (at' + 1) ∨ (c = at' + 1) = True ∧ O' = O) := by
    by_cases h : c = at' + 1
    · exact ⟨O, .inr (by omega), .inr ⟨eq_true h, rfl⟩⟩
    · exact ⟨O + (at' + 1), .inl rfl, .inl ⟨eq_false h, rfl⟩⟩
  have HO' := Lib.hid hO'
  clear hO'
  rcases hck with ⟨hck, hOO⟩ | ⟨hck, hOO⟩
  all_goals
    have HOO := Lib.hid hOO
    clear hOO
    go_enter Tryz.func55, Tryz.ntmps55
    go_wp2
    go_region_held3 (fun _ => True) ((first | trivial)) ((first
      | (have hx5 := hown5; (refine step_append_at rfl (.tmp 8) (.tmp 12) 22 rfl w.heap.size 3 i0 (.int .i64 0) 1 8 Tryz.underlying22 hi hz0 hz1 hz22 rfl (by decide) _ at' _ rfl (by first | exact hown5 | exact hown5.drew) ⟨A, _, none⟩ _ _ ((xs.drop (at' + 1)).map (Value.int .i64)) rfl (by simp [HM.out]) (drop_news (HN.out _ (by repeat (first | exact hb5 | refine Below.drew ?_))) HM.out (by first | exact .inl rfl | (right; have := of_eq_true hck; omega))) (one_ints _) (by unfold maxLen; omega) (by omega) (by first | (simp; done) | (simp; omega) | omega) ?_; intro v6 w6 hown6 hgrow6 hat6; have hb6 : Below w.heap.size w w6 := Below.grown (row := v5.ownBlock) (by repeat (first | exact hb5 | refine Below.drew ?_)) hgrow6 (by first | (simp; done) | (simp; omega) | omega) (fun k e => own_ge hown5 k e)))
      | ((refine step_append_at rfl (.const (.slice none 0 0)) (.tmp 7) 22 rfl w.heap.size 3 i0 (.int .i64 0) 1 8 Tryz.underlying22 hi hz0 hz1 hz22 rfl (by decide) _ 0 [] rfl (World.ownsRow_nil _ _ _ _) ⟨A, O, none⟩ at' _ ((xs.take at').map (Value.int .i64)) rfl (by simp [HM.out]; omega) (take_news (HN.out _ (by repeat (first | exact Below.refl _ _ | refine Below.drew ?_))) HM.out) (one_ints _) (by unfold maxLen; omega) (by omega) (by first | (simp; done) | (simp; omega) | omega) ?_; intro v5 w5 hown5 hgrow5 hat5; rw [Nat.zero_add, List.nil_append] at hown5; have hb5 : Below w.heap.size w w5 := Below.grown (row := none) (by repeat (first | exact Below.refl _ _ | refine Below.drew ?_)) hgrow5 (by first | (simp; done) | (simp; omega) | omega) (fun k e => by cases e); have hb5z := hb5.size))))
    all_goals
      have hfin : w6.ownsRow w.heap.size 3 1 v6 (at' + (m - (at' + 1))) ((xs.eraseIdx at').map (Value.int .i64)) := by
        rw [List.eraseIdx_eq_take_drop_succ, List.map_append]; exact hown6
      have HF := Lib.hid hfin
      clear hown5 hown6 hgrow5 hgrow6 hat5 hat6 hfin
      go_wp2
      go_ret
      exact ⟨⟨_, rfl, HF.out⟩, hb6⟩

end Go.Kn

namespace Go.Kn
open Go Go.Proofs Go.RowKit

/-- how many of the first ones are no more -/
def lec (l : List Int) (y : Int) (k : Nat) : Nat := (l.take k).countP (fun x => decide (x ≤ y))
theorem lec_zero (l : List Int) (y : Int) : lec l y 0 = 0 := rfl
theorem lec_succ {l : List Int} (y : Int) {k : Nat} (h : k < l.length) : lec l y (k + 1) = lec l y k + if l.getD k 0 ≤ y then 1 else 0 := by
  unfold lec
  rw [List.take_add_one, List.countP_append, List.getElem?_eq_getElem h]
  simp [List.getD, h, List.countP_cons]
theorem lec_le (l : List Int) (y : Int) (k : Nat) : lec l y k ≤ k := by
  unfold lec
  refine Nat.le_trans List.countP_le_length ?_
  rw [List.length_take]
  omega
theorem lec_all (l : List Int) (y : Int) : lec l y l.length + ge l (y + 1) = l.length := by
  unfold lec
  rw [List.take_length]
  induction l with
  | nil => rfl
  | cons x l ih =>
    rw [ge_cons, List.countP_cons, List.length_cons]
    by_cases h : x ≤ y
    · have hd : decide (x ≤ y) = true := decide_eq_true h
      rw [if_neg (show ¬ (y + 1 ≤ x) by omega)]; simp only [hd, if_true]; omega
    · have hd : decide (x ≤ y) = false := decide_eq_false h
      rw [if_pos (show y + 1 ≤ x by omega)]; simp [hd]; omega
def fillB (ls S : List Int) : Bool := decide (ls.length = S.length) && (List.range 41).all (fun y => decide (lec ls (y : Int) ls.length ≤ lec S (y : Int) S.length))

theorem fillB_iff {ls S : List Int} (h0 : ∀ x ∈ ls, 0 ≤ x) (h1 : ∀ x ∈ S, x ≤ 40) : fillB ls S = true ↔ Fill ls S := by
  unfold fillB
  rw [Bool.and_eq_true, decide_eq_true_eq, List.all_eq_true]
  constructor
  · rintro ⟨hl, ha⟩
    refine ⟨hl.symm, fun t ht => ?_⟩
    by_cases h41 : t ≤ 41
    · by_cases ht0 : t = 0
      · subst ht0
        rw [ge_all (l := ls) h0, hl]
        exact ge_le_len S 0
      · have := ha (t - 1).toNat (by rw [List.mem_range]; omega)
        rw [decide_eq_true_eq, show (((t - 1).toNat : Nat) : Int) = t - 1 by omega] at this
        have a := lec_all ls (t - 1)
        have b := lec_all S (t - 1)
        rw [show t - 1 + 1 = t by omega] at a b
        omega
    · rw [ge_none (l := S) (fun x hx => by have := h1 x hx; omega)]
      exact Nat.zero_le _
  · rintro ⟨hl, ha⟩
    refine ⟨hl.symm, fun y hy => ?_⟩
    rw [decide_eq_true_eq]
    have := ha ((y : Int) + 1) (by omega)
    have a := lec_all ls (y : Int)
    have b := lec_all S (y : Int)
    omega

theorem fillB_len {ls S : List Int} (h : ls.length ≠ S.length) : fillB ls S = false := by simp [fillB, h]
theorem fillB_no {ls S : List Int} {y : Nat} (hy : y ≤ 40) (h : ¬ lec ls (y : Int) ls.length ≤ lec S (y : Int) S.length) : fillB ls S = false := by
  cases hb : fillB ls S
  · rfl
  · unfold fillB at hb
    rw [Bool.and_eq_true, List.all_eq_true] at hb
    have := hb.2 y (by rw [List.mem_range]; omega)
    rw [decide_eq_true_eq] at this
    exact (h this).elim
theorem fillB_yes {ls S : List Int} (hl : ls.length = S.length) (h : ∀ y : Nat, y < 41 → lec ls (y : Int) ls.length ≤ lec S (y : Int) S.length) : fillB ls S = true := by
  unfold fillB
  rw [Bool.and_eq_true, List.all_eq_true]
  exact ⟨decide_eq_true hl, fun y hy => decide_eq_true (h y (List.mem_range.mp hy))⟩

set_option maxRecDepth 100000 in
set_option maxHeartbeats 1000000 in
theorem fills_w (p q : Option Addr) (n c m d : Nat) (ls S : List Int) (w : World) (hn : ls.length = n) (hm : S.length = m) (hnl : n ≤ 1000) (hml : m ≤ 1000) (H1 : Hid (IntSl w p n (fun i => ls.getD i 0))) (H2 : Hid (IntSl w q m (fun i => S.getD i 0))) :
    Calls Tryz.prog 54 #[.slice p n c, .slice q m d] w fun e w' => e = .returned (.bool (fillB ls S)) ∧ Below w.heap.size w w' := by
  have HN := Lib.hid hn
  have HM := Lib.hid hm
  clear hn hm
  by_cases hnm : n = m
  · subst hnm
    go_enter Tryz.func54, Tryz.ntmps54
    go_wp2
    go_loopw [5] (fun yy wr => ∃ y : Nat, yy = .int .i64 (y : Int) ∧ y ≤ 41 ∧ Hid (∀ y' : Nat, y' < y → lec ls (y' : Int) ls.length ≤ lec S (y' : Int) S.length) ∧ wr = w) (fun yy _ => (41 - intOf yy).toNat)
    case atStart => exact ⟨0, rfl, by omega, fun y' hy => by omega, rfl⟩
    case round =>
      obtain ⟨y, rfl, hy, hall, rfl⟩ := hrel
      by_cases hy40 : y ≤ 40
      · go_wp2
        go_loopw [6, 7, 8] (fun a b ii w2 => ∃ k : Nat, k ≤ n ∧ ii = .int .i64 (k : Int) ∧ a = .int .i64 (lec ls (y : Int) k : Nat) ∧ b = .int .i64 (lec S (y : Int) k : Nat) ∧ w2 = wr) (fun _ _ ii _ => n - (intOf ii).toNat)
        case atStart => exact ⟨0, Nat.zero_le _, rfl, rfl, rfl, rfl⟩
        case round =>
          obtain ⟨k, hk, rfl, rfl, rfl, rfl⟩ := hrel
          have l1 := lec_le ls (y : Int) k
          have l2 := lec_le S (y : Int) k
          by_cases hkn : k < n
          · obtain ⟨A1, O1, rfl, hA1, hn1⟩ := H1.out.resolve_left (by omega)
            obtain ⟨A2, O2, rfl, hA2, hn2⟩ := H2.out.resolve_left (by omega)
            have y1 := hn1 k hkn
            have y2 := hn2 k hkn
            simp only [] at y1 y2
            have s1 := lec_succ (l := ls) (y : Int) (k := k) (by rw [HN.out]; exact hkn)
            have s2 := lec_succ (l := S) (y : Int) (k := k) (by rw [HM.out]; exact hkn)
            obtain ⟨u, hu⟩ : ∃ u, u = ls.getD k 0 := ⟨_, rfl⟩
            obtain ⟨v, hv⟩ : ∃ v, v = S.getD k 0 := ⟨_, rfl⟩
            obtain ⟨e1, he1⟩ : ∃ e1, e1 = lec ls (y : Int) k := ⟨_, rfl⟩
            obtain ⟨e2, he2⟩ : ∃ e2, e2 = lec S (y : Int) k := ⟨_, rfl⟩
            rw [← hu] at y1 s1
            rw [← hv] at y2 s2
            rw [← he1] at s1 l1 ⊢
            rw [← he2] at s2 l2 ⊢
            clear hu hv he1 he2 hn1 hn2
            have S1 := Lib.hid s1
            have S2 := Lib.hid s2
            clear s1 s2
            by_cases hu : u ≤ (y : Int) <;> by_cases hv : v ≤ (y : Int)
            all_goals
              go_wp2
              go_roundw
              case rel => exact ⟨k + 1, by omega, by go_num, by rw [S1.out]; first | rw [if_pos hu]; go_num | rw [if_neg hu]; go_num, by rw [S2.out]; first | rw [if_pos hv]; go_num | rw [if_neg hv]; go_num, by first | rfl | trivial⟩
              case measure => simp [intOf]; omega
          · obtain rfl : k = n := by omega
            by_cases hle : lec ls (y : Int) k ≤ lec S (y : Int) k
            · obtain ⟨e1, he1⟩ : ∃ e1, e1 = lec ls (y : Int) k := ⟨_, rfl⟩
              obtain ⟨e2, he2⟩ : ∃ e2, e2 = lec S (y : Int) k := ⟨_, rfl⟩
              rw [← he1] at hle l1 ⊢
              rw [← he2] at hle l2 ⊢
              have E1 := Lib.hid he1
              have E2 := Lib.hid he2
              clear he1 he2
              have hno : ¬ ((e2 : Int) < (e1 : Int)) := by omega
              go_wp2
              go_roundw
              case rel => exact ⟨y + 1, by go_num, by omega, fun y' hy' => by
                by_cases e : y' = y
                · rw [e, HN.out, HM.out, ← E1.out, ← E2.out]; exact hle
                · exact hall.out y' (by omega), by first | rfl | trivial⟩
              case measure => simp [intOf]; omega
            · have hf := fillB_no (ls := ls) (S := S) hy40 (by rw [HN.out, HM.out]; exact hle)
              have HF := Lib.hid hf
              obtain ⟨e1, he1⟩ : ∃ e1, e1 = lec ls (y : Int) k := ⟨_, rfl⟩
              obtain ⟨e2, he2⟩ : ∃ e2, e2 = lec S (y : Int) k := ⟨_, rfl⟩
              rw [← he1] at hle l1 ⊢
              rw [← he2] at hle l2 ⊢
              clear he1 he2 hf
              have hyes : (e2 : Int) < (e1 : Int) := by omega
              go_wp2
              refine bodyPost_ret (v := .bool false) (by simp [results, Tryz.results54, go_sem]) rfl ?_
              exact ⟨by rw [HF.out], Below.refl _ _⟩
      · obtain rfl : y = 41 := by omega
        have hf := fillB_yes (ls := ls) (S := S) (by rw [HN.out, HM.out]) hall.out
        go_wp2
        refine bodyPost_ret (v := .bool true) (by simp [results, Tryz.results54, go_sem]) rfl ?_
        exact ⟨by rw [hf], Below.refl _ _⟩
  · have hf := fillB_len (ls := ls) (S := S) (by rw [HN.out, HM.out]; exact hnm)
    rw [hf]
    have hne : ¬ ((n : Int) = (m : Int)) := by omega
    go_enter Tryz.func54, Tryz.ntmps54
    go_wp2
    refine bodyPost_ret (v := .bool false) (by simp [results, Tryz.results54, go_sem]) rfl ?_
    exact ⟨rfl, Below.refl _ _⟩

end Go.Kn

namespace Go.Kn
open Go Go.Proofs Go.RowKit

theorem run_append_nil0 {P : Program} {w : World} (t ty e : TypeId) (i : TypeInfo) (ht : P.underlying t = some (.slice e)) (hi : P.info? e = some i) (sq : Option Addr) (c : Nat) :
    (Builtin.append_ #[t, t] ty #[.slice none 0 0, .slice sq 0 c]).run P w = .ok (.slice none 0 0) w := by
  cases sq <;> simp [Builtin.append_, run_underlying ht, sizeOf, typeInfo, hi, Builtin.lenOf, Builtin.firstCells, loadCells, loadCellsFrom]

/-- append(nil, xs...) at every length -/
theorem wpList_append_sl {P : Program} {w : World} {ops : Array Oper} {rest : List Oper} {o : Oper} {a : Act} {Q : Exit → Act → World → Prop} (hgd : o.guard = none) (s x : Operand) (t : TypeId)
    (ho : o.op = .call { callee := .builtin .append, args := #[s, x], argTypes := #[t, t] })
    (base : Nat) (e : TypeId) (i : TypeInfo) (z : Value) (size bytes : Nat) (ht : P.underlying t = some (.slice e)) (hi : P.info? e = some i) (hz : i.zero = some z)
    (hsize : i.size = size) (hby : i.bytes = bytes) (hzs : z.cells.size = size) (hsz : 0 < size)
    (hs : a.eval s = .slice none 0 0) (sq : Option Addr) (m c : Nat) (news : List Value) (hx : a.eval x = .slice sq m c) (hl : news.length = m * size)
    (hnews : m = 0 ∨ ∃ ad, sq = some ad ∧ ∀ j u, news[j]? = some u → w.cell? (ad.add j) = some u) (h1 : ∀ u ∈ news, u.oneCell' = true)
    (h63 : m ≤ maxLen) (hbytes : m * bytes ≤ 140737488355328) (hbase : base ≤ w.heap.size)
    (h : ∀ v' w', w'.ownsRow base e size v' m news → w.grownBy w' none → (∀ r, v'.ownBlock = some r → r = w.heap.size) → wpList P ops Q rest (a.put o.dst v') w') :
    wpList P ops Q (o :: rest) a w := by
  by_cases hm : m = 0
  · subst hm
    have hn : news = [] := by cases news with
      | nil => rfl
      | cons _ _ => simp at hl
    subst hn
    have hr := run_append_nil0 (P := P) (w := w) t o.type e i ht hi sq c
    refine wpList_plain hgd fun K hK => ?_
    unfold Oper.wp execOp
    simp only [ho, resolve, invoke, builtin, Sem.run_bind, Sem.run_pure, Result.andThen_ok, List.map_toArray, List.map_cons, List.map_nil, hs, hx, hr]
    exact hK _ _ (h (.slice none 0 0) w (World.ownsRow_nil _ _ _ _) ⟨rfl, rfl, rfl, Nat.le_refl _, fun k _ _ => rfl⟩ (fun r hr => by simp [Value.ownBlock] at hr))
  · obtain ⟨ad, rfl, hn⟩ := hnews.resolve_left hm
    refine wpList_append_own_at w hgd s x t ho base e i z size bytes ht hi hz hsize hby hzs hsz (.slice none 0 0) 0 [] hs (World.ownsRow_nil _ _ _ _) ad m c news hx hl hn h1 (by omega) (by rw [Nat.zero_add]; exact hbytes) hbase ?_
    intro v' w' h2 h3 _ h5
    rw [Nat.zero_add, List.nil_append] at h2
    refine h _ _ h2 h3 fun r hr => ?_
    rcases h5 with h5 | h5
    · rw [hr] at h5; simp [Value.ownBlock] at h5
    · rw [hr] at h5; cases h5; rfl

theorem ints_news {w : World} {A O m : Nat} {xs : List Int} (h : NumAt w A O m (fun i => xs.getD i 0)) (hm : xs.length = m) :
    ∀ j u, (xs.map (Value.int .i64))[j]? = some u → w.cell? ((⟨A, O, none⟩ : Addr).add j) = some u := by
  have := take_news (k := xs.length) h hm
  rwa [List.take_length] at this

theorem NumAt.grown {w w' : World} {A O n : Nat} {f : Nat → Int} {row : Option Nat} (h : NumAt w A O n f) (hg : w.grownBy w' row) (hA : A < w.heap.size) (hr : some A ≠ row) : NumAt w' A O n f :=
  fun i hi => (hg.cell_far ⟨A, O + i, none⟩ hA hr).trans (h i hi)

set_option maxRecDepth 100000 in
set_option maxHeartbeats 1000000 in
theorem years_w (p : Option Addr) (n c : Nat) (ls : List Int) (w : World) (hn : ls.length = n) (hnl : n ≤ 1000) (hls : ∀ x ∈ ls, x ≤ 40) (H1 : Hid (IntSl w p n (fun i => ls.getD i 0))) :
    Calls Tryz.prog 53 #[.slice p n c] w
      fun e w' => (∃ (vo : Value) (out : List Int) (b : Bool), e = .returned (.tuple #[vo, .bool b]) ∧ w'.ownsRow w.heap.size 3 1 vo out.length (out.map (Value.int .i64)) ∧ (b = true ∧ Opt ls [] out ∧ (∀ x ∈ out, x ≤ 40) ∨ b = false ∧ NoYears ls [])) ∧ Below w.heap.size w w' := by
  obtain ⟨i0, hi, hz0, hz1, hz22⟩ := info_parts info3'
  have HN := Lib.hid hn
  have HLS := Lib.hid hls
  have hnews : n = 0 ∨ ∃ ad, p = some ad ∧ ∀ j u, (ls.map (Value.int .i64))[j]? = some u → w.cell? (ad.add j) = some u := by
    rcases H1.out with h | ⟨A, O, h1, h2, h3⟩
    · exact .inl h
    · exact .inr ⟨⟨A, O, none⟩, h1, ints_news h3 hn⟩
  have HW := Lib.hid hnews
  clear hn hls hnews
  go_enter Tryz.func53, Tryz.ntmps53
  go_wp2_with (at_builtin; refine wpList_append_sl rfl (.const (.slice none 0 0)) (.tmp 9) 22 rfl w.heap.size 3 i0 (.int .i64 0) 1 8 Tryz.underlying22 hi hz0 hz1 hz22 rfl (by decide) rfl p n c (ls.map (Value.int .i64)) rfl (by simp [HN.out]) HW.out (one_ints _) (by unfold maxLen; omega) (by omega) (Nat.le_refl _) ?_; intro v0 w0 hown0 hgrow0 hat0)
  have HB0 : Hid (Below w.heap.size w w0) := Lib.hid ((Below.refl _ _).grown (row := none) hgrow0 (Nat.le_refl _) (fun k e => by cases e))
  have HO0 := Lib.hid hown0
  clear hown0 hgrow0 hat0
  go_loopw [4, 5, 6] (fun vo vl yy wr => ∃ (y : Nat) (out left : List Int), y ≤ 41 ∧ yy = .int .i64 ((y : Int) - 1) ∧ out.length + y ≤ 41 ∧ left.length ≤ n ∧ Hid (Yrs ls (y : Int) out left) ∧ wr.ownsRow w.heap.size 3 1 vo out.length (out.map (Value.int .i64)) ∧ wr.ownsRow w.heap.size 3 1 vl left.length (left.map (Value.int .i64)) ∧
      (∀ r, vo.ownBlock = some r → vl.ownBlock ≠ some r) ∧ Below w.heap.size w wr) (fun _ _ yy _ => (intOf yy + 1).toNat)
  case atStart =>
    refine ⟨41, [], ls, by omega, rfl, by simp, by rw [HN.out]; exact Nat.le_refl _, yrs_start HLS.out, World.ownsRow_nil _ _ _ _, by rw [HN.out]; exact HO0.out, fun r h => by simp [Value.ownBlock] at h, HB0.out⟩
  case round =>
    obtain ⟨y, out, left, hy, rfl, hyo, hln, hyrs, hown1, hown2, hdis, hbw⟩ := hrel
    obtain ⟨sa, cl, rfl, hle, hcl, hcm, hsl⟩ := intSl_of_owns' hown2
    have HO1 := Lib.hid hown1
    have HO2 := Lib.hid hown2
    have HDIS := Lib.hid hdis
    have HBW := Lib.hid hbw
    have HSL := Lib.hid hsl
    have hzw := hbw.size
    clear hown1 hown2 hdis hbw hsl hle
    by_cases hy0 : 1 ≤ y
    · have hy1 : decide ((1 : Int) ≤ (y : Int)) = true := decide_eq_true (by omega)
      have hy2 : (1 : Int) ≤ (y : Int) := by omega
      obtain ⟨m, hm⟩ : ∃ m, m = left.length := ⟨_, rfl⟩
      rw [← hm] at hln hcl HO2 HSL ⊢
      have HM := Lib.hid hm
      clear hm
      go_wp2
      obtain ⟨wo, rfl⟩ : ∃ wo, wo = wr := ⟨wr, rfl⟩
      go_loopw [7, 8] (fun aa ii w2 => ∃ i : Nat, i ≤ m ∧ ii = .int .i64 (i : Int) ∧ ((aa = .int .i64 (-1) ∧ Hid (∀ j, j < i → left.getD j 0 < (y : Int) - 1)) ∨ (∃ a : Nat, aa = .int .i64 (a : Int) ∧ a < i ∧ Hid ((y : Int) - 1 ≤ left.getD a 0))) ∧ Below wo.heap.size wo w2) (fun _ ii _ => m - (intOf ii).toNat)
      case atStart => exact ⟨0, Nat.zero_le _, rfl, .inl ⟨rfl, fun j hj => absurd hj (by omega)⟩, Below.refl _ _⟩
      case round =>
        obtain ⟨i, hi', rfl, hat, hb2⟩ := hrel
        by_cases him : i < m
        · obtain ⟨A, O, rfl, hA, hnum⟩ := HSL.out.resolve_left (by omega)
          have hcell := hnum.below hA hb2
          have y1 := hcell i him
          simp only [] at y1
          obtain ⟨u, hu⟩ : ∃ u, u = left.getD i 0 := ⟨_, rfl⟩
          rw [← hu] at y1
          have HU := Lib.hid hu
          have n1 : (0 : Int) ≤ (i : Int) := by omega
          have n2 : (i : Int) < (m : Int) := by omega
          clear hu
          have HNUM := Lib.hid hcell
          have hA2 : A < wr.heap.size := Nat.lt_of_lt_of_le hA hb2.size
          clear hcell hnum
          rcases hat with ⟨rfl, hall⟩ | ⟨a, rfl, ha, hua⟩
          · have hneg : ((-1 : Int) < 0) = True := by simp
            have FY : Hid (∀ w', Below wr.heap.size wr w' → w'.cell? ⟨A, O + i, none⟩ = some (.int .i64 u) ∧ True) := Lib.hid fun w' h => ⟨(h.cell (p := ⟨A, O + i, none⟩) hA2).trans y1, trivial⟩
            by_cases hq : (y : Int) - 1 ≤ u
            · have hd1 : decide ((y : Int) - 1 ≤ u) = true := decide_eq_true hq
              go_wp2
              refine wp_region_calm (W := wr) (by kernel_rfl) (by kernel_rfl) (Below.refl _ _) ?_
              repeat (first
                | (refine calm_no (by rfl) ?_
                   (try simp only [Act.put, List.setIfInBounds_toArray, List.set_cons_zero, List.set_cons_succ]))
                | (apply calm_yes
                   focus rfl
                   focus
                     intro w' hw'
                     obtain ⟨z0, z1⟩ := FY.out w' hw'
                     go_simp
                     first
                       | done
                       | with_reducible rfl
                       | fail
                   (try simp only [Act.put, List.setIfInBounds_toArray, List.set_cons_zero, List.set_cons_succ])))
              refine calm_nil ?_
              intro w20 hb20
              have HB20 := Lib.hid hb20
              clear hb20
              go_wp2
              go_roundw
              case rel => exact ⟨i + 1, by omega, by go_num, .inr ⟨i, rfl, by omega, by rw [← HU.out]; exact hq⟩, hb2.trans (HB20.out.mono hb2.size)⟩
              case measure => simp [intOf]; omega
            · have hd1 : decide ((y : Int) - 1 ≤ u) = false := decide_eq_false hq
              go_wp2
              refine wp_region_calm (W := wr) (by kernel_rfl) (by kernel_rfl) (Below.refl _ _) ?_
              repeat (first
                | (refine calm_no (by rfl) ?_
                   (try simp only [Act.put, List.setIfInBounds_toArray, List.set_cons_zero, List.set_cons_succ]))
                | (apply calm_yes
                   focus rfl
                   focus
                     intro w' hw'
                     obtain ⟨z0, z1⟩ := FY.out w' hw'
                     go_simp
                     first
                       | done
                       | with_reducible rfl
                       | fail
                   (try simp only [Act.put, List.setIfInBounds_toArray, List.set_cons_zero, List.set_cons_succ])))
              refine calm_nil ?_
              intro w20 hb20
              have HB20 := Lib.hid hb20
              clear hb20
              go_wp2
              go_roundw
              case rel => exact ⟨i + 1, by omega, by go_num, .inl ⟨rfl, fun j hj => by
                by_cases e : j = i
                · rw [e, ← HU.out]; omega
                · exact hall.out j (by omega)⟩, hb2.trans (HB20.out.mono hb2.size)⟩
              case measure => simp [intOf]; omega
          · have y2 := HNUM.out a (by omega)
            simp only [] at y2
            obtain ⟨v, hv⟩ : ∃ v, v = left.getD a 0 := ⟨_, rfl⟩
            rw [← hv] at y2
            have n3 : (0 : Int) ≤ (a : Int) := by omega
            have n4 : (a : Int) < (m : Int) := by omega
            have n5 : decide ((a : Int) < 0) = false := decide_eq_false (by omega)
            have FY : Hid (∀ w', Below wr.heap.size wr w' → w'.cell? ⟨A, O + i, none⟩ = some (.int .i64 u) ∧ w'.cell? ⟨A, O + a, none⟩ = some (.int .i64 v)) := Lib.hid fun w' h => ⟨(h.cell (p := ⟨A, O + i, none⟩) hA2).trans y1, (h.cell (p := ⟨A, O + a, none⟩) hA2).trans y2⟩
            clear hv
            by_cases hq : (y : Int) - 1 ≤ u
            · have hd1 : decide ((y : Int) - 1 ≤ u) = true := decide_eq_true hq
              by_cases hv : v < u
              · have hd2 : decide (v < u) = true := decide_eq_true hv
                go_wp2
                refine wp_region_calm (W := wr) (by kernel_rfl) (by kernel_rfl) (Below.refl _ _) ?_
                repeat (first
                  | (refine calm_no (by rfl) ?_
                     (try simp only [Act.put, List.setIfInBounds_toArray, List.set_cons_zero, List.set_cons_succ]))
                  | (apply calm_yes
                     focus rfl
                     focus
                       intro w' hw'
                       obtain ⟨z0, z1⟩ := FY.out w' hw'
                       go_simp
                       first
                         | done
                         | with_reducible rfl
                         | fail
                     (try simp only [Act.put, List.setIfInBounds_toArray, List.set_cons_zero, List.set_cons_succ])))
                refine calm_nil ?_
                intro w20 hb20
                have HB20 := Lib.hid hb20
                clear hb20
                go_wp2
                go_roundw
                case rel => exact ⟨i + 1, by omega, by go_num, .inr ⟨i, rfl, by omega, by rw [← HU.out]; exact hq⟩, hb2.trans (HB20.out.mono hb2.size)⟩
                case measure => simp [intOf]; omega
              · have hd2 : decide (v < u) = false := decide_eq_false hv
                go_wp2
                refine wp_region_calm (W := wr) (by kernel_rfl) (by kernel_rfl) (Below.refl _ _) ?_
                repeat (first
                  | (refine calm_no (by rfl) ?_
                     (try simp only [Act.put, List.setIfInBounds_toArray, List.set_cons_zero, List.set_cons_succ]))
                  | (apply calm_yes
                     focus rfl
                     focus
                       intro w' hw'
                       obtain ⟨z0, z1⟩ := FY.out w' hw'
                       go_simp
                       first
                         | done
                         | with_reducible rfl
                         | fail
                     (try simp only [Act.put, List.setIfInBounds_toArray, List.set_cons_zero, List.set_cons_succ])))
                refine calm_nil ?_
                intro w20 hb20
                have HB20 := Lib.hid hb20
                clear hb20
                go_wp2
                go_roundw
                case rel => exact ⟨i + 1, by omega, by go_num, .inr ⟨a, rfl, by omega, hua⟩, hb2.trans (HB20.out.mono hb2.size)⟩
                case measure => simp [intOf]; omega
            · have hd1 : decide ((y : Int) - 1 ≤ u) = false := decide_eq_false hq
              go_wp2
              refine wp_region_calm (W := wr) (by kernel_rfl) (by kernel_rfl) (Below.refl _ _) ?_
              repeat (first
                | (refine calm_no (by rfl) ?_
                   (try simp only [Act.put, List.setIfInBounds_toArray, List.set_cons_zero, List.set_cons_succ]))
                | (apply calm_yes
                   focus rfl
                   focus
                     intro w' hw'
                     obtain ⟨z0, z1⟩ := FY.out w' hw'
                     go_simp
                     first
                       | done
                       | with_reducible rfl
                       | fail
                   (try simp only [Act.put, List.setIfInBounds_toArray, List.set_cons_zero, List.set_cons_succ])))
              refine calm_nil ?_
              intro w20 hb20
              have HB20 := Lib.hid hb20
              clear hb20
              go_wp2
              go_roundw
              case rel => exact ⟨i + 1, by omega, by go_num, .inr ⟨a, rfl, by omega, hua⟩, hb2.trans (HB20.out.mono hb2.size)⟩
              case measure => simp [intOf]; omega
        · obtain rfl : i = m := by omega
          have hyc : ((y - 1 : Nat) : Int) = (y : Int) - 1 := by omega
          rcases hat with ⟨rfl, hall⟩ | ⟨a, rfl, ha, hua⟩
          · have hneg : ¬ ((0 : Int) ≤ -1) := by omega
            have hneg2 : decide ((0 : Int) ≤ -1) = false := decide_eq_false hneg
            have HYC := Lib.hid hyc
            clear hyc
            go_wp2
            go_roundw
            case rel =>
              refine ⟨y - 1, out, left, by omega, by rw [HYC.out]; try go_num, by omega, by rw [← HM.out]; exact hln, ?_, owns_below HO1.out hb2, by rw [← HM.out]; exact owns_below HO2.out hb2, (fun r h => by have q := HDIS.out r h; rwa [← HM.out] at q), HBW.out.trans (hb2.mono hzw)⟩
              show Yrs ls _ out left
              rw [HYC.out]
              refine yrs_skip hyrs.out (fun x hx => ?_)
              obtain ⟨j, hj, rfl⟩ := List.mem_iff_getElem.mp hx
              have := hall.out j (by rw [HM.out]; exact hj)
              simpa [List.getD, hj] using this
            case measure => simp [intOf]; omega
          · obtain ⟨A, O, rfl, hA, hnum⟩ := HSL.out.resolve_left (by omega)
            have HNM := Lib.hid hnum
            have HYC := Lib.hid hyc
            clear hyc hnum
            have hol := own_lt HO1.out
            have hpos : (0 : Int) ≤ (a : Int) := by omega
            have hpos2 : decide ((0 : Int) ≤ (a : Int)) = true := decide_eq_true hpos
            have n1 : (0 : Int) ≤ (a : Int) + 1 := by omega
            have n2 : (a : Int) + 1 ≤ (i : Int) := by omega
            have n3 : (a : Int) ≤ (i : Int) := by omega
            have n5 : (a : Int) ≤ (cl : Int) := by omega
            have n6 : ¬ (cl = 0) := by omega
            have hwr : IntKind.i64.wrap ((a : Int) + 1) = (a : Int) + 1 := IntWalk.i64_in _ (by omega)
            have HO1' := Lib.hid (owns_below HO1.out hb2)
            have hz2 := hb2.size
            have hAne : some A ≠ Value.ownBlock u4 := fun h => HDIS.out A h.symm rfl
            have HANE := Lib.hid hAne
            clear hAne hol
            obtain ⟨O', hO', hck⟩ : ∃ O', (O' = O + (a + 1) ∨ i ≤ a + 1) ∧ ((cl = a + 1) = False ∧ O' = O + (a + 1) ∨ (cl = a + 1) = True ∧ O' = O) := by
              by_cases h : cl = a + 1
              · exact ⟨O, .inr (by omega), .inr ⟨eq_true h, rfl⟩⟩
              · exact ⟨O + (a + 1), .inl rfl, .inl ⟨eq_false h, rfl⟩⟩
            have HO' := Lib.hid hO'
            clear hO'
            rcases hck with ⟨hck, hOO⟩ | ⟨hck, hOO⟩
            all_goals
              have HOO := Lib.hid hOO
              clear hOO
              go_wp2_with (at_builtin; refine wpList_append_own_at _ rfl (.tmp 45) (.tmp 47) 22 rfl w.heap.size 3 i0 (.int .i64 0) 1 8 Tryz.underlying22 hi hz0 hz1 hz22 rfl (by decide) _ out.length _ rfl (HO1'.out.alloc _) ⟨_, 0, none⟩ 1 1 [.int .i64 ((y : Int) - 1)] rfl rfl (lies_any (by first | exact al_top rfl _ _ | exact al_top (by simp) _ _)) (by intro u hu; simp at hu; subst hu; rfl) (by unfold maxLen; omega) (by omega) (by simp; omega) ?_; intro v7 w7 hown7 hgrow7 _ hloc7)
              have hz7 : wr.heap.size + 1 ≤ w7.heap.size := by have := hgrow7.size; simpa using this
              have hA7 : A < w7.heap.size := by omega
              have HN7 : Hid (∀ w', Below w7.heap.size w7 w' → NumAt w' A O i (fun j => left.getD j 0)) := Lib.hid fun w' h => by
                have q1 : NumAt wr A O i (fun j => left.getD j 0) := HNM.out.below hA hb2
                have q2 : NumAt (wr.alloc (.cells #[.int .i64 ((y : Int) - 1)] 3)) A O i (fun j => left.getD j 0) := q1.below (by omega) ((Below.refl _ _).alloc (Nat.le_refl _) _)
                exact (q2.grown hgrow7 (by simp; omega) HANE.out).below hA7 h
              have HB7 : Hid (Below w.heap.size w w7) := Lib.hid (((HBW.out.trans (hb2.mono hzw)).alloc (by omega) _).grown hgrow7 (by simp; omega) (fun r e => own_ge HO1.out r e))
              have HO7 := Lib.hid hown7
              clear hown7 hgrow7 hloc7
              go_region_held3 (fun _ => True) ((first | trivial)) ((first
                | (have hx5 := hown5; (refine step_append_at rfl (.tmp 52) (.tmp 56) 22 rfl w7.heap.size 3 i0 (.int .i64 0) 1 8 Tryz.underlying22 hi hz0 hz1 hz22 rfl (by decide) _ a _ rfl (by first | exact hown5 | exact hown5.drew) ⟨A, _, none⟩ _ _ ((left.drop (a + 1)).map (Value.int .i64)) rfl (by simp [← HM.out]) (drop_news (HN7.out _ (by repeat (first | exact hb5 | refine Below.drew ?_))) HM.out.symm (by first | exact .inl rfl | (right; have := of_eq_true hck; omega))) (one_ints _) (by unfold maxLen; omega) (by omega) (by first | (simp; done) | (simp; omega) | omega) ?_; intro v6 w6 hown6 hgrow6 hat6; have hb6 : Below w7.heap.size w7 w6 := Below.grown (row := v5.ownBlock) (by repeat (first | exact hb5 | refine Below.drew ?_)) hgrow6 (by first | (simp; done) | (simp; omega) | omega) (fun k e => own_ge hown5 k e)))
                | ((refine step_append_at rfl (.const (.slice none 0 0)) (.tmp 51) 22 rfl w7.heap.size 3 i0 (.int .i64 0) 1 8 Tryz.underlying22 hi hz0 hz1 hz22 rfl (by decide) _ 0 [] rfl (World.ownsRow_nil _ _ _ _) ⟨A, O, none⟩ a _ ((left.take a).map (Value.int .i64)) rfl (by simp [← HM.out]; omega) (take_news (HN7.out _ (by repeat (first | exact Below.refl _ _ | refine Below.drew ?_))) HM.out.symm) (one_ints _) (by unfold maxLen; omega) (by omega) (by first | (simp; done) | (simp; omega) | omega) ?_; intro v5 w5 hown5 hgrow5 hat5; rw [Nat.zero_add, List.nil_append] at hown5; have hb5 : Below w7.heap.size w7 w5 := Below.grown (row := none) (by repeat (first | exact Below.refl _ _ | refine Below.drew ?_)) hgrow5 (by first | (simp; done) | (simp; omega) | omega) (fun k e => by cases e); have hb5z := hb5.size))))
              all_goals
                have hel : (left.eraseIdx a).length = a + (i - (a + 1)) := by rw [List.length_eraseIdx, if_pos (by rw [← HM.out]; exact ha), ← HM.out]; omega
                have hfin : w6.ownsRow w7.heap.size 3 1 v6 (left.eraseIdx a).length ((left.eraseIdx a).map (Value.int .i64)) := by
                  rw [hel, List.eraseIdx_eq_take_drop_succ, List.map_append]; exact hown6
                have HF := Lib.hid hfin
                have HB6 := Lib.hid hb6
                have HEL := Lib.hid hel
                clear hown5 hown6 hgrow5 hgrow6 hat5 hat6 hfin hx5 hb5 hb5z hb6 hel
                go_wp2
                go_roundw
                case rel =>
                  refine ⟨y - 1, out ++ [(y : Int) - 1], left.eraseIdx a, by omega, by rw [HYC.out]; try go_num, by simp; omega, by rw [HEL.out]; omega, ?_, ?_, own_base HF.out (by omega), ?_, HB7.out.trans (HB6.out.mono (by omega))⟩
                  · show Yrs ls _ _ _
                    rw [HYC.out]
                    refine yrs_take hyrs.out (d := left.getD a 0) ?_ hua.out (by omega) (by omega)
                    have hal : a < left.length := by rw [← HM.out]; exact ha
                    simp [List.getD, hal]
                  · have q := owns_below HO7.out HB6.out
                    rw [List.map_append, List.length_append]
                    exact q
                  · intro r h1 h2
                    have q1 := own_lt HO7.out r h1
                    have q2 := own_ge HF.out r h2
                    omega
                case measure => simp [intOf]; omega
    · obtain rfl : y = 0 := by omega
      have hy0' : ¬ ((1 : Int) ≤ ((0 : Nat) : Int)) := by omega
      have hlt : left.length = 0 ∨ left.length ≠ 0 := by omega
      have HY := Lib.hid hyrs.out
      have hbd : Hid (∀ x ∈ out, x ≤ 40) := Lib.hid fun x hx => (hyrs.out.bd x hx).2
      rcases hlt with hl0 | hl0
      · have hlft : left = [] := List.eq_nil_of_length_eq_zero hl0
        subst hlft
        go_wp2
        refine bodyPost_ret (v := .tuple #[u4, .bool true]) (by simp [results, Tryz.results53, go_sem]) rfl ⟨⟨u4, out, .inr ⟨rfl, HO1.out, yrs_opt HY.out, hbd.out⟩⟩, HBW.out⟩
      · have hl1 : ¬ ((left.length : Int) = 0) := by omega
        have hl2 : ¬ (left = []) := fun e => hl0 (by rw [e]; rfl)
        go_wp2
        refine bodyPost_ret (v := .tuple #[u4, .bool false]) (by simp [results, Tryz.results53, go_sem, hl2]) rfl ⟨⟨u4, out, .inl ⟨rfl, HO1.out, no_asg (yrs_no HY.out hl0)⟩⟩, HBW.out⟩

end Go.Kn
