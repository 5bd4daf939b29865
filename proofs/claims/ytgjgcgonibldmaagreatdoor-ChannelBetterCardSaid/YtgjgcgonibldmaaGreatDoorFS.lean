/- Walks of functions of layer 2 (contracts that the laws of this seat use). Conditions: as each theorem states them. -/
import Derived.Test.YtgjgcgonibldmaaGreatDoorFW
import Derived.Maps.OwnOps
import Derived.Maps.OwnSet
import Derived.Shelf.SlMaps.Clone
import Derived.Test.YtgjgcgonibldmaaGreatDoorFP
import Derived.Test.YtgjgcgonibldmaaGreatDoorFN
import Derived.WalkMore
set_option linter.unusedVariables false
set_option linter.unusedSimpArgs false
namespace Go.Kn
open Go Go.Proofs Go.RowKit

/-- block b is a map in which just these years are taken -/
def SetAt (w : World) (b : Nat) (T : List Int) : Prop :=
  ∃ (es : Array MapEntry) (clock : Nat) (L : List Int), w.heap[b]? = some (.map es clock) ∧ es.toList.map (fun e => (e.key, e.val)) = L.map (fun y => (Value.agg #[.int .i64 y], Value.bool true)) ∧ L.Nodup ∧ ∀ x, x ∈ L ↔ x ∈ T

theorem SetAt.iff {w : World} {b : Nat} {T T' : List Int} (h : SetAt w b T) (he : ∀ x, x ∈ T ↔ x ∈ T') : SetAt w b T' := by
  obtain ⟨es, c, L, h1, h2, h3, h4⟩ := h
  exact ⟨es, c, L, h1, h2, h3, fun x => (h4 x).trans (he x)⟩

theorem slot_check (a : Int) (e : Bool) (w : World) : (Instr.checkKey e 10000 122 (.agg #[.int .i64 a])).run Tryz.prog w = .ok () w := by
  have c3 : ∀ (n : Nat) (v : Int), (Instr.checkKey e (n + 1) 3 (.int .i64 v)).run Tryz.prog w = .ok () w := by
    intro n v
    rw [Instr.checkKey]
    simp [run_underlying Tryz.underlying3]
  have p3 : ∀ (v : Int), (part 3 #[.int .i64 v] 0).run Tryz.prog w = .ok (.int .i64 v) w := by
    intro v
    simp [part, run_underlying Tryz.underlying3]
  show (Instr.checkKey e (9999 + 1) 122 (.agg #[.int .i64 a])).run Tryz.prog w = _
  rw [Instr.checkKey]
  have c3' := c3 9998 a
  simp [run_underlying Tryz.underlying122, p3, c3']

theorem slot_equal (a b : Int) (w : World) : (Op.equal 122 (.agg #[.int .i64 a]) (.agg #[.int .i64 b])).run Tryz.prog w = .ok (decide (a = b)) w := by
  have p3 : ∀ (v : Int), (part 3 #[.int .i64 v] 0).run Tryz.prog w = .ok (.int .i64 v) w := by
    intro v
    simp [part, run_underlying Tryz.underlying3]
  have e3 : ∀ (n : Nat) (v u : Int), (Op.equalIn (n + 1) 3 (.int .i64 v) (.int .i64 u)).run Tryz.prog w = .ok (v == u) w := by
    intro n v u
    rw [Op.equalIn]
    simp [run_underlying Tryz.underlying3]
  show (Op.equalIn (9999 + 1) 122 (.agg #[.int .i64 a]) (.agg #[.int .i64 b])).run Tryz.prog w = _
  rw [Op.equalIn]
  have e3' := e3 9998 a b
  have hs : Tryz.prog.stoodInHeld 122 = false := by kernel_rfl
  simp [run_underlying Tryz.underlying122, p3, e3', hs]
  by_cases hab : a = b <;> simp [hab]

theorem slot_asking (y : Int) (w : World) : ∀ (es : List MapEntry) (L : List Int) (i : Nat), es.map (fun e => (e.key, e.val)) = L.map (fun y => (Value.agg #[.int .i64 y], Value.bool true)) →
    (Instr.findAsking 122 (.agg #[.int .i64 y]) es i).run Tryz.prog w = .ok (if y ∈ L then some (i + L.idxOf y, .bool true) else none) w
  | [], [], i, _ => by simp [Instr.findAsking, go_sem]
  | [], _ :: _, _, h => by simp at h
  | _ :: _, [], _, h => by simp at h
  | e :: es, x :: L, i, h => by
    simp only [List.map_cons, List.cons.injEq, Prod.mk.injEq] at h
    obtain ⟨⟨hk, hv⟩, hr⟩ := h
    have ih := slot_asking y w es L (i + 1) hr
    rw [Instr.findAsking]
    by_cases hyx : y = x
    · subst hyx
      simp [hk, hv, slot_equal, Result.andThen, go_sem]
    · simp [hk, slot_equal, hyx, ih, Result.andThen, go_sem]
      have hb : (x == y) = false := by simp; omega
      simp only [List.idxOf_cons, hb, cond_false]
      split
      · simp; omega
      · rfl

theorem slot_find (y : Int) (w : World) (es : List MapEntry) (L : List Int) (h : es.map (fun e => (e.key, e.val)) = L.map (fun y => (Value.agg #[.int .i64 y], Value.bool true))) :
    (Instr.findKey 122 (.agg #[.int .i64 y]) es).run Tryz.prog w = .ok (if y ∈ L then some (L.idxOf y, .bool true) else none) w := by
  have ha := slot_asking y w es L 0 h
  rw [Instr.findKey]
  cases es with
  | nil =>
    cases L with
    | nil => simp [run_underlying Tryz.underlying122, Instr.findNow, go_sem, Result.andThen]
    | cons a b => simp at h
  | cons e es =>
    have hn : ∀ fs, Instr.findNow (.struct fs) (.agg #[.int .i64 y]) (e :: es) 0 = none := by
      intro fs
      cases L with
      | nil => simp at h
      | cons a b =>
        simp only [List.map_cons, List.cons.injEq, Prod.mk.injEq] at h
        simp [Instr.findNow, Instr.sameNow]
    simp [run_underlying Tryz.underlying122, hn, ha, Result.andThen]

theorem SetAt.look {w : World} {b : Nat} {T : List Int} (h : SetAt w b T) (y : Int) : (Instr.lookup 119 (.map (some b)) (.agg #[.int .i64 y]) false).run Tryz.prog w = .ok (.bool (decide (y ∈ T))) w := by
  obtain ⟨es, c, L, h1, h2, h3, h4⟩ := h
  have hf := slot_find y w es.toList L h2
  have hz : (zeroValue 4).run Tryz.prog w = .ok (.bool false) w := by kernel_rfl
  by_cases hy : y ∈ L
  · rw [if_pos hy] at hf
    have hT := (h4 y).mp hy
    simp [Instr.lookup, run_underlying Tryz.underlying119, MapKept.run_getObj_map h1, slot_check, hf, hz, Result.andThen, hT]
  · rw [if_neg hy] at hf
    have hT : y ∉ T := fun h => hy ((h4 y).mpr h)
    simp [Instr.lookup, run_underlying Tryz.underlying119, MapKept.run_getObj_map h1, slot_check, hf, hz, Result.andThen, hT]

/-- only block b has changed -/
def Turn (w w' : World) (b : Nat) : Prop := ∃ o : Obj, w' = { w with heap := w.heap.setIfInBounds b o }
theorem Turn.size {w w' : World} {b : Nat} (h : Turn w w' b) : w'.heap.size = w.heap.size := by
  obtain ⟨o, rfl⟩ := h; simp
theorem Turn.block {w w' : World} {b : Nat} (h : Turn w w' b) {i : Nat} (hi : i ≠ b) : w'.heap[i]? = w.heap[i]? := by
  obtain ⟨o, rfl⟩ := h
  show (w.heap.setIfInBounds b o)[i]? = _
  rw [Array.getElem?_setIfInBounds, if_neg (by omega)]
theorem Turn.below {a w w' : World} {b B : Nat} (h : Turn w w' b) (hb : Below B a w) (hB : B ≤ b) : Below B a w' := by
  obtain ⟨o, rfl⟩ := h
  exact hb.trans ⟨rfl, rfl, rfl, by simp, fun k hk => Turn.block ⟨o, rfl⟩ (by omega)⟩

theorem SetAt.lt {w : World} {b : Nat} {T : List Int} (h : SetAt w b T) : b < w.heap.size := by
  obtain ⟨es, c, L, h1, _⟩ := h
  exact (Array.getElem?_eq_some_iff.1 h1).1
theorem SetAt.below {w w' : World} {b B : Nat} {T : List Int} (h : SetAt w b T) (hb : Below B w w') (hB : b < B) : SetAt w' b T := by
  obtain ⟨es, c, L, h1, h2⟩ := h
  exact ⟨es, c, L, (hb.block b hB).trans h1, h2⟩
theorem SetAt.turn {w w' : World} {b b' : Nat} {T : List Int} (h : SetAt w b T) (hb : Turn w w' b') (hB : b ≠ b') : SetAt w' b T := by
  obtain ⟨es, c, L, h1, h2⟩ := h
  exact ⟨es, c, L, (hb.block hB).trans h1, h2⟩
theorem SetAt.made (w : World) : SetAt (w.alloc (.map #[] 0)) w.heap.size [] := ⟨#[], 0, [], (MapKept.heap_alloc w _).1, rfl, List.nodup_nil, fun x => Iff.rfl⟩

theorem SetAt.put {w : World} {b : Nat} {T : List Int} (h : SetAt w b T) {y : Int} (hy : y ∉ T) :
    ∃ w', (Instr.mapUpdate 119 (.map (some b)) (.agg #[.int .i64 y]) (.bool true)).run Tryz.prog w = .ok () w' ∧ SetAt w' b (y :: T) ∧ Turn w w' b := by
  have hlt := h.lt
  obtain ⟨es, c, L, h1, h2, h3, h4⟩ := h
  have hf := slot_find y w es.toList L h2
  have hL : y ∉ L := fun h => hy ((h4 y).mp h)
  rw [if_neg hL] at hf
  refine ⟨{ w with heap := w.heap.setIfInBounds b (.map (es.push ⟨.agg #[.int .i64 y], .bool true, c⟩) (c + 1)) }, ?_, ⟨es.push ⟨.agg #[.int .i64 y], .bool true, c⟩, c + 1, L ++ [y], ?_, ?_, ?_, ?_⟩, ⟨_, rfl⟩⟩
  · simp [Instr.mapUpdate, run_underlying Tryz.underlying119, MapKept.run_getObj_map h1, slot_check, hf, MapKept.run_setObj_map _ h1, Result.andThen]
  · show (w.heap.setIfInBounds b _)[b]? = _
    rw [Array.getElem?_setIfInBounds, if_pos rfl, if_pos hlt]
  · simp [h2]
  · rw [List.nodup_append]
    refine ⟨h3, by simp, fun a ha b hb => ?_⟩
    rw [List.mem_singleton] at hb
    intro e
    exact hL (hb ▸ e ▸ ha)
  · intro x
    rw [List.mem_append, List.mem_singleton, List.mem_cons, h4 x]
    exact ⟨fun h => h.symm, fun h => h.symm⟩

theorem SetAt.del {w : World} {b : Nat} {T : List Int} {y : Int} (h : SetAt w b (y :: T)) (hy : y ∉ T) (ty : TypeId) :
    ∃ w', (Builtin.delete_ #[119, 122] ty #[.map (some b), .agg #[.int .i64 y]]).run Tryz.prog w = .ok (.tuple #[]) w' ∧ SetAt w' b T ∧ Turn w w' b := by
  have hlt := h.lt
  obtain ⟨es, c, L, h1, h2, h3, h4⟩ := h
  have hf := slot_find y w es.toList L h2
  have hL : y ∈ L := (h4 y).mpr List.mem_cons_self
  rw [if_pos hL] at hf
  have hlen : es.size = L.length := by
    have := congrArg List.length h2
    simpa using this
  have hj : L.idxOf y < es.size := by rw [hlen]; exact List.idxOf_lt_length_of_mem hL
  have hsub : (es.eraseIdxIfInBounds (L.idxOf y)).toList = es.toList.eraseIdx (L.idxOf y) := by
    unfold Array.eraseIdxIfInBounds
    rw [dif_pos hj]
    simp
  refine ⟨{ w with heap := w.heap.setIfInBounds b (.map (es.eraseIdxIfInBounds (L.idxOf y)) c) }, ?_, ⟨es.eraseIdxIfInBounds (L.idxOf y), c, L.erase y, ?_, ?_, h3.erase y, ?_⟩, ⟨_, rfl⟩⟩
  · simp [Builtin.delete_, run_underlying Tryz.underlying119, MapKept.run_getObj_map h1, slot_check, hf, MapKept.run_setObj_map _ h1, Result.andThen]
  · show (w.heap.setIfInBounds b _)[b]? = _
    rw [Array.getElem?_setIfInBounds, if_pos rfl, if_pos hlt]
  · rw [hsub, List.erase_eq_eraseIdx_of_idxOf (i := L.idxOf y) rfl, ChangeMaps.map_eraseIdx, h2, ChangeMaps.map_eraseIdx]
  · intro x
    rw [h3.mem_erase_iff, h4 x, List.mem_cons]
    exact ⟨fun ⟨a, b⟩ => b.resolve_left a, fun h => ⟨fun e => hy (e ▸ h), .inr h⟩⟩

section
variable {w : World} {ops : Array Oper} {rest : List Oper} {o : Oper} {a : Act} {Q : Exit → Act → World → Prop}

theorem wpList_lookup_set (hg : o.guard = none) (m x : Operand) (hop : o.op = Op.lookup 119 m x false) (b : Nat) (T : List Int) (hm : a.eval m = .map (some b)) (h : SetAt w b T) (y : Int) (hx : a.eval x = .agg #[.int .i64 y])
    (hK : wpList Tryz.prog ops Q rest (a.put o.dst (.bool (decide (y ∈ T)))) w) : wpList Tryz.prog ops Q (o :: rest) a w := by
  refine wpList_plain hg fun K' hK' => ?_
  have hrun := h.look y
  unfold Oper.wp
  simp [execOp, hop, hm, hx, hrun, Result.andThen]
  exact hK' _ _ hK

theorem wpList_put_set (hg : o.guard = none) (m x v : Operand) (hop : o.op = Op.mapUpdate 119 m x v) (b : Nat) (T : List Int) (hm : a.eval m = .map (some b)) (h : SetAt w b T) (y : Int) (hx : a.eval x = .agg #[.int .i64 y]) (hv : a.eval v = .bool true) (hy : y ∉ T)
    (hK : ∀ w', SetAt w' b (y :: T) → Turn w w' b → wpList Tryz.prog ops Q rest (a.put o.dst undef) w') : wpList Tryz.prog ops Q (o :: rest) a w := by
  refine wpList_plain hg fun K' hK' => ?_
  obtain ⟨w', hrun, r1, r2⟩ := h.put hy
  unfold Oper.wp
  simp [execOp, hop, hm, hx, hv, hrun, Result.andThen]
  exact hK' _ _ (hK w' r1 r2)

theorem wpList_del_set (hg : o.guard = none) (m x : Operand) (hop : o.op = Op.call { callee := Callee.builtin Builtin.delete, args := #[m, x], argTypes := #[119, 122] }) (b : Nat) (T : List Int) (y : Int) (hm : a.eval m = .map (some b)) (h : SetAt w b (y :: T)) (hx : a.eval x = .agg #[.int .i64 y]) (hy : y ∉ T)
    (hK : ∀ w', SetAt w' b T → Turn w w' b → wpList Tryz.prog ops Q rest (a.put o.dst (.tuple #[])) w') : wpList Tryz.prog ops Q (o :: rest) a w := by
  refine wpList_plain hg fun K' hK' => ?_
  obtain ⟨w', hrun, r1, r2⟩ := h.del hy o.type
  unfold Oper.wp
  simp [execOp, hop, resolve, invoke, builtin, hm, hx, hrun, Result.andThen]
  exact hK' _ _ (hK w' r1 r2)
end

set_option maxRecDepth 100000 in
set_option maxHeartbeats 2000000 in
theorem clone_map (b : Nat) (T : List Int) (w : World) (h : SetAt w b T) :
    Calls Tryz.prog 108 #[.map (some b)] w fun e w' => e = .returned (.map (some w.heap.size)) ∧ SetAt w' w.heap.size T ∧ Below w.heap.size w w' := by
  obtain ⟨es, c, L, h1, h2⟩ := h
  have hq := fun w => run_eql_map_nil_sl (P := Tryz.prog) w 119 122 4 (some b) Tryz.underlying119
  go_enter Tryz.func108, Tryz.ntmps108
  go_wp2
  rw [run_callFunc_extern Tryz.func122 (by kernel_rfl) (by kernel_rfl) (by kernel_rfl) (e := Extern.MapsClone.clone) (by kernel_rfl), run_maps_clone_sl w 119 h1]
  simp only [Result.andThen]
  rw [Oper.upon_value]
  go_wp2
  rw [run_typeAssert_map_sl _ 119 20 _ _ _ Tryz.underlying119]
  simp only [Result.andThen]
  rw [Oper.upon_value]
  go_wp2
  go_ret
  exact ⟨rfl, ⟨es, c, L, (MapKept.heap_alloc w _).1, h2⟩, (Below.refl _ _).alloc (Nat.le_refl _) _⟩

end Go.Kn

namespace Go.Kn
open Go Go.Proofs Go.RowKit

/-- the numbers of a function as a list -/
def from' (g : Nat → Int) (k : Nat) : Nat → List Int
  | 0 => []
  | n + 1 => g k :: from' g (k + 1) n

theorem from_len (g : Nat → Int) : ∀ (n k : Nat), (from' g k n).length = n
  | 0, _ => rfl
  | n + 1, k => by simp [from', from_len g n (k + 1)]

theorem top_step {T : List Int} {d y : Int} (h1 : y ≤ d) (h2 : ∀ z, y < z → z ≤ d → z ∈ T) (h : y ∈ T) : y - 1 ≤ d ∧ ∀ z, y - 1 < z → z ≤ d → z ∈ T :=
  ⟨by omega, fun z h3 h4 => by
    by_cases e : z = y
    · exact e ▸ h
    · exact h2 z (by omega) h4⟩

/-- what greatestSum returns -/
def SumP (ls T : List Int) (s : Int) (b : Bool) : Prop := (b = true ∧ ∃ ys, Greedy ls T ys ∧ s = sumL ys) ∨ (b = false ∧ s = 0 ∧ NoYears ls T)

theorem sumL_app (a b : List Int) : sumL (a ++ b) = sumL a + sumL b := by
  induction a with
  | nil => simp [sumL]
  | cons x l ih => simp only [List.cons_append, sumL, ih]; omega

set_option maxRecDepth 100000 in
set_option maxHeartbeats 4000000 in
theorem greatestSum_w (p : Option Addr) (n c b : Nat) (g : Nat → Int) (k0 : Nat) (T : List Int) (w : World) (hn : n ≤ 1000000) (hT0 : ∀ x ∈ T, 0 ≤ x ∧ x ≤ 1000000) (hg : ∀ k, -1000000 ≤ g k ∧ g k ≤ 1000000)
    (HI : Hid (IntSl w p n (fun i => g (k0 + i)))) (HS : Hid (SetAt w b T)) :
    Calls Tryz.prog 82 #[.slice p n c, .map (some b)] w
      fun e w' => (∃ (s : Int) (r : Bool), e = .returned (.tuple #[.int .i64 s, .bool r]) ∧ SumP (from' g k0 n) T s r) ∧ Below w.heap.size w w' := by
  go_enter Tryz.func82, Tryz.ntmps82
  go_wp2_with (go_at_call 108; refine (clone_map _ T _ HS.out).mono ?_; rintro e w1 ⟨rfl, hs1, hb1⟩)
  have hlt1 := hs1.lt
  have HS1 := Lib.hid hs1
  clear hs1
  have HT0 := Lib.hid hT0
  clear hT0
  have HG := Lib.hid hg
  clear hg
  go_loopw [4, 12] (fun s i wr => ∃ (k : Nat) (pre : List Int) (T' : List Int), k ≤ n ∧ i = .int .i64 k ∧ s = .int .i64 (sumL pre) ∧ Hid ((∀ r, Greedy (from' g (k0 + k) (n - k)) T' r → Greedy (from' g k0 n) T (pre ++ r)) ∧ (NoYears (from' g (k0 + k) (n - k)) T' → NoYears (from' g k0 n) T)) ∧
    (0 ≤ sumL pre ∧ sumL pre ≤ 1000000 * k) ∧ Hid (∀ x ∈ T', 0 ≤ x ∧ x ≤ 1000000) ∧ SetAt wr w.heap.size T' ∧ Below w.heap.size w wr) (fun _ i _ => n - (intOf i).toNat)
  case atStart => exact ⟨0, [], T, Nat.zero_le _, rfl, rfl, ⟨fun r h => h, fun h => h⟩, by simp [sumL], HT0.out, HS1.out, hb1⟩
  case round =>
    obtain ⟨k, pre, T', hk, rfl, rfl, hcon, hpre, hT', hset, hbw⟩ := hrel
    by_cases hlt : k < n
    · obtain ⟨A, O, rfl, hA, hnum⟩ : ∃ A O, p = some ⟨A, O, none⟩ ∧ A < w.heap.size ∧ NumAt w A O n (fun i => g (k0 + i)) := by
        rcases HI.out with h | h
        · omega
        · exact h
      have hc : wr.cell? ⟨A, O + k, none⟩ = some (.int .i64 (g (k0 + k))) := (hbw.cell (p := ⟨A, O + k, none⟩) hA).trans (hnum k hlt)
      have hgk := HG.out (k0 + k)
      obtain ⟨d, hd⟩ : ∃ d, d = g (k0 + k) := ⟨_, rfl⟩
      rw [← hd] at hc hgk
      clear hnum
      have HD := Lib.hid hd
      clear hd
      go_wp2
      go_loopw [7] (fun y w2 => ∃ yy : Int, y = .int .i64 yy ∧ yy ≤ d ∧ (-1000001 ≤ yy) ∧ Hid (∀ z, yy < z → z ≤ d → z ∈ T') ∧ w2 = wr) (fun y _ => (intOf y + 1).toNat)
      case atStart => exact ⟨d, rfl, Int.le_refl _, by omega, fun z h1 h2 => by omega, rfl⟩
      case round =>
        obtain ⟨yy, rfl, hyd, hyl, hyT, rfl⟩ := hrel
        by_cases hy : yy ∈ T'
        · have hdec : decide (yy ∈ T') = true := decide_eq_true hy
          have hb0 := hT'.out yy hy
          go_wp2_with (first | (at_lookup; refine wpList_lookup_set rfl _ _ rfl w.heap.size T' rfl hset yy rfl ?_; rw [hdec]))
          go_roundw
          case rel => exact ⟨yy - 1, by go_num, by omega, by omega, (top_step hyd hyT.out hy).2, trivial⟩
          case measure => simp [intOf]; omega
        · have hdec : decide (yy ∈ T') = false := decide_eq_false hy
          have htop : Hid (Top T' d yy) := ⟨hyd, hy, hyT.out⟩
          by_cases h0 : yy < 0
          · go_wp2_with (first | (at_lookup; refine wpList_lookup_set rfl _ _ rfl w.heap.size T' rfl hset yy rfl ?_; rw [hdec]))
            have hfl : from' g (k0 + k) (n - k) = d :: from' g (k0 + k + 1) (n - k - 1) := by
              rw [show n - k = (n - k - 1) + 1 by omega, HD.out]; rfl
            refine bodyPost_ret (v := .tuple #[.int .i64 0, .bool false]) (by simp [results, Tryz.results82, go_sem]) rfl ⟨⟨0, false, rfl, .inr ⟨rfl, rfl, hcon.out.2 ?_⟩⟩, hbw⟩
            rw [hfl]
            exact ⟨yy, htop.out, .inl h0⟩
          · go_wp2_with (first | (at_lookup; refine wpList_lookup_set rfl _ _ rfl w.heap.size T' rfl hset yy rfl ?_; rw [hdec]) | (at_mapUpdate; refine wpList_put_set rfl _ _ _ rfl w.heap.size T' rfl hset yy rfl rfl hy ?_; intro w3 hs3 ht3))
            go_roundw
            case rel =>
              have hfl : from' g (k0 + k) (n - k) = d :: from' g (k0 + (k + 1)) (n - (k + 1)) := by
                rw [show n - k = (n - (k + 1)) + 1 by omega, HD.out]; rfl
              refine ⟨k + 1, pre ++ [yy], yy :: T', by omega, by go_num, ?_, ?_, ?_, ?_, hs3, ht3.below hbw (Nat.le_refl _)⟩
              · rw [sumL_app]; simp only [sumL]; go_num
              · have h := hcon.out
                rw [hfl] at h
                refine ⟨fun r hr => ?_, fun hr => h.2 ⟨yy, htop.out, .inr ⟨by omega, hr⟩⟩⟩
                have := h.1 (yy :: r) ⟨yy, r, rfl, by omega, htop.out, hr⟩
                simpa using this
              · rw [sumL_app]; simp only [sumL]; omega
              · intro x hx
                rcases List.mem_cons.mp hx with rfl | hx
                · omega
                · exact hT'.out x hx
            case measure => simp [intOf]; omega
    · obtain rfl : k = n := by omega
      go_wp2
      refine bodyPost_ret (v := .tuple #[.int .i64 (sumL pre), .bool true]) (by simp [results, Tryz.results82, go_sem]) rfl ⟨⟨_, true, rfl, .inl ⟨rfl, pre, ?_, rfl⟩⟩, hbw⟩
      have := hcon.out.1 [] (by rw [Nat.sub_self]; rfl)
      simpa using this

theorem greedy_same : ∀ {ls T a b : List Int}, Greedy ls T a → Greedy ls T b → a = b
  | [], _, _, _, h, h' => by cases h; cases h'; rfl
  | d :: ls, T, a, b, ⟨y, r, e, h1, h2, h3⟩, ⟨y', r', e', h1', h2', h3'⟩ => by
    subst e; subst e'
    have hy : y = y' := by
      rcases Int.lt_trichotomy y y' with h | h | h
      · exact (h2'.2.1 (h2.2.2 y' h h2'.1)).elim
      · exact h
      · exact (h2.2.1 (h2'.2.2 y h h2.1)).elim
    subst hy
    rw [greedy_same h3 h3']

theorem greatestSum_is (p : Option Addr) (n c b : Nat) (g : Nat → Int) (k0 : Nat) (T ys : List Int) (w : World) (hn : n ≤ 1000000) (hT0 : ∀ x ∈ T, 0 ≤ x ∧ x ≤ 1000000) (hg : ∀ k, -1000000 ≤ g k ∧ g k ≤ 1000000)
    (HI : Hid (IntSl w p n (fun i => g (k0 + i)))) (HS : Hid (SetAt w b T)) (HY : Hid (Greedy (from' g k0 n) T ys)) :
    Calls Tryz.prog 82 #[.slice p n c, .map (some b)] w
      fun e w' => e = .returned (.tuple #[.int .i64 (sumL ys), .bool true]) ∧ Below w.heap.size w w' := by
  refine (greatestSum_w p n c b g k0 T w hn hT0 hg HI HS).mono ?_
  rintro e w' ⟨⟨s, r, rfl, (⟨rfl, zs, hz, rfl⟩ | ⟨rfl, rfl, hz⟩)⟩, hb⟩
  · rw [greedy_same HY.out hz]; exact ⟨rfl, hb⟩
  · exact (noyears_no hz ys (greedy_asg HY.out)).elim

theorem greatestSum_no (p : Option Addr) (n c b : Nat) (g : Nat → Int) (k0 : Nat) (T : List Int) (w : World) (hn : n ≤ 1000000) (hT0 : ∀ x ∈ T, 0 ≤ x ∧ x ≤ 1000000) (hg : ∀ k, -1000000 ≤ g k ∧ g k ≤ 1000000)
    (HI : Hid (IntSl w p n (fun i => g (k0 + i)))) (HS : Hid (SetAt w b T)) (HY : Hid (NoYears (from' g k0 n) T)) :
    Calls Tryz.prog 82 #[.slice p n c, .map (some b)] w
      fun e w' => e = .returned (.tuple #[.int .i64 0, .bool false]) ∧ Below w.heap.size w w' := by
  refine (greatestSum_w p n c b g k0 T w hn hT0 hg HI HS).mono ?_
  rintro e w' ⟨⟨s, r, rfl, (⟨rfl, zs, hz, rfl⟩ | ⟨rfl, rfl, hz⟩)⟩, hb⟩
  · exact (noyears_no HY.out zs (greedy_asg hz)).elim
  · exact ⟨rfl, hb⟩

end Go.Kn

namespace Go.Kn
open Go Go.Proofs Go.RowKit

/-- all blocks that were there are as they were, but for one -/
structure KB (m : Nat) (W W' : World) : Prop where
  os : W'.os = W.os
  tape : W'.tape = W.tape
  output : W'.output = W.output
  size : W.heap.size ≤ W'.heap.size
  block : ∀ k, k < W.heap.size → k ≠ m → W'.heap[k]? = W.heap[k]?
theorem KB.refl (m : Nat) (W : World) : KB m W W := ⟨rfl, rfl, rfl, Nat.le_refl _, fun _ _ _ => rfl⟩
theorem KB.trans {m : Nat} {A B C : World} (h : KB m A B) (k : KB m B C) : KB m A C :=
  ⟨k.os.trans h.os, k.tape.trans h.tape, k.output.trans h.output, Nat.le_trans h.size k.size, fun i hi hm => (k.block i (Nat.lt_of_lt_of_le hi h.size) hm).trans (h.block i hi hm)⟩
theorem KB.of_below {m : Nat} {A W W' : World} (h : KB m A W) (hb : Below W.heap.size W W') : KB m A W' :=
  h.trans ⟨hb.os, hb.tape, hb.output, hb.size, fun k hk _ => hb.block k hk⟩
theorem KB.of_turn {m : Nat} {A W W' : World} (h : KB m A W) (ht : Turn W W' m) : KB m A W' := by
  refine h.trans ?_
  obtain ⟨o, rfl⟩ := ht
  exact ⟨rfl, rfl, rfl, by simp, fun k hk hm => Turn.block ⟨o, rfl⟩ hm⟩
theorem KB.below {m B : Nat} {A W W' : World} (hb : Below B A W) (h : KB m W W') (hm : B ≤ m) (hW : B ≤ W.heap.size) : Below B A W' :=
  hb.trans ⟨h.os, h.tape, h.output, h.size, fun k hk => h.block k (by omega) (by omega)⟩
theorem KB.owns {m base e size n : Nat} {W W' : World} {v : Value} {xs : List Value} (h : W.ownsRow base e size v n xs) (hm : m < base) (hk : KB m W W') : W'.ownsRow base e size v n xs := by
  refine ⟨h.1, ?_⟩
  rcases h.2 with h2 | ⟨g, cap, cur, h1, h2, h3, h4⟩
  · exact .inl h2
  · exact .inr ⟨g, cap, cur, h1, h2, (hk.block g (Array.getElem?_eq_some_iff.1 h3).1 (by omega)).trans h3, h4⟩
theorem KB.num {m A O n : Nat} {W W' : World} {g : Nat → Int} (h : NumAt W A O n g) (hA : A < W.heap.size) (hm : A ≠ m) (hk : KB m W W') : NumAt W' A O n g :=
  fun i hi => (World.cell?_of_block (w := W) (hk.block A hA hm)).trans (h i hi)

theorem NumAt.drop {w : World} {A O n k : Nat} {g : Nat → Int} (h : NumAt w A O n g) (hk : k ≤ n) : NumAt w A (O + k) (n - k) (fun i => g (k + i)) := by
  intro i hi
  have := h (k + i) (by omega)
  rw [← Nat.add_assoc] at this
  exact this

/-- what may come of a year -/
inductive YearIs (d : Int) (ls T S : List Int) (y : Int) : Prop where
  | taken (h : y ∈ T) (hn : ¬ OkY d ls S y)
  | never (h : y ∉ T) (hs : NoYears ls (y :: T)) (hn : ¬ OkY d ls S y)
  | less (h : y ∉ T) (ys : List Int) (hs : Greedy ls (y :: T) ys) (hl : y + sumL ys ≠ sumL S) (hn : ¬ OkY d ls S y)
  | fits (h : y ∉ T) (ys : List Int) (hs : Greedy ls (y :: T) ys) (hl : y + sumL ys = sumL S) (hy : OkY d ls S y)

theorem year_is {d y : Int} {ls T S : List Int} (h : Opt (d :: ls) T S) (h0 : 0 ≤ y) (hd : y ≤ d) : YearIs d ls T S y := by
  by_cases hT : y ∈ T
  · exact .taken hT (fun ho => h.free y ho.1 hT)
  · rcases years_or ls (y :: T) with ⟨ys, hy⟩ | hn
    · by_cases hl : y + sumL ys = sumL S
      · exact .fits hT ys hy hl ((step_iff h h0 hd hT).mp ⟨ys, greedy_opt hy, hl⟩)
      · refine .less hT ys hy hl (fun ho => ?_)
        obtain ⟨R, hR, hs⟩ := (step_iff h h0 hd hT).mpr ho
        have := sumL_perm (hR.same (greedy_opt hy))
        omega
    · refine .never hT hn (fun ho => ?_)
      obtain ⟨R, hR, hs⟩ := (step_iff h h0 hd hT).mpr ho
      obtain ⟨⟨zs, hz, _⟩, _⟩ := hR
      exact noyears_no hn zs hz

theorem sumL_bd {l : List Int} (h : ∀ x ∈ l, 0 ≤ x ∧ x ≤ 1000000) : 0 ≤ sumL l ∧ sumL l ≤ 1000000 * l.length := by
  induction l with
  | nil => simp [sumL]
  | cons x l ih =>
    have a := ih (fun y hy => h y (List.mem_cons_of_mem _ hy))
    have b := h x List.mem_cons_self
    simp only [sumL, List.length_cons]
    omega

theorem Opt.most {ls T S : List Int} (h : Opt ls T S) {M : Int} (hl : ∀ x ∈ ls, x ≤ M) : ∀ x ∈ S, x ≤ M := by
  obtain ⟨⟨zs, hz, hp⟩, _⟩ := h
  have key : ∀ {ls zs : List Int}, Fit ls zs → (∀ x ∈ ls, x ≤ M) → ∀ x ∈ zs, x ≤ M := by
    intro ls
    induction ls with
    | nil => intro zs hf _ x hx; cases zs with
      | nil => cases hx
      | cons a b => exact hf.elim
    | cons d ls ih =>
      intro zs hf hl x hx
      cases zs with
      | nil => cases hx
      | cons a b =>
        obtain ⟨_, f2, f3⟩ := hf
        rcases List.mem_cons.mp hx with rfl | hx
        · have := hl d List.mem_cons_self; omega
        · exact ih f3 (fun y hy => hl y (List.mem_cons_of_mem _ hy)) x hx
  exact fun x hx => key hz.1 hl x (hp.mem_iff.mpr hx)

theorem from_bd {g : Nat → Int} {M : Int} (hg : ∀ k, g k ≤ M) : ∀ (n k : Nat), ∀ x ∈ from' g k n, x ≤ M
  | 0, _, x, hx => by cases hx
  | n + 1, k, x, hx => by
    rcases List.mem_cons.mp hx with rfl | hx
    · exact hg k
    · exact from_bd hg n (k + 1) x hx

set_option maxRecDepth 100000 in
set_option maxHeartbeats 1000000 in
theorem bestYears_w (p : Option Addr) (n c : Nat) (g : Nat → Int) (w : World) (hn : n ≤ 1000) (hnc : n ≤ c) (hc : c ≤ maxLen) (hg : ∀ k, -1000 ≤ g k ∧ g k ≤ 1000) (HI : Hid (IntSl w p n g)) (S : List Int) (HS : Hid (Opt (from' g 0 n) [] S)) :
    Calls Tryz.prog 50 #[.slice p n c] w
      fun e w' => (∃ (v : Value) (out : List Int), e = .returned (.tuple #[v, .bool true]) ∧ Pl (from' g 0 n) S out ∧ w'.ownsRow (w.heap.size + 1) 3 1 v n (out.map (Value.int .i64))) ∧ Below w.heap.size w w' := by
  obtain ⟨i0, hi, hz0, hz1, hz22⟩ := info_parts info3'
  have hmm := @run_makeMap Tryz.prog
  have hlen := HS.out.len
  rw [from_len] at hlen
  obtain ⟨ys0, hy0⟩ : ∃ ys, Greedy (from' g 0 n) [] ys := by
    rcases years_or (from' g 0 n) [] with h | h
    · exact h
    · obtain ⟨⟨zs, hz, _⟩, _⟩ := HS.out
      exact (noyears_no h zs hz).elim
  have hsum0 : sumL ys0 = sumL S := sumL_perm ((greedy_opt hy0).same HS.out)
  have HY0 := Lib.hid hy0
  have HS0 := Lib.hid hsum0
  have HGB : Hid (∀ k, -1000000 ≤ g k ∧ g k ≤ 1000000) := Lib.hid fun k => ⟨by have := (hg k).1; omega, by have := (hg k).2; omega⟩
  have HG := Lib.hid hg
  have HLEN := Lib.hid hlen
  clear hy0 hsum0 hg hlen
  go_enter Tryz.func50, Tryz.ntmps50
  go_wp2
  go_step3
  go_wp2_with (go_at_call 82; refine (greatestSum_is p n c _ g 0 [] ys0 _ (by omega) (fun x hx => by cases hx) HGB.out (Lib.hid (by have := HI.out.below ((Below.refl _ _).alloc (Nat.le_refl _) (.map #[] 0)); simpa using this)) (Lib.hid (SetAt.made w)) HY0).mono ?_; rintro e w1 ⟨rfl, hb1⟩)
  all_goals (try go_step3)
  go_wp2
  rw [HS0.out]
  have HB1 := Lib.hid hb1
  clear hb1
  go_loopw [2, 5, 22] (fun v s i wr => ∃ (k : Nat) (pre T Sk : List Int), k ≤ n ∧ i = .int .i64 k ∧ s = .int .i64 (sumL Sk) ∧ wr.ownsRow (w.heap.size + 1) 3 1 v k (pre.map (Value.int .i64)) ∧ Hid (Opt (from' g k (n - k)) T Sk) ∧
    Hid (∀ r, Pl (from' g k (n - k)) Sk r → Pl (from' g 0 n) S (pre ++ r)) ∧ Hid (∀ x ∈ T, 0 ≤ x ∧ x ≤ 1000000) ∧ SetAt wr w.heap.size T ∧ Below w.heap.size w wr ∧ w.heap.size + 1 ≤ wr.heap.size) (fun _ _ i _ => n - (intOf i).toNat)
  case atStart =>
    refine ⟨0, [], [], S, Nat.zero_le _, rfl, rfl, World.ownsRow_nil _ _ _ _, HS, fun r h => h, (fun x hx => by cases hx), (SetAt.made w).below HB1.out (by simp), ((Below.refl _ _).alloc (Nat.le_refl _) _).trans (HB1.out.mono (by simp)), ?_⟩
    have := HB1.out.size
    simpa using this
  case round =>
    obtain ⟨k, pre, T, Sk, hk, rfl, rfl, hown, hopt, hcon, hT, hset, hbw, hwz⟩ := hrel
    obtain ⟨va, vc, rfl, -, -⟩ := intSl_of_owns hown
    have HOWN := Lib.hid hown
    have HSET := Lib.hid hset
    have HBW := Lib.hid hbw
    clear hown hset
    by_cases hlt : k < n
    · obtain ⟨A, O, rfl, hA, hnum⟩ : ∃ A O, p = some ⟨A, O, none⟩ ∧ A < w.heap.size ∧ NumAt w A O n g := by
        rcases HI.out with h | h
        · omega
        · exact h
      have hc0 : wr.cell? ⟨A, O + k, none⟩ = some (.int .i64 (g k)) := (hbw.cell (p := ⟨A, O + k, none⟩) hA).trans (hnum k hlt)
      have HNUM := Lib.hid (hnum.below hA hbw)
      clear hnum hbw
      have hgk := HG.out k
      obtain ⟨d, hd⟩ : ∃ d, d = g k := ⟨_, rfl⟩
      have hfl : from' g k (n - k) = d :: from' g (k + 1) (n - (k + 1)) := by
        rw [show n - k = (n - (k + 1)) + 1 by omega, hd]; rfl
      rw [hfl] at hopt hcon
      rw [← hd] at hc0 hgk
      have HD := Lib.hid hd
      clear hd hfl
      have hd0 : 0 ≤ d := hopt.out.lasts d List.mem_cons_self
      have hSk : (0 ≤ sumL Sk ∧ sumL Sk ≤ 1000000 * 1000) := by
        have hm := hopt.out.most (M := 1000) (fun x hx => by
          rcases List.mem_cons.mp hx with rfl | hx
          · exact hgk.2
          · exact from_bd (fun k => (HG.out k).2) _ _ x hx)
        have h1 := sumL_bd (l := Sk) (fun x hx => ⟨hopt.out.nonneg x hx, by have := hm x hx; omega⟩)
        have h2 := hopt.out.len
        simp only [List.length_cons, from_len] at h2
        have h3 : (Sk.length : Int) ≤ 1000 := by omega
        omega
      obtain ⟨sk, hsk⟩ : ∃ sk, sk = sumL Sk := ⟨_, rfl⟩
      rw [← hsk] at hSk ⊢
      have HSK := Lib.hid hsk
      clear hsk
      have hA' : A < wr.heap.size := by omega
      have hAm : A ≠ w.heap.size := by omega
      have n1 : (0 : Int) ≤ (k : Int) + 1 := by omega
      have n2 : (k : Int) + 1 ≤ (n : Int) := by omega
      rcases Nat.lt_or_eq_of_le (show k + 1 ≤ c by omega) with hck | rfl
      all_goals
        (try have hck1 : ¬ (k + 1 = c) := by omega)
        (try have hck2 : ¬ (c = k + 1) := by omega)
        (try have hck4 : ¬ (c - (k + 1) = 0) := by omega)
        go_wp2
        obtain ⟨wo, rfl⟩ : ∃ wo, wo = wr := ⟨wr, rfl⟩
        go_loopw [2, 5, 29] (fun vv ss yy w2 => ∃ y : Nat, vv = .slice va k vc ∧ ss = .int .i64 sk ∧ yy = .int .i64 (y : Int) ∧ (y : Int) ≤ d + 1 ∧ Hid (∀ z : Int, z < (y : Int) → ¬ OkY d (from' g (k + 1) (n - (k + 1))) Sk z) ∧ SetAt w2 w.heap.size T ∧ KB w.heap.size wo w2) (fun _ _ y _ => (d + 1 - intOf y).toNat)
        case atStart => exact ⟨0, rfl, rfl, rfl, by omega, fun z hz ho => by have := hopt.out.nonneg z ho.1; omega, HSET.out, KB.refl _ _⟩
        case round =>
          obtain ⟨y, rfl, rfl, rfl, hyd1, hno, hset2, hkb⟩ := hrel
          have HKB := Lib.hid hkb
          clear hkb
          by_cases hyd : (y : Int) ≤ d
          · rcases year_is hopt.out (y := (y : Int)) (by omega) hyd with ⟨hy, hn'⟩ | ⟨hy, hs', hn'⟩ | ⟨hy, ys, hs', hl, hn'⟩ | ⟨hy, ys, hs', hl, hy'⟩
            · have hdec : decide ((y : Int) ∈ T) = true := decide_eq_true hy
              have HN := Lib.hid hn'
              clear hn'
              go_wp2_with (first | (at_lookup; refine wpList_lookup_set rfl _ _ rfl w.heap.size T rfl hset2 (y : Int) rfl ?_; rw [hdec]))
              go_roundw
              case rel => exact ⟨y + 1, rfl, rfl, by go_num, by omega, fun z hz => by
                by_cases e : z = (y : Int)
                · rw [e]; exact HN.out
                · exact hno.out z (by omega), hset2, HKB.out⟩
              case measure => simp [intOf]; omega
            · have HN := Lib.hid hn'
              have HQ := Lib.hid hs'
              clear hn' hs'
              have hdec : decide ((y : Int) ∈ T) = false := decide_eq_false hy
              have HY := Lib.hid hy
              clear hy
              have HTY : ∀ x ∈ (y : Int) :: T, 0 ≤ x ∧ x ≤ 1000000 := fun x hx => by
                rcases List.mem_cons.mp hx with rfl | hx
                · omega
                · exact hT.out x hx
              have HTY' := Lib.hid HTY
              clear HTY
              have hcall : ∀ (O' q b len : Nat) (w3 : World), len = n - (k + 1) → Hid (IntSl w3 (some ⟨A, O', none⟩) (n - (k + 1)) (fun i => g (k + 1 + i))) → Hid (SetAt w3 b ((y : Int) :: T)) → Calls Tryz.prog 82 #[.slice (some ⟨A, O', none⟩) len q, .map (some b)] w3 fun e w' => e = .returned (.tuple #[.int .i64 0, .bool false]) ∧ Below w3.heap.size w3 w' :=
                fun O' q b len w3 h0 h1 h2 => by rw [h0]; exact greatestSum_no _ _ q b g (k + 1) _ w3 (by omega) HTY'.out HGB.out h1 h2 HQ
              have HC := Lib.hid hcall
              clear hcall
              go_wp2_with (first
                | (at_lookup; refine wpList_lookup_set rfl _ _ rfl w.heap.size T rfl hset2 (y : Int) rfl ?_; rw [hdec])
                | (at_mapUpdate; refine wpList_put_set rfl _ _ _ rfl w.heap.size T rfl hset2 (y : Int) rfl rfl HY.out ?_; intro w3 hs3 ht3; have HKB3 := Lib.hid (HKB.out.of_turn ht3); have HI3 : Hid (∀ O', O' = O + (k + 1) ∨ n - (k + 1) = 0 → Hid (IntSl w3 (some ⟨A, O', none⟩) (n - (k + 1)) (fun i => g (k + 1 + i)))) := Lib.hid (fun O' h => Lib.hid (h.elim (fun e => .inr ⟨A, _, by rw [e], Nat.lt_of_lt_of_le hA' HKB3.out.size, (KB.num HNUM.out hA' hAm HKB3.out).drop (by omega)⟩) .inl)); have HS3 := Lib.hid hs3; clear hs3 ht3))
              all_goals
                refine (HC.out _ _ _ _ _ (by omega) (HI3.out _ (by first | exact .inl rfl | (right; omega))) HS3).mono ?_
                rintro e w4 ⟨rfl, hb4⟩
                have HKB4 := Lib.hid (HKB3.out.of_below hb4)
                have hs4 := HS3.out.below hb4 HS3.out.lt
                clear hb4
                go_wp2_with (at_delete; refine wpList_del_set rfl _ _ rfl w.heap.size T (y : Int) rfl hs4 rfl HY.out ?_; intro w5 hs5 ht5; have HKB5 := Lib.hid (HKB4.out.of_turn ht5); clear ht5)
                go_roundw
                case rel => exact ⟨y + 1, rfl, rfl, by go_num, by omega, fun z hz => by
                  by_cases e : z = (y : Int)
                  · rw [e]; exact HN.out
                  · exact hno.out z (by omega), hs5, HKB5.out⟩
                case measure => simp [intOf]; omega
            · have HN := Lib.hid hn'
              have HQ := Lib.hid hs'
              clear hn' hs'
              rw [← HSK.out] at hl
              have hdec : decide ((y : Int) ∈ T) = false := decide_eq_false hy
              have HY := Lib.hid hy
              clear hy
              have HTY : ∀ x ∈ (y : Int) :: T, 0 ≤ x ∧ x ≤ 1000000 := fun x hx => by
                rcases List.mem_cons.mp hx with rfl | hx
                · omega
                · exact hT.out x hx
              have HTY' := Lib.hid HTY
              clear HTY
              have hys : 0 ≤ sumL ys ∧ sumL ys ≤ 1000000 * 1000 := by
                have hm := (greedy_opt HQ.out).most (M := 1000) (fun x hx => from_bd (fun k => (HG.out k).2) _ _ x hx)
                have h1 := sumL_bd (l := ys) (fun x hx => ⟨(greedy_opt HQ.out).nonneg x hx, by have := hm x hx; omega⟩)
                have h2 := (greedy_opt HQ.out).len
                rw [from_len] at h2
                have h3 : (ys.length : Int) ≤ 1000 := by omega
                omega
              have hcall : ∀ (O' q b len : Nat) (w3 : World), len = n - (k + 1) → Hid (IntSl w3 (some ⟨A, O', none⟩) (n - (k + 1)) (fun i => g (k + 1 + i))) → Hid (SetAt w3 b ((y : Int) :: T)) → Calls Tryz.prog 82 #[.slice (some ⟨A, O', none⟩) len q, .map (some b)] w3 fun e w' => e = .returned (.tuple #[.int .i64 (sumL ys), .bool true]) ∧ Below w3.heap.size w3 w' :=
                fun O' q b len w3 h0 h1 h2 => by rw [h0]; exact greatestSum_is _ _ q b g (k + 1) _ ys w3 (by omega) HTY'.out HGB.out h1 h2 HQ
              have HC := Lib.hid hcall
              clear hcall
              obtain ⟨sy, hsy⟩ : ∃ sy, sy = sumL ys := ⟨_, rfl⟩
              rw [← hsy] at hl hys HC
              clear hsy
              go_wp2_with (first
                | (at_lookup; refine wpList_lookup_set rfl _ _ rfl w.heap.size T rfl hset2 (y : Int) rfl ?_; rw [hdec])
                | (at_mapUpdate; refine wpList_put_set rfl _ _ _ rfl w.heap.size T rfl hset2 (y : Int) rfl rfl HY.out ?_; intro w3 hs3 ht3; have HKB3 := Lib.hid (HKB.out.of_turn ht3); have HI3 : Hid (∀ O', O' = O + (k + 1) ∨ n - (k + 1) = 0 → Hid (IntSl w3 (some ⟨A, O', none⟩) (n - (k + 1)) (fun i => g (k + 1 + i)))) := Lib.hid (fun O' h => Lib.hid (h.elim (fun e => .inr ⟨A, _, by rw [e], Nat.lt_of_lt_of_le hA' HKB3.out.size, (KB.num HNUM.out hA' hAm HKB3.out).drop (by omega)⟩) .inl)); have HS3 := Lib.hid hs3; clear hs3 ht3))
              all_goals
                refine (HC.out _ _ _ _ _ (by omega) (HI3.out _ (by first | exact .inl rfl | (right; omega))) HS3).mono ?_
                rintro e w4 ⟨rfl, hb4⟩
                have HKB4 := Lib.hid (HKB3.out.of_below hb4)
                have hs4 := HS3.out.below hb4 HS3.out.lt
                clear hb4
                go_wp2_with (at_delete; refine wpList_del_set rfl _ _ rfl w.heap.size T (y : Int) rfl hs4 rfl HY.out ?_; intro w5 hs5 ht5; have HKB5 := Lib.hid (HKB4.out.of_turn ht5); clear ht5)
                go_roundw
                case rel => exact ⟨y + 1, rfl, rfl, by go_num, by omega, fun z hz => by
                  by_cases e : z = (y : Int)
                  · rw [e]; exact HN.out
                  · exact hno.out z (by omega), hs5, HKB5.out⟩
                case measure => simp [intOf]; omega
            · have HOK := Lib.hid hy'
              have HQ := Lib.hid hs'
              clear hy' hs'
              rw [← HSK.out] at hl
              have hdec : decide ((y : Int) ∈ T) = false := decide_eq_false hy
              have HY := Lib.hid hy
              clear hy
              have HTY : ∀ x ∈ (y : Int) :: T, 0 ≤ x ∧ x ≤ 1000000 := fun x hx => by
                rcases List.mem_cons.mp hx with rfl | hx
                · omega
                · exact hT.out x hx
              have HTY' := Lib.hid HTY
              clear HTY
              have hys : 0 ≤ sumL ys ∧ sumL ys ≤ 1000000 * 1000 := by
                have hm := (greedy_opt HQ.out).most (M := 1000) (fun x hx => from_bd (fun k => (HG.out k).2) _ _ x hx)
                have h1 := sumL_bd (l := ys) (fun x hx => ⟨(greedy_opt HQ.out).nonneg x hx, by have := hm x hx; omega⟩)
                have h2 := (greedy_opt HQ.out).len
                rw [from_len] at h2
                have h3 : (ys.length : Int) ≤ 1000 := by omega
                omega
              have hcall : ∀ (O' q b len : Nat) (w3 : World), len = n - (k + 1) → Hid (IntSl w3 (some ⟨A, O', none⟩) (n - (k + 1)) (fun i => g (k + 1 + i))) → Hid (SetAt w3 b ((y : Int) :: T)) → Calls Tryz.prog 82 #[.slice (some ⟨A, O', none⟩) len q, .map (some b)] w3 fun e w' => e = .returned (.tuple #[.int .i64 (sumL ys), .bool true]) ∧ Below w3.heap.size w3 w' :=
                fun O' q b len w3 h0 h1 h2 => by rw [h0]; exact greatestSum_is _ _ q b g (k + 1) _ ys w3 (by omega) HTY'.out HGB.out h1 h2 HQ
              have HC := Lib.hid hcall
              clear hcall
              obtain ⟨sy, hsy⟩ : ∃ sy, sy = sumL ys := ⟨_, rfl⟩
              rw [← hsy] at hl hys HC
              clear hsy
              go_wp2_with (first
                | (at_lookup; refine wpList_lookup_set rfl _ _ rfl w.heap.size T rfl hset2 (y : Int) rfl ?_; rw [hdec])
                | (at_mapUpdate; refine wpList_put_set rfl _ _ _ rfl w.heap.size T rfl hset2 (y : Int) rfl rfl HY.out ?_; intro w3 hs3 ht3; have HKB3 := Lib.hid (HKB.out.of_turn ht3); have HI3 : Hid (∀ O', O' = O + (k + 1) ∨ n - (k + 1) = 0 → Hid (IntSl w3 (some ⟨A, O', none⟩) (n - (k + 1)) (fun i => g (k + 1 + i)))) := Lib.hid (fun O' h => Lib.hid (h.elim (fun e => .inr ⟨A, _, by rw [e], Nat.lt_of_lt_of_le hA' HKB3.out.size, (KB.num HNUM.out hA' hAm HKB3.out).drop (by omega)⟩) .inl)); have HS3 := Lib.hid hs3; clear hs3 ht3))
              all_goals
                refine (HC.out _ _ _ _ _ (by omega) (HI3.out _ (by first | exact .inl rfl | (right; omega))) HS3).mono ?_
                rintro e w4 ⟨rfl, hb4⟩
                have HKB4 := Lib.hid (HKB3.out.of_below hb4)
                have hs4 := HS3.out.below hb4 HS3.out.lt
                clear hb4
                have HO4 := Lib.hid (KB.owns HOWN.out (Nat.lt_succ_self _) HKB4.out)
                have HB4 := Lib.hid (KB.below HBW.out HKB4.out (Nat.le_refl _) (by omega))
                have hz4 : w.heap.size + 1 ≤ w4.heap.size := Nat.le_trans hwz HKB4.out.size
                go_wp2_with (at_builtin; refine wpList_append_own _ rfl _ _ 22 rfl (w.heap.size + 1) 3 i0 (.int .i64 0) 1 8 Tryz.underlying22 hi hz0 hz1 hz22 rfl (by decide) _ k _ rfl (HO4.out.alloc _) ⟨_, 0, none⟩ 1 1 [.int .i64 (y : Int)] rfl rfl (one_lies _ _) (by intro u hu; simp at hu; subst hu; rfl) (by unfold maxLen; omega) (by omega) (by simp; omega) ?_; intro v' w7 hown7 hgrow7 _)
                have hb7 : Below (w.heap.size + 1) w4 w7 := ((Below.refl _ _).alloc hz4 _).grown hgrow7 (by simp; omega) (fun r e => own_ge HO4.out r e)
                have hown8 : w7.ownsRow (w.heap.size + 1) 3 1 v' (k + 1) ((pre ++ [(y : Int)]).map (Value.int .i64)) := (by rw [List.map_append]; exact hown7)
                have HOWN8 := Lib.hid hown8
                have HB7 := Lib.hid hb7
                clear hown7 hown8 hb7
                go_roundw
                case rel =>
                  have he := erase_sum HOK.out.1
                  refine ⟨k + 1, pre ++ [(y : Int)], (y : Int) :: T, Sk.erase (y : Int), by omega, by go_num, ?_, HOWN8.out, step_opt hopt.out HOK.out, fun r hr => ?_, HTY'.out, hs4.below HB7.out (by omega), HB4.out.trans (HB7.out.mono (by omega)), Nat.le_trans hz4 HB7.out.size⟩
                  · have h1 := HSK.out
                    have h2 : sy = sumL (Sk.erase (y : Int)) := by omega
                    rw [h2]
                  · have := hcon.out ((y : Int) :: r) ⟨(y : Int), r, rfl, HOK.out, hno.out, hr⟩
                    simpa using this
                case measure => simp [intOf]; omega
          · exfalso
            obtain ⟨z, hz⟩ := step_exists hopt.out
            exact hno.out z (by have := hz.2.1; omega) hz
    · obtain rfl : k = n := by omega
      go_wp2
      rw [Exit.noGoto_ret]
      refine bodyPost_ret (v := .tuple #[.slice va k vc, .bool true]) (by simp [results, Tryz.results50, go_sem]) rfl ⟨⟨_, pre, rfl, ?_, HOWN.out⟩, HBW.out⟩
      have := hcon.out [] (by rw [Nat.sub_self]; rfl)
      simpa using this

theorem bestYears_no (p : Option Addr) (n c : Nat) (g : Nat → Int) (w : World) (hn : n ≤ 1000) (hg : ∀ k, -1000 ≤ g k ∧ g k ≤ 1000) (HI : Hid (IntSl w p n g)) (HS : Hid (NoYears (from' g 0 n) [])) :
    Calls Tryz.prog 50 #[.slice p n c] w fun e w' => e = .returned (.tuple #[.slice none 0 0, .bool false]) ∧ Below w.heap.size w w' := by
  have hmm := @run_makeMap Tryz.prog
  have HGB : Hid (∀ k, -1000000 ≤ g k ∧ g k ≤ 1000000) := Lib.hid fun k => ⟨by have := (hg k).1; omega, by have := (hg k).2; omega⟩
  clear hg
  go_enter Tryz.func50, Tryz.ntmps50
  go_wp2
  go_step3
  go_wp2_with (go_at_call 82; refine (greatestSum_no p n c _ g 0 [] _ (by omega) (fun x hx => by cases hx) HGB.out (Lib.hid (by have := HI.out.below ((Below.refl _ _).alloc (Nat.le_refl _) (.map #[] 0)); simpa using this)) (Lib.hid (SetAt.made w)) HS).mono ?_; rintro e w1 ⟨rfl, hb1⟩)
  all_goals (try rw [Exit.noGoto_ret])
  refine bodyPost_ret (v := .tuple #[.slice none 0 0, .bool false]) (by simp [results, Tryz.results50, go_sem]) rfl ⟨rfl, ((Below.refl _ _).alloc (Nat.le_refl _) _).trans (hb1.mono (by simp))⟩

end Go.Kn
