/- Contracts of functions that the laws of this seat call, or the evaluator of closed calls and its runs. Conditions: as each theorem states them. -/
import Derived.Test.YtddlghdglknloaaGreatDoorCloE6
import Derived.KernelRfl
import Derived.Test.YtddlghdglknloaaGreatDoorProg
set_option linter.unusedVariables false
set_option linter.unusedSimpArgs false
namespace Go.Kn
open Go Go.Clo Go.Proofs

theorem bools_of : ∀ (l : List Value), allB kBo l = true → ∃ bs : List Bool, l = bs.map Value.bool := by
  intro l h
  rw [allB_eq] at h
  induction l with
  | nil => exact ⟨[], rfl⟩
  | cons v l ih =>
    simp only [List.all_cons, Bool.and_eq_true] at h
    obtain ⟨bs, rfl⟩ := ih h.2
    cases v with
    | bool b => exact ⟨b :: bs, rfl⟩
    | _ => simp [kBo] at h
theorem ten_of {bs : List Bool} (h : bs.length = 10) : ∃ b0 b1 b2 b3 b4 b5 b6 b7 b8 b9, bs = [b0, b1, b2, b3, b4, b5, b6, b7, b8, b9] := by
  match bs, h with
  | [b0, b1, b2, b3, b4, b5, b6, b7, b8, b9], _ => exact ⟨b0, b1, b2, b3, b4, b5, b6, b7, b8, b9, rfl⟩
theorem key50 {k : Value} (h : kAggN 50 k = true) : ∃ b0 b1 b2 b3 b4 b5 b6 b7 b8 b9, k = .agg #[.bool b0, .bool b1, .bool b2, .bool b3, .bool b4, .bool b5, .bool b6, .bool b7, .bool b8, .bool b9] := by
  cases k with
  | agg cs =>
    simp only [kAggN, kShp, show Nat.blt 50 50 = false from rfl, cond_false] at h
    cases hl : Nat.beq cs.toList.length (50 - 40) with
    | false => rw [hl] at h; cases h
    | true =>
      rw [hl, cond_true] at h
      have hb : allB kBo cs.toList = true := by simpa [allB_eq] using h
      obtain ⟨bs, hbs⟩ := bools_of _ hb
      have hlen := Nat.eq_of_beq_eq_true hl
      rw [hbs, List.length_map] at hlen
      obtain ⟨b0, b1, b2, b3, b4, b5, b6, b7, b8, b9, rfl⟩ := ten_of hlen
      refine ⟨b0, b1, b2, b3, b4, b5, b6, b7, b8, b9, ?_⟩
      rw [show cs = ⟨cs.toList⟩ from rfl, hbs]; rfl
  | _ => simp [kAggN] at h
theorem c4 (e : Bool) (n : Nat) (v : Bool) (w : World) : (Instr.checkKey e (n + 1) 4 (.bool v)).run Tryz.prog w = .ok () w := by
  rw [Instr.checkKey]
  simp [run_underlying Tryz.underlying4]
theorem e4 (n : Nat) (v u : Bool) (w : World) : (Op.equalIn (n + 1) 4 (.bool v) (.bool u)).run Tryz.prog w = .ok (v == u) w := by
  rw [Op.equalIn]
  simp [run_underlying Tryz.underlying4]
theorem c3 (e : Bool) (n : Nat) (v : Int) (w : World) : (Instr.checkKey e (n + 1) 3 (.int .i64 v)).run Tryz.prog w = .ok () w := by
  rw [Instr.checkKey]
  simp [run_underlying Tryz.underlying3]
theorem e3 (n : Nat) (v u : Int) (w : World) : (Op.equalIn (n + 1) 3 (.int .i64 v) (.int .i64 u)).run Tryz.prog w = .ok (v == u) w := by
  rw [Op.equalIn]
  simp [run_underlying Tryz.underlying3]
theorem p4 (b0 b1 b2 b3 b4 b5 b6 b7 b8 b9 : Bool) (j : Nat) (v : Value) (h : (#[Value.bool b0, .bool b1, .bool b2, .bool b3, .bool b4, .bool b5, .bool b6, .bool b7, .bool b8, .bool b9] : Array Value)[j]? = some v) (w : World) : (part 4 #[.bool b0, .bool b1, .bool b2, .bool b3, .bool b4, .bool b5, .bool b6, .bool b7, .bool b8, .bool b9] j).run Tryz.prog w = .ok v w := by
  simp [part, run_underlying Tryz.underlying4, h]
theorem s4 (w : World) : (sizeOf 4).run Tryz.prog w = .ok 1 w := by kernel_rfl
theorem rng10 : List.range' 0 10 = [0, 1, 2, 3, 4, 5, 6, 7, 8, 9] := rfl
set_option maxRecDepth 100000 in
theorem c79 (e : Bool) (n : Nat) (b0 b1 b2 b3 b4 b5 b6 b7 b8 b9 : Bool) (w : World) : (Instr.checkKey e (n + 1 + 1) 79 (.agg #[.bool b0, .bool b1, .bool b2, .bool b3, .bool b4, .bool b5, .bool b6, .bool b7, .bool b8, .bool b9])).run Tryz.prog w = .ok () w := by
  rw [Instr.checkKey]
  have h4 := fun v => c4 e n v w
  have hp := fun j v h => p4 b0 b1 b2 b3 b4 b5 b6 b7 b8 b9 j v h w
  have q0 := hp 0 _ rfl
  have q1 := hp 1 _ rfl
  have q2 := hp 2 _ rfl
  have q3 := hp 3 _ rfl
  have q4 := hp 4 _ rfl
  have q5 := hp 5 _ rfl
  have q6 := hp 6 _ rfl
  have q7 := hp 7 _ rfl
  have q8 := hp 8 _ rfl
  have q9 := hp 9 _ rfl
  clear hp
  simp [run_underlying Tryz.underlying79, rng10, s4, h4, q0, q1, q2, q3, q4, q5, q6, q7, q8, q9]
set_option maxRecDepth 100000 in
theorem e79 (n : Nat) (b0 b1 b2 b3 b4 b5 b6 b7 b8 b9 a0 a1 a2 a3 a4 a5 a6 a7 a8 a9 : Bool) (w : World) : (Op.equalIn (n + 1 + 1) 79 (.agg #[.bool b0, .bool b1, .bool b2, .bool b3, .bool b4, .bool b5, .bool b6, .bool b7, .bool b8, .bool b9]) (.agg #[.bool a0, .bool a1, .bool a2, .bool a3, .bool a4, .bool a5, .bool a6, .bool a7, .bool a8, .bool a9])).run Tryz.prog w
    = .ok (b0 == a0 && (b1 == a1 && (b2 == a2 && (b3 == a3 && (b4 == a4 && (b5 == a5 && (b6 == a6 && (b7 == a7 && (b8 == a8 && b9 == a9))))))))) w := by
  rw [Op.equalIn]
  have g4 := fun v u => e4 n v u w
  have hp := fun j v h => p4 b0 b1 b2 b3 b4 b5 b6 b7 b8 b9 j v h w
  have ha := fun j v h => p4 a0 a1 a2 a3 a4 a5 a6 a7 a8 a9 j v h w
  have q0 := hp 0 _ rfl
  have q1 := hp 1 _ rfl
  have q2 := hp 2 _ rfl
  have q3 := hp 3 _ rfl
  have q4 := hp 4 _ rfl
  have q5 := hp 5 _ rfl
  have q6 := hp 6 _ rfl
  have q7 := hp 7 _ rfl
  have q8 := hp 8 _ rfl
  have q9 := hp 9 _ rfl
  have r0 := ha 0 _ rfl
  have r1 := ha 1 _ rfl
  have r2 := ha 2 _ rfl
  have r3 := ha 3 _ rfl
  have r4 := ha 4 _ rfl
  have r5 := ha 5 _ rfl
  have r6 := ha 6 _ rfl
  have r7 := ha 7 _ rfl
  have r8 := ha 8 _ rfl
  have r9 := ha 9 _ rfl
  clear hp ha
  have hs : Tryz.prog.stoodInHeld 79 = false := by kernel_rfl
  simp [run_underlying Tryz.underlying79, rng10, s4, g4, q0, q1, q2, q3, q4, q5, q6, q7, q8, q9, r0, r1, r2, r3, r4, r5, r6, r7, r8, r9, hs]
  by_cases h0 : b0 = a0
  case neg => simp [h0]
  by_cases h1 : b1 = a1
  case neg => simp [h1, h0]
  by_cases h2 : b2 = a2
  case neg => simp [h2, h0, h1]
  by_cases h3 : b3 = a3
  case neg => simp [h3, h0, h1, h2]
  by_cases h4 : b4 = a4
  case neg => simp [h4, h0, h1, h2, h3]
  by_cases h5 : b5 = a5
  case neg => simp [h5, h0, h1, h2, h3, h4]
  by_cases h6 : b6 = a6
  case neg => simp [h6, h0, h1, h2, h3, h4, h5]
  by_cases h7 : b7 = a7
  case neg => simp [h7, h0, h1, h2, h3, h4, h5, h6]
  by_cases h8 : b8 = a8
  case neg => simp [h8, h0, h1, h2, h3, h4, h5, h6, h7]
  by_cases h9 : b9 = a9
  case neg => simp [h9, h0, h1, h2, h3, h4, h5, h6, h7, h8]
  simp [h0, h1, h2, h3, h4, h5, h6, h7, h8, h9]

theorem eqk_b (a b : Bool) : eqK1 (.bool a) (.bool b) = (a == b) := by cases a <;> cases b <;> rfl
theorem eqk_i (a b : Int) : eqK1 (.int .i64 a) (.int .i64 b) = (a == b) := by
  show cond (kEq .i64 .i64) (iEq a b) false = _
  rw [show kEq .i64 .i64 = true from by decide, cond_true, iEq_eq]
  by_cases h : a = b <;> simp [h]
theorem eqb10 (b0 b1 b2 b3 b4 b5 b6 b7 b8 b9 a0 a1 a2 a3 a4 a5 a6 a7 a8 a9 : Bool) : eqK2 [.bool b0, .bool b1, .bool b2, .bool b3, .bool b4, .bool b5, .bool b6, .bool b7, .bool b8, .bool b9] [.bool a0, .bool a1, .bool a2, .bool a3, .bool a4, .bool a5, .bool a6, .bool a7, .bool a8, .bool a9] = (b0 == a0 && (b1 == a1 && (b2 == a2 && (b3 == a3 && (b4 == a4 && (b5 == a5 && (b6 == a6 && (b7 == a7 && (b8 == a8 && b9 == a9))))))))) := by
  show cond (eqK1 _ _) (cond (eqK1 _ _) (cond (eqK1 _ _) (cond (eqK1 _ _) (cond (eqK1 _ _) (cond (eqK1 _ _) (cond (eqK1 _ _) (cond (eqK1 _ _) (cond (eqK1 _ _) (cond (eqK1 _ _) true false) false) false) false) false) false) false) false) false) false = _
  simp only [eqk_b]
  simp [Bool.cond_false_right]
theorem s79 (w : World) : (sizeOf 79).run Tryz.prog w = .ok 10 w := by kernel_rfl
theorem s3 (w : World) : (sizeOf 3).run Tryz.prog w = .ok 1 w := by kernel_rfl
theorem pt3 (n : Int) (b0 b1 b2 b3 b4 b5 b6 b7 b8 b9 : Bool) (w : World) : (part 3 #[.int .i64 n, .bool b0, .bool b1, .bool b2, .bool b3, .bool b4, .bool b5, .bool b6, .bool b7, .bool b8, .bool b9] 0).run Tryz.prog w = .ok (.int .i64 n) w := by
  simp [part, run_underlying Tryz.underlying3]
theorem ia79 (w : World) : (isAgg 79).run Tryz.prog w = .ok true w := by kernel_rfl
theorem pt79 (n : Int) (b0 b1 b2 b3 b4 b5 b6 b7 b8 b9 : Bool) (w : World) : (part 79 #[.int .i64 n, .bool b0, .bool b1, .bool b2, .bool b3, .bool b4, .bool b5, .bool b6, .bool b7, .bool b8, .bool b9] 1).run Tryz.prog w = .ok (.agg #[.bool b0, .bool b1, .bool b2, .bool b3, .bool b4, .bool b5, .bool b6, .bool b7, .bool b8, .bool b9]) w := by
  simp [part, ia79, s79]
theorem key51 {k : Value} (h : kAggN 51 k = true) : ∃ (n : Int) (b0 b1 b2 b3 b4 b5 b6 b7 b8 b9 : Bool), k = .agg #[.int .i64 n, .bool b0, .bool b1, .bool b2, .bool b3, .bool b4, .bool b5, .bool b6, .bool b7, .bool b8, .bool b9] := by
  cases k with
  | agg cs =>
    simp only [kAggN, kShp, show Nat.blt 51 50 = false from rfl, cond_false] at h
    cases hl : Nat.beq cs.toList.length (51 - 40) with
    | false => rw [hl] at h; cases h
    | true =>
      rw [hl, cond_true] at h
      have hlen := Nat.eq_of_beq_eq_true hl
      obtain ⟨l⟩ := cs
      simp only at h hlen
      cases l with
      | nil => simp at hlen
      | cons v l =>
        cases ha : allB kI64 (List.take (51 - 50) (v :: l)) with
        | false => rw [ha] at h; cases h
        | true =>
          rw [ha, cond_true] at h
          simp [allB_eq] at ha
          have hb : allB kBo l = true := by simpa using h
          obtain ⟨bs, rfl⟩ := bools_of _ hb
          have hlen2 : bs.length = 10 := by simpa using hlen
          obtain ⟨b0, b1, b2, b3, b4, b5, b6, b7, b8, b9, rfl⟩ := ten_of hlen2
          cases v with
          | int kk n =>
            cases kk with
            | i64 => exact ⟨n, b0, b1, b2, b3, b4, b5, b6, b7, b8, b9, rfl⟩
            | _ => simp [kI64] at ha
          | _ => simp [kI64] at ha
  | _ => simp [kAggN] at h
def Tkq : Tr Nat := Tr.set (Tr.set Tr.e 79 50) 111 51
theorem kq_ok : ∀ t n, Tkq.get t = some n → ((∃ fs, Tryz.prog.underlying t = some (.struct fs)) ∨ ∃ m e, Tryz.prog.underlying t = some (.array m e)) ∧ ∀ (k1 k2 : Value), kAggN n k1 = true → kAggN n k2 = true → ∀ (w : World) (e : Bool),
      (Instr.checkKey e 10000 t k1).run Tryz.prog w = .ok () w ∧ (Op.equal t k1 k2).run Tryz.prog w = .ok (eqAgg k1 k2) w := by
  intro t n h
  unfold Tkq at h
  rw [Tr.get_set] at h
  split at h
  · rename_i ht
    cases h
    subst ht
    refine ⟨.inl ⟨_, Tryz.underlying111⟩, fun k1 k2 h1 h2 w e => ?_⟩
    obtain ⟨n, b0, b1, b2, b3, b4, b5, b6, b7, b8, b9, rfl⟩ := key51 h1
    obtain ⟨m, a0, a1, a2, a3, a4, a5, a6, a7, a8, a9, rfl⟩ := key51 h2
    constructor
    · show (Instr.checkKey e (9998 + 1 + 1) 111 _).run Tryz.prog w = _
      rw [Instr.checkKey]
      have x1 := c3 e 9998 n w
      have x2 := c79 e 9997 b0 b1 b2 b3 b4 b5 b6 b7 b8 b9 w
      have x3 := pt3 n b0 b1 b2 b3 b4 b5 b6 b7 b8 b9 w
      have x4 := pt79 n b0 b1 b2 b3 b4 b5 b6 b7 b8 b9 w
      simp [run_underlying Tryz.underlying111, x1, x2, x3, x4]
    · show (Op.equalIn (9998 + 1 + 1) 111 _ _).run Tryz.prog w = .ok (cond (eqK1 (.int .i64 n) (.int .i64 m)) (eqK2 [.bool b0, .bool b1, .bool b2, .bool b3, .bool b4, .bool b5, .bool b6, .bool b7, .bool b8, .bool b9] [.bool a0, .bool a1, .bool a2, .bool a3, .bool a4, .bool a5, .bool a6, .bool a7, .bool a8, .bool a9]) false) w
      rw [Op.equalIn, eqb10, eqk_i]
      have x1 := e3 9998 n m w
      have x2 := e79 9997 b0 b1 b2 b3 b4 b5 b6 b7 b8 b9 a0 a1 a2 a3 a4 a5 a6 a7 a8 a9 w
      have x3 := pt3 n b0 b1 b2 b3 b4 b5 b6 b7 b8 b9 w
      have x4 := pt79 n b0 b1 b2 b3 b4 b5 b6 b7 b8 b9 w
      have x5 := pt3 m a0 a1 a2 a3 a4 a5 a6 a7 a8 a9 w
      have x6 := pt79 m a0 a1 a2 a3 a4 a5 a6 a7 a8 a9 w
      have hs : Tryz.prog.stoodInHeld 111 = false := by kernel_rfl
      generalize (b0 == a0 && (b1 == a1 && (b2 == a2 && (b3 == a3 && (b4 == a4 && (b5 == a5 && (b6 == a6 && (b7 == a7 && (b8 == a8 && b9 == a9))))))))) = r at x2 ⊢
      simp [run_underlying Tryz.underlying111, x1, x2, x3, x4, x5, x6, hs]
      by_cases hn : n = m <;> cases r <;> simp [hn]
  · rw [Tr.get_set] at h
    split at h
    · rename_i ht
      cases h
      subst ht
      refine ⟨.inr ⟨_, _, Tryz.underlying79⟩, fun k1 k2 h1 h2 w e => ?_⟩
      obtain ⟨b0, b1, b2, b3, b4, b5, b6, b7, b8, b9, rfl⟩ := key50 h1
      obtain ⟨a0, a1, a2, a3, a4, a5, a6, a7, a8, a9, rfl⟩ := key50 h2
      refine ⟨c79 e 9998 b0 b1 b2 b3 b4 b5 b6 b7 b8 b9 w, ?_⟩
      show (Op.equalIn (9998 + 1 + 1) 79 _ _).run Tryz.prog w = .ok (eqK2 [.bool b0, .bool b1, .bool b2, .bool b3, .bool b4, .bool b5, .bool b6, .bool b7, .bool b8, .bool b9] [.bool a0, .bool a1, .bool a2, .bool a3, .bool a4, .bool a5, .bool a6, .bool a7, .bool a8, .bool a9]) w
      rw [eqb10]
      exact e79 9998 b0 b1 b2 b3 b4 b5 b6 b7 b8 b9 a0 a1 a2 a3 a4 a5 a6 a7 a8 a9 w
    · cases h
end Go.Kn
