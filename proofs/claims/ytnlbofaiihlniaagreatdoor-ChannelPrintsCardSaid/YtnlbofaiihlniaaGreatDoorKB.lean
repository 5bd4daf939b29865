/- Walks of functions of layer 2 (contracts that the laws of this seat use). Conditions: as each theorem states them. -/
import Derived.Test.YtnlbofaiihlniaaGreatDoorKG0
import Derived.Test.YtnlbofaiihlniaaGreatDoorKG1
import Derived.Test.YtnlbofaiihlniaaGreatDoorKG2
import Derived.Test.YtnlbofaiihlniaaGreatDoorKK
set_option linter.unusedVariables false
set_option linter.unusedSimpArgs false
namespace Go.Kn
open Go Go.Clo Go.Proofs

theorem kq_ok : ∀ t n, Tkq.get t = some n → (∃ fs, Tryz.prog.underlying t = some (.struct fs)) ∧ ∀ (xs ys : List Int), xs.length = n → ys.length = n → ∀ (w : World) (e : Bool),
      (Instr.checkKey e 10000 t (.agg ⟨xs.map (.int .i64)⟩)).run Tryz.prog w = .ok () w ∧ (Op.equal t (.agg ⟨xs.map (.int .i64)⟩) (.agg ⟨ys.map (.int .i64)⟩)).run Tryz.prog w = .ok (decide (xs = ys)) w := by
  intro t n h
  unfold Tkq at h
  rw [Tr.get_set] at h
  split at h
  · rename_i ht
    cases h
    subst ht
    refine ⟨⟨_, Tryz.underlying143⟩, fun xs ys ha hb w e => ?_⟩
    obtain ⟨a, rfl⟩ := List.length_eq_one_iff.1 ha
    obtain ⟨b, rfl⟩ := List.length_eq_one_iff.1 hb
    have c3 : ∀ (n : Nat) (v : Int), (Instr.checkKey e (n + 1) 3 (.int .i64 v)).run Tryz.prog w = .ok () w := by
      intro n v
      rw [Instr.checkKey]
      simp [run_underlying Tryz.underlying3]
    have p3 : ∀ (v : Int), (part 3 #[.int .i64 v] 0).run Tryz.prog w = .ok (.int .i64 v) w := by
      intro v
      simp [part, run_underlying Tryz.underlying3]
    have e3 : ∀ (n : Nat) (v u : Int), (Op.equalIn (n + 1) 3 (.int .i64 v) (.int .i64 u)).run Tryz.prog w = .ok (v == u) w := by
      intro n v u
      rw [Op.equalIn]
      simp [run_underlying Tryz.underlying3]
    constructor
    · show (Instr.checkKey e (9999 + 1) 143 (.agg #[.int .i64 a])).run Tryz.prog w = _
      rw [Instr.checkKey]
      have c3' := c3 9998 a
      simp [run_underlying Tryz.underlying143, p3, c3']
    · show (Op.equalIn (9999 + 1) 143 (.agg #[.int .i64 a]) (.agg #[.int .i64 b])).run Tryz.prog w = _
      rw [Op.equalIn]
      have e3' := e3 9998 a b
      have hs : Tryz.prog.stoodInHeld 143 = false := by kernel_rfl
      simp [run_underlying Tryz.underlying143, p3, e3', hs]
      by_cases hab : a = b <;> simp [hab]
  · cases h

theorem T_ok : TbOK T0 ∧ StrOK T0 := tables_ok (by
  intro t i h
  have hs : Tryz.types.size = 237 := by kernel_rfl
  have hlt : t < Tryz.types.size := by
    have := (List.getElem?_eq_some_iff.1 h).1; simpa using this
  show Tryz.prog.toTables.info? t = some i
  unfold Tables.info?
  have e : Tryz.prog.toTables.types = Tryz.types := by kernel_rfl
  rw [e, if_pos hlt]
  simpa using h) (by kernel_rfl) (by
  intro f e h
  unfold Text at h
  rw [Tr.get_set] at h
  split at h
  · rename_i hf; cases h; subst hf
    exact ⟨_, Tryz.func172, by decide, rfl, by kernel_rfl, by kernel_rfl⟩
  · rw [Tr.get_set] at h
    split at h
    · rename_i hf; cases h; subst hf
      exact ⟨_, Tryz.func163, by decide, rfl, by kernel_rfl, by kernel_rfl⟩
    · cases h) (by
  intro f u h
  unfold Tcl at h
  rw [Tr.get_set] at h
  split at h
  · rename_i hf; cases h; subst hf
    exact ⟨_, Tryz.func135, by decide, rfl, by kernel_rfl, by kernel_rfl⟩
  · cases h) kq_ok

theorem mixed : Tryz.prog.follows .mixedOrders = true := by kernel_rfl

theorem D0 : DrawOK T0 := draw_ok T_ok.1 T_ok.2 mixed
theorem P0 : SpOK T0 := fun {f g} h => by
  have h' : (Tr.e : Tr (List Value → Option FrameMode → Hp → Option (Rt × Option FrameMode × Hp))).get f = some g := h
  cases h'

theorem T1_ok : TbOK T1 ∧ StrOK T1 := ⟨T_ok.1.withSp _, StrOK.withSp T_ok.2 _⟩

theorem P1 : SpOK T1 := by
  refine SpOK.tab2 T_ok.1 T_ok.2 D0 P0 (by simp [pSpeeds, i, sc]) (by simp [pStretches, i, sc]) (by simp [pSpeeds]) (by simp [pStretches]) ?_
  intro r hr
  simp only [List.mem_cons, List.not_mem_nil, or_false] at hr
  rcases hr with rfl | rfl | rfl
  · obtain ⟨um, h', hh⟩ := ret_of g0
    exact ⟨rfl, rfl, rfl, 400, um, h', hh⟩
  · obtain ⟨um, h', hh⟩ := ret_of g1
    exact ⟨rfl, rfl, rfl, 400, um, h', hh⟩
  · obtain ⟨um, h', hh⟩ := ret_of g2
    exact ⟨rfl, rfl, rfl, 400, um, h', hh⟩

/-- the chapter's examples hold, whatever the world and the order -/
theorem known_calls (w : World) : Calls Tryz.prog 7 #[] w fun e w' => e = .returned (.bool true) ∧ RowKit.Below w.heap.size w w' := by
  obtain ⟨um, h', hh⟩ := ret_of k16
  exact calls_plain (T := T1) T1_ok.1 T1_ok.2 (draw_ok T1_ok.1 T1_ok.2 mixed) P1 400 (args := []) hh rfl rfl w
end Go.Kn
