/- Contracts of functions that the laws of this seat call, or the evaluator of closed calls and its runs. Conditions: as each theorem states them. -/
import Derived.Test.YtpfbfdcpibajoaaGreatDoorKR0
import Derived.Test.YtpfbfdcpibajoaaGreatDoorKR1
import Derived.Test.YtpfbfdcpibajoaaGreatDoorKR2
import Derived.Test.YtpfbfdcpibajoaaGreatDoorKK
set_option linter.unusedVariables false
set_option linter.unusedSimpArgs false
namespace Go.Kn
open Go Go.Clo Go.Proofs

theorem T_ok : TbOK T0 ∧ StrOK T0 := tables_ok (by
  intro t i h
  have hs : Tryz.types.size = 243 := by kernel_rfl
  have hlt : t < Tryz.types.size := by
    have := (List.getElem?_eq_some_iff.1 h).1; simpa using this
  show Tryz.prog.toTables.info? t = some i
  unfold Tables.info?
  have e : Tryz.prog.toTables.types = Tryz.types := by kernel_rfl
  rw [e, if_pos hlt]
  simpa using h) (by kernel_rfl) (by
  intro f e h
  unfold Text at h
  rw [Tr.get_set] at h
  split at h
  · rename_i hf; cases h; subst hf
    exact ⟨_, Tryz.func229, by decide, rfl, by kernel_rfl, by kernel_rfl⟩
  · rw [Tr.get_set] at h
    split at h
    · rename_i hf; cases h; subst hf
      exact ⟨_, Tryz.func220, by decide, rfl, by kernel_rfl, by kernel_rfl⟩
    · cases h) (by
  intro f u h
  have h' : (Tr.e : Tr Unit).get f = some u := h
  cases h') (by
  intro t n h
  have h' : (Tr.e : Tr Nat).get t = some n := h
  cases h')

theorem mixed : Tryz.prog.follows .mixedOrders = true := by kernel_rfl

theorem D0 : DrawOK T0 := draw_ok T_ok.1 T_ok.2 mixed
theorem P0 : SpOK T0 := fun {f g} h => by
  have h' : (Tr.e : Tr (List Value → Option FrameMode → Hp → Option (Rt × Option FrameMode × Hp))).get f = some g := h
  cases h'

theorem T1_ok : TbOK T1 ∧ StrOK T1 := ⟨T_ok.1.withSp _, StrOK.withSp T_ok.2 _⟩

theorem P1 : SpOK T1 := by
  refine SpOK.add T_ok.1 T_ok.2 D0 P0 P0 rfl rfl ?_
  intro R hR
  simp only [rows, List.mem_cons, List.not_mem_nil, or_false] at hR
  rcases hR with rfl | rfl | rfl | rfl | rfl | rfl | rfl | rfl | rfl | rfl | rfl | rfl
  · exact ⟨400, r0_ok⟩
  · exact ⟨400, r1_ok⟩
  · exact ⟨400, r2_ok⟩
  · exact ⟨400, r3_ok⟩
  · exact ⟨400, r4_ok⟩
  · exact ⟨400, r5_ok⟩
  · exact ⟨400, r6_ok⟩
  · exact ⟨400, r7_ok⟩
  · exact ⟨400, r8_ok⟩
  · exact ⟨400, r9_ok⟩
  · exact ⟨400, r10_ok⟩
  · exact ⟨400, r11_ok⟩

/-- the chapter's examples hold, whatever the world and the order -/
theorem known_calls (w : World) : Calls Tryz.prog 14 #[] w fun e w' => e = .returned (.bool true) ∧ RowKit.Below w.heap.size w w' := by
  obtain ⟨um, h', hh⟩ := ret_of k9
  exact calls_plain (T := T1) T1_ok.1 T1_ok.2 (draw_ok T1_ok.1 T1_ok.2 mixed) P1 400 (args := []) hh rfl rfl w
end Go.Kn
