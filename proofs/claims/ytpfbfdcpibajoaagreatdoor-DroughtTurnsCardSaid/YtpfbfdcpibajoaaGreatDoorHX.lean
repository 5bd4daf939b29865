/- Contracts of functions that the laws of this seat call, or the evaluator of closed calls and its runs. Conditions: as each theorem states them. -/
import Derived.Test.YtpfbfdcpibajoaaGreatDoorHM
import Derived.Test.YtpfbfdcpibajoaaGreatDoorHO
set_option linter.unusedVariables false
set_option linter.unusedSimpArgs false
namespace Go.Kn
open Go Go.Proofs Go.RowKit

set_option maxRecDepth 100000 in
set_option maxHeartbeats 1000000 in
theorem rshares_w (f : Int) (na oa : Option Addr) (ln cn lo co : Nat) (N : Nat → N2) (U : Nat → O3) (w : World) (HR : Hid (TreeP f ln lo N U)) (H : Hid (Tr7 w na oa ln lo N U)) :
    Calls Tryz.prog 23 #[.agg #[.int .i64 f, .slice na ln cn, .slice oa lo co]] w fun e w' =>
      (∃ sa cs t, e = .returned (.slice sa lo cs) ∧ IntSl w' sa lo t ∧ Ord f lo N U (fun _ => 0) [0, 1, 2, 3] t) ∧ Below w.heap.size w w' := by
  obtain ⟨WA, hWA⟩ : ∃ WA, WA = w.alloc (.cells #[.int .i64 f, .slice na ln cn, .slice oa lo co] 25) := ⟨_, rfl⟩
  have hA : Below w.heap.size w WA := by rw [hWA]; exact (Below.refl _ _).alloc (Nat.le_refl _) _
  have hB : Below w.heap.size w (WA.alloc (.cells #[.int .i64 0, .int .i64 1, .int .i64 2, .int .i64 3] 3)) := hA.alloc hA.size _
  have hI : IntSl (WA.alloc (.cells #[.int .i64 0, .int .i64 1, .int .i64 2, .int .i64 3] 3)) (some ⟨WA.heap.size, 0, none⟩) 4 (fun i => ((i : Nat) : Int)) := .inr ⟨_, 0, rfl, by simp, fun i hi => by
    match i, hi with
    | 0, _ => simp
    | 1, _ => simp
    | 2, _ => simp
    | 3, _ => simp⟩
  have HO : Hid (∀ cc, Calls Tryz.prog 25 #[.agg #[.int .i64 f, .slice na ln cn, .slice oa lo co], .slice (some ⟨WA.heap.size, 0, none⟩) 4 cc] (WA.alloc (.cells #[.int .i64 0, .int .i64 1, .int .i64 2, .int .i64 3] 3)) fun e w' =>
      (∃ sa cs t, e = .returned (.slice sa lo cs) ∧ IntSl w' sa lo t ∧ Ord f lo N U (fun _ => 0) [0, 1, 2, 3] t) ∧ Below w.heap.size w w') := Lib.hid fun cc => by
    refine (rordered_w f na oa _ ln cn lo co 4 cc N U _ _ HR (Lib.hid (H.out.below hB)) (Lib.hid hI) (by decide)).mono ?_
    rintro e w' ⟨⟨sa, cs, t, he, h1, h2⟩, hb⟩
    rw [law4] at h2
    exact ⟨⟨sa, cs, t, he, h1, h2⟩, hB.trans (hb.mono hB.size)⟩
  have hz : WA.heap.size = w.heap.size + 1 := by rw [hWA]; simp
  rw [hz] at HO
  rw [hWA] at HO
  clear hWA hA hB hI hz
  go_enter Tryz.func23, Tryz.ntmps23
  go_wp2_with (go_at_call 25; refine (HO.out _).mono ?_; rintro e w2 ⟨⟨sa, cs, t, rfl, hs, ho⟩, hb⟩; have HS := Lib.hid hs; have HORD := Lib.hid ho; have HB := Lib.hid hb; clear hs ho hb)
  go_ret
  exact ⟨⟨_, _, _, rfl, HS.out, HORD.out⟩, HB.out⟩
end Go.Kn
