/- Contracts of functions that the laws of this seat call, or the evaluator of closed calls and its runs. Conditions: as each theorem states them. -/
import Derived.Test.YtdfhkimjpnnobaaGreatDoorGB
set_option linter.unusedVariables false
set_option linter.unusedSimpArgs false
namespace Go.Kn
open Go Go.Proofs Go.RowKit

theorem below_drew {B : Nat} {a w : World} (h : Below B a w) : Below B a w.drew := h.trans ⟨rfl, rfl, rfl, Nat.le_refl _, fun _ _ => rfl⟩

def droughtW : List UInt8 := [100, 114, 111, 117, 103, 104, 116]
def nodeW : List UInt8 := [110, 111, 100, 101]
def outletW : List UInt8 := [111, 117, 116, 108, 101, 116]

theorem word0_w (w : World) : Calls Tryz.prog 56 #[.int .i64 0] w fun e w' => e = .returned (.string (bs droughtW)) ∧ w' = w := by
  go_enter Tryz.func56, Tryz.ntmps56
  go_wp2
  go_ret
  exact ⟨rfl, rfl⟩
theorem word1_w (w : World) : Calls Tryz.prog 56 #[.int .i64 1] w fun e w' => e = .returned (.string (bs nodeW)) ∧ w' = w := by
  go_enter Tryz.func56, Tryz.ntmps56
  go_wp2
  go_ret
  exact ⟨rfl, rfl⟩
theorem word2_w (w : World) : Calls Tryz.prog 56 #[.int .i64 2] w fun e w' => e = .returned (.string (bs outletW)) ∧ w' = w := by
  go_enter Tryz.func56, Tryz.ntmps56
  go_wp2
  go_ret
  exact ⟨rfl, rfl⟩

def ndL (x : N2) : List Int := [x.p, x.c]
def ouL (x : O3) : List Int := [x.n, x.c, x.k]
def N2Ok (x : N2) : Prop := (0 ≤ x.p ∧ x.p ≤ 1000000) ∧ (0 ≤ x.c ∧ x.c ≤ 1000000)
def O3Ok (x : O3) : Prop := (0 ≤ x.n ∧ x.n ≤ 1000000) ∧ (0 ≤ x.c ∧ x.c ≤ 1000000) ∧ (0 ≤ x.k ∧ x.k ≤ 1000000)

theorem upto_getD (l : List Int) : upto (fun i => l.getD i 0) l.length = l := by
  apply List.ext_getElem
  · simp [upto]
  · intro i h1 h2
    simp [upto, List.getD, h2]

/-- a line out of a list that was laid just now -/
theorem lineLit_w (wd : List UInt8) (l : List Int) (n B : Nat) (w : World) (hwd : wd.length ≤ 100) (hn : l.length = n) (hn2 : n ≤ 10) (hB : w.heap.size = B) (hf : Hid (∀ i, i < n → 0 ≤ l.getD i 0 ∧ l.getD i 0 ≤ 1000000)) (hp : Hid (Pow w)) :
    Calls Tryz.prog 55 #[.string (bs wd), .slice (some ⟨B, 0, none⟩) n n] (w.alloc (.cells (l.map (Value.int .i64)).toArray 3))
      fun e w' => e = .returned (.string (bs (rowL wd l))) ∧ Below w.heap.size w w' := by
  subst hB; subst hn
  have hal : Below w.heap.size w (w.alloc (.cells (l.map (Value.int .i64)).toArray 3)) := (Below.refl _ _).alloc (Nat.le_refl _) _
  have hu : upto (fun i => l.getD i 0) l.length = l := upto_getD l
  have h := line_w wd (some ⟨w.heap.size, 0, none⟩) l.length l.length (fun i => l.getD i 0) (w.alloc (.cells (l.map (Value.int .i64)).toArray 3)) hwd (by omega) hf (Lib.hid (.inr ⟨w.heap.size, 0, rfl, by simp, fun i hi => by
    have hg : (w.alloc (.cells (l.map (Value.int .i64)).toArray 3)).heap[w.heap.size]? = some (.cells (l.map (Value.int .i64)).toArray 3) := by
      show (w.heap.push _)[w.heap.size]? = _
      simp
    rw [Nat.zero_add]
    unfold World.cell?
    simp only []
    rw [hg]
    simp [List.getD, hi]⟩)) (Lib.hid (hp.out.on hal))
  rw [hu] at h
  exact h.mono fun e w' ⟨he, hb⟩ => ⟨he, hal.trans (hb.mono hal.size)⟩

set_option maxRecDepth 100000 in
set_option maxHeartbeats 1000000 in
theorem ndText_w (x : N2) (w : World) (hf : Hid (N2Ok x)) (hp : Hid (Pow w)) :
    Calls Tryz.prog 223 #[.agg #[.int .i64 x.p, .int .i64 x.c]] w fun e w' => e = .returned (.string (bs (rowL nodeW (ndL x)))) ∧ Below w.heap.size w w' := by
  have hal : Below w.heap.size w (w.alloc (.cells #[.int .i64 x.p, .int .i64 x.c] 123)) := (Below.refl _ _).alloc (Nat.le_refl _) _
  have HL : Hid (∀ (W : World) (B : Nat), Below w.heap.size w W → W.heap.size = B → Calls Tryz.prog 55 #[.string (bs nodeW), .slice (some ⟨B, 0, none⟩) 2 2] (W.alloc (.cells #[.int .i64 x.p, .int .i64 x.c] 3)) fun e w' => e = .returned (.string (bs (rowL nodeW (ndL x)))) ∧ Below W.heap.size W w') := Lib.hid (fun W B hW hB => lineLit_w nodeW (ndL x) 2 B W (by decide) rfl (by decide) hB (Lib.hid fun i hi => by
    match i, hi with
    | 0, _ => exact hf.out.1
    | 1, _ => exact hf.out.2) (Lib.hid (hp.out.on hW)))
  have hd : Below w.heap.size w (w.alloc (.cells #[.int .i64 x.p, .int .i64 x.c] 123)).drew := below_drew hal
  have HD := Lib.hid hd
  clear hd hal
  go_enter Tryz.func223, Tryz.ntmps223
  go_wp2
  go_region_law ((first
    | (go_simp; go_at_call 56; refine (word1_w _).mono ?_; rintro e w1 ⟨rfl, rfl⟩)
    | (go_simp; go_at_call 55; refine (HL.out _ _ HD.out (by simp)).mono ?_; rintro e w1 ⟨rfl, hb⟩)))
  all_goals
    go_wp2
    go_ret
    exact ⟨rfl, HD.out.trans (hb.mono HD.out.size)⟩

set_option maxRecDepth 100000 in
set_option maxHeartbeats 1000000 in
theorem ouText_w (x : O3) (w : World) (hf : Hid (O3Ok x)) (hp : Hid (Pow w)) :
    Calls Tryz.prog 225 #[.agg #[.int .i64 x.n, .int .i64 x.c, .int .i64 x.k]] w fun e w' => e = .returned (.string (bs (rowL outletW (ouL x)))) ∧ Below w.heap.size w w' := by
  have hal : Below w.heap.size w (w.alloc (.cells #[.int .i64 x.n, .int .i64 x.c, .int .i64 x.k] 124)) := (Below.refl _ _).alloc (Nat.le_refl _) _
  have HL : Hid (∀ (W : World) (B : Nat), Below w.heap.size w W → W.heap.size = B → Calls Tryz.prog 55 #[.string (bs outletW), .slice (some ⟨B, 0, none⟩) 3 3] (W.alloc (.cells #[.int .i64 x.n, .int .i64 x.c, .int .i64 x.k] 3)) fun e w' => e = .returned (.string (bs (rowL outletW (ouL x)))) ∧ Below W.heap.size W w') := Lib.hid (fun W B hW hB => lineLit_w outletW (ouL x) 3 B W (by decide) rfl (by decide) hB (Lib.hid fun i hi => by
    match i, hi with
    | 0, _ => exact hf.out.1
    | 1, _ => exact hf.out.2.1
    | 2, _ => exact hf.out.2.2) (Lib.hid (hp.out.on hW)))
  have hd : Below w.heap.size w (w.alloc (.cells #[.int .i64 x.n, .int .i64 x.c, .int .i64 x.k] 124)).drew := below_drew hal
  have HD := Lib.hid hd
  clear hd hal
  go_enter Tryz.func225, Tryz.ntmps225
  go_wp2
  go_region_law ((first
    | (go_simp; go_at_call 56; refine (word2_w _).mono ?_; rintro e w1 ⟨rfl, rfl⟩)
    | (go_simp; go_at_call 55; refine (HL.out _ _ HD.out (by simp)).mono ?_; rintro e w1 ⟨rfl, hb⟩)))
  all_goals
    go_wp2
    go_ret
    exact ⟨rfl, HD.out.trans (hb.mono HD.out.size)⟩
end Go.Kn
