/- Walks of functions of layer 2 (contracts that the laws of this seat use). Conditions: as each theorem states them. -/
import Derived.Test.YtnlbofaiihlniaaGreatDoorGA
import Derived.Test.YtnlbofaiihlniaaGreatDoorGW
set_option linter.unusedVariables false
set_option linter.unusedSimpArgs false
namespace Go.Kn
open Go Go.Proofs Go.RowKit

theorem join_cons2 (y z : List UInt8) (r : List (List UInt8)) : Lib.join (y :: z :: r) [10] = y ++ 10 :: Lib.join (z :: r) [10] := by
  simp [Lib.join, List.intercalate_cons_cons]
theorem join_one (y : List UInt8) : Lib.join [y] [10] = y := by simp [Lib.join]

theorem index_line : ∀ (y r : List UInt8), (10 : UInt8) ∉ y → Lib.index (y ++ 10 :: r) [10] = (y.length : Int)
  | [], r, _ => by simp [Lib.index]
  | b :: y, r, h => by
    have hb : b ≠ 10 := fun e => h (by simp [e])
    have ih := index_line y r (fun e => h (by simp [e]))
    rw [List.cons_append, Lib.index, ih]
    rw [if_neg (by simp; exact fun e => hb e.symm), if_neg (by first | (simp; done) | (simp; omega))]
    simp

theorem count_line (y r : List UInt8) (h : (10 : UInt8) ∉ y) : (y ++ 10 :: r).count 10 = r.count 10 + 1 := by
  rw [List.count_append, List.count_cons_self, List.count_eq_zero_of_not_mem h]; omega

theorem split_join : ∀ (ys : List (List UInt8)), ys ≠ [] → (∀ y ∈ ys, (10 : UInt8) ∉ y) →
    (Lib.join ys [10]).count 10 + 1 = ys.length ∧ Lib.splitK [10] 0 ((Lib.join ys [10]).count 10) (Lib.join ys [10]) = ys
  | [], h, _ => (h rfl).elim
  | [y], _, h => by
    have h0 : y.count 10 = 0 := List.count_eq_zero_of_not_mem (h y (by simp))
    rw [join_one, h0]
    exact ⟨rfl, rfl⟩
  | y :: z :: r, _, h => by
    obtain ⟨h1, h2⟩ := split_join (z :: r) (by simp) (fun x hx => h x (List.mem_cons_of_mem _ hx))
    have hy := h y (by simp)
    rw [join_cons2, count_line y _ hy]
    refine ⟨by rw [List.length_cons]; omega, ?_⟩
    rw [Lib.splitK, index_line y _ hy, if_neg (by first | (simp; done) | (simp; omega))]
    simp only [Int.toNat_natCast, Nat.add_zero]
    rw [List.take_left, show y.length + [(10 : UInt8)].length = (y ++ [10]).length by simp, show y ++ 10 :: Lib.join (z :: r) [10] = (y ++ [10]) ++ Lib.join (z :: r) [10] by simp, List.drop_left, h2]

theorem splitB_join (ys : List (List UInt8)) (hne : ys ≠ []) (h : ∀ y ∈ ys, (10 : UInt8) ∉ y) :
    Lib.countB (bs (Lib.join ys [10])) ⟨#[10]⟩ + 1 = ys.length ∧ Lib.splitB ⟨#[10]⟩ 0 (Lib.countB (bs (Lib.join ys [10])) ⟨#[10]⟩) (bs (Lib.join ys [10])) = ys.map bs := by
  obtain ⟨h1, h2⟩ := split_join ys hne h
  have hc : Lib.countB (bs (Lib.join ys [10])) ⟨#[10]⟩ = (Lib.join ys [10]).count 10 := by
    unfold Lib.countB
    rw [bs_list]
    exact Lib.count_one 10 _
  rw [hc]
  refine ⟨h1, ?_⟩
  have h3 := Lib.splitB_data ⟨#[10]⟩ 0 ((Lib.join ys [10]).count 10) (bs (Lib.join ys [10]))
  rw [bs_list] at h3
  have h4 : (Lib.splitB ⟨#[10]⟩ 0 ((Lib.join ys [10]).count 10) (bs (Lib.join ys [10]))).map (·.data.toList) = ys := h3.trans h2
  have h5 := congrArg (List.map bs) h4
  rw [List.map_map] at h5
  have e : bs ∘ (fun x : ByteArray => x.data.toList) = id := by
    funext x
    exact (bs_of x).symm
  rw [e, List.map_id] at h5
  exact h5

theorem hasSuffix_nl (J : List UInt8) : Lib.hasSuffix (J ++ [10]) [10] = true := by
  unfold Lib.hasSuffix
  rw [List.isSuffixOf_iff_suffix]
  exact List.suffix_append _ _
theorem trimSuffix_nl (J : List UInt8) : Lib.trimSuffix (J ++ [10]) [10] = J := by
  unfold Lib.trimSuffix
  rw [if_pos (hasSuffix_nl J)]
  simp
end Go.Kn

namespace Go.Kn
open Go Go.Proofs Go.RowKit

/-- the library's variable MaxLen stands in the memory's first block -/
def ML (w : World) : Prop := ∃ m, w.cell? ⟨0, 0, none⟩ = some (.int .i64 m)
theorem ML.on {w w1 : World} (h : ML w) (hb : Below w.heap.size w w1) : ML w1 := by
  obtain ⟨m, hm⟩ := h
  exact ⟨m, ((bcell hb).1 _ _ (World.block_lt_of_cell? _ _ hm)).trans hm⟩

theorem suffix_w (J : List UInt8) (w : World) (hJ : J.length ≤ 1000000) :
    Calls Tryz.prog 131 #[.string (bs (J ++ [10])), .string ⟨#[10]⟩] w fun e w' => e = .returned (.tuple #[.string (bs J), .bool true]) ∧ w' = w := by
  have h := Tryz.strings_CutSuffix (bs (J ++ [10])) ⟨#[10]⟩ w (by rw [bs_size]; simp; omega)
  have e : (⟨#[10]⟩ : ByteArray).data.toList = [10] := rfl
  rw [bs_list, e, trimSuffix_nl, hasSuffix_nl] at h
  exact h

theorem split_w (ys : List (List UInt8)) (hne : ys ≠ []) (hy : ∀ y ∈ ys, (10 : UInt8) ∉ y) (w : World) (hT : (Lib.join ys [10]).length ≤ 1000000) (hm : ML w) :
    Calls Tryz.prog 132 #[.string (bs (Lib.join ys [10])), .string ⟨#[10]⟩] w fun e w' =>
      e = .returned (.slice (some ⟨w.heap.size, 0, none⟩) ys.length ys.length) ∧ w' = w.alloc (.cells (ys.map strV).toArray 9) := by
  obtain ⟨m, hm⟩ := hm
  obtain ⟨h1, h2⟩ := splitB_join ys hne hy
  have h := Tryz.strings_Split (bs (Lib.join ys [10])) ⟨#[10]⟩ m w (by rw [bs_size]; omega) hm (by decide)
  rw [h1, h2] at h
  have e : (ys.map bs).map Value.string = ys.map strV := by simp [strV]
  rw [e] at h
  exact h

theorem strAt_alloc (ys : List (List UInt8)) (w : World) (T : TypeId) : StrAt (w.alloc (.cells (ys.map strV).toArray T)) w.heap.size 0 ys := by
  intro j hj
  have : (ys.map strV)[j]? = some (.string (bs (ys.getD j []))) := by simp [List.getD, hj, strV]
  have hg : (w.alloc (.cells (ys.map strV).toArray T)).heap[w.heap.size]? = some (.cells (ys.map strV).toArray T) := by
    show (w.heap.push _)[w.heap.size]? = _
    simp
  rw [Nat.zero_add]
  unfold World.cell?
  simp only []
  rw [hg]
  simp [List.getD, hj, strV]

theorem slice_to (B n : Nat) (w' : World) : (Instr.slice 85 (.slice (some ⟨B, 0, none⟩) (n + 1) (n + 1)) none (some (.int .i64 (n : Int))) none).run Tryz.prog w' = .ok (.slice (some ⟨B, 0, none⟩) n (n + 1)) w' := by
  have h1 : ¬ ((n : Int) < 0) := by omega
  have h2 : ¬ ((n : Int) + 1 < (n : Int)) := by omega
  simp [Instr.slice, run_underlying Tryz.underlying85, Instr.sliceBounds, Instr.sliceBound, asIntOf, h1, h2, Result.andThen]
  rfl

set_option maxRecDepth 100000 in
set_option maxHeartbeats 2000000 in
theorem linesN_bad (ys : List (List UInt8)) (z : List UInt8) (w : World) (hn1 : 1 ≤ ys.length) (hn : ys.length ≤ 1000) (hl : Hid (∀ x ∈ ys, x.length ≤ 1000)) (hy : Hid (∀ y ∈ ys ++ [z], (10 : UInt8) ∉ y)) (hT : (Lib.join (ys ++ [z]) [10]).length ≤ 1000000) (hz : Hid (z ≠ endL ys)) (hp : Hid (Pow w)) (hm : Hid (ML w)) :
    Calls Tryz.prog 111 #[.string (bs (Lib.join (ys ++ [z]) [10] ++ [10])), .int .i64 139] w fun e w' => e = .returned (.tuple #[.slice none 0 0, .bool false]) ∧ Below w.heap.size w w' := by
  have HS1 : Hid (Calls Tryz.prog 131 #[.string (bs (Lib.join (ys ++ [z]) [10] ++ [10])), .string ⟨#[10]⟩] w fun e w' => e = .returned (.tuple #[.string (bs (Lib.join (ys ++ [z]) [10])), .bool true]) ∧ w' = w) := Lib.hid (suffix_w _ w hT)
  have HS2 : Hid (Calls Tryz.prog 132 #[.string (bs (Lib.join (ys ++ [z]) [10])), .string ⟨#[10]⟩] w fun e w' => e = .returned (.slice (some ⟨w.heap.size, 0, none⟩) (ys.length + 1) (ys.length + 1)) ∧ w' = w.alloc (.cells ((ys ++ [z]).map strV).toArray 9)) := Lib.hid (by
    have h := split_w (ys ++ [z]) (by simp) hy.out w hT hm.out
    rw [List.length_append] at h
    exact h)
  obtain ⟨J, hJ⟩ : ∃ J, Lib.join (ys ++ [z]) [10] = J := ⟨_, rfl⟩
  rw [hJ] at HS1 HS2 ⊢
  clear hJ hT
  obtain ⟨W1, hW1⟩ : ∃ W1, W1 = w.alloc (.cells ((ys ++ [z]).map strV).toArray 9) := ⟨_, rfl⟩
  rw [← hW1] at HS2
  have hb1 : Below w.heap.size w W1 := by rw [hW1]; exact (Below.refl _ _).alloc (Nat.le_refl _) _
  have hz1 : W1.heap.size = w.heap.size + 1 := by rw [hW1]; simp
  have hat : Hid (StrAt W1 w.heap.size 0 (ys ++ [z])) := Lib.hid (by rw [hW1]; exact strAt_alloc _ _ _)
  have hat1 : StrAt W1 w.heap.size 0 ys := fun j hj => by
    have := hat.out j (by rw [List.length_append]; omega)
    rw [this]
    simp [List.getD, List.getElem?_append_left hj]
  have hlast : W1.cell? ⟨w.heap.size, ys.length, none⟩ = some (.string (bs z)) := by
    have := hat.out ys.length (by simp)
    rw [Nat.zero_add] at this
    rw [this]
    simp [List.getD]
  have HEN : Hid (∀ w1, Below W1.heap.size W1 w1 → Calls Tryz.prog 78 #[.slice (some ⟨w.heap.size, 0, none⟩) ys.length (ys.length + 1), .int .i64 139] w1 fun e w' => e = .returned (.string (bs (endL ys))) ∧ Below w1.heap.size w1 w') := Lib.hid fun w1 h => endOf_w _ _ ys w1 hn hl (Lib.hid (.inr ⟨w.heap.size, 0, rfl, Nat.lt_of_lt_of_le (by omega) h.size, hat1.below (by omega) h⟩)) (Lib.hid (hp.out.on (hb1.trans (h.mono hb1.size))))
  have FZ : Hid (∀ w', Below W1.heap.size W1 w' → w'.cell? ⟨w.heap.size, ys.length, none⟩ = some (.string (bs z))) := Lib.hid fun w' h => by
    rw [(bcell h).1 _ _ (by omega)]; exact hlast
  obtain ⟨n, hnn⟩ : ∃ n, ys.length = n := ⟨_, rfl⟩
  rw [hnn] at hn1 hn HS2 HEN FZ
  have HB1 := Lib.hid hb1
  obtain ⟨E, hE⟩ : ∃ E, endL ys = E := ⟨_, rfl⟩
  rw [hE] at hz HEN
  have hneb : ((bs z).toList == (bs E).toList) = false := by simp only [bs, ByteArray.toList_mk]; simpa using hz.out
  have hneq : ¬ (bs z).toList = (bs E).toList := by simp only [bs, ByteArray.toList_mk]; exact hz.out
  clear hW1 hlast hat1 hb1 hnn hE hz hz1
  go_enter Tryz.func111, Tryz.ntmps111
  go_wp2_with (first
    | (go_at_call 131; refine HS1.out.mono ?_; rintro e w2 ⟨rfl, hw⟩; obtain rfl := hw.symm)
    | (go_at_call 132; refine HS2.out.mono ?_; rintro e w2 ⟨rfl, hw⟩; obtain rfl := hw.symm))
  have hn0 : ((n : Int) == 0) = false := by simp; omega
  have hn00 : (n : Int) ≠ 0 := by omega
  have hnn0 : (0 : Int) ≤ (n : Int) := by omega
  have hA1 : (n : Int) < ((n + 1 : Nat) : Int) := by omega
  have hB1 : (n : Int) < (n : Int) + 1 := by omega
  have hsl : ∀ w' : World, (Instr.slice 85 (.slice (some ⟨w.heap.size, 0, none⟩) (n + 1) (n + 1)) none (some (.int .i64 (n : Int))) none).run Tryz.prog w' = .ok (.slice (some ⟨w.heap.size, 0, none⟩) n (n + 1)) w' := slice_to w.heap.size n
  refine wp_region_calm (W := W1) (by kernel_rfl) (by kernel_rfl) (Below.refl _ _) ?_
  repeat (first
    | (refine calm_no (by rfl) ?_
       (try simp only [Act.put, List.setIfInBounds_toArray, List.set_cons_zero, List.set_cons_succ]))
    | (apply calm_yes
       focus rfl
       focus
         intro w' hw'
         have z1 := FZ.out w' hw'
         go_simp
         first
           | done
           | with_reducible rfl
           | (go_at_call 78; refine (HEN.out w' hw').mono ?_; rintro e w8 ⟨rfl, hb8⟩; exact ⟨rfl, hw'.trans (hb8.mono hw'.size)⟩)
           | fail
       (try simp only [Act.put, List.setIfInBounds_toArray, List.set_cons_zero, List.set_cons_succ])))
  refine calm_nil ?_
  intro w20 hb20
  have HB20 := Lib.hid hb20
  clear hb20
  go_wp2
  refine bodyPost_ret (v := .tuple #[.slice none 0 0, .bool false]) (by simp [results, Tryz.results111, go_sem]) rfl ⟨rfl, ?_⟩
  exact HB1.out.trans (HB20.out.mono HB1.out.size)

set_option maxRecDepth 100000 in
set_option maxHeartbeats 1000000 in
theorem lines_bad (ys : List (List UInt8)) (z : List UInt8) (w : World) (hn1 : 1 ≤ ys.length) (hn : ys.length ≤ 1000) (hl : Hid (∀ x ∈ ys, x.length ≤ 1000)) (hy : Hid (∀ y ∈ ys ++ [z], (10 : UInt8) ∉ y)) (hT : (Lib.join (ys ++ [z]) [10]).length ≤ 1000000) (hz : Hid (z ≠ endL ys)) (hp : Hid (Pow w)) (hm : Hid (ML w)) :
    Calls Tryz.prog 80 #[.string (bs (Lib.join (ys ++ [z]) [10] ++ [10])), .int .i64 139] w fun e w' => e = .returned (.tuple #[.slice none 0 0, .bool false]) ∧ Below w.heap.size w w' := by
  have HL := Lib.hid (linesN_bad ys z w hn1 hn hl hy hT hz hp hm)
  obtain ⟨T, hT2⟩ : ∃ T, bs (Lib.join (ys ++ [z]) [10] ++ [10]) = T := ⟨_, rfl⟩
  rw [hT2] at HL ⊢
  clear hT2
  go_enter Tryz.func80, Tryz.ntmps80
  go_wp2_with (go_at_call 111; refine HL.out.mono ?_; rintro e w1 ⟨rfl, hb⟩)
  refine bodyPost_ret (v := .tuple #[.slice none 0 0, .bool false]) (by simp [results, Tryz.results80, go_sem]) rfl ⟨rfl, hb⟩
end Go.Kn
