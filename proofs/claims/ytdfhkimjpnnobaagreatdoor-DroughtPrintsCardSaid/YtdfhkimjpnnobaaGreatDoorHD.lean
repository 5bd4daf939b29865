/- Contracts of functions that the laws of this seat call, or the evaluator of closed calls and its runs. Conditions: as each theorem states them. -/
import Derived.Test.YtdfhkimjpnnobaaGreatDoorHC
import Derived.Test.YtdfhkimjpnnobaaGreatDoorHB
import Derived.Shelf.RegionOpen
import Derived.Maps.AppendAt
import Derived.Deep.AppendLies
set_option linter.unusedVariables false
set_option linter.unusedSimpArgs false
namespace Go.Kn
open Go Go.Proofs Go.RowKit

set_option maxRecDepth 100000 in
set_option maxHeartbeats 2000000 in
theorem numbers_no (wd wo : List UInt8) (l : List Nat) (hw : (32 : UInt8) ∉ wd) (hne : wd ≠ wo) (w : World) (hT : (rowL wd (l.map fun n : Nat => (n : Int))).length ≤ 1000000) (hm : Hid (ML w)) :
    Calls Tryz.prog 134 #[.string (bs (rowL wd (l.map fun n : Nat => (n : Int)))), .string (bs wo), .int .i64 3] w fun e w' =>
      e = .returned (.tuple #[.slice none 0 0, .bool false]) ∧ Below w.heap.size w w' := by
  have HS := Lib.hid (splitw_w wd l hw w hT hm.out)
  obtain ⟨R, hR⟩ : ∃ R, bs (rowL wd (l.map fun n : Nat => (n : Int))) = R := ⟨_, rfl⟩
  rw [hR] at HS ⊢
  clear hR hT
  obtain ⟨W1, hW1⟩ : ∃ W1, W1 = w.alloc (.cells ((wordsL wd l).map strV).toArray 9) := ⟨_, rfl⟩
  rw [← hW1] at HS
  have hb1 : Below w.heap.size w W1 := by rw [hW1]; exact (Below.refl _ _).alloc (Nat.le_refl _) _
  have hat : StrAt W1 w.heap.size 0 (wordsL wd l) := by rw [hW1]; exact strAt_alloc _ _ _
  have y1 : W1.cell? ⟨w.heap.size, 0, none⟩ = some (.string (bs wd)) := by
    have := hat 0 (by simp [wordsL])
    simpa [wordsL] using this
  have hneb : ((bs wd).toList == (bs wo).toList) = false := by simp only [bs, ByteArray.toList_mk]; simpa using hne
  have hneq : ¬ (bs wd).toList = (bs wo).toList := by simp only [bs, ByteArray.toList_mk]; exact hne
  obtain ⟨D, hD⟩ : ∃ D, bs wd = D := ⟨_, rfl⟩
  rw [hD] at y1 hneb hneq
  have HB1 := Lib.hid hb1
  clear hW1 hb1 hat hD
  go_enter Tryz.func134, Tryz.ntmps134
  go_wp2_with (go_at_call 153; refine HS.out.mono ?_; rintro e w2 ⟨rfl, hw⟩; obtain rfl := hw.symm)
  refine bodyPost_ret (v := .tuple #[.slice none 0 0, .bool false]) (by simp [results, Tryz.results134, go_sem]) rfl ⟨rfl, HB1.out⟩

set_option maxRecDepth 100000 in
set_option maxHeartbeats 1000000 in
theorem numbersOf_yes (i : Int) (wd : List UInt8) (l : List Nat) (n : Nat) (hi : Hid (∀ w, Calls Tryz.prog 56 #[.int .i64 i] w fun e w' => e = .returned (.string (bs wd)) ∧ w' = w)) (hw : (32 : UInt8) ∉ wd) (hn : l.length = n) (hl1 : 1 ≤ n) (hl : n ≤ 100) (hx : Hid (∀ x ∈ l, x ≤ 999)) (w : World) (hT : (rowL wd (l.map fun n : Nat => (n : Int))).length ≤ 1000000) (hm : Hid (ML w)) :
    Calls Tryz.prog 104 #[.string (bs (rowL wd (l.map fun n : Nat => (n : Int)))), .int .i64 i, .int .i64 (n : Int)] w fun e w' =>
      (∃ G cap, e = .returned (.tuple #[.slice (some ⟨G, 0, none⟩) n cap, .bool true]) ∧ ∀ (j : Nat) (u : Value), (l.map intV)[j]? = some u → w'.cell? ⟨G, j, none⟩ = some u) ∧ Below w.heap.size w w' := by
  subst hn
  have HN : Hid (Calls Tryz.prog 134 #[.string (bs (rowL wd (l.map fun n : Nat => (n : Int)))), .string (bs wd), .int .i64 3] w fun e w' => (∃ G cap, e = .returned (.tuple #[.slice (some ⟨G, 0, none⟩) l.length cap, .bool true]) ∧ Hid (∀ (j : Nat) (u : Value), (l.map intV)[j]? = some u → w'.cell? ⟨G, j, none⟩ = some u)) ∧ Below w.heap.size w w') := Lib.hid ((numbers_w wd l hw hl1 hl hx w hT hm).mono (by
    rintro e w' ⟨⟨v, rfl, hv⟩, hb⟩
    obtain ⟨G, cap, rfl, _, _, _, g4⟩ := vals_of_owns hv (by omega)
    exact ⟨⟨G, cap, rfl, Lib.hid g4⟩, hb⟩))
  obtain ⟨R, hR⟩ : ∃ R, bs (rowL wd (l.map fun n : Nat => (n : Int))) = R := ⟨_, rfl⟩
  obtain ⟨D, hD⟩ : ∃ D, bs wd = D := ⟨_, rfl⟩
  rw [hR, hD] at HN
  rw [hD] at hi
  rw [hR]
  clear hR hD hT
  obtain ⟨n, hn⟩ : ∃ n, l.length = n := ⟨_, rfl⟩
  rw [hn] at HN hl1 hl ⊢
  clear hn
  go_enter Tryz.func104, Tryz.ntmps104
  go_wp2_with (first
    | (go_at_call 56; refine (hi.out _).mono ?_; rintro e w1 ⟨rfl, hw1⟩; obtain rfl := hw1.symm)
    | (go_at_call 134; refine HN.out.mono ?_; rintro e w1 ⟨⟨G, cap, rfl, hv1⟩, hb1⟩))
  refine bodyPost_ret (v := .tuple #[.slice (some ⟨G, 0, none⟩) n cap, .bool true]) (by simp [results, Tryz.results104, go_sem]) rfl ⟨⟨G, cap, rfl, hv1.out⟩, hb1⟩

set_option maxRecDepth 100000 in
set_option maxHeartbeats 1000000 in
theorem numbersOf_no (i : Int) (wd wo : List UInt8) (l : List Nat) (n : Int) (hi : Hid (∀ w, Calls Tryz.prog 56 #[.int .i64 i] w fun e w' => e = .returned (.string (bs wo)) ∧ w' = w)) (hw : (32 : UInt8) ∉ wd) (hne : wd ≠ wo) (w : World) (hT : (rowL wd (l.map fun n : Nat => (n : Int))).length ≤ 1000000) (hm : Hid (ML w)) :
    Calls Tryz.prog 104 #[.string (bs (rowL wd (l.map fun n : Nat => (n : Int)))), .int .i64 i, .int .i64 n] w fun e w' =>
      e = .returned (.tuple #[.slice none 0 0, .bool false]) ∧ Below w.heap.size w w' := by
  have HN := Lib.hid (numbers_no wd wo l hw hne w hT hm)
  obtain ⟨R, hR⟩ : ∃ R, bs (rowL wd (l.map fun n : Nat => (n : Int))) = R := ⟨_, rfl⟩
  obtain ⟨D, hD⟩ : ∃ D, bs wo = D := ⟨_, rfl⟩
  rw [hR, hD] at HN
  rw [hD] at hi
  rw [hR]
  clear hR hD hT
  go_enter Tryz.func104, Tryz.ntmps104
  go_wp2_with (first
    | (go_at_call 56; refine (hi.out _).mono ?_; rintro e w1 ⟨rfl, hw1⟩; obtain rfl := hw1.symm)
    | (go_at_call 134; refine HN.out.mono ?_; rintro e w1 ⟨rfl, hb1⟩))
  refine bodyPost_ret (v := .tuple #[.slice none 0 0, .bool false]) (by simp [results, Tryz.results104, go_sem]) rfl ⟨rfl, hb1⟩

theorem drought_no32 : (32 : UInt8) ∉ droughtW := by decide
theorem node_no32 : (32 : UInt8) ∉ nodeW := by decide
theorem outlet_no32 : (32 : UInt8) ∉ outletW := by decide

set_option maxRecDepth 100000 in
set_option maxHeartbeats 2000000 in
theorem partOf_nd (p c : Nat) (hx : Hid (∀ x ∈ [p, c], x ≤ 999)) (w : World) (hT : (rowL nodeW ([p, c].map fun n : Nat => (n : Int))).length ≤ 1000000) (hm : Hid (ML w)) :
    Calls Tryz.prog 105 #[.string (bs (rowL nodeW ([p, c].map fun n : Nat => (n : Int))))] w fun e w' =>
      e = .returned (.iface 123 (.agg #[.int .i64 (p : Int), .int .i64 (c : Int)])) ∧ Below w.heap.size w w' := by
  have HN : Hid (Calls Tryz.prog 104 #[.string (bs (rowL nodeW ([p, c].map fun n : Nat => (n : Int)))), .int .i64 1, .int .i64 2] w fun e w' => (∃ G cap, e = .returned (.tuple #[.slice (some ⟨G, 0, none⟩) 2 cap, .bool true]) ∧ (w'.cell? ⟨G, 0, none⟩ = some (.int .i64 (p : Int)) ∧ w'.cell? ⟨G, 1, none⟩ = some (.int .i64 (c : Int)))) ∧ Below w.heap.size w w') := Lib.hid ((numbersOf_yes 1 nodeW [p, c] 2 (Lib.hid word1_w) node_no32 rfl (by decide) (by decide) hx w hT hm).mono (by
    rintro e w' ⟨⟨G, cap, rfl, g4⟩, hb⟩
    exact ⟨⟨G, cap, rfl, g4 0 _ rfl, g4 1 _ rfl⟩, hb⟩))
  obtain ⟨R, hR⟩ : ∃ R, bs (rowL nodeW ([p, c].map fun n : Nat => (n : Int))) = R := ⟨_, rfl⟩
  rw [hR] at HN ⊢
  clear hR hT
  go_enter Tryz.func105, Tryz.ntmps105
  go_wp2_with (go_at_call 104; refine HN.out.mono ?_; rintro e w1 ⟨⟨G, cap, rfl, y0, y1⟩, hb1⟩)
  have HB := Lib.hid hb1
  clear hb1
  go_quiet (fail)
  go_wp2
  go_ret
  exact ⟨rfl, below_drewM HB.out _⟩

set_option maxRecDepth 100000 in
set_option maxHeartbeats 2000000 in
theorem partOf_ou (a c k : Nat) (hx : Hid (∀ x ∈ [a, c, k], x ≤ 999)) (w : World) (hT : (rowL outletW ([a, c, k].map fun n : Nat => (n : Int))).length ≤ 1000000) (hm : Hid (ML w)) :
    Calls Tryz.prog 105 #[.string (bs (rowL outletW ([a, c, k].map fun n : Nat => (n : Int))))] w fun e w' =>
      e = .returned (.iface 124 (.agg #[.int .i64 (a : Int), .int .i64 (c : Int), .int .i64 (k : Int)])) ∧ Below w.heap.size w w' := by
  have HO := Lib.hid (numbersOf_no 1 outletW nodeW [a, c, k] 2 (Lib.hid word1_w) outlet_no32 (by decide) w hT hm)
  have HN : Hid (∀ w1, Below w.heap.size w w1 → Calls Tryz.prog 104 #[.string (bs (rowL outletW ([a, c, k].map fun n : Nat => (n : Int)))), .int .i64 2, .int .i64 3] w1 fun e w' => (∃ G cap, e = .returned (.tuple #[.slice (some ⟨G, 0, none⟩) 3 cap, .bool true]) ∧ (w'.cell? ⟨G, 0, none⟩ = some (.int .i64 (a : Int)) ∧ w'.cell? ⟨G, 1, none⟩ = some (.int .i64 (c : Int)) ∧ w'.cell? ⟨G, 2, none⟩ = some (.int .i64 (k : Int)))) ∧ Below w1.heap.size w1 w') := Lib.hid fun w1 h1 => ((numbersOf_yes 2 outletW [a, c, k] 3 (Lib.hid word2_w) outlet_no32 rfl (by decide) (by decide) hx w1 hT (Lib.hid (hm.out.on h1))).mono (by
    rintro e w' ⟨⟨G, cap, rfl, g4⟩, hb⟩
    exact ⟨⟨G, cap, rfl, g4 0 _ rfl, g4 1 _ rfl, g4 2 _ rfl⟩, hb⟩))
  obtain ⟨R, hR⟩ : ∃ R, bs (rowL outletW ([a, c, k].map fun n : Nat => (n : Int))) = R := ⟨_, rfl⟩
  rw [hR] at HN HO ⊢
  clear hR hT
  go_enter Tryz.func105, Tryz.ntmps105
  go_wp2_with (first
    | (go_at_call 104; refine (HN.out _ HB1.out).mono ?_; rintro e w3 ⟨⟨G, cap, rfl, y0, y1, y2⟩, hb3⟩)
    | (go_at_call 104; refine HO.out.mono ?_; rintro e w1 ⟨rfl, hb1⟩; have HB1 := Lib.hid hb1; clear hb1)
    | (go_at_call 90; refine (must_t _ _).mono ?_; rintro e w2 ⟨rfl, hw2⟩; obtain rfl := hw2.symm))
  have HB := Lib.hid (HB1.out.trans (hb3.mono HB1.out.size))
  clear hb3
  go_quiet (fail)
  go_wp2
  go_ret
  exact ⟨rfl, below_drewM HB.out _⟩
end Go.Kn

namespace Go.Kn
open Go Go.Proofs Go.RowKit

theorem addr_add0 (b j : Nat) : (⟨b, 0, none⟩ : Addr).add j = ⟨b, j, none⟩ := by
  unfold Addr.add
  split
  · rename_i h; rw [h]
  · simp

theorem info78 : (Tryz.prog.info? 78).map (fun i => (i.zero, i.size, i.bytes)) = some (some (.agg #[.int .i64 0, .int .i64 0]), 2, 16) := by kernel_rfl
theorem info81 : (Tryz.prog.info? 81).map (fun i => (i.zero, i.size, i.bytes)) = some (some (.agg #[.int .i64 0, .int .i64 0, .int .i64 0]), 3, 24) := by kernel_rfl
theorem ta_nn (v : Value) (w : World) : (Instr.typeAssert (Value.iface 123 v) 94 123 true).run Tryz.prog w = .ok (.tuple #[v, .bool true]) w := by kernel_rfl
theorem ta_on (v : Value) (w : World) : (Instr.typeAssert (Value.iface 124 v) 94 123 true).run Tryz.prog w = .ok (.tuple #[.agg #[.int .i64 0, .int .i64 0], .bool false]) w := by kernel_rfl
theorem ta_oo (v : Value) (w : World) : (Instr.typeAssert (Value.iface 124 v) 94 124 true).run Tryz.prog w = .ok (.tuple #[v, .bool true]) w := by kernel_rfl
theorem ta_no (v : Value) (w : World) : (Instr.typeAssert (Value.iface 123 v) 94 124 true).run Tryz.prog w = .ok (.tuple #[.agg #[.int .i64 0, .int .i64 0, .int .i64 0], .bool false]) w := by kernel_rfl

/-- the cells of k nodes -/
def ndCells (N : Nat → N2) : Nat → List Value
  | 0 => []
  | k + 1 => ndCells N k ++ [.int .i64 (N k).p, .int .i64 (N k).c]
def ouCells (U : Nat → O3) : Nat → List Value
  | 0 => []
  | k + 1 => ouCells U k ++ [.int .i64 (U k).n, .int .i64 (U k).c, .int .i64 (U k).k]
theorem ndCells_len (N : Nat → N2) : ∀ k, (ndCells N k).length = k * 2
  | 0 => rfl
  | k + 1 => by rw [ndCells, List.length_append, ndCells_len N k]; simp; omega
theorem ouCells_len (U : Nat → O3) : ∀ k, (ouCells U k).length = k * 3
  | 0 => rfl
  | k + 1 => by rw [ouCells, List.length_append, ouCells_len U k]; simp; omega
theorem ndCells_get (N : Nat → N2) : ∀ k i, i < k → (ndCells N k)[i * 2]? = some (.int .i64 (N i).p) ∧ (ndCells N k)[i * 2 + 1]? = some (.int .i64 (N i).c)
  | 0, i, h => by omega
  | k + 1, i, h => by
    have hl := ndCells_len N k
    rw [ndCells]
    by_cases h1 : i < k
    · rw [List.getElem?_append_left (by omega), List.getElem?_append_left (by omega)]
      exact ndCells_get N k i h1
    · obtain rfl : i = k := by omega
      rw [List.getElem?_append_right (by omega), List.getElem?_append_right (by omega), hl, show i * 2 - i * 2 = 0 by omega, show i * 2 + 1 - i * 2 = 1 by omega]
      exact ⟨rfl, rfl⟩
theorem ouCells_get (U : Nat → O3) : ∀ k i, i < k → (ouCells U k)[i * 3]? = some (.int .i64 (U i).n) ∧ (ouCells U k)[i * 3 + 1]? = some (.int .i64 (U i).c) ∧ (ouCells U k)[i * 3 + 2]? = some (.int .i64 (U i).k)
  | 0, i, h => by omega
  | k + 1, i, h => by
    have hl := ouCells_len U k
    rw [ouCells]
    by_cases h1 : i < k
    · rw [List.getElem?_append_left (by omega), List.getElem?_append_left (by omega), List.getElem?_append_left (by omega)]
      exact ouCells_get U k i h1
    · obtain rfl : i = k := by omega
      rw [List.getElem?_append_right (by omega), List.getElem?_append_right (by omega), List.getElem?_append_right (by omega), hl, show i * 3 - i * 3 = 0 by omega, show i * 3 + 1 - i * 3 = 1 by omega, show i * 3 + 2 - i * 3 = 2 by omega]
      exact ⟨rfl, rfl, rfl⟩

theorem NdAt.of_owns {w : World} {base g k cap : Nat} {N : Nat → N2} (h : w.ownsRow base 78 2 (.slice (some ⟨g, 0, none⟩) k cap) k (ndCells N k)) : NdAt w g 0 k N := fun i hi => by
  obtain ⟨a, b⟩ := ndCells_get N k i hi
  have h1 := h.cells (g := g) rfl _ _ a
  have h2 := h.cells (g := g) rfl _ _ b
  rw [addr_add0] at h1 h2
  rw [Nat.zero_add]
  exact ⟨h1, h2⟩
theorem OuAt.of_owns {w : World} {base g k cap : Nat} {U : Nat → O3} (h : w.ownsRow base 81 3 (.slice (some ⟨g, 0, none⟩) k cap) k (ouCells U k)) : OuAt w g 0 k U := fun i hi => by
  obtain ⟨a, b, c⟩ := ouCells_get U k i hi
  have h1 := h.cells (g := g) rfl _ _ a
  have h2 := h.cells (g := g) rfl _ _ b
  have h3 := h.cells (g := g) rfl _ _ c
  rw [addr_add0] at h1 h2 h3
  rw [Nat.zero_add]
  exact ⟨h1, h2, h3⟩

theorem lies2 {W : World} {b : Nat} {x0 x1 : Value} (h : W.cell? ⟨b, 0, none⟩ = some x0 ∧ W.cell? ⟨b, 1, none⟩ = some x1) : ∀ (j : Nat) (u : Value), [x0, x1][j]? = some u → W.cell? ((⟨b, 0, none⟩ : Addr).add j) = some u := by
  intro j u hj
  rw [addr_add0]
  match j, hj with
  | 0, hj => simp at hj; subst hj; exact h.1
  | 1, hj => simp at hj; subst hj; exact h.2
theorem lies3 {W : World} {b : Nat} {x0 x1 x2 : Value} (h : W.cell? ⟨b, 0, none⟩ = some x0 ∧ W.cell? ⟨b, 1, none⟩ = some x1 ∧ W.cell? ⟨b, 2, none⟩ = some x2) : ∀ (j : Nat) (u : Value), [x0, x1, x2][j]? = some u → W.cell? ((⟨b, 0, none⟩ : Addr).add j) = some u := by
  intro j u hj
  rw [addr_add0]
  match j, hj with
  | 0, hj => simp at hj; subst hj; exact h.1
  | 1, hj => simp at hj; subst hj; exact h.2.1
  | 2, hj => simp at hj; subst hj; exact h.2.2

/-- the tree that is read, behind the first k lines of its nodes -/
structure L1 (w : World) (T G : Nat) (xs : List (List UInt8)) (f : Int) (N : Nat → N2) (k base cn : Nat) (bn : Option Addr) (wr : World) : Prop where
  x0 : wr.cell? ⟨T, 0, none⟩ = some (.int .i64 f)
  x1 : wr.cell? ⟨T, 1, none⟩ = some (.slice bn k cn)
  x2 : wr.cell? ⟨T, 2, none⟩ = some (.slice none 0 0)
  f0 : wr.frozen? ⟨T, 0, none⟩ = false
  f1 : wr.frozen? ⟨T, 1, none⟩ = false
  f2 : wr.frozen? ⟨T, 2, none⟩ = false
  own : wr.ownsRow base 78 2 (.slice bn k cn) k (ndCells N k)
  hT : T < base
  hG : G < base
  hGT : G ≠ T
  str : StrAt wr G 0 xs
  hb : base ≤ wr.heap.size
  bel : Below w.heap.size w wr

theorem L1.below {w : World} {T G : Nat} {xs : List (List UInt8)} {f : Int} {N : Nat → N2} {k base cn : Nat} {bn : Option Addr} {wr w' : World} (h : L1 w T G xs f N k base cn bn wr) (hb : Below wr.heap.size wr w') : L1 w T G xs f N k base cn bn w' := by
  have hT := Nat.lt_of_lt_of_le h.hT h.hb
  have hG := Nat.lt_of_lt_of_le h.hG h.hb
  obtain ⟨z1, z2⟩ := bcell hb
  exact ⟨(z1 _ _ hT).trans h.x0, (z1 _ _ hT).trans h.x1, (z1 _ _ hT).trans h.x2, (z2 _ _ hT).trans h.f0, (z2 _ _ hT).trans h.f1, (z2 _ _ hT).trans h.f2, owns_below h.own hb, h.hT, h.hG, h.hGT, h.str.below hG hb, Nat.le_trans h.hb hb.size, h.bel.trans (hb.mono h.bel.size)⟩

theorem nbb {b b' o o' : Nat} (h : b ≠ b') : (⟨b, o, none⟩ : Addr) ≠ ⟨b', o', none⟩ := fun e => h (congrArg Addr.block e)
theorem noo {b o o' : Nat} (h : o ≠ o') : (⟨b, o, none⟩ : Addr) ≠ ⟨b, o', none⟩ := fun e => h (congrArg Addr.off e)

theorem L1.next {w : World} {T G : Nat} {xs : List (List UInt8)} {f : Int} {N : Nat → N2} {k base cn : Nat} {bn : Option Addr} {wr w1 : World} {g c : Nat} (h : L1 w T G xs f N k base cn bn wr) (hw : w.heap.size ≤ T) (hb : Below base wr w1) (ho : w1.ownsRow base 78 2 (.slice (some ⟨g, 0, none⟩) (k + 1) c) (k + 1) (ndCells N (k + 1))) :
    L1 w T G xs f N (k + 1) base c (some ⟨g, 0, none⟩) (w1.setCell ⟨T, 1, none⟩ (.slice (some ⟨g, 0, none⟩) (k + 1) c)) := by
  have hBB := h.hT
  have q : ∀ b o, b < base → w1.cell? ⟨b, o, none⟩ = wr.cell? ⟨b, o, none⟩ := fun b o hlt => hb.cell (p := ⟨b, o, none⟩) hlt
  have qf : ∀ b o, b < base → w1.frozen? ⟨b, o, none⟩ = wr.frozen? ⟨b, o, none⟩ := fun b o hlt => hb.frozen (p := ⟨b, o, none⟩) hlt
  refine ⟨?_, ?_, ?_, ?_, ?_, ?_, ?_, h.hT, h.hG, h.hGT, ?_, ?_, ?_⟩
  · rw [World.cell?_setCell_other _ _ _ _ (noo (by decide)), q _ _ hBB]; exact h.x0
  · exact World.cell?_setCell_same' _ _ _ (by rw [q _ _ hBB, h.x1]; rfl)
  · rw [World.cell?_setCell_other _ _ _ _ (noo (by decide)), q _ _ hBB]; exact h.x2
  · rw [World.frozen?_setCell, qf _ _ hBB]; exact h.f0
  · rw [World.frozen?_setCell, qf _ _ hBB]; exact h.f1
  · rw [World.frozen?_setCell, qf _ _ hBB]; exact h.f2
  · exact ownsRow_setCell_below ho hBB _
  · intro j hj; rw [World.cell?_setCell_other _ _ _ _ (nbb (Ne.symm h.hGT)), q _ _ h.hG]; exact h.str j hj
  · have := hb.size; have := h.hb; simp; omega
  · exact (h.bel.trans (hb.mono (Nat.le_trans hw (Nat.le_of_lt hBB)))).setCell hw _

/-- .. and behind all its nodes and the first j lines of its outlets -/
structure L2 (w : World) (T G : Nat) (xs : List (List UInt8)) (f : Int) (ln : Nat) (N : Nat → N2) (U : Nat → O3) (cn : Nat) (na : Option Addr) (k base co : Nat) (bo : Option Addr) (wr : World) : Prop where
  x0 : wr.cell? ⟨T, 0, none⟩ = some (.int .i64 f)
  x1 : wr.cell? ⟨T, 1, none⟩ = some (.slice na ln cn)
  x2 : wr.cell? ⟨T, 2, none⟩ = some (.slice bo k co)
  f0 : wr.frozen? ⟨T, 0, none⟩ = false
  f1 : wr.frozen? ⟨T, 1, none⟩ = false
  f2 : wr.frozen? ⟨T, 2, none⟩ = false
  nd : ln = 0 ∨ ∃ A, na = some ⟨A, 0, none⟩ ∧ T < A ∧ A < base ∧ NdAt wr A 0 ln N
  own : wr.ownsRow base 81 3 (.slice bo k co) k (ouCells U k)
  hT : T < base
  hG : G < base
  hGT : G ≠ T
  str : StrAt wr G 0 xs
  hb : base ≤ wr.heap.size
  bel : Below w.heap.size w wr

theorem L2.below {w : World} {T G : Nat} {xs : List (List UInt8)} {f : Int} {ln : Nat} {N : Nat → N2} {U : Nat → O3} {cn : Nat} {na : Option Addr} {k base co : Nat} {bo : Option Addr} {wr w' : World} (h : L2 w T G xs f ln N U cn na k base co bo wr) (hb : Below wr.heap.size wr w') : L2 w T G xs f ln N U cn na k base co bo w' := by
  have hT := Nat.lt_of_lt_of_le h.hT h.hb
  have hG := Nat.lt_of_lt_of_le h.hG h.hb
  obtain ⟨z1, z2⟩ := bcell hb
  refine ⟨(z1 _ _ hT).trans h.x0, (z1 _ _ hT).trans h.x1, (z1 _ _ hT).trans h.x2, (z2 _ _ hT).trans h.f0, (z2 _ _ hT).trans h.f1, (z2 _ _ hT).trans h.f2, ?_, owns_below h.own hb, h.hT, h.hG, h.hGT, h.str.below hG hb, Nat.le_trans h.hb hb.size, h.bel.trans (hb.mono h.bel.size)⟩
  rcases h.nd with e | ⟨A, e1, e2, e3, e4⟩
  · exact .inl e
  · exact .inr ⟨A, e1, e2, e3, e4.below (Nat.lt_of_lt_of_le e3 h.hb) hb⟩

theorem L2.next {w : World} {T G : Nat} {xs : List (List UInt8)} {f : Int} {ln : Nat} {N : Nat → N2} {U : Nat → O3} {cn : Nat} {na : Option Addr} {k base co : Nat} {bo : Option Addr} {wr w1 : World} {g c : Nat} (h : L2 w T G xs f ln N U cn na k base co bo wr) (hw : w.heap.size ≤ T) (hb : Below base wr w1) (ho : w1.ownsRow base 81 3 (.slice (some ⟨g, 0, none⟩) (k + 1) c) (k + 1) (ouCells U (k + 1))) :
    L2 w T G xs f ln N U cn na (k + 1) base c (some ⟨g, 0, none⟩) (w1.setCell ⟨T, 2, none⟩ (.slice (some ⟨g, 0, none⟩) (k + 1) c)) := by
  have hBB := h.hT
  have q : ∀ b o, b < base → w1.cell? ⟨b, o, none⟩ = wr.cell? ⟨b, o, none⟩ := fun b o hlt => hb.cell (p := ⟨b, o, none⟩) hlt
  have qf : ∀ b o, b < base → w1.frozen? ⟨b, o, none⟩ = wr.frozen? ⟨b, o, none⟩ := fun b o hlt => hb.frozen (p := ⟨b, o, none⟩) hlt
  refine ⟨?_, ?_, ?_, ?_, ?_, ?_, ?_, ?_, h.hT, h.hG, h.hGT, ?_, ?_, ?_⟩
  · rw [World.cell?_setCell_other _ _ _ _ (noo (by decide)), q _ _ hBB]; exact h.x0
  · rw [World.cell?_setCell_other _ _ _ _ (noo (by decide)), q _ _ hBB]; exact h.x1
  · exact World.cell?_setCell_same' _ _ _ (by rw [q _ _ hBB, h.x2]; rfl)
  · rw [World.frozen?_setCell, qf _ _ hBB]; exact h.f0
  · rw [World.frozen?_setCell, qf _ _ hBB]; exact h.f1
  · rw [World.frozen?_setCell, qf _ _ hBB]; exact h.f2
  · rcases h.nd with e | ⟨A, e1, e2, e3, e4⟩
    · exact .inl e
    · refine .inr ⟨A, e1, e2, e3, fun i hi => ?_⟩
      rw [World.cell?_setCell_other _ _ _ _ (nbb (Nat.ne_of_lt e2)), World.cell?_setCell_other _ _ _ _ (nbb (Nat.ne_of_lt e2)), q _ _ e3, q _ _ e3]
      exact e4 i hi
  · exact ownsRow_setCell_below ho hBB _
  · intro j hj; rw [World.cell?_setCell_other _ _ _ _ (nbb (Ne.symm h.hGT)), q _ _ h.hG]; exact h.str j hj
  · have := hb.size; have := h.hb; simp; omega
  · exact (h.bel.trans (hb.mono (Nat.le_trans hw (Nat.le_of_lt hBB)))).setCell hw _

/-- all nodes are read: the outlets begin -/
theorem L1.turn {w : World} {T G : Nat} {xs : List (List UInt8)} {f : Int} {N : Nat → N2} {ln base cn : Nat} {bn : Option Addr} {wr : World} (U : Nat → O3) (h : L1 w T G xs f N ln base cn bn wr) : L2 w T G xs f ln N U cn bn 0 wr.heap.size 0 none wr := by
  refine ⟨h.x0, h.x1, h.x2, h.f0, h.f1, h.f2, ?_, World.ownsRow_nil _ _ _ _, Nat.lt_of_lt_of_le h.hT h.hb, Nat.lt_of_lt_of_le h.hG h.hb, h.hGT, h.str, Nat.le_refl _, h.bel⟩
  rcases h.own.2 with ⟨_, e⟩ | ⟨g, cap, cur, e, hbg, hg, _⟩
  · exact .inl e
  · have e' := e
    cases e'
    exact .inr ⟨g, rfl, Nat.lt_of_lt_of_le h.hT hbg, (Array.getElem?_eq_some_iff.1 hg).1, NdAt.of_owns h.own⟩
end Go.Kn

namespace Go.Kn
open Go Go.Proofs Go.RowKit

theorem slice_from2 (B n : Nat) (hn : 1 ≤ n) (w' : World) : (Instr.slice 90 (.slice (some ⟨B, 0, none⟩) (n + 1) (n + 2)) (some (.int .i64 1)) none none).run Tryz.prog w' = .ok (.slice (some ⟨B, 1, none⟩) n (n + 1)) w' := by
  have hs : ∀ w : World, (sizeOf 9).run Tryz.prog w = .ok 1 w := fun w => by kernel_rfl
  have h1 : (1 : Int) ≤ (n : Int) + 1 := by omega
  have h2 : ¬ n + 1 = 0 := by omega
  simp [Instr.slice, run_underlying Tryz.underlying90, Instr.sliceBounds, Instr.sliceBound, asIntOf, hs, h1, h2, Result.andThen, Addr.add]

theorem part_n {f : Int} {ln lo : Nat} {N : Nat → N2} {U : Nat → O3} (H : TreeP f ln lo N U) {k : Nat} (hk : k < ln) (w : World) (hm : ML w) :
    Calls Tryz.prog 105 #[.string (bs (ndR (N k)))] w fun e w' => e = .returned (.iface 123 (.agg #[.int .i64 (N k).p, .int .i64 (N k).c])) ∧ Below w.heap.size w w' := by
  obtain ⟨⟨b1, b2⟩, b3, b4⟩ := tree_n H hk
  have hl := H.l6
  have hs := rows_shortD H (ndR (N k)) (List.mem_of_getElem? (rowsD_n hk))
  have e : ndR (N k) = rowL nodeW ([(N k).p.toNat, (N k).c.toNat].map fun n : Nat => (n : Int)) := by
    simp only [ndR, ndL, List.map_cons, List.map_nil, Int.toNat_of_nonneg b1, Int.toNat_of_nonneg b3]
  rw [e] at hs ⊢
  have h := partOf_nd (N k).p.toNat (N k).c.toNat (Lib.hid fun x hx => by simp at hx; omega) w (by omega) (Lib.hid hm)
  rw [Int.toNat_of_nonneg b1, Int.toNat_of_nonneg b3] at h
  exact h

theorem part_o {f : Int} {ln lo : Nat} {N : Nat → N2} {U : Nat → O3} (H : TreeP f ln lo N U) {k : Nat} (hk : k < lo) (w : World) (hm : ML w) :
    Calls Tryz.prog 105 #[.string (bs (ouR (U k)))] w fun e w' => e = .returned (.iface 124 (.agg #[.int .i64 (U k).n, .int .i64 (U k).c, .int .i64 (U k).k])) ∧ Below w.heap.size w w' := by
  obtain ⟨⟨b1, b2⟩, ⟨b3, b4⟩, b5, b6⟩ := tree_o H hk
  have hl := H.l6
  have hs := rows_shortD H (ouR (U k)) (List.mem_of_getElem? (rowsD_o hk))
  have b3' : 0 ≤ (U k).c := by omega
  have e : ouR (U k) = rowL outletW ([(U k).n.toNat, (U k).c.toNat, (U k).k.toNat].map fun n : Nat => (n : Int)) := by
    simp only [ouR, ouL, List.map_cons, List.map_nil, Int.toNat_of_nonneg b1, Int.toNat_of_nonneg b3', Int.toNat_of_nonneg b5]
  rw [e] at hs ⊢
  have h := partOf_ou (U k).n.toNat (U k).c.toNat (U k).k.toNat (Lib.hid fun x hx => by simp at hx; omega) w (by omega) (Lib.hid hm)
  rw [Int.toNat_of_nonneg b1, Int.toNat_of_nonneg b3', Int.toNat_of_nonneg b5] at h
  exact h

theorem head_n {f : Int} {ln lo : Nat} {N : Nat → N2} {U : Nat → O3} (H : TreeP f ln lo N U) (w : World) (hm : ML w) :
    Calls Tryz.prog 104 #[.string (bs (headR f)), .int .i64 0, .int .i64 1] w fun e w' => (∃ G cap, e = .returned (.tuple #[.slice (some ⟨G, 0, none⟩) 1 cap, .bool true]) ∧ w'.cell? ⟨G, 0, none⟩ = some (.int .i64 f)) ∧ Below w.heap.size w w' := by
  obtain ⟨b1, b2⟩ := tree_f H
  have hs := rows_shortD H (headR f) (by simp [rowsD])
  have e : headR f = rowL droughtW ([f.toNat].map fun n : Nat => (n : Int)) := by
    simp only [headR, List.map_cons, List.map_nil, Int.toNat_of_nonneg b1]
  rw [e] at hs ⊢
  have h := numbersOf_yes 0 droughtW [f.toNat] 1 (Lib.hid word0_w) drought_no32 rfl (by decide) (by decide) (Lib.hid fun x hx => by simp at hx; omega) w (by omega) (Lib.hid hm)
  refine h.mono ?_
  rintro e w' ⟨⟨G, cap, rfl, g4⟩, hb⟩
  refine ⟨⟨G, cap, rfl, ?_⟩, hb⟩
  have := g4 0 _ rfl
  rwa [intV, Int.toNat_of_nonneg b1] at this

/-- a tree that was read: it lies behind the mark -/
structure Rd (m : Nat) (na : Option Addr) (C ln lo : Nat) (N : Nat → N2) (U : Nat → O3) (w : World) : Prop where
  nd : ln = 0 ∨ ∃ A, na = some ⟨A, 0, none⟩ ∧ m < A ∧ A < w.heap.size ∧ NdAt w A 0 ln N
  hC : m < C
  hC2 : C < w.heap.size
  ou : OuAt w C 0 lo U

theorem Rd.below {m : Nat} {na : Option Addr} {C ln lo : Nat} {N : Nat → N2} {U : Nat → O3} {w w' : World} (h : Rd m na C ln lo N U w) (hb : Below w.heap.size w w') : Rd m na C ln lo N U w' := by
  refine ⟨?_, h.hC, Nat.lt_of_lt_of_le h.hC2 hb.size, h.ou.below h.hC2 hb⟩
  rcases h.nd with e | ⟨A, e1, e2, e3, e4⟩
  · exact .inl e
  · exact .inr ⟨A, e1, e2, Nat.lt_of_lt_of_le e3 hb.size, e4.below e3 hb⟩
theorem Rd.mono {m m' : Nat} {na : Option Addr} {C ln lo : Nat} {N : Nat → N2} {U : Nat → O3} {w : World} (h : Rd m na C ln lo N U w) (hm : m' ≤ m) : Rd m' na C ln lo N U w := by
  refine ⟨?_, Nat.lt_of_le_of_lt hm h.hC, h.hC2, h.ou⟩
  rcases h.nd with e | ⟨A, e1, e2, e3, e4⟩
  · exact .inl e
  · exact .inr ⟨A, e1, Nat.lt_of_le_of_lt hm e2, e3, e4⟩
theorem Rd.set {m : Nat} {na : Option Addr} {C ln lo : Nat} {N : Nat → N2} {U : Nat → O3} {w : World} {b o : Nat} (h : Rd m na C ln lo N U w) (hb : b ≤ m) (v : Value) : Rd m na C ln lo N U (w.setCell ⟨b, o, none⟩ v) := by
  have ne : ∀ b' o', m < b' → (w.setCell ⟨b, o, none⟩ v).cell? ⟨b', o', none⟩ = w.cell? ⟨b', o', none⟩ := fun b' o' h' => World.cell?_setCell_other _ _ _ _ (nbb (by omega))
  refine ⟨?_, h.hC, by simpa using h.hC2, fun i hi => ?_⟩
  · rcases h.nd with e | ⟨A, e1, e2, e3, e4⟩
    · exact .inl e
    · refine .inr ⟨A, e1, e2, by simpa using e3, fun i hi => ?_⟩
      rw [ne _ _ e2, ne _ _ e2]; exact e4 i hi
  · rw [ne _ _ h.hC, ne _ _ h.hC, ne _ _ h.hC]; exact h.ou i hi
theorem Rd.tr {m : Nat} {na : Option Addr} {C ln lo : Nat} {N : Nat → N2} {U : Nat → O3} {w : World} (h : Rd m na C ln lo N U w) : Tr7 w na (some ⟨C, 0, none⟩) ln lo N U := by
  refine ⟨?_, .inr ⟨C, 0, rfl, h.hC2, h.ou⟩⟩
  rcases h.nd with e | ⟨A, e1, e2, e3, e4⟩
  · exact .inl e
  · exact .inr ⟨A, 0, e1, e3, e4⟩

theorem L2.rd {w : World} {T G : Nat} {xs : List (List UInt8)} {f : Int} {ln lo : Nat} {N : Nat → N2} {U : Nat → O3} {cn : Nat} {na : Option Addr} {base co : Nat} {bo : Option Addr} {wr : World} (h : L2 w T G xs f ln N U cn na lo base co bo wr) (hlo : 1 ≤ lo) :
    ∃ C, bo = some ⟨C, 0, none⟩ ∧ Rd T na C ln lo N U wr := by
  rcases h.own.2 with ⟨e, e2⟩ | ⟨g, cap, cur, e, hbg, hg, _⟩
  · omega
  · have e' := e
    cases e'
    refine ⟨g, rfl, ?_, Nat.lt_of_lt_of_le h.hT hbg, (Array.getElem?_eq_some_iff.1 hg).1, OuAt.of_owns h.own⟩
    rcases h.nd with e | ⟨A, e1, e2, e3, e4⟩
    · exact .inl e
    · exact .inr ⟨A, e1, e2, Nat.lt_of_lt_of_le e3 h.hb, e4⟩
end Go.Kn
