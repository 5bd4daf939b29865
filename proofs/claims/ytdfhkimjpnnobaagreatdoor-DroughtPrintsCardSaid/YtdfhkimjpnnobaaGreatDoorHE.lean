/- Contracts of functions that the laws of this seat call, or the evaluator of closed calls and its runs. Conditions: as each theorem states them. -/
import Derived.Test.YtdfhkimjpnnobaaGreatDoorHD
set_option linter.unusedVariables false
set_option linter.unusedSimpArgs false
namespace Go.Kn
open Go Go.Proofs Go.RowKit

theorem wrapk (k b : Nat) (h : k ≤ b) (hb : b ≤ 1000000) : wrap64 ((k : Int) + 1) = (k : Int) + 1 := by
  unfold wrap64
  omega
theorem wrapk' (k b : Nat) (h : k ≤ b) (hb : b ≤ 1000000) : Value.int .i64 (wrap64 ((k : Int) + 1)) = Value.int .i64 ((k + 1 : Nat) : Int) := by
  rw [wrapk k b h hb]; rfl

theorem meas_k (n k : Nat) (h : k + 1 ≤ n) (hn : n ≤ 100) : n - (intOf (.int .i64 (wrap64 ((k : Int) + 1)))).toNat < n - (intOf (.int .i64 (k : Int))).toNat := by
  rw [wrapk k 100 (by omega) (by decide)]
  show n - ((k : Int) + 1).toNat < n - (k : Int).toNat
  omega

set_option maxRecDepth 100000 in
set_option maxHeartbeats 4000000 in
theorem treeOf_t (f : Int) (ln lo : Nat) (N : Nat → N2) (U : Nat → O3) (w : World) (H : Hid (TreeP f ln lo N U)) (hp : Hid (Pow w)) (hm : Hid (ML w)) :
    Calls Tryz.prog 60 #[.string (bs (textL (rowsD f ln lo N U)))] w fun e w' =>
      (∃ na cn C co, e = .returned (.agg #[.int .i64 f, .slice na ln cn, .slice (some ⟨C, 0, none⟩) lo co]) ∧ Rd w.heap.size na C ln lo N U w') ∧ Below w.heap.size w w' := by
  have hok := rows_okD H.out
  have hTL := text_lenD H.out
  have hrl := rowsD_len f ln lo N U
  have q1 := H.out.l6
  have q2 := H.out.lo2
  have q3 := H.out.lo1
  obtain ⟨W0, hW0⟩ : ∃ W0, W0 = w.alloc (.cells #[.int .i64 0, .slice none 0 0, .slice none 0 0] 25) := ⟨_, rfl⟩
  have hb0 : Below w.heap.size w W0 := by rw [hW0]; exact (Below.refl _ _).alloc (Nat.le_refl _) _
  have hz0 : W0.heap.size = w.heap.size + 1 := by rw [hW0]; simp
  have HC0 : Hid (∀ w1, Below W0.heap.size W0 w1 → w1.cell? ⟨w.heap.size, 0, none⟩ = some (.int .i64 0) ∧ w1.cell? ⟨w.heap.size, 1, none⟩ = some (.slice none 0 0) ∧ w1.cell? ⟨w.heap.size, 2, none⟩ = some (.slice none 0 0) ∧ w1.frozen? ⟨w.heap.size, 0, none⟩ = false ∧ w1.frozen? ⟨w.heap.size, 1, none⟩ = false ∧ w1.frozen? ⟨w.heap.size, 2, none⟩ = false) := Lib.hid fun w1 h => by
    obtain ⟨c, d⟩ := bcell h
    exact ⟨(c _ _ (by omega)).trans (by rw [hW0]; simp), (c _ _ (by omega)).trans (by rw [hW0]; simp), (c _ _ (by omega)).trans (by rw [hW0]; simp), (d _ _ (by omega)).trans (by rw [hW0]; simp), (d _ _ (by omega)).trans (by rw [hW0]; simp), (d _ _ (by omega)).trans (by rw [hW0]; simp)⟩
  have GL : Hid (∀ w', Below w.heap.size w w' → Hid (Pow w') ∧ ML w') := Lib.hid fun w' h => ⟨Lib.hid (hp.out.on h), hm.out.on h⟩
  have hx0 : (rowsD f ln lo N U).getD 0 [] = headR f := rfl
  have hx1 : ∀ k, k < ln → (rowsD f ln lo N U).getD (1 + k) [] = ndR (N k) := fun k hk => by
    rw [Nat.add_comm, List.getD_eq_getElem?_getD, rowsD_n hk]; rfl
  have hx2 : ∀ k, k < lo → (rowsD f ln lo N U).getD (1 + (ln + k)) [] = ouR (U k) := fun k hk => by
    rw [show 1 + (ln + k) = ln + k + 1 by omega, List.getD_eq_getElem?_getD, rowsD_o hk]; rfl
  obtain ⟨xs, hxs⟩ : ∃ xs, rowsD f ln lo N U = xs := ⟨_, rfl⟩
  rw [hxs] at hok hTL hrl hx0 hx1 hx2 ⊢
  obtain ⟨n, hn⟩ : ∃ n, n = ln + lo := ⟨_, rfl⟩
  rw [← hn] at hrl
  have HLN : Hid (Calls Tryz.prog 103 #[.string (bs (textL xs)), .int .i64 163] W0 fun e w' => (∃ G, e = .returned (.tuple #[.slice (some ⟨G, 0, none⟩) (n + 1) (n + 2), .bool true]) ∧ G < w'.heap.size ∧ StrAt w' G 0 xs ∧ W0.heap.size ≤ G) ∧ Below W0.heap.size W0 w') := Lib.hid (by
    have h := lines_ok xs W0 (by omega) (by omega) (Lib.hid fun x hx => by have := (hok x hx).1; omega) (Lib.hid fun y hy => by
      rw [List.mem_append, List.mem_singleton] at hy
      rcases hy with hy | rfl
      · exact (hok y hy).2
      · exact endL_no10 _) (by
      have := hTL
      unfold textL at this
      simp at this
      omega) (GL.out _ hb0).1 (Lib.hid (GL.out _ hb0).2)
    rw [hrl] at h
    exact h)
  have HX1 := Lib.hid hx1
  have HX2 := Lib.hid hx2
  have HRL := Lib.hid hrl
  have HB0 := Lib.hid hb0
  have HZ0 := Lib.hid hz0
  have hsl := slice_from2 (n := n)
  have hn1 : 1 ≤ n := by omega
  have HNN := Lib.hid hn
  have HHD : Hid (∀ w1, Below w.heap.size w w1 → Calls Tryz.prog 104 #[.string (bs (headR f)), .int .i64 0, .int .i64 1] w1 fun e w' => (∃ G cap, e = .returned (.tuple #[.slice (some ⟨G, 0, none⟩) 1 cap, .bool true]) ∧ w'.cell? ⟨G, 0, none⟩ = some (.int .i64 f)) ∧ Below w1.heap.size w1 w') := Lib.hid fun w1 h => head_n H.out w1 (GL.out _ h).2
  obtain ⟨HR0, hHR⟩ : ∃ L, bs (headR f) = L := ⟨_, rfl⟩
  have HX0 : Hid (bs (xs.getD 0 []) = HR0) := Lib.hid (by rw [hx0, hHR])
  rw [hHR] at HHD
  obtain ⟨T, hT⟩ : ∃ T, bs (textL xs) = T := ⟨_, rfl⟩
  rw [hT] at HLN ⊢
  obtain ⟨i0, hi, h0, h1, h2⟩ := info_parts info78
  obtain ⟨j0, hj, k0, k1, k2⟩ := info_parts info81
  clear hT hx0 hx1 hx2 hok hTL hrl hxs hb0 hz0 hn hHR
  have hslG := fun G w' => hsl G hn1 w'
  clear hsl
  go_enter Tryz.func60, Tryz.ntmps60
  go_wp2_with (first
    | (go_at_call 103; rw [← hW0]; refine HLN.out.mono ?_; rintro e w1 ⟨⟨G, rfl, g1, g2, g3⟩, hb1⟩; have y0 : w1.cell? ⟨G, 0, none⟩ = some (.string HR0) := (by have h := g2 0 (by have := HRL.out; omega); rw [HX0.out] at h; exact h); have HB1 := Lib.hid hb1; have HG1 := Lib.hid g1; have HG2 := Lib.hid g2; have HG3 := Lib.hid g3; clear hb1 g1 g2 g3)
    | (go_at_call 90; refine (must_t _ _).mono ?_; rintro e w2 ⟨rfl, hw2⟩; obtain rfl := hw2.symm)
    | (go_at_call 104; refine (HHD.out _ (HB0.out.trans (HB1.out.mono HB0.out.size))).mono ?_; rintro e w3 ⟨⟨G0, c0, rfl, y1⟩, hb3⟩; obtain ⟨t0, t1, t2, u0, u1, u2⟩ := HC0.out _ (HB1.out.trans (hb3.mono HB1.out.size)); have HB3 := Lib.hid hb3; clear hb3))
  obtain ⟨W5, hW5⟩ : ∃ W5, W5 = w3.setCell ⟨w.heap.size, 0, none⟩ (.int .i64 f) := ⟨_, rfl⟩
  have hz5 : W5.heap.size = w3.heap.size := by rw [hW5]; simp
  have hl1 : L1 w w.heap.size G xs f N 0 W5.heap.size 0 none W5 := by
    have hz0 := HZ0.out
    have hz1 := HB1.out.size
    have hz3 := HB3.out.size
    have hg1 := HG1.out
    have hg3 := HG3.out
    have hgT : G ≠ w.heap.size := by omega
    have hs3 := HG2.out.below HG1.out HB3.out
    rw [hW5]
    refine ⟨?_, ?_, ?_, ?_, ?_, ?_, World.ownsRow_nil _ _ _ _, by simp; omega, by simp; omega, hgT, ?_, Nat.le_refl _, ?_⟩
    · exact World.cell?_setCell_same' _ _ _ (by rw [t0]; rfl)
    · rw [World.cell?_setCell_other _ _ _ _ (noo (by decide))]; exact t1
    · rw [World.cell?_setCell_other _ _ _ _ (noo (by decide))]; exact t2
    · rw [World.frozen?_setCell]; exact u0
    · rw [World.frozen?_setCell]; exact u1
    · rw [World.frozen?_setCell]; exact u2
    · intro j hj; rw [World.cell?_setCell_other _ _ _ _ (nbb (Ne.symm hgT))]; exact hs3 j hj
    · exact ((HB0.out.trans (HB1.out.mono (by omega))).trans (HB3.out.mono (by omega))).setCell (Nat.le_refl _) _
  have HL1 := Lib.hid hl1
  rw [← hW5]
  clear hW5 hl1 hz5 t0 t1 t2 u0 u1 u2 y0 y1 hslG
  go_loopw [38] (fun ii wr => ∃ k : Nat, k ≤ n ∧ ii = .int .i64 (k : Int) ∧ ((k < ln ∧ ∃ base cn bn, L1 w w.heap.size G xs f N k base cn bn wr) ∨ (∃ j na cn base co bo, k = ln + j ∧ L2 w w.heap.size G xs f ln N U cn na j base co bo wr))) (fun ii _ => n - (intOf ii).toNat)
  case atStart =>
    refine ⟨0, Nat.zero_le _, rfl, ?_⟩
    by_cases h : 0 < ln
    · exact .inl ⟨h, _, _, _, HL1.out⟩
    · obtain rfl : ln = 0 := by omega
      exact .inr ⟨0, none, 0, _, 0, none, rfl, HL1.out.turn U⟩
  case round =>
    obtain ⟨k, hk, rfl, hst⟩ := hrel
    have hnn := HNN.out
    have hrl := HRL.out
    rcases hst with ⟨hlt, base, cn, bn, hL⟩ | ⟨j, na, cn, base, co, bo, rfl, hL⟩
    · have y0 : wr.cell? ⟨G, 1 + k, none⟩ = some (.string (bs (ndR (N k)))) := by
        have h := hL.str (1 + k) (by omega)
        rw [HX1.out k hlt, Nat.zero_add] at h; exact h
      have HPT := Lib.hid (part_n H.out hlt wr (GL.out _ hL.bel).2)
      obtain ⟨L, hLL⟩ : ∃ L, bs (ndR (N k)) = L := ⟨_, rfl⟩
      rw [hLL] at y0 HPT
      have n1 : (0 : Int) ≤ (k : Int) := by omega
      have n2 : (k : Int) < (n : Int) := by omega
      have HL := Lib.hid hL
      have hmm1 := ta_nn
      have hTb := hL.hT
      have hbz := hL.hb
      have hTw : w.heap.size < wr.heap.size := by omega
      clear hL hLL hnn hrl
      go_wp2_with (first
        | (go_at_call 105; refine HPT.out.mono ?_; rintro e w5 ⟨rfl, hb5⟩; have HL5 := Lib.hid (HL.out.below hb5); have hz5 := hb5.size; have x1 := HL5.out.x1; have x2 := HL5.out.x2; have hT5 : w.heap.size < w5.heap.size := (by omega); have hT5n : w5.heap.size ≠ w.heap.size := (by omega); have hT5m : w.heap.size ≠ w5.heap.size := (by omega); clear hb5)
        | (go_at_call 90; refine (must_t _ _).mono ?_; rintro e w6 ⟨rfl, hw6⟩; obtain rfl := hw6.symm)
        | (at_builtin; refine wpList_append_lies _ rfl (.tmp 55) (.tmp 57) 22 rfl base 78 i0 _ 2 16 Tryz.underlying22 hi h0 h1 h2 rfl (by decide) _ k _ rfl (owns_below HL5.out.own (by repeat (first | exact Below.refl _ _ | refine Below.alloc ?_ (by first | omega | (simp; done) | (simp; omega)) _ | refine Below.setCell ?_ (by first | omega | (simp; done) | (simp; omega)) _ | refine Below.drew ?_))) ⟨_, 0, none⟩ 1 1 [.int .i64 (N k).p, .int .i64 (N k).c] rfl rfl (lies2 ⟨by simp, by simp⟩) (by intro u hu; simp at hu; rcases hu with rfl | rfl <;> rfl) (by decide) (by unfold maxLen; omega) (by omega) (by first | omega | (simp; done) | (simp; omega)) _ rfl ?_; intro g6 cap6 w6 hown6 hgrow6 hat6 hlt6; have hb6 : Below base w5 w6 := Below.grown (by repeat (first | exact Below.refl _ _ | refine Below.alloc ?_ (by first | omega | (simp; done) | (simp; omega)) _ | refine Below.setCell ?_ (by first | omega | (simp; done) | (simp; omega)) _ | refine Below.drew ?_)) hgrow6 (by first | omega | (simp; done) | (simp; omega)) (fun r e => own_ge HL5.out.own r e); have v1 := (hb6.cell (p := ⟨w.heap.size, 1, none⟩) hTb).trans HL5.out.x1; have v2 := (hb6.frozen (p := ⟨w.heap.size, 1, none⟩) hTb).trans HL5.out.f1; have HO6 := Lib.hid hown6; have HB6 := Lib.hid hb6; clear hown6 hgrow6 hat6 hlt6 hb6))
      have HLN2 := Lib.hid (HL5.out.next (Nat.le_refl _) HB6.out HO6.out)
      go_roundw
      case rel =>
        refine ⟨k + 1, by omega, by go_num, ?_⟩
        by_cases hlt2 : k + 1 < ln
        · exact .inl ⟨hlt2, _, _, _, HLN2.out⟩
        · obtain rfl : ln = k + 1 := by omega
          exact .inr ⟨0, _, _, _, _, _, rfl, HLN2.out.turn U⟩
      case measure => simp [intOf]; omega
    · by_cases hlt : j < lo
      · have y0 : wr.cell? ⟨G, 1 + (ln + j), none⟩ = some (.string (bs (ouR (U j)))) := by
          have h := hL.str (1 + (ln + j)) (by omega)
          rw [HX2.out j hlt, Nat.zero_add] at h; exact h
        have HPT := Lib.hid (part_o H.out hlt wr (GL.out _ hL.bel).2)
        obtain ⟨L, hLL⟩ : ∃ L, bs (ouR (U j)) = L := ⟨_, rfl⟩
        rw [hLL] at y0 HPT
        obtain ⟨k, hkk⟩ : ∃ k, k = ln + j := ⟨_, rfl⟩
        rw [← hkk] at y0 hk ⊢
        have n1 : (0 : Int) ≤ (k : Int) := by omega
        have n2 : (k : Int) < (n : Int) := by omega
        have HL := Lib.hid hL
        have hmm1 := ta_on
        have hmm2 := ta_oo
        have hTb := hL.hT
        have hbz := hL.hb
        have hTw : w.heap.size < wr.heap.size := by omega
        have HKK := Lib.hid (show k = ln + j ∧ k + 1 ≤ n ∧ n ≤ 100 from ⟨hkk, by omega, by omega⟩)
        clear hL hLL hnn hrl hkk
        go_wp2_with (first
          | (go_at_call 105; refine HPT.out.mono ?_; rintro e w5 ⟨rfl, hb5⟩; have HL5 := Lib.hid (HL.out.below hb5); have hz5 := hb5.size; have x1 := HL5.out.x1; have x2 := HL5.out.x2; have hT5 : w.heap.size < w5.heap.size := (by omega); have hT5n : w5.heap.size ≠ w.heap.size := (by omega); have hT5m : w.heap.size ≠ w5.heap.size := (by omega); clear hb5)
          | (at_builtin; refine wpList_append_lies _ rfl (.tmp 64) (.tmp 66) 23 rfl base 81 j0 _ 3 24 Tryz.underlying23 hj k0 k1 k2 rfl (by decide) _ j _ rfl (owns_below HL5.out.own (by repeat (first | exact Below.refl _ _ | refine Below.alloc ?_ (by first | omega | (simp; done) | (simp; omega)) _ | refine Below.setCell ?_ (by first | omega | (simp; done) | (simp; omega)) _ | refine Below.drew ?_))) ⟨_, 0, none⟩ 1 1 [.int .i64 (U j).n, .int .i64 (U j).c, .int .i64 (U j).k] rfl rfl (lies3 ⟨by simp, by simp, by simp⟩) (by intro u hu; simp at hu; rcases hu with rfl | rfl | rfl <;> rfl) (by decide) (by unfold maxLen; omega) (by omega) (by first | omega | (simp; done) | (simp; omega)) _ rfl ?_; intro g6 cap6 w6 hown6 hgrow6 hat6 hlt6; have hb6 : Below base w5 w6 := Below.grown (by repeat (first | exact Below.refl _ _ | refine Below.alloc ?_ (by first | omega | (simp; done) | (simp; omega)) _ | refine Below.setCell ?_ (by first | omega | (simp; done) | (simp; omega)) _ | refine Below.drew ?_)) hgrow6 (by first | omega | (simp; done) | (simp; omega)) (fun r e => own_ge HL5.out.own r e); have v1 := (hb6.cell (p := ⟨w.heap.size, 2, none⟩) hTb).trans HL5.out.x2; have v2 := (hb6.frozen (p := ⟨w.heap.size, 2, none⟩) hTb).trans HL5.out.f2; have HO6 := Lib.hid hown6; have HB6 := Lib.hid hb6; clear hown6 hgrow6 hat6 hlt6 hb6))
        have HLN2 := Lib.hid (HL5.out.next (Nat.le_refl _) HB6.out HO6.out)
        go_roundw
        case rel =>
          obtain ⟨hkk, hkn, hk100⟩ := HKK.out
          exact ⟨k + 1, hkn, wrapk' k 100 (by omega) (by decide), .inr ⟨j + 1, _, _, _, _, _, by omega, HLN2.out⟩⟩
        case measure =>
          obtain ⟨hkk, hkn, hk100⟩ := HKK.out
          exact meas_k n k hkn hk100
      · obtain rfl : n = ln + j := by omega
        obtain rfl : j = lo := by omega
        obtain ⟨C, hC, hrd⟩ := hL.rd q3
        subst hC
        have x0 := hL.x0
        have x1 := hL.x1
        have x2 := hL.x2
        have f0 := hL.f0
        have f1 := hL.f1
        have f2 := hL.f2
        have HBL := Lib.hid hL.bel
        have HRD := Lib.hid hrd
        clear hL hrd hnn hrl
        go_wp2
        have e1 : (((wr.setCell ⟨w.heap.size, 0, none⟩ (.int .i64 f)).setCell ⟨w.heap.size, 1, none⟩ (.slice na ln cn)).setCell ⟨w.heap.size, 2, none⟩ (.slice (some ⟨C, 0, none⟩) j co)).cell? ⟨w.heap.size, 0, none⟩ = some (.int .i64 f) := by
          rw [World.cell?_setCell_other _ _ _ _ (noo (by decide)), World.cell?_setCell_other _ _ _ _ (noo (by decide))]; exact World.cell?_setCell_same' _ _ _ (by rw [x0]; rfl)
        have e2 : (((wr.setCell ⟨w.heap.size, 0, none⟩ (.int .i64 f)).setCell ⟨w.heap.size, 1, none⟩ (.slice na ln cn)).setCell ⟨w.heap.size, 2, none⟩ (.slice (some ⟨C, 0, none⟩) j co)).cell? ⟨w.heap.size, 1, none⟩ = some (.slice na ln cn) := by
          rw [World.cell?_setCell_other _ _ _ _ (noo (by decide))]; exact World.cell?_setCell_same' _ _ _ (by rw [World.cell?_setCell_other _ _ _ _ (noo (by decide)), x1]; rfl)
        have e3 : (((wr.setCell ⟨w.heap.size, 0, none⟩ (.int .i64 f)).setCell ⟨w.heap.size, 1, none⟩ (.slice na ln cn)).setCell ⟨w.heap.size, 2, none⟩ (.slice (some ⟨C, 0, none⟩) j co)).cell? ⟨w.heap.size, 2, none⟩ = some (.slice (some ⟨C, 0, none⟩) j co) :=
          World.cell?_setCell_same' _ _ _ (by rw [World.cell?_setCell_other _ _ _ _ (noo (by decide)), World.cell?_setCell_other _ _ _ _ (noo (by decide)), x2]; rfl)
        refine bodyPost_ret (v := .agg #[.int .i64 f, .slice na ln cn, .slice (some ⟨C, 0, none⟩) j co]) (by simp [results, Tryz.results60, go_sem, e1, e2, e3]) rfl ⟨⟨na, cn, C, ⟨co, rfl⟩, ?_⟩, ?_⟩
        · exact ((HRD.out.set (Nat.le_refl _) _).set (Nat.le_refl _) _).set (Nat.le_refl _) _
        · exact ((HBL.out.setCell (Nat.le_refl _) _).setCell (Nat.le_refl _) _).setCell (Nat.le_refl _) _
end Go.Kn

namespace Go.Kn
open Go Go.Proofs Go.RowKit

def txD (f : Int) (ln lo : Nat) (N : Nat → N2) (U : Nat → O3) : ByteArray := bs (textL (rowsD f ln lo N U))

/-- a box that holds the empty tree -/
structure Box0 (w : World) (b : Nat) : Prop where
  c0 : w.cell? ⟨b, 0, none⟩ = some (.int .i64 0)
  c1 : w.cell? ⟨b, 1, none⟩ = some (.slice none 0 0)
  c2 : w.cell? ⟨b, 2, none⟩ = some (.slice none 0 0)
  f0 : w.frozen? ⟨b, 0, none⟩ = false
  f1 : w.frozen? ⟨b, 1, none⟩ = false
  f2 : w.frozen? ⟨b, 2, none⟩ = false
theorem Box0.below {w w1 : World} {b : Nat} (h : Box0 w b) (hb : b < w.heap.size) (hB : Below w.heap.size w w1) : Box0 w1 b := by
  obtain ⟨c, d⟩ := bcell hB
  exact ⟨(c _ _ hb).trans h.c0, (c _ _ hb).trans h.c1, (c _ _ hb).trans h.c2, (d _ _ hb).trans h.f0, (d _ _ hb).trans h.f1, (d _ _ hb).trans h.f2⟩

def putT (w : World) (b : Nat) (f : Int) (na : Option Addr) (ln cn C lo co : Nat) : World := ((w.setCell ⟨b, 0, none⟩ (.int .i64 f)).setCell ⟨b, 1, none⟩ (.slice na ln cn)).setCell ⟨b, 2, none⟩ (.slice (some ⟨C, 0, none⟩) lo co)

set_option maxRecDepth 100000 in
set_option maxHeartbeats 1000000 in
theorem read1_t (a b : Nat) (f : Int) (ln lo : Nat) (N : Nat → N2) (U : Nat → O3) (w : World) (H : Hid (TreeP f ln lo N U)) (hp : Hid (Pow w)) (hm : Hid (ML w)) (hb : b < w.heap.size) (hc : w.cell? ⟨a, 0, none⟩ = some (.string (txD f ln lo N U))) (h0 : Box0 w b) :
    Calls Tryz.prog 59 #[.pointer (some ⟨a, 0, none⟩), .pointer (some ⟨b, 0, none⟩)] w fun e w' => e = .returned (.tuple #[]) ∧
      ∃ na cn C co w1, w' = putT w1 b f na ln cn C lo co ∧ Below w.heap.size w w1 ∧ Rd w.heap.size na C ln lo N U w1 := by
  have HL := Lib.hid (treeOf_t f ln lo N U w H hp hm)
  rw [show bs (textL (rowsD f ln lo N U)) = txD f ln lo N U from rfl] at HL
  obtain ⟨T, hT⟩ : ∃ T, txD f ln lo N U = T := ⟨_, rfl⟩
  rw [hT] at HL hc
  clear hT
  go_enter Tryz.func59, Tryz.ntmps59
  go_wp2_with (go_at_call 60; refine HL.out.mono ?_; rintro e w1 ⟨⟨na, cn, C, co, rfl, hl⟩, hb1⟩; have hB := h0.below hb hb1; have z0 := hB.c0; have z1 := hB.c1; have z2 := hB.c2; have z3 := hB.f0; have z4 := hB.f1; have z5 := hB.f2; have HLL := Lib.hid hl; clear hl hB)
  go_end0
  exact ⟨rfl, na, cn, C, co, w1, rfl, hb1, HLL.out⟩

set_option maxRecDepth 100000 in
set_option maxHeartbeats 1000000 in
theorem attempt_tt (a b : Nat) (f : Int) (ln lo : Nat) (N : Nat → N2) (U : Nat → O3) (w : World) (H : Hid (TreeP f ln lo N U)) (hp : Hid (Pow w)) (hm : Hid (ML w)) (hb : b < w.heap.size) (hc : w.cell? ⟨a, 0, none⟩ = some (.string (txD f ln lo N U))) (h0 : Box0 w b) :
    Calls Tryz.prog 42 #[.func (.func 59) #[] #[.pointer (some ⟨a, 0, none⟩), .pointer (some ⟨b, 0, none⟩)]] w fun e w' => e = .returned (.int .i64 0) ∧
      ∃ na cn C co w1, w' = (putT w1 b f na ln cn C lo co).setCell ⟨w.heap.size, 0, none⟩ (.int .i64 0) ∧ Below w.heap.size w w1 ∧ Rd w.heap.size na C ln lo N U w1 := by
  have hmf : ∀ (fn : Fn) (first cap : Array Value) (w : World), (Instr.makeFunc fn first cap).run Tryz.prog w = .ok (.func fn first cap) w := fun _ _ _ _ => rfl
  have hA : Below w.heap.size w (w.alloc (.cells #[.int .i64 0] 29)) := (Below.refl _ _).alloc (Nat.le_refl _) _
  have ha : a < w.heap.size := World.block_lt_of_cell? _ _ hc
  obtain ⟨q, qf⟩ := bcell hA
  have hz1 : (w.alloc (.cells #[.int .i64 0] 29)).heap.size = w.heap.size + 1 := by simp
  have HR := Lib.hid (read1_t a b f ln lo N U (w.alloc (.cells #[.int .i64 0] 29)) H (Lib.hid (hp.out.on hA)) (Lib.hid (hm.out.on hA)) (by rw [hz1]; omega) ((q _ _ ha).trans hc) (h0.below hb hA))
  have c0 : (w.alloc (.cells #[.int .i64 0] 29)).cell? ⟨w.heap.size, 0, none⟩ = some (.int .i64 0) := by simp
  have f0 : (w.alloc (.cells #[.int .i64 0] 29)).frozen? ⟨w.heap.size, 0, none⟩ = false := by simp
  have l0 : w.heap.size < (w.alloc (.cells #[.int .i64 0] 29)).heap.size := by simp
  have hdiff : b ≠ w.heap.size := by omega
  have HC : Hid (∀ w1 na cn C co, Below (w.alloc (.cells #[.int .i64 0] 29)).heap.size (w.alloc (.cells #[.int .i64 0] 29)) w1 → (putT w1 b f na ln cn C lo co).cell? ⟨w.heap.size, 0, none⟩ = some (.int .i64 0) ∧ (putT w1 b f na ln cn C lo co).frozen? ⟨w.heap.size, 0, none⟩ = false) := Lib.hid fun w1 na cn C co hb' => by
    obtain ⟨c, d⟩ := bcell hb'
    unfold putT
    rw [World.cell?_setCell_other _ _ _ _ (nbb hdiff), World.cell?_setCell_other _ _ _ _ (nbb hdiff), World.cell?_setCell_other _ _ _ _ (nbb hdiff), World.frozen?_setCell, World.frozen?_setCell, World.frozen?_setCell]
    exact ⟨(c _ _ l0).trans c0, (d _ _ l0).trans f0⟩
  have HA := Lib.hid hA
  have HZ := Lib.hid hz1
  clear hc hA c0 f0 l0 h0 q qf hz1
  go_enter_defers Tryz.func42, Tryz.ntmps42
  go_wp2_with (go_at_call 59; refine HR.out.mono ?_; rintro e w2 ⟨rfl, na, cn, C, co, w1, hw2, hb1, hl⟩; obtain ⟨y1, y2⟩ := HC.out w1 na cn C co hb1; rw [← hw2] at y1 y2; have HW2 := Lib.hid hw2; have HLL := Lib.hid hl; clear hw2 hl)
  refine leaves_cons (f := 89) (args := #[.pointer (some ⟨w.heap.size, 0, none⟩)]) (by simp) (by simp [go_sem]) ?_
  refine (catch_none ⟨w.heap.size, 0, none⟩ _).mono ?_
  rintro e u' w'' ⟨rfl, rfl, rfl⟩
  simp [Leaves, settle, results, Tryz.results42, go_sem, y1]
  have hz := HZ.out
  exact ⟨na, cn, C, co, w1, by rw [HW2.out], HA.out.trans (hb1.mono HA.out.size), HLL.out.mono (by omega)⟩

/-- a box that holds a tree that was read -/
structure BoxT (w : World) (b : Nat) (f : Int) (na : Option Addr) (ln cn C lo co : Nat) : Prop where
  c0 : w.cell? ⟨b, 0, none⟩ = some (.int .i64 f)
  c1 : w.cell? ⟨b, 1, none⟩ = some (.slice na ln cn)
  c2 : w.cell? ⟨b, 2, none⟩ = some (.slice (some ⟨C, 0, none⟩) lo co)
  f0 : w.frozen? ⟨b, 0, none⟩ = false
  f1 : w.frozen? ⟨b, 1, none⟩ = false
  f2 : w.frozen? ⟨b, 2, none⟩ = false
theorem BoxT.below {w w1 : World} {b : Nat} {f : Int} {na : Option Addr} {ln cn C lo co : Nat} (h : BoxT w b f na ln cn C lo co) (hb : b < w.heap.size) (hB : Below w.heap.size w w1) : BoxT w1 b f na ln cn C lo co := by
  obtain ⟨c, d⟩ := bcell hB
  exact ⟨(c _ _ hb).trans h.c0, (c _ _ hb).trans h.c1, (c _ _ hb).trans h.c2, (d _ _ hb).trans h.f0, (d _ _ hb).trans h.f1, (d _ _ hb).trans h.f2⟩
theorem BoxT.put {w : World} {b : Nat} {f : Int} {na : Option Addr} {ln cn C lo co : Nat} {f' : Int} {na' : Option Addr} {ln' cn' C' lo' co' : Nat} (h : BoxT w b f' na' ln' cn' C' lo' co') : BoxT (putT w b f na ln cn C lo co) b f na ln cn C lo co := by
  unfold putT
  refine ⟨?_, ?_, ?_, ?_, ?_, ?_⟩
  · rw [World.cell?_setCell_other _ _ _ _ (noo (by decide)), World.cell?_setCell_other _ _ _ _ (noo (by decide))]; exact World.cell?_setCell_same' _ _ _ (by rw [h.c0]; rfl)
  · rw [World.cell?_setCell_other _ _ _ _ (noo (by decide))]; exact World.cell?_setCell_same' _ _ _ (by rw [World.cell?_setCell_other _ _ _ _ (noo (by decide)), h.c1]; rfl)
  · exact World.cell?_setCell_same' _ _ _ (by rw [World.cell?_setCell_other _ _ _ _ (noo (by decide)), World.cell?_setCell_other _ _ _ _ (noo (by decide)), h.c2]; rfl)
  · rw [World.frozen?_setCell, World.frozen?_setCell, World.frozen?_setCell]; exact h.f0
  · rw [World.frozen?_setCell, World.frozen?_setCell, World.frozen?_setCell]; exact h.f1
  · rw [World.frozen?_setCell, World.frozen?_setCell, World.frozen?_setCell]; exact h.f2
theorem Box0.put {w : World} {b : Nat} {f : Int} {na : Option Addr} {ln cn C lo co : Nat} (h : Box0 w b) : BoxT (putT w b f na ln cn C lo co) b f na ln cn C lo co := by
  unfold putT
  refine ⟨?_, ?_, ?_, ?_, ?_, ?_⟩
  · rw [World.cell?_setCell_other _ _ _ _ (noo (by decide)), World.cell?_setCell_other _ _ _ _ (noo (by decide))]; exact World.cell?_setCell_same' _ _ _ (by rw [h.c0]; rfl)
  · rw [World.cell?_setCell_other _ _ _ _ (noo (by decide))]; exact World.cell?_setCell_same' _ _ _ (by rw [World.cell?_setCell_other _ _ _ _ (noo (by decide)), h.c1]; rfl)
  · exact World.cell?_setCell_same' _ _ _ (by rw [World.cell?_setCell_other _ _ _ _ (noo (by decide)), World.cell?_setCell_other _ _ _ _ (noo (by decide)), h.c2]; rfl)
  · rw [World.frozen?_setCell, World.frozen?_setCell, World.frozen?_setCell]; exact h.f0
  · rw [World.frozen?_setCell, World.frozen?_setCell, World.frozen?_setCell]; exact h.f1
  · rw [World.frozen?_setCell, World.frozen?_setCell, World.frozen?_setCell]; exact h.f2
theorem BoxT.other {w : World} {b b' o : Nat} {v : Value} {f : Int} {na : Option Addr} {ln cn C lo co : Nat} (h : BoxT w b f na ln cn C lo co) (hne : b' ≠ b) : BoxT (w.setCell ⟨b', o, none⟩ v) b f na ln cn C lo co := by
  refine ⟨?_, ?_, ?_, ?_, ?_, ?_⟩
  · rw [World.cell?_setCell_other _ _ _ _ (nbb hne)]; exact h.c0
  · rw [World.cell?_setCell_other _ _ _ _ (nbb hne)]; exact h.c1
  · rw [World.cell?_setCell_other _ _ _ _ (nbb hne)]; exact h.c2
  · rw [World.frozen?_setCell]; exact h.f0
  · rw [World.frozen?_setCell]; exact h.f1
  · rw [World.frozen?_setCell]; exact h.f2
theorem Rd.put {m : Nat} {na : Option Addr} {C ln lo : Nat} {N : Nat → N2} {U : Nat → O3} {w : World} {b : Nat} {f' : Int} {na' : Option Addr} {ln' cn' C' lo' co' : Nat} (h : Rd m na C ln lo N U w) (hb : b ≤ m) : Rd m na C ln lo N U (putT w b f' na' ln' cn' C' lo' co') :=
  ((h.set hb _).set hb _).set hb _

theorem attempt_t2 (a b : Nat) (f : Int) (ln lo : Nat) (N : Nat → N2) (U : Nat → O3) (w : World) (H : Hid (TreeP f ln lo N U)) (hp : Hid (Pow w)) (hm : Hid (ML w)) (hb : b < w.heap.size) (hc : w.cell? ⟨a, 0, none⟩ = some (.string (txD f ln lo N U))) (h0 : Box0 w b) :
    Calls Tryz.prog 42 #[.func (.func 59) #[] #[.pointer (some ⟨a, 0, none⟩), .pointer (some ⟨b, 0, none⟩)]] w fun e w' => e = .returned (.int .i64 0) ∧
      ∃ na cn C co, BoxT w' b f na ln cn C lo co ∧ Rd b na C ln lo N U w' ∧ Below b w w' :=
  (attempt_tt a b f ln lo N U w H hp hm hb hc h0).mono (by
    rintro e w2 ⟨rfl, na, cn, C, co, w1, rfl, hb1, hl⟩
    have hB := h0.below hb hb1
    refine ⟨rfl, na, cn, C, co, (hB.put).other (by omega), ((hl.put (Nat.le_of_lt hb)).set (Nat.le_refl _) _).mono (Nat.le_of_lt hb), ?_⟩
    unfold putT
    exact ((((hb1.mono (Nat.le_of_lt hb)).setCell (Nat.le_refl _) _).setCell (Nat.le_refl _) _).setCell (Nat.le_refl _) _).setCell (Nat.le_of_lt hb) _)

set_option maxRecDepth 100000 in
set_option maxHeartbeats 2000000 in
theorem read_t (f : Int) (ln lo : Nat) (N : Nat → N2) (U : Nat → O3) (w : World) (H : Hid (TreeP f ln lo N U)) (hp : Hid (Pow w)) (hm : Hid (ML w)) :
    Calls Tryz.prog 22 #[.string (txD f ln lo N U)] w fun e w' => (∃ na cn C co, e = .returned (.tuple #[.agg #[.int .i64 f, .slice na ln cn, .slice (some ⟨C, 0, none⟩) lo co], .int .i64 0]) ∧ Hid (Tr7 w' na (some ⟨C, 0, none⟩) ln lo N U)) ∧ Below w.heap.size w w' := by
  have hsz : (txD f ln lo N U).size ≤ 400 := by
    have := text_lenD H.out
    unfold txD
    rw [bs_size]; exact this
  have q1 := H.out.l6
  have q2 := H.out.lo2
  obtain ⟨W, hW⟩ : ∃ W, W = (w.alloc (.cells #[.string (txD f ln lo N U)] 9)).alloc (.cells #[.int .i64 0, .slice none 0 0, .slice none 0 0] 25) := ⟨_, rfl⟩
  have hbW : Below w.heap.size w W := by rw [hW]; exact ((Below.refl _ _).alloc (Nat.le_refl _) _).alloc (by simp) _
  have hzW : W.heap.size = w.heap.size + 1 + 1 := by rw [hW]; simp
  have c0 : W.cell? ⟨w.heap.size, 0, none⟩ = some (.string (txD f ln lo N U)) := by rw [hW]; simp
  have b0 : Box0 W (w.heap.size + 1) := by rw [hW]; exact ⟨by simp, by simp, by simp, by simp, by simp, by simp⟩
  have HAT := Lib.hid (attempt_t2 w.heap.size (w.heap.size + 1) f ln lo N U W H (Lib.hid (hp.out.on hbW)) (Lib.hid (hm.out.on hbW)) (by omega) c0 b0)
  have HBW := Lib.hid hbW
  have HZW := Lib.hid hzW
  have hmf : ∀ (fn : Fn) (first cap : Array Value) (w : World), (Instr.makeFunc fn first cap).run Tryz.prog w = .ok (.func fn first cap) w := fun _ _ _ _ => rfl
  have hs3 : ¬ ((400 : Int) < ((txD f ln lo N U).size : Int)) := by omega
  obtain ⟨T, hT⟩ : ∃ T, txD f ln lo N U = T := ⟨_, rfl⟩
  rw [hT] at hW hs3 ⊢
  clear hT c0 b0 hbW hzW hsz
  go_enter Tryz.func22, Tryz.ntmps22
  go_wp2_with (first
    | (go_at_call 42; rw [← hW]; refine HAT.out.mono ?_; rintro e w2 ⟨rfl, na, cn, C, co, hbt, hrd, hb2⟩; have hz2 : w.heap.size + 1 < w2.heap.size := (by have := hb2.size; have := HZW.out; omega); have x0 := hbt.c0; have x1 := hbt.c1; have x2 := hbt.c2; have HBT := Lib.hid hbt; have HRD := Lib.hid hrd; have HB2 := Lib.hid (HBW.out.trans (hb2.mono (Nat.le_succ _))); clear hbt hrd hb2)
    | (go_at_call 39; refine (isTree_w f na (some ⟨C, 0, none⟩) ln cn lo co N U _ (by omega) (by omega) (Lib.hid HRD.out.tr)).mono ?_; rintro e w3 ⟨⟨rb, rfl, hrb⟩, hb3⟩; obtain rfl : rb = true := hrb.2 H.out; clear hrb x0 x1 x2; have hbt3 := HBT.out.below hz2 hb3; have x0 := hbt3.c0; have x1 := hbt3.c1; have x2 := hbt3.c2; have x3 := hbt3.f0; have x4 := hbt3.f1; have x5 := hbt3.f2; have HBT3 := Lib.hid hbt3; clear hbt3))
  have hq : BoxT (putT w3 (w.heap.size + 1) f na ln cn C lo co) (w.heap.size + 1) f na ln cn C lo co := HBT3.out.put
  unfold putT at hq
  have e1 := hq.c0
  have e2 := hq.c1
  have e3 := hq.c2
  refine bodyPost_ret (v := .tuple #[.agg #[.int .i64 f, .slice na ln cn, .slice (some ⟨C, 0, none⟩) lo co], .int .i64 0]) (by simp [results, Tryz.results22, go_sem, e1, e2, e3]) rfl ⟨⟨na, cn, C, co, rfl, ?_⟩, ?_⟩
  · exact Lib.hid ((HRD.out.below hb3).put (Nat.le_refl _)).tr
  · exact (((HB2.out.trans (hb3.mono HB2.out.size)).setCell (by simp) _).setCell (by simp) _).setCell (by simp) _
end Go.Kn
