/- Walks of functions of layer 2 (contracts that the laws of this seat use). Conditions: as each theorem states them. -/
import Derived.Test.YtnlbofaiihlniaaGreatDoorGY
import Derived.Test.YtnlbofaiihlniaaGreatDoorGU
import Derived.Test.YtnlbofaiihlniaaGreatDoorGH
set_option linter.unusedVariables false
set_option linter.unusedSimpArgs false
namespace Go.Kn
open Go Go.Proofs Go.RowKit Go.Shelf

theorem meth3 (v : Value) (w : World) : (method 337 82 v "quinaria/channel.addTo").run Tryz.prog w = .ok (189, v) w := by kernel_rfl
theorem meth4 (v : Value) (w : World) : (method 337 84 v "quinaria/channel.addTo").run Tryz.prog w = .ok (192, v) w := by kernel_rfl

theorem nats_back : ∀ (l : List Int), (∀ x ∈ l, 0 ≤ x) → (l.map Int.toNat).map (fun n : Nat => (n : Int)) = l
  | [], _ => rfl
  | x :: l, h => by
    have h1 := nats_back l (fun y hy => h y (List.mem_cons_of_mem _ hy))
    rw [List.map_cons, List.map_cons, h1, Int.toNat_of_nonneg (h x List.mem_cons_self)]

section
variable {A O C P ls lt : Nat} {s : Nat → Int} {t : Nat → St5} {w0 : World}
theorem speeds_nat (H : LineAt w0 A O C P ls lt s t) : ∀ x ∈ upto s ls, 0 ≤ x ∧ x ≤ 1000 := fun x hx => by
  obtain ⟨i, hi, rfl⟩ := mem_upto hx
  have := H.sok i hi
  simp only [fromB, decide_eq_true_eq] at this
  omega
theorem stretch_nat (H : LineAt w0 A O C P ls lt s t) {i : Nat} (hi : i < lt) : ∀ x ∈ stL (t i), 0 ≤ x ∧ x ≤ 100 := fun z hz => by
  obtain ⟨b1, b2, b3, b4, b5⟩ := H.bds hi
  have hls := H.ls2
  simp only [stL, List.mem_cons, List.not_mem_nil, or_false] at hz
  rcases hz with rfl | rfl | rfl | rfl | rfl <;> omega
end

/-- what the line that is read is, behind its first k lines of the text -/
structure LO (w : World) (B G : Nat) (xs : List (List UInt8)) (ls : Nat) (s : Nat → Int) (t : Nat → St5) (k : Nat) (A1 c1 base c0 : Nat) (b0 : Option Addr) (wr : World) : Prop where
  x0 : wr.cell? ⟨B, 0, none⟩ = some (.slice (some ⟨A1, 0, none⟩) ls c1)
  x1 : wr.cell? ⟨B, 1, none⟩ = some (.slice b0 k c0)
  f0 : wr.frozen? ⟨B, 0, none⟩ = false
  f1 : wr.frozen? ⟨B, 1, none⟩ = false
  own : wr.ownsRow base 74 5 (.slice b0 k c0) k (stCells t k)
  hA : A1 < base
  num : NumAt wr A1 0 ls s
  hb : base ≤ wr.heap.size
  hB : B < base
  hG : G < base
  str : StrAt wr G 0 xs
  hAB : B < A1
  hGB : G ≠ B
  bel : Below w.heap.size w wr

theorem LO.below {w : World} {B G : Nat} {xs : List (List UInt8)} {ls : Nat} {s : Nat → Int} {t : Nat → St5} {k A1 c1 base c0 : Nat} {b0 : Option Addr} {wr w' : World} (h : LO w B G xs ls s t k A1 c1 base c0 b0 wr) (hb : Below wr.heap.size wr w') : LO w B G xs ls s t k A1 c1 base c0 b0 w' := by
  have hB := Nat.lt_of_lt_of_le h.hB h.hb
  have hA := Nat.lt_of_lt_of_le h.hA h.hb
  have hG := Nat.lt_of_lt_of_le h.hG h.hb
  obtain ⟨z1, z2⟩ := bcell hb
  exact ⟨(z1 _ _ hB).trans h.x0, (z1 _ _ hB).trans h.x1, (z2 _ _ hB).trans h.f0, (z2 _ _ hB).trans h.f1, owns_below h.own hb, h.hA, h.num.below hA hb, Nat.le_trans h.hb hb.size, h.hB, h.hG, h.str.below hG hb, h.hAB, h.hGB, h.bel.trans (hb.mono h.bel.size)⟩

/-- a stretch more -/
theorem LO.next {w : World} {B G : Nat} {xs : List (List UInt8)} {ls : Nat} {s : Nat → Int} {t : Nat → St5} {k A1 c1 base c0 : Nat} {b0 : Option Addr} {wr w1 : World} {g c : Nat} (h : LO w B G xs ls s t k A1 c1 base c0 b0 wr) (hw : w.heap.size ≤ B) (hb : Below base wr w1) (ho : w1.ownsRow base 74 5 (.slice (some ⟨g, 0, none⟩) (k + 1) c) (k + 1) (stCells t (k + 1))) :
    LO w B G xs ls s t (k + 1) A1 c1 base c (some ⟨g, 0, none⟩) (w1.setCell ⟨B, 1, none⟩ (.slice (some ⟨g, 0, none⟩) (k + 1) c)) := by
  have hBB := h.hB
  have q : ∀ b o, b < base → w1.cell? ⟨b, o, none⟩ = wr.cell? ⟨b, o, none⟩ := fun b o hlt => hb.cell (p := ⟨b, o, none⟩) hlt
  have qf : ∀ b o, b < base → w1.frozen? ⟨b, o, none⟩ = wr.frozen? ⟨b, o, none⟩ := fun b o hlt => hb.frozen (p := ⟨b, o, none⟩) hlt
  have ne : ∀ b o, b ≠ B → (w1.setCell ⟨B, 1, none⟩ (.slice (some ⟨g, 0, none⟩) (k + 1) c)).cell? ⟨b, o, none⟩ = w1.cell? ⟨b, o, none⟩ := fun b o hn => World.cell?_setCell_other _ _ _ _ (by intro e; cases e; exact hn rfl)
  have hg : base ≤ g := own_ge ho g rfl
  refine ⟨?_, ?_, ?_, ?_, ?_, h.hA, ?_, ?_, h.hB, h.hG, ?_, h.hAB, h.hGB, ?_⟩
  · rw [World.cell?_setCell_other _ _ _ _ (by intro e; cases e), q _ _ hBB]; exact h.x0
  · exact World.cell?_setCell_same' _ _ _ (by rw [q _ _ hBB, h.x1]; rfl)
  · rw [World.frozen?_setCell, qf _ _ hBB]; exact h.f0
  · rw [World.frozen?_setCell, qf _ _ hBB]; exact h.f1
  · exact ownsRow_setCell_below ho hBB _
  · intro i hi; rw [ne _ _ (Nat.ne_of_gt h.hAB), q _ _ h.hA]; exact h.num i hi
  · have := hb.size; have := h.hb; simp; omega
  · intro j hj; rw [ne _ _ h.hGB, q _ _ h.hG]; exact h.str j hj
  · exact (h.bel.trans (hb.mono (by omega))).setCell hw _

theorem nat_le {l : List Int} {b : Int} (h : ∀ x ∈ l, 0 ≤ x ∧ x ≤ b) (hb : b ≤ 9999) : ∀ x ∈ l.map Int.toNat, x ≤ 9999 := fun x hx => by
  rw [List.mem_map] at hx
  obtain ⟨y, hy, rfl⟩ := hx
  have := h y hy
  omega

set_option maxRecDepth 100000 in
set_option maxHeartbeats 4000000 in
theorem lineOf_t (A O C P ls lt : Nat) (s : Nat → Int) (t : Nat → St5) (w0 w : World) (H : Hid (LineAt w0 A O C P ls lt s t)) (hp : Hid (Pow w)) (hm : Hid (ML w)) :
    Calls Tryz.prog 44 #[.string (bs (textL (rowsL ls s t lt)))] w fun e w' =>
      (∃ A1 c1 C1 c2, e = .returned (.agg #[.slice (some ⟨A1, 0, none⟩) ls c1, .slice (some ⟨C1, 0, none⟩) lt c2]) ∧ LineAt w' A1 0 C1 0 ls lt s t ∧ w.heap.size < A1 ∧ w.heap.size < C1) ∧ Below w.heap.size w w' := by
  have hok := rows_ok H.out
  have hTL := text_len H.out
  have hrl := rows_len ls s t lt
  have q1 := H.out.lt1
  have q2 := H.out.lt2
  have q3 := H.out.ls1
  have q4 := H.out.ls2
  obtain ⟨W0, hW0⟩ : ∃ W0, W0 = w.alloc (.cells #[.slice none 0 0, .slice none 0 0] 25) := ⟨_, rfl⟩
  have hb0 : Below w.heap.size w W0 := by rw [hW0]; exact (Below.refl _ _).alloc (Nat.le_refl _) _
  have hz0 : W0.heap.size = w.heap.size + 1 := by rw [hW0]; simp
  have c00 : W0.cell? ⟨w.heap.size, 0, none⟩ = some (.slice none 0 0) := by rw [hW0]; simp
  have c01 : W0.cell? ⟨w.heap.size, 1, none⟩ = some (.slice none 0 0) := by rw [hW0]; simp
  have f00 : W0.frozen? ⟨w.heap.size, 0, none⟩ = false := by rw [hW0]; simp
  have f01 : W0.frozen? ⟨w.heap.size, 1, none⟩ = false := by rw [hW0]; simp
  have GL : Hid (∀ w', Below w.heap.size w w' → Hid (Pow w') ∧ Hid (ML w')) := Lib.hid fun w' h => ⟨Lib.hid (hp.out.on h), Lib.hid (hm.out.on h)⟩
  have hx0 : rowL speedsW (((upto s ls).map Int.toNat).map fun n : Nat => (n : Int)) = (rowsL ls s t lt).getD 0 [] := by
    rw [nats_back _ (fun x hx => (speeds_nat H.out x hx).1)]; rfl
  have hx1 : ∀ k, k < lt → rowL stretchW ([(t k).b.toNat, (t k).d.toNat, (t k).f.toNat, (t k).lo.toNat, (t k).hi.toNat].map fun n : Nat => (n : Int)) = (rowsL ls s t lt).getD (k + 1) [] := fun k hk => by
    have h := nats_back (stL (t k)) (fun x hx => (stretch_nat H.out hk x hx).1)
    have h' : [(t k).b.toNat, (t k).d.toNat, (t k).f.toNat, (t k).lo.toNat, (t k).hi.toNat].map (fun n : Nat => (n : Int)) = stL (t k) := h
    rw [h']
    simp [rowsL, List.getD, upto, hk]
  obtain ⟨xs, hxs⟩ : ∃ xs, rowsL ls s t lt = xs := ⟨_, rfl⟩
  rw [hxs] at hok hTL hrl hx0 hx1 ⊢
  have HLN : Hid (Calls Tryz.prog 80 #[.string (bs (textL xs)), .int .i64 139] W0 fun e w' => (∃ G, e = .returned (.tuple #[.slice (some ⟨G, 0, none⟩) (lt + 1) (lt + 2), .bool true]) ∧ G < w'.heap.size ∧ StrAt w' G 0 xs ∧ W0.heap.size ≤ G) ∧ Below W0.heap.size W0 w') := Lib.hid (by
    have h := lines_ok xs W0 (by omega) (by omega) (Lib.hid fun x hx => by have := (hok x hx).1; omega) (Lib.hid fun y hy => by
      rw [List.mem_append, List.mem_singleton] at hy
      rcases hy with hy | rfl
      · exact (hok y hy).2
      · exact endL_no10 _) (by
      have := hTL
      unfold textL at this
      simp at this
      omega) (GL.out _ hb0).1 (GL.out _ hb0).2
    rw [hrl] at h
    exact h)
  have HX0 := Lib.hid hx0
  have HX1 := Lib.hid hx1
  have HRL := Lib.hid hrl
  have HSN := Lib.hid (speeds_nat H.out)
  have HTN : Hid (∀ k, k < lt → ∀ x ∈ stL (t k), 0 ≤ x ∧ x ≤ 100) := Lib.hid fun k hk => stretch_nat H.out hk
  have HB0 := Lib.hid hb0
  have HZ0 := Lib.hid hz0
  have HC := Lib.hid (show W0.cell? ⟨w.heap.size, 0, none⟩ = some (.slice none 0 0) ∧ W0.cell? ⟨w.heap.size, 1, none⟩ = some (.slice none 0 0) ∧ W0.frozen? ⟨w.heap.size, 0, none⟩ = false ∧ W0.frozen? ⟨w.heap.size, 1, none⟩ = false from ⟨c00, c01, f00, f01⟩)
  have HXL : Hid (∀ k, k < lt + 1 → (xs.getD k []).length ≤ 1000000) := Lib.hid fun k hk => by
    have hj : k < xs.length := by omega
    have := (hok (xs.getD k []) (by rw [List.getD_eq_getElem?_getD, List.getElem?_eq_getElem hj]; exact List.getElem_mem _)).1
    omega
  obtain ⟨T, hT⟩ : ∃ T, bs (textL xs) = T := ⟨_, rfl⟩
  rw [hT] at HLN ⊢
  clear hT hx0 hx1 hok hTL hrl hxs c00 c01 f00 f01 hb0 hz0
  go_enter Tryz.func44, Tryz.ntmps44
  go_wp2_with (first
    | (go_at_call 80; rw [← hW0]; refine HLN.out.mono ?_; rintro e w1 ⟨⟨G, rfl, g1, g2, g3⟩, hb1⟩)
    | (go_at_call 81; refine (must_t _).mono ?_; rintro e w2 ⟨rfl, hw2⟩; obtain rfl := hw2.symm))
  have HB1 := Lib.hid hb1
  have HG1 := Lib.hid g1
  have HG2 := Lib.hid g2
  have HG3 := Lib.hid g3
  clear hb1 g1 g2 g3
  go_loopw [16] (fun ii wr => ∃ k : Nat, k ≤ lt + 1 ∧ ii = .int .i64 (k : Int) ∧ ((k = 0 ∧ Below w1.heap.size w1 wr) ∨ ∃ j A1 c1 base c0 b0, k = j + 1 ∧ LO w w.heap.size G xs ls s t j A1 c1 base c0 b0 wr)) (fun ii _ => lt + 1 - (intOf ii).toNat)
  case atStart => exact ⟨0, Nat.zero_le _, rfl, .inl ⟨rfl, Below.refl _ _⟩⟩
  case round =>
    obtain ⟨k, hk, rfl, hst⟩ := hrel
    rcases hst with ⟨rfl, hbw⟩ | ⟨j, A1, c1, base, c0, b0, rfl, hLO⟩
    · have hsz1 := HB1.out.size
      have hz0 := HZ0.out
      have hbx : Below w.heap.size w wr := (HB0.out.trans (HB1.out.mono (by omega))).trans (hbw.mono (by omega))
      have hg2 := HG2.out.below HG1.out hbw
      have y0 : wr.cell? ⟨G, 0, none⟩ = some (.string (bs (xs.getD 0 []))) := hg2 0 (by have := HRL.out; omega)
      have n2 : (0 : Int) < (lt : Int) + 1 := by omega
      have HT0 : Hid (Calls Tryz.prog 82 #[.int .i64 0, .string (bs (xs.getD 0 []))] wr fun e w' => (∃ G1 cap, e = .returned (.iface 82 (.slice (some ⟨G1, 0, none⟩) ls cap)) ∧ ∀ (j : Nat) (u : Value), (((upto s ls).map Int.toNat).map intV)[j]? = some u → w'.cell? ⟨G1, j, none⟩ = some u) ∧ Below wr.heap.size wr w') := Lib.hid (by
        have hl := HXL.out 0 (by omega)
        rw [← HX0.out] at hl ⊢
        refine (textLine0_w ((upto s ls).map Int.toNat) (by simp [upto_length]; omega) (by simp [upto_length]; omega) (Lib.hid (nat_le HSN.out (by decide))) wr hl (GL.out _ hbx).2).mono ?_
        rintro e w' ⟨⟨v, rfl, hv⟩, hb⟩
        rw [List.length_map, upto_length] at hv
        obtain ⟨G1, cap, rfl, _, _, _, g4⟩ := vals_of_owns hv (by omega)
        exact ⟨⟨G1, cap, rfl, g4⟩, hb⟩)
      have hlen : ((upto s ls).map Int.toNat).length = ls := by simp [upto_length]
      have hvals : ∀ i, i < ls → (((upto s ls).map Int.toNat).map intV)[i]? = some (.int .i64 (s i)) := fun i hi => by
        have h0 := (HSN.out (s i) (by simp [upto]; exact ⟨i, hi, rfl⟩)).1
        simp [upto, hi, intV, Int.toNat_of_nonneg h0]
      obtain ⟨nats, hnats⟩ : ∃ l, (upto s ls).map Int.toNat = l := ⟨_, rfl⟩
      rw [hnats] at HT0 hlen hvals
      have HLEN := Lib.hid hlen
      have HVALS := Lib.hid hvals
      obtain ⟨L, hL⟩ : ∃ L, bs (xs.getD 0 []) = L := ⟨_, rfl⟩
      rw [hL] at y0 HT0
      have HBX := Lib.hid hbx
      have HBW := Lib.hid hbw
      have HGG := Lib.hid hg2
      have hm3 := meth3
      clear hnats hL hlen hvals hbx hbw hg2
      go_wp2_with (first
        | (go_at_call 82; refine HT0.out.mono ?_; rintro e w5 ⟨⟨G1, cap1, rfl, hG1⟩, hb5⟩; have h05 : Below W0.heap.size W0 w5 := (HB1.out.trans (HBW.out.mono hsz1)).trans (hb5.mono (by have := HBW.out.size; omega)); have hz5 := h05.size; have HG1' := Lib.hid hG1; clear hG1)
        | (go_at_call 189; refine (addTo1_w w.heap.size G1 ls cap1 nats w5 HLEN.out (by omega) (by omega) (by omega) (((bcell h05).1 _ _ (by omega)).trans HC.out.1) (((bcell h05).2 _ _ (by omega)).trans HC.out.2.2.1) HG1').mono ?_; rintro e w6 ⟨rfl, v1, w7, rfl, hb7, hown7⟩))
      have h57 := hb7.size
      obtain ⟨A1, c1, rfl, _, hA1, hA2, g4⟩ := vals_of_owns hown7 (by omega)
      have h07 : Below W0.heap.size W0 w7 := h05.trans (hb7.mono hz5)
      have hLO : LO w w.heap.size G xs ls s t 0 A1 c1 w7.heap.size 0 none (w7.setCell ⟨w.heap.size, 0, none⟩ (.slice (some ⟨A1, 0, none⟩) ls c1)) := by
        have q := (bcell h07).1
        have qf := (bcell h07).2
        have hGw : G < wr.heap.size := Nat.lt_of_lt_of_le HG1.out HBW.out.size
        have hG7 : G < w7.heap.size := by have := hb5.size; omega
        have hs5 : StrAt w7 G 0 xs := (HGG.out.below hGw hb5).below (by have := hb5.size; omega) hb7
        have hGB : G ≠ w.heap.size := by have := HG3.out; omega
        have hAB' : w.heap.size < A1 := by omega
        have hAB : A1 ≠ w.heap.size := by omega
        have ne : ∀ b o, b ≠ w.heap.size → (w7.setCell ⟨w.heap.size, 0, none⟩ (.slice (some ⟨A1, 0, none⟩) ls c1)).cell? ⟨b, o, none⟩ = w7.cell? ⟨b, o, none⟩ := fun b o hn => World.cell?_setCell_other _ _ _ _ (by intro e; cases e; exact hn rfl)
        refine ⟨?_, ?_, ?_, ?_, ?_, hA2, ?_, by simp, by omega, hG7, ?_, hAB', hGB, ?_⟩
        · exact World.cell?_setCell_same' _ _ _ (by rw [q _ _ (by omega), HC.out.1]; rfl)
        · rw [World.cell?_setCell_other _ _ _ _ (by intro e; cases e), q _ _ (by omega)]; exact HC.out.2.1
        · rw [World.frozen?_setCell, qf _ _ (by omega)]; exact HC.out.2.2.1
        · rw [World.frozen?_setCell, qf _ _ (by omega)]; exact HC.out.2.2.2
        · have e : stCells t 0 = [] := rfl
          rw [e]; exact World.ownsRow_nil _ _ _ _
        · intro i hi
          rw [ne _ _ hAB, Nat.zero_add]
          exact g4 i _ (HVALS.out i hi)
        · intro j hj
          rw [ne _ _ hGB]; exact hs5 j hj
        · exact (HB0.out.trans (h07.mono (by omega))).setCell (Nat.le_refl _) _
      have HLO := Lib.hid hLO
      clear hLO g4 hown7 hA1 hA2 h07 h05
      go_roundw
      case rel => exact ⟨0 + 1, by omega, by go_num, .inr ⟨0, A1, c1, w7.heap.size, 0, none, rfl, HLO.out⟩⟩
      case measure => first | (simp [intOf]; done) | (simp [intOf]; omega)
    · have HL := Lib.hid hLO
      have hbx := hLO.bel
      have hsz := hLO.hb
      have hB' := hLO.hB
      clear hLO
      by_cases hlt : j < lt
      · have y0 : wr.cell? ⟨G, j + 1, none⟩ = some (.string (bs (xs.getD (j + 1) []))) := by
          have h := HL.out.str (j + 1) (by have := HRL.out; omega)
          rwa [Nat.zero_add] at h
        have n0 : (0 : Int) ≤ ((j + 1 : Nat) : Int) := by omega
        have n2 : (j : Int) + 1 < (lt : Int) + 1 := by omega
        have HT1 : Hid (Calls Tryz.prog 82 #[.int .i64 ((j : Int) + 1), .string (bs (xs.getD (j + 1) []))] wr fun e w' => e = .returned (.iface 84 (.agg #[.int .i64 (t j).b, .int .i64 (t j).d, .int .i64 (t j).f, .int .i64 (t j).lo, .int .i64 (t j).hi])) ∧ Below wr.heap.size wr w') := Lib.hid (by
          have hl := HXL.out (j + 1) (by omega)
          have hs := HTN.out j hlt
          rw [← HX1.out j hlt] at hl ⊢
          have h := textLine1_w (j + 1) (by omega) (t j).b.toNat (t j).d.toNat (t j).f.toNat (t j).lo.toNat (t j).hi.toNat (Lib.hid (nat_le hs (by decide))) wr hl (GL.out _ hbx).2
          have e1 := Int.toNat_of_nonneg (hs (t j).b (by simp [stL])).1
          have e2 := Int.toNat_of_nonneg (hs (t j).d (by simp [stL])).1
          have e3 := Int.toNat_of_nonneg (hs (t j).f (by simp [stL])).1
          have e4 := Int.toNat_of_nonneg (hs (t j).lo (by simp [stL])).1
          have e5 := Int.toNat_of_nonneg (hs (t j).hi (by simp [stL])).1
          rw [e1, e2, e3, e4, e5] at h
          exact h)
        obtain ⟨L, hL⟩ : ∃ L, bs (xs.getD (j + 1) []) = L := ⟨_, rfl⟩
        rw [hL] at y0 HT1
        have hm4 := meth4
        clear hL
        go_wp2_with (first
          | (go_at_call 82; refine HT1.out.mono ?_; rintro e w5 ⟨rfl, hb5⟩; have HL5 := Lib.hid (HL.out.below hb5); have hz5 := hb5.size)
          | (go_at_call 192; refine (addTo2_w w.heap.size base j c0 b0 t w5 (by omega) hB' (by omega) HL5.out.x1 HL5.out.f1 (Lib.hid HL5.out.own)).mono ?_; rintro e w6 ⟨rfl, g, c, w7, rfl, hb7, hown7⟩))
        have HLN2 := Lib.hid (HL5.out.next (Nat.le_refl _) hb7 hown7)
        clear hown7
        go_roundw
        case rel => exact ⟨j + 1 + 1, by omega, by go_num, .inr ⟨j + 1, A1, c1, base, c, some ⟨g, 0, none⟩, rfl, HLN2.out⟩⟩
        case measure => simp [intOf]; omega
      · obtain rfl : lt = j := by omega
        obtain ⟨g, hg⟩ : ∃ g, b0 = some ⟨g, 0, none⟩ := by
          rcases HL.out.own.2 with ⟨e, e2⟩ | ⟨g, cap, cur, e, _⟩
          · omega
          · cases e; exact ⟨g, rfl⟩
        subst hg
        have hst := StAt.of_owns HL.out.own
        have hgB : base ≤ g := own_ge HL.out.own g rfl
        have y0 := HL.out.x0
        have y1 := HL.out.x1
        have y2 := HL.out.f0
        have y3 := HL.out.f1
        have hbd : Hid (LineAt wr A1 0 g 0 ls lt s t) := Lib.hid ⟨Nat.lt_of_lt_of_le HL.out.hA hsz, by
          rcases HL.out.own.2 with ⟨e, _⟩ | ⟨g', cap, cur, e, _, hg, _⟩
          · cases e
          · cases e; exact (Array.getElem?_eq_some_iff.1 hg).1, q3, q4, q1, q2, HL.out.num, hst, H.out.sok, H.out.tok⟩
        have HAB := Lib.hid HL.out.hAB
        clear hst
        go_wp2
        have hne : (⟨w.heap.size, 1, none⟩ : Addr) ≠ ⟨w.heap.size, 0, none⟩ := by intro e; cases e
        have e1 : ((wr.setCell ⟨w.heap.size, 0, none⟩ (.slice (some ⟨A1, 0, none⟩) ls c1)).setCell ⟨w.heap.size, 1, none⟩ (.slice (some ⟨g, 0, none⟩) lt c0)).cell? ⟨w.heap.size, 0, none⟩ = some (.slice (some ⟨A1, 0, none⟩) ls c1) := by
          rw [World.cell?_setCell_other _ _ _ _ hne]; exact World.cell?_setCell_same' _ _ _ (by rw [HL.out.x0]; rfl)
        have e2 : ((wr.setCell ⟨w.heap.size, 0, none⟩ (.slice (some ⟨A1, 0, none⟩) ls c1)).setCell ⟨w.heap.size, 1, none⟩ (.slice (some ⟨g, 0, none⟩) lt c0)).cell? ⟨w.heap.size, 1, none⟩ = some (.slice (some ⟨g, 0, none⟩) lt c0) :=
          World.cell?_setCell_same' _ _ _ (by rw [World.cell?_setCell_other _ _ _ _ hne.symm, HL.out.x1]; rfl)
        have ne : ∀ b o, b ≠ w.heap.size → ((wr.setCell ⟨w.heap.size, 0, none⟩ (.slice (some ⟨A1, 0, none⟩) ls c1)).setCell ⟨w.heap.size, 1, none⟩ (.slice (some ⟨g, 0, none⟩) lt c0)).cell? ⟨b, o, none⟩ = wr.cell? ⟨b, o, none⟩ := fun b o hn => by
          rw [World.cell?_setCell_other _ _ _ _ (by intro e; cases e; exact hn rfl), World.cell?_setCell_other _ _ _ _ (by intro e; cases e; exact hn rfl)]
        refine bodyPost_ret (v := .agg #[.slice (some ⟨A1, 0, none⟩) ls c1, .slice (some ⟨g, 0, none⟩) lt c0]) (by simp [results, Tryz.results44, go_sem, e1, e2]) rfl ⟨⟨A1, c1, g, c0, rfl, ?_, HAB.out, by omega⟩, ?_⟩
        · have h := hbd.out
          have hgne : g ≠ w.heap.size := by omega
          refine ⟨by simpa using h.hA, by simpa using h.hC, h.ls1, h.ls2, h.lt1, h.lt2, fun i hi => (ne _ _ (Nat.ne_of_gt HAB.out)).trans (h.sp i hi), fun i hi => ?_, h.sok, h.tok⟩
          obtain ⟨s0, s1, s2, s3, s4⟩ := h.st i hi
          exact ⟨(ne _ _ hgne).trans s0, (ne _ _ hgne).trans s1, (ne _ _ hgne).trans s2, (ne _ _ hgne).trans s3, (ne _ _ hgne).trans s4⟩
        · exact (HL.out.bel.setCell (Nat.le_refl _) _).setCell (Nat.le_refl _) _
end Go.Kn

namespace Go.Kn
open Go Go.Proofs Go.RowKit

def tx (ls lt : Nat) (s : Nat → Int) (t : Nat → St5) : ByteArray := bs (textL (rowsL ls s t lt))

set_option maxRecDepth 100000 in
set_option maxHeartbeats 1000000 in
theorem read1_t (a b A O C P ls lt : Nat) (s : Nat → Int) (t : Nat → St5) (w0 w : World) (H : Hid (LineAt w0 A O C P ls lt s t)) (hp : Hid (Pow w)) (hm : Hid (ML w)) (hb : b < w.heap.size) (hc : w.cell? ⟨a, 0, none⟩ = some (.string (tx ls lt s t)))
    (h0 : w.cell? ⟨b, 0, none⟩ = some (.slice none 0 0)) (h1 : w.cell? ⟨b, 1, none⟩ = some (.slice none 0 0)) (h2 : w.frozen? ⟨b, 0, none⟩ = false) (h3 : w.frozen? ⟨b, 1, none⟩ = false) :
    Calls Tryz.prog 43 #[.pointer (some ⟨a, 0, none⟩), .pointer (some ⟨b, 0, none⟩)] w fun e w' => e = .returned (.tuple #[]) ∧
      ∃ A1 c1 C1 c2 w1, w' = (w1.setCell ⟨b, 0, none⟩ (.slice (some ⟨A1, 0, none⟩) ls c1)).setCell ⟨b, 1, none⟩ (.slice (some ⟨C1, 0, none⟩) lt c2) ∧ Below w.heap.size w w1 ∧ LineAt w1 A1 0 C1 0 ls lt s t ∧ w.heap.size < A1 ∧ w.heap.size < C1 := by
  have HL := Lib.hid (lineOf_t A O C P ls lt s t w0 w H hp hm)
  rw [show bs (textL (rowsL ls s t lt)) = tx ls lt s t from rfl] at HL
  obtain ⟨T, hT⟩ : ∃ T, tx ls lt s t = T := ⟨_, rfl⟩
  rw [hT] at HL hc
  clear hT
  go_enter Tryz.func43, Tryz.ntmps43
  go_wp2_with (go_at_call 44; refine HL.out.mono ?_; rintro e w1 ⟨⟨A1, c1, C1, c2, rfl, hl, ha1, ha2⟩, hb1⟩; have z0 := ((bcell hb1).1 _ _ hb).trans h0; have z1 := ((bcell hb1).1 _ _ hb).trans h1; have z2 := ((bcell hb1).2 _ _ hb).trans h2; have z3 := ((bcell hb1).2 _ _ hb).trans h3; have HLL := Lib.hid hl; clear hl)
  go_end0
  exact ⟨rfl, A1, c1, C1, c2, w1, rfl, hb1, HLL.out, ha1, ha2⟩

set_option maxRecDepth 100000 in
set_option maxHeartbeats 1000000 in
theorem attempt_tt (a b A O C P ls lt : Nat) (s : Nat → Int) (t : Nat → St5) (w0 w : World) (H : Hid (LineAt w0 A O C P ls lt s t)) (hp : Hid (Pow w)) (hm : Hid (ML w)) (hb : b < w.heap.size) (hc : w.cell? ⟨a, 0, none⟩ = some (.string (tx ls lt s t)))
    (h0 : w.cell? ⟨b, 0, none⟩ = some (.slice none 0 0)) (h1 : w.cell? ⟨b, 1, none⟩ = some (.slice none 0 0)) (h2 : w.frozen? ⟨b, 0, none⟩ = false) (h3 : w.frozen? ⟨b, 1, none⟩ = false) :
    Calls Tryz.prog 42 #[.func (.func 43) #[] #[.pointer (some ⟨a, 0, none⟩), .pointer (some ⟨b, 0, none⟩)]] w fun e w' => e = .returned (.int .i64 0) ∧
      ∃ A1 c1 C1 c2 w1, w' = ((w1.setCell ⟨b, 0, none⟩ (.slice (some ⟨A1, 0, none⟩) ls c1)).setCell ⟨b, 1, none⟩ (.slice (some ⟨C1, 0, none⟩) lt c2)).setCell ⟨w.heap.size, 0, none⟩ (.int .i64 0) ∧ Below w.heap.size w w1 ∧ LineAt w1 A1 0 C1 0 ls lt s t ∧ w.heap.size < A1 ∧ w.heap.size < C1 := by
  have hmf : ∀ (fn : Fn) (first cap : Array Value) (w : World), (Instr.makeFunc fn first cap).run Tryz.prog w = .ok (.func fn first cap) w := fun _ _ _ _ => rfl
  have hA : Below w.heap.size w (w.alloc (.cells #[.int .i64 0] 28)) := (Below.refl _ _).alloc (Nat.le_refl _) _
  have ha : a < w.heap.size := World.block_lt_of_cell? _ _ hc
  obtain ⟨q, qf⟩ := bcell hA
  have hz1 : (w.alloc (.cells #[.int .i64 0] 28)).heap.size = w.heap.size + 1 := by simp
  have HR := Lib.hid (read1_t a b A O C P ls lt s t w0 (w.alloc (.cells #[.int .i64 0] 28)) H (Lib.hid (hp.out.on hA)) (Lib.hid (hm.out.on hA)) (by rw [hz1]; omega) ((q _ _ ha).trans hc) ((q _ _ hb).trans h0) ((q _ _ hb).trans h1) ((qf _ _ hb).trans h2) ((qf _ _ hb).trans h3))
  have c0 : (w.alloc (.cells #[.int .i64 0] 28)).cell? ⟨w.heap.size, 0, none⟩ = some (.int .i64 0) := by simp
  have f0 : (w.alloc (.cells #[.int .i64 0] 28)).frozen? ⟨w.heap.size, 0, none⟩ = false := by simp
  have l0 : w.heap.size < (w.alloc (.cells #[.int .i64 0] 28)).heap.size := by simp
  have hdiff : b ≠ w.heap.size := by omega
  have HC : Hid (∀ w1 u v, Below (w.alloc (.cells #[.int .i64 0] 28)).heap.size (w.alloc (.cells #[.int .i64 0] 28)) w1 → ((w1.setCell ⟨b, 0, none⟩ u).setCell ⟨b, 1, none⟩ v).cell? ⟨w.heap.size, 0, none⟩ = some (.int .i64 0) ∧ ((w1.setCell ⟨b, 0, none⟩ u).setCell ⟨b, 1, none⟩ v).frozen? ⟨w.heap.size, 0, none⟩ = false) := Lib.hid fun w1 u v hb' => by
    obtain ⟨c, f⟩ := bcell hb'
    rw [World.cell?_setCell_other _ _ _ _ (by intro e; cases e), World.cell?_setCell_other _ _ _ _ (by intro e; cases e; exact hdiff rfl), World.frozen?_setCell, World.frozen?_setCell]
    exact ⟨(c _ _ l0).trans c0, (f _ _ l0).trans f0⟩
  have HA := Lib.hid hA
  have HZ := Lib.hid hz1
  clear hc hA c0 f0 l0 h0 h1 h2 h3 q qf hz1
  go_enter_defers Tryz.func42, Tryz.ntmps42
  go_wp2_with (go_at_call 43; refine HR.out.mono ?_; rintro e w2 ⟨rfl, A1, c1, C1, c2, w1, hw2, hb1, hl, ha1, ha2⟩; obtain ⟨y1, y2⟩ := HC.out w1 (.slice (some ⟨A1, 0, none⟩) ls c1) (.slice (some ⟨C1, 0, none⟩) lt c2) hb1; rw [← hw2] at y1 y2; have HW2 := Lib.hid hw2; have HLL := Lib.hid hl; clear hw2 hl)
  refine leaves_cons (f := 79) (args := #[.pointer (some ⟨w.heap.size, 0, none⟩)]) (by simp) (by simp [go_sem]) ?_
  refine (catch_none ⟨w.heap.size, 0, none⟩ _).mono ?_
  rintro e u' w'' ⟨rfl, rfl, rfl⟩
  simp [Leaves, settle, results, Tryz.results42, go_sem, y1]
  have hz := HZ.out
  exact ⟨A1, c1, C1, c2, w1, by rw [HW2.out], HA.out.trans (hb1.mono HA.out.size), HLL.out, by omega, by omega⟩

theorem nb {b b' o o' : Nat} (h : b ≠ b') : (⟨b, o, none⟩ : Addr) ≠ ⟨b', o', none⟩ := fun e => h (congrArg Addr.block e)
theorem no {b o o' : Nat} (h : o ≠ o') : (⟨b, o, none⟩ : Addr) ≠ ⟨b, o', none⟩ := fun e => h (congrArg Addr.off e)

theorem attempt_t2 (a b A O C P ls lt : Nat) (s : Nat → Int) (t : Nat → St5) (w0 w : World) (H : Hid (LineAt w0 A O C P ls lt s t)) (hp : Hid (Pow w)) (hm : Hid (ML w)) (hb : b < w.heap.size) (hc : w.cell? ⟨a, 0, none⟩ = some (.string (tx ls lt s t)))
    (h0 : w.cell? ⟨b, 0, none⟩ = some (.slice none 0 0)) (h1 : w.cell? ⟨b, 1, none⟩ = some (.slice none 0 0)) (h2 : w.frozen? ⟨b, 0, none⟩ = false) (h3 : w.frozen? ⟨b, 1, none⟩ = false) :
    Calls Tryz.prog 42 #[.func (.func 43) #[] #[.pointer (some ⟨a, 0, none⟩), .pointer (some ⟨b, 0, none⟩)]] w fun e w' => e = .returned (.int .i64 0) ∧
      ∃ A1 c1 C1 c2, w'.cell? ⟨b, 0, none⟩ = some (.slice (some ⟨A1, 0, none⟩) ls c1) ∧ w'.cell? ⟨b, 1, none⟩ = some (.slice (some ⟨C1, 0, none⟩) lt c2) ∧ w'.frozen? ⟨b, 0, none⟩ = false ∧ w'.frozen? ⟨b, 1, none⟩ = false ∧ LineAt w' A1 0 C1 0 ls lt s t ∧ b < A1 ∧ b < C1 ∧ Below b w w' :=
  (attempt_tt a b A O C P ls lt s t w0 w H hp hm hb hc h0 h1 h2 h3).mono (by
    rintro e w2 ⟨rfl, A1, c1, C1, c2, w1, hw2, hb1, hl, ha1, ha2⟩
    obtain ⟨q, qf⟩ := bcell hb1
    have hneq : w.heap.size ≠ b := by omega
    have ne : ∀ b' o, b' ≠ b → b' ≠ w.heap.size → w2.cell? ⟨b', o, none⟩ = w1.cell? ⟨b', o, none⟩ := fun b' o h1 h2 => by
      rw [hw2, World.cell?_setCell_other _ _ _ _ (nb (Ne.symm h2)), World.cell?_setCell_other _ _ _ _ (nb (Ne.symm h1)), World.cell?_setCell_other _ _ _ _ (nb (Ne.symm h1))]
    have x0 : w2.cell? ⟨b, 0, none⟩ = some (.slice (some ⟨A1, 0, none⟩) ls c1) := by
      rw [hw2, World.cell?_setCell_other _ _ _ _ (nb hneq), World.cell?_setCell_other _ _ _ _ (no (by decide))]
      exact World.cell?_setCell_same' _ _ _ (by rw [q _ _ hb, h0]; rfl)
    have x1 : w2.cell? ⟨b, 1, none⟩ = some (.slice (some ⟨C1, 0, none⟩) lt c2) := by
      rw [hw2, World.cell?_setCell_other _ _ _ _ (nb hneq)]
      exact World.cell?_setCell_same' _ _ _ (by rw [World.cell?_setCell_other _ _ _ _ (no (by decide)), q _ _ hb, h1]; rfl)
    have x2 : w2.frozen? ⟨b, 0, none⟩ = false := by
      rw [hw2, World.frozen?_setCell, World.frozen?_setCell, World.frozen?_setCell, qf _ _ hb]; exact h2
    have x3 : w2.frozen? ⟨b, 1, none⟩ = false := by
      rw [hw2, World.frozen?_setCell, World.frozen?_setCell, World.frozen?_setCell, qf _ _ hb]; exact h3
    have hL2 : LineAt w2 A1 0 C1 0 ls lt s t := by
      have hsz2 : w2.heap.size = w1.heap.size := by rw [hw2]; simp
      refine ⟨by rw [hsz2]; exact hl.hA, by rw [hsz2]; exact hl.hC, hl.ls1, hl.ls2, hl.lt1, hl.lt2, fun i hi => (ne _ _ (by omega) (by omega)).trans (hl.sp i hi), fun i hi => ?_, hl.sok, hl.tok⟩
      obtain ⟨s0, s1, s2, s3, s4⟩ := hl.st i hi
      exact ⟨(ne _ _ (by omega) (by omega)).trans s0, (ne _ _ (by omega) (by omega)).trans s1, (ne _ _ (by omega) (by omega)).trans s2, (ne _ _ (by omega) (by omega)).trans s3, (ne _ _ (by omega) (by omega)).trans s4⟩
    refine ⟨rfl, A1, c1, C1, c2, x0, x1, x2, x3, hL2, by omega, by omega, ?_⟩
    rw [hw2]
    exact (((hb1.mono (Nat.le_of_lt hb)).setCell (Nat.le_refl _) _).setCell (Nat.le_refl _) _).setCell (Nat.le_of_lt hb) _)

set_option maxRecDepth 100000 in
set_option maxHeartbeats 2000000 in
theorem read_t (A O C P ls lt : Nat) (s : Nat → Int) (t : Nat → St5) (w0 w : World) (H : Hid (LineAt w0 A O C P ls lt s t)) (hp : Hid (Pow w)) (hm : Hid (ML w)) :
    Calls Tryz.prog 15 #[.string (tx ls lt s t)] w fun e w' => (∃ A1 c1 C1 c2, e = .returned (.tuple #[.agg #[.slice (some ⟨A1, 0, none⟩) ls c1, .slice (some ⟨C1, 0, none⟩) lt c2], .int .i64 0]) ∧ LineAt w' A1 0 C1 0 ls lt s t) ∧ Below w.heap.size w w' := by
  have hsz : (tx ls lt s t).size ≤ 300 := by
    unfold tx
    rw [bs_size]; exact text_len H.out
  have q2 := H.out.lt2
  have q4 := H.out.ls2
  have HR : Hid (RightP ls lt s t) := Lib.hid ⟨H.out.ls1, H.out.ls2, H.out.lt1, H.out.lt2, H.out.sok, H.out.tok⟩
  obtain ⟨W, hW⟩ : ∃ W, W = (w.alloc (.cells #[.string (tx ls lt s t)] 9)).alloc (.cells #[.slice none 0 0, .slice none 0 0] 25) := ⟨_, rfl⟩
  have hbW : Below w.heap.size w W := by rw [hW]; exact ((Below.refl _ _).alloc (Nat.le_refl _) _).alloc (by simp) _
  have hzW : W.heap.size = w.heap.size + 1 + 1 := by rw [hW]; simp
  have c0 : W.cell? ⟨w.heap.size, 0, none⟩ = some (.string (tx ls lt s t)) := by rw [hW]; simp
  have c1 : W.cell? ⟨w.heap.size + 1, 0, none⟩ = some (.slice none 0 0) := by rw [hW]; simp
  have c2 : W.cell? ⟨w.heap.size + 1, 1, none⟩ = some (.slice none 0 0) := by rw [hW]; simp
  have f1 : W.frozen? ⟨w.heap.size + 1, 0, none⟩ = false := by rw [hW]; simp
  have f2 : W.frozen? ⟨w.heap.size + 1, 1, none⟩ = false := by rw [hW]; simp
  have HAT := Lib.hid (attempt_t2 w.heap.size (w.heap.size + 1) A O C P ls lt s t w0 W H (Lib.hid (hp.out.on hbW)) (Lib.hid (hm.out.on hbW)) (by omega) c0 c1 c2 f1 f2)
  have HBW := Lib.hid hbW
  have HZW := Lib.hid hzW
  have hmf : ∀ (fn : Fn) (first cap : Array Value) (w : World), (Instr.makeFunc fn first cap).run Tryz.prog w = .ok (.func fn first cap) w := fun _ _ _ _ => rfl
  have hs3 : ¬ ((300 : Int) < ((tx ls lt s t).size : Int)) := by omega
  obtain ⟨T, hT⟩ : ∃ T, tx ls lt s t = T := ⟨_, rfl⟩
  rw [hT] at hW hs3 ⊢
  clear hT c0 c1 c2 f1 f2 hbW hzW hsz
  go_enter Tryz.func15, Tryz.ntmps15
  go_wp2_with (first
    | (go_at_call 42; rw [← hW]; refine HAT.out.mono ?_; rintro e w2 ⟨rfl, A1, c1, C1, c2, x0, x1, x2, x3, hL2, ha1, ha2, hb2⟩; have hz2 : w.heap.size + 1 < w2.heap.size := (by have := hb2.size; have := HZW.out; omega); have HL2 := Lib.hid hL2; have HB2 := Lib.hid (HBW.out.trans (hb2.mono (Nat.le_succ _))); have HX := Lib.hid (And.intro x0 (And.intro x1 (And.intro x2 x3))); clear hL2 hb2)
    | (go_at_call 33; refine (isLine2_w _ _ _ _ _ _ s t _ (by omega) (by omega) (Lib.hid ⟨.inr ⟨A1, 0, rfl, HL2.out.hA, HL2.out.sp⟩, .inr ⟨C1, 0, rfl, HL2.out.hC, HL2.out.st⟩⟩)).mono ?_; rintro e w3 ⟨⟨rb, rfl, hrb⟩, hb3⟩; obtain rfl : rb = true := hrb.2 HR.out; clear hrb x0 x1 x2 x3; have x0 := ((bcell hb3).1 _ _ hz2).trans HX.out.1; have x1 := ((bcell hb3).1 _ _ hz2).trans HX.out.2.1; have x2 := ((bcell hb3).2 _ _ hz2).trans HX.out.2.2.1; have x3 := ((bcell hb3).2 _ _ hz2).trans HX.out.2.2.2))
  have e1 : ((w3.setCell ⟨w.heap.size + 1, 0, none⟩ (.slice (some ⟨A1, 0, none⟩) ls c1)).setCell ⟨w.heap.size + 1, 1, none⟩ (.slice (some ⟨C1, 0, none⟩) lt c2)).cell? ⟨w.heap.size + 1, 0, none⟩ = some (.slice (some ⟨A1, 0, none⟩) ls c1) := by
    rw [World.cell?_setCell_other _ _ _ _ (no (by decide))]; exact World.cell?_setCell_same' _ _ _ (by rw [x0]; rfl)
  have e2 : ((w3.setCell ⟨w.heap.size + 1, 0, none⟩ (.slice (some ⟨A1, 0, none⟩) ls c1)).setCell ⟨w.heap.size + 1, 1, none⟩ (.slice (some ⟨C1, 0, none⟩) lt c2)).cell? ⟨w.heap.size + 1, 1, none⟩ = some (.slice (some ⟨C1, 0, none⟩) lt c2) :=
    World.cell?_setCell_same' _ _ _ (by rw [World.cell?_setCell_other _ _ _ _ (no (by decide)), x1]; rfl)
  have ne : ∀ b o, b ≠ w.heap.size + 1 → ((w3.setCell ⟨w.heap.size + 1, 0, none⟩ (.slice (some ⟨A1, 0, none⟩) ls c1)).setCell ⟨w.heap.size + 1, 1, none⟩ (.slice (some ⟨C1, 0, none⟩) lt c2)).cell? ⟨b, o, none⟩ = w3.cell? ⟨b, o, none⟩ := fun b o hn => by
    rw [World.cell?_setCell_other _ _ _ _ (nb (Ne.symm hn)), World.cell?_setCell_other _ _ _ _ (nb (Ne.symm hn))]
  have h := HL2.out.below hb3
  refine bodyPost_ret (v := .tuple #[.agg #[.slice (some ⟨A1, 0, none⟩) ls c1, .slice (some ⟨C1, 0, none⟩) lt c2], .int .i64 0]) (by simp [results, Tryz.results15, go_sem, e1, e2]) rfl ⟨⟨A1, c1, C1, c2, rfl, ?_⟩, ?_⟩
  · refine ⟨by simpa using h.hA, by simpa using h.hC, h.ls1, h.ls2, h.lt1, h.lt2, fun i hi => (ne _ _ (by omega)).trans (h.sp i hi), fun i hi => ?_, h.sok, h.tok⟩
    obtain ⟨s0, s1, s2, s3, s4⟩ := h.st i hi
    exact ⟨(ne _ _ (by omega)).trans s0, (ne _ _ (by omega)).trans s1, (ne _ _ (by omega)).trans s2, (ne _ _ (by omega)).trans s3, (ne _ _ (by omega)).trans s4⟩
  · exact ((HB2.out.trans (hb3.mono HB2.out.size)).setCell (by simp) _).setCell (by simp) _
end Go.Kn

namespace Go.Kn
open Go Go.Proofs Go.RowKit

set_option maxRecDepth 100000 in
set_option maxHeartbeats 2000000 in
theorem sameLines_w (A1 O1 C1 P1 A O C P ls lt c1 c2 cs ct : Nat) (s : Nat → Int) (t : Nat → St5) (w : World) (H1 : Hid (LineAt w A1 O1 C1 P1 ls lt s t)) (H : Hid (LineAt w A O C P ls lt s t)) :
    Calls Tryz.prog 17 #[.agg #[.slice (some ⟨A1, O1, none⟩) ls c1, .slice (some ⟨C1, P1, none⟩) lt c2], .agg #[.slice (some ⟨A, O, none⟩) ls cs, .slice (some ⟨C, P, none⟩) lt ct]] w fun e w' => e = .returned (.bool true) ∧ Below w.heap.size w w' := by
  obtain ⟨W, hW⟩ : ∃ W, W = (w.alloc (.cells #[.slice (some ⟨A1, O1, none⟩) ls c1, .slice (some ⟨C1, P1, none⟩) lt c2] 25)).alloc (.cells #[.slice (some ⟨A, O, none⟩) ls cs, .slice (some ⟨C, P, none⟩) lt ct] 25) := ⟨_, rfl⟩
  have hbW : Below w.heap.size w W := by rw [hW]; exact ((Below.refl _ _).alloc (Nat.le_refl _) _).alloc (by simp) _
  have hzW : W.heap.size = w.heap.size + 1 + 1 := by rw [hW]; simp
  have q2 := H.out.lt2
  have q4 := H.out.ls2
  have HC : Hid (∀ w1, Below W.heap.size W w1 → w1.cell? ⟨w.heap.size, 0, none⟩ = some (.slice (some ⟨A1, O1, none⟩) ls c1) ∧ w1.cell? ⟨w.heap.size, 1, none⟩ = some (.slice (some ⟨C1, P1, none⟩) lt c2) ∧ w1.cell? ⟨w.heap.size + 1, 0, none⟩ = some (.slice (some ⟨A, O, none⟩) ls cs) ∧ w1.cell? ⟨w.heap.size + 1, 1, none⟩ = some (.slice (some ⟨C, P, none⟩) lt ct) ∧ StAt w1 C1 P1 lt t ∧ StAt w1 C P lt t) := Lib.hid fun w1 hb => by
    obtain ⟨c, _⟩ := bcell hb
    have hall := hbW.trans (hb.mono (by omega))
    exact ⟨(c _ _ (by omega)).trans (by rw [hW]; simp), (c _ _ (by omega)).trans (by rw [hW]; simp), (c _ _ (by omega)).trans (by rw [hW]; simp), (c _ _ (by omega)).trans (by rw [hW]; simp), (H1.out.below hall).st, (H.out.below hall).st⟩
  have HBW := Lib.hid hbW
  have HS : Hid (Calls Tryz.prog 31 #[.slice (some ⟨A1, O1, none⟩) ls c1, .slice (some ⟨A, O, none⟩) ls cs] W fun e w' => e = .returned (.bool true) ∧ Below W.heap.size W w') := Lib.hid (same_w _ _ ls c1 cs s W (by unfold maxLen; omega) (Lib.hid (.inr ⟨A1, O1, rfl, (H1.out.below hbW).hA, (H1.out.below hbW).sp⟩)) (Lib.hid (.inr ⟨A, O, rfl, (H.out.below hbW).hA, (H.out.below hbW).sp⟩)))
  clear hbW hzW
  go_enter Tryz.func17, Tryz.ntmps17
  go_wp2_with (go_at_call 31; rw [← hW]; refine HS.out.mono ?_; rintro e w1 ⟨rfl, hb⟩; obtain ⟨y1, y2, y3, y4, _, _⟩ := HC.out _ hb)
  have HB := Lib.hid hb
  clear hb y1 y2 y3 y4
  go_loopw [5] (fun ii wr => ∃ k : Nat, k ≤ lt ∧ ii = .int .i64 (k : Int) ∧ Below W.heap.size W wr) (fun ii _ => lt - (intOf ii).toNat)
  case atStart => exact ⟨0, Nat.zero_le _, rfl, HB.out⟩
  case round =>
    obtain ⟨k, hk, rfl, hbw⟩ := hrel
    obtain ⟨y1, y2, y3, y4, y5, y6⟩ := HC.out _ hbw
    have HBB := Lib.hid hbw
    clear hbw
    by_cases hlt : k < lt
    · obtain ⟨a0, a1, a2, a3, a4⟩ := y5 k hlt
      obtain ⟨b0, b1, b2, b3, b4⟩ := y6 k hlt
      have n1 : (0 : Int) ≤ (k : Int) := by omega
      have n2 : (k : Int) < (lt : Int) := by omega
      clear y5 y6
      go_wp2
      go_quiet (fail)
      go_wp2
      go_roundw
      case rel => exact ⟨k + 1, by omega, by go_num, below_drewM HBB.out _⟩
      case measure => simp [intOf]; omega
    · clear y5 y6
      go_wp2
      go_ret
      exact ⟨rfl, HBW.out.trans (HBB.out.mono HBW.out.size)⟩
end Go.Kn
