/- Walks of the functions of layer 2 that ChannelTrue calls, and the law itself (a part of it). Conditions: as each theorem states them. -/
import Derived.Test.YtifdohhffmlbaaaGreatDoorWG
set_option linter.unusedVariables false
set_option linter.unusedSimpArgs false
namespace Go.Kn
open Go Go.Proofs Go.RowKit

set_option maxRecDepth 100000 in
set_option maxHeartbeats 4000000 in
theorem law_g (A O C P ls cs lt ct n : Nat) (s : Nat → Int) (t : Nat → St5) (ag ra la : Int) (w : World) (H : Hid (LineAt w A O C P ls lt s t)) (hn : n < lt) (ha : 0 ≤ ag ∧ ag ≤ 200) (hla : 0 ≤ la ∧ la ≤ 200) (hle : ag ≤ la)
    (hr1 : ra < (t n).lo) (K : Hid KnownOk) :
    Calls Tryz.prog 4 #[.agg #[.slice (some ⟨A, O, none⟩) ls cs, .slice (some ⟨C, P, none⟩) lt ct], .int .i64 (n : Int), .int .i64 ag, .int .i64 ra, .int .i64 la] w
      fun e w' => e = .returned (.bool true) ∧ Below w.heap.size w w' := by
  have hls := H.out.ls2
  have hlt := H.out.lt2
  have hRP : Hid (RightP ls lt s t) := Lib.hid ⟨H.out.ls1, H.out.ls2, H.out.lt1, H.out.lt2, H.out.sok, H.out.tok⟩
  have HS : ∀ o : Obj, Hid (NumSl (w.alloc o) (some ⟨A, O, none⟩) ls s) := fun o => Lib.hid (.inr ⟨A, O, rfl, (H.out.alloc o).hA, (H.out.alloc o).sp⟩)
  have HT : ∀ o : Obj, Hid (StSl (w.alloc o) (some ⟨C, P, none⟩) lt t) := fun o => Lib.hid (.inr ⟨C, P, rfl, (H.out.alloc o).hC, (H.out.alloc o).st⟩)
  have Hal : Hid (∀ o : Obj, LineAt (w.alloc o) A O C P ls lt s t) := Lib.hid fun o => H.out.alloc o
  have hshort : decide (ls ≤ 13 ∧ lt ≤ 10) = true := by simp; omega
  have f1 : fromB 0 ((lt : Int) - 1) (n : Int) = true := by simp only [fromB, decide_eq_true_eq]; omega
  have f2 : fromB 0 200 ag = true := by simp only [fromB, decide_eq_true_eq]; omega
  have f3 : fromB 0 200 la = true := by simp only [fromB, decide_eq_true_eq]; omega
  have BX := Lib.hid (fun (w1 : World) (hb : Below (w.alloc (.cells #[.slice (some ⟨A, O, none⟩) ls cs, .slice (some ⟨C, P, none⟩) lt ct] 25)).heap.size (w.alloc (.cells #[.slice (some ⟨A, O, none⟩) ls cs, .slice (some ⟨C, P, none⟩) lt ct] 25)) w1) => box_cells hb)
  go_enter Tryz.func4, Tryz.ntmps4
  go_wp2_with (first
    | (go_at_call 15; refine (short_w _ _ _ _ _ _ _ (by unfold maxLen; omega) (by unfold maxLen; omega)).mono ?_; rw [hshort]; rintro e w1 ⟨rfl, hb1⟩; obtain ⟨x1, x2, x3⟩ := BX.out _ hb1)
    | (go_at_call 19; refine (right_w _ _ _ _ _ _ s t _ (by omega) (by omega) (Lib.hid (.inr ⟨A, O, rfl, ((Hal.out _).below hb1).hA, ((Hal.out _).below hb1).sp⟩)) (Lib.hid (.inr ⟨C, P, rfl, ((Hal.out _).below hb1).hC, ((Hal.out _).below hb1).st⟩))).mono ?_; rintro e w2 ⟨⟨rb, rfl, hrb⟩, hb2⟩; obtain rfl : rb = true := hrb.2 hRP.out; clear hrb; have hb12 := hb1.trans (hb2.mono hb1.size); clear x1 x2 x3; obtain ⟨x1, x2, x3⟩ := BX.out _ hb12)
    | (go_at_call 20; refine (number_w _ undef _ _ _ _ _ (by unfold maxLen; omega)).mono ?_; rintro e w3 ⟨rfl, hb3⟩; have hb13 := hb12.trans (hb3.mono hb12.size); clear x1 x2 x3; obtain ⟨x1, x2, x3⟩ := BX.out _ hb13; obtain ⟨_, _, _, c3, c4⟩ := ((Hal.out _).below hb13).st n hn)
    | (go_at_call 21; refine (age_w _ _).mono ?_; rintro e w' ⟨rfl, rfl⟩)
    | (go_at_call 16; refine (K.out _).mono ?_; rintro e w11 ⟨rfl, hb11⟩))
  go_ret
  exact ⟨rfl, below_al (hb13.trans (hb11.mono hb13.size))⟩

set_option maxRecDepth 100000 in
set_option maxHeartbeats 4000000 in
theorem law_h (A O C P ls cs lt ct n : Nat) (s : Nat → Int) (t : Nat → St5) (ag ra la : Int) (w : World) (H : Hid (LineAt w A O C P ls lt s t)) (hn : n < lt) (ha : 0 ≤ ag ∧ ag ≤ 200) (hla : 0 ≤ la ∧ la ≤ 200) (hle : ag ≤ la)
    (hr1 : (t n).lo ≤ ra) (hr2 : (t n).hi < ra) (K : Hid KnownOk) :
    Calls Tryz.prog 4 #[.agg #[.slice (some ⟨A, O, none⟩) ls cs, .slice (some ⟨C, P, none⟩) lt ct], .int .i64 (n : Int), .int .i64 ag, .int .i64 ra, .int .i64 la] w
      fun e w' => e = .returned (.bool true) ∧ Below w.heap.size w w' := by
  have hls := H.out.ls2
  have hlt := H.out.lt2
  have hRP : Hid (RightP ls lt s t) := Lib.hid ⟨H.out.ls1, H.out.ls2, H.out.lt1, H.out.lt2, H.out.sok, H.out.tok⟩
  have HS : ∀ o : Obj, Hid (NumSl (w.alloc o) (some ⟨A, O, none⟩) ls s) := fun o => Lib.hid (.inr ⟨A, O, rfl, (H.out.alloc o).hA, (H.out.alloc o).sp⟩)
  have HT : ∀ o : Obj, Hid (StSl (w.alloc o) (some ⟨C, P, none⟩) lt t) := fun o => Lib.hid (.inr ⟨C, P, rfl, (H.out.alloc o).hC, (H.out.alloc o).st⟩)
  have Hal : Hid (∀ o : Obj, LineAt (w.alloc o) A O C P ls lt s t) := Lib.hid fun o => H.out.alloc o
  have hshort : decide (ls ≤ 13 ∧ lt ≤ 10) = true := by simp; omega
  have f1 : fromB 0 ((lt : Int) - 1) (n : Int) = true := by simp only [fromB, decide_eq_true_eq]; omega
  have f2 : fromB 0 200 ag = true := by simp only [fromB, decide_eq_true_eq]; omega
  have f3 : fromB 0 200 la = true := by simp only [fromB, decide_eq_true_eq]; omega
  have BX := Lib.hid (fun (w1 : World) (hb : Below (w.alloc (.cells #[.slice (some ⟨A, O, none⟩) ls cs, .slice (some ⟨C, P, none⟩) lt ct] 25)).heap.size (w.alloc (.cells #[.slice (some ⟨A, O, none⟩) ls cs, .slice (some ⟨C, P, none⟩) lt ct] 25)) w1) => box_cells hb)
  go_enter Tryz.func4, Tryz.ntmps4
  go_wp2_with (first
    | (go_at_call 15; refine (short_w _ _ _ _ _ _ _ (by unfold maxLen; omega) (by unfold maxLen; omega)).mono ?_; rw [hshort]; rintro e w1 ⟨rfl, hb1⟩; obtain ⟨x1, x2, x3⟩ := BX.out _ hb1)
    | (go_at_call 19; refine (right_w _ _ _ _ _ _ s t _ (by omega) (by omega) (Lib.hid (.inr ⟨A, O, rfl, ((Hal.out _).below hb1).hA, ((Hal.out _).below hb1).sp⟩)) (Lib.hid (.inr ⟨C, P, rfl, ((Hal.out _).below hb1).hC, ((Hal.out _).below hb1).st⟩))).mono ?_; rintro e w2 ⟨⟨rb, rfl, hrb⟩, hb2⟩; obtain rfl : rb = true := hrb.2 hRP.out; clear hrb; have hb12 := hb1.trans (hb2.mono hb1.size); clear x1 x2 x3; obtain ⟨x1, x2, x3⟩ := BX.out _ hb12)
    | (go_at_call 20; refine (number_w _ undef _ _ _ _ _ (by unfold maxLen; omega)).mono ?_; rintro e w3 ⟨rfl, hb3⟩; have hb13 := hb12.trans (hb3.mono hb12.size); clear x1 x2 x3; obtain ⟨x1, x2, x3⟩ := BX.out _ hb13; obtain ⟨_, _, _, c3, c4⟩ := ((Hal.out _).below hb13).st n hn)
    | (go_at_call 21; refine (age_w _ _).mono ?_; rintro e w' ⟨rfl, rfl⟩)
    | (go_at_call 16; refine (K.out _).mono ?_; rintro e w11 ⟨rfl, hb11⟩))
  go_ret
  exact ⟨rfl, below_al (hb13.trans (hb11.mono hb13.size))⟩

theorem law_w (sa ta : Option Addr) (ls cs lt ct : Nat) (s : Nat → Int) (t : Nat → St5) (st ag ra la : Int) (w : World) (hls : ls ≤ maxLen) (hlt : lt ≤ maxLen) (HS0 : NumSl w sa ls s) (HT0 : StSl w ta lt t) (K : Hid KnownOk) :
    Calls Tryz.prog 4 #[.agg #[.slice sa ls cs, .slice ta lt ct], .int .i64 st, .int .i64 ag, .int .i64 ra, .int .i64 la] w
      fun e w' => e = .returned (.bool true) ∧ Below w.heap.size w w' := by
  by_cases hq : ls ≤ 13 ∧ lt ≤ 10
  case neg => exact law_a sa ta ls cs lt ct s t st ag ra la w hls hlt HS0 HT0 K hq
  by_cases hR : RightP ls lt s t
  case neg => exact law_b sa ta ls cs lt ct s t st ag ra la w hls hlt HS0 HT0 K hq hR
  cases g1 : fromB 0 ((lt : Int) - 1) st
  case false => exact law_c sa ta ls cs lt ct s t st ag ra la w hls hlt HS0 HT0 K hq hR g1
  cases g2 : fromB 0 200 ag
  case false => exact law_d sa ta ls cs lt ct s t st ag ra la w hls hlt HS0 HT0 K hq hR g1 g2
  cases g3 : fromB 0 200 la
  case false => exact law_e sa ta ls cs lt ct s t st ag ra la w hls hlt HS0 HT0 K hq hR g1 g2 g3
  by_cases g4 : la < ag
  · exact law_f sa ta ls cs lt ct s t st ag ra la w hls hlt HS0 HT0 K hq hR g1 g2 g3 g4
  simp only [fromB, decide_eq_true_eq] at g1 g2 g3
  obtain ⟨n, rfl⟩ : ∃ n : Nat, st = n := ⟨st.toNat, by omega⟩
  have hn : n < lt := by omega
  obtain ⟨A, O, rfl, hA, hsp⟩ := HS0.resolve_left (by have := hR.ls1; omega)
  obtain ⟨C, P, rfl, hC, hst⟩ := HT0.resolve_left (by have := hR.lt1; omega)
  have H : LineAt w A O C P ls lt s t := ⟨hA, hC, hR.ls1, hR.ls2, hR.lt1, hR.lt2, hsp, hst, hR.sok, hR.tok⟩
  have ht := hR.tok n hn
  simp only [stB, decide_eq_true_eq] at ht
  by_cases h1 : ra < (t n).lo
  · exact law_g A O C P ls cs lt ct n s t ag ra la w (Lib.hid H) hn g2 g3 (by omega) h1 K
  by_cases h2 : (t n).hi < ra
  · exact law_h A O C P ls cs lt ct n s t ag ra la w (Lib.hid H) hn g2 g3 (by omega) (by omega) h2 K
  exact law_good A O C P ls cs lt ct n s t ag ra la w (Lib.hid H) hn g2 g3 (by omega) (by omega) (by omega) ⟨by omega, by omega⟩ K
end Go.Kn
