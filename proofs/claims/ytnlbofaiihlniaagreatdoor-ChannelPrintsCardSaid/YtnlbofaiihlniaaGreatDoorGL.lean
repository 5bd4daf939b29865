/- Walks of functions of layer 2 (contracts that the laws of this seat use). Conditions: as each theorem states them. -/
import Derived.Test.YtnlbofaiihlniaaGreatDoorGH
import Derived.Test.YtnlbofaiihlniaaGreatDoorGJ
import Derived.Test.YtnlbofaiihlniaaGreatDoorGX
import Derived.Lib.ConvBytes
import Derived.Laws.IdiomStrings
import Derived.Lib.AtoiErrMem
import Derived.Handed
import Derived.HandedShaped
import Derived.Stop.LaidErr
import Derived.Lib.LaidTab
set_option linter.unusedVariables false
set_option linter.unusedSimpArgs false
namespace Go.Kn
open Go Go.Proofs Go.RowKit

theorem addr_plain (b j : Nat) : (⟨b, 0, none⟩ : Addr).add j = ⟨b, j, none⟩ := by
  unfold Addr.add
  split
  · rename_i h; rw [h]
  · simp

set_option maxRecDepth 100000 in
set_option maxHeartbeats 2000000 in
theorem lawsp_a (sa ta : Option Addr) (ls cs lt ct : Nat) (s : Nat → Int) (t : Nat → St5) (at' dg : Int) (w : World) (hls : ls ≤ maxLen) (hlt : lt ≤ maxLen) (H : Hid (AnyLine w sa ta ls lt s t)) (K : Hid KnownOk) (hq : ¬ (ls ≤ 13 ∧ lt ≤ 10)) :
    Calls Tryz.prog 5 #[.agg #[.slice sa ls cs, .slice ta lt ct], .int .i64 at', .int .i64 dg] w
      fun e w' => e = .returned (.bool true) ∧ Below w.heap.size w w' := by
  have hsh : decide (ls ≤ 13 ∧ lt ≤ 10) = false := decide_eq_false hq
  have BX := Lib.hid (fun (w1 : World) (hb : Below (w.alloc (.cells #[.slice sa ls cs, .slice ta lt ct] 25)).heap.size (w.alloc (.cells #[.slice sa ls cs, .slice ta lt ct] 25)) w1) => box_cells hb)
  have HN : Hid (∀ w1, Below (w.alloc (.cells #[.slice sa ls cs, .slice ta lt ct] 25)).heap.size (w.alloc (.cells #[.slice sa ls cs, .slice ta lt ct] 25)) w1 → Hid (AnyLine w1 sa ta ls lt s t)) := Lib.hid fun w1 h => Lib.hid (H.out.below (below_al h))
  have hb : Below (w.alloc (.cells #[.slice sa ls cs, .slice ta lt ct] 25)).heap.size (w.alloc (.cells #[.slice sa ls cs, .slice ta lt ct] 25)) (w.alloc (.cells #[.slice sa ls cs, .slice ta lt ct] 25)) := Below.refl _ _
  obtain ⟨x1, x2, x3⟩ := BX.out _ hb
  clear H
  go_enter Tryz.func5, Tryz.ntmps5
  go_wp2_with (first
    | (go_at_call 6; refine (short_w _ _ _ _ _ _ _ hls hlt).mono ?_; rw [hsh]; rintro e wl ⟨rfl, hv⟩; replace hb := hb.trans (hv.mono hb.size); clear x1 x2 x3; obtain ⟨x1, x2, x3⟩ := BX.out _ hb)
    | (go_at_call 7; refine (K.out _).mono ?_; rintro e wl ⟨rfl, hv⟩; replace hb := hb.trans (hv.mono hb.size); clear x1 x2 x3; obtain ⟨x1, x2, x3⟩ := BX.out _ hb)    )
  go_ret
  exact ⟨rfl, below_al hb⟩

set_option maxRecDepth 100000 in
set_option maxHeartbeats 2000000 in
theorem lawsp_c (sa ta : Option Addr) (ls cs lt ct : Nat) (s : Nat → Int) (t : Nat → St5) (at' dg : Int) (w : World) (hls : ls ≤ 1000000) (hlt : lt ≤ 1000000) (H : Hid (AnyLine w sa ta ls lt s t)) (K : Hid KnownOk) (hq : ls ≤ 13 ∧ lt ≤ 10) (HR : Hid (¬ RightP ls lt s t)) :
    Calls Tryz.prog 5 #[.agg #[.slice sa ls cs, .slice ta lt ct], .int .i64 at', .int .i64 dg] w
      fun e w' => e = .returned (.bool true) ∧ Below w.heap.size w w' := by
  have hsh : decide (ls ≤ 13 ∧ lt ≤ 10) = true := decide_eq_true hq
  have BX := Lib.hid (fun (w1 : World) (hb : Below (w.alloc (.cells #[.slice sa ls cs, .slice ta lt ct] 25)).heap.size (w.alloc (.cells #[.slice sa ls cs, .slice ta lt ct] 25)) w1) => box_cells hb)
  have HN : Hid (∀ w1, Below (w.alloc (.cells #[.slice sa ls cs, .slice ta lt ct] 25)).heap.size (w.alloc (.cells #[.slice sa ls cs, .slice ta lt ct] 25)) w1 → Hid (AnyLine w1 sa ta ls lt s t)) := Lib.hid fun w1 h => Lib.hid (H.out.below (below_al h))
  have hb : Below (w.alloc (.cells #[.slice sa ls cs, .slice ta lt ct] 25)).heap.size (w.alloc (.cells #[.slice sa ls cs, .slice ta lt ct] 25)) (w.alloc (.cells #[.slice sa ls cs, .slice ta lt ct] 25)) := Below.refl _ _
  obtain ⟨x1, x2, x3⟩ := BX.out _ hb
  clear H
  go_enter Tryz.func5, Tryz.ntmps5
  go_wp2_with (first
    | (go_at_call 6; refine (short_w _ _ _ _ _ _ _ (by unfold maxLen; omega) (by unfold maxLen; omega)).mono ?_; rw [hsh]; rintro e wl ⟨rfl, hv⟩; replace hb := hb.trans (hv.mono hb.size); clear x1 x2 x3; obtain ⟨x1, x2, x3⟩ := BX.out _ hb)
    | (go_at_call 10; refine (right_w _ _ _ _ _ _ s t _ hls hlt (Lib.hid (HN.out _ hb).out.hs) (Lib.hid (HN.out _ hb).out.ht)).mono ?_; rintro e wl ⟨⟨rb, rfl, hrb⟩, hv⟩; obtain rfl : rb = false := (by cases rb <;> first | rfl | exact (HR.out (hrb.1 rfl)).elim); clear hrb; replace hb := hb.trans (hv.mono hb.size); clear x1 x2 x3; obtain ⟨x1, x2, x3⟩ := BX.out _ hb)
    | (go_at_call 7; refine (K.out _).mono ?_; rintro e wl ⟨rfl, hv⟩; replace hb := hb.trans (hv.mono hb.size); clear x1 x2 x3; obtain ⟨x1, x2, x3⟩ := BX.out _ hb)    )
  go_ret
  exact ⟨rfl, below_al hb⟩

set_option maxRecDepth 100000 in
set_option maxHeartbeats 2000000 in
theorem lawsp_d1 (sa ta : Option Addr) (ls cs lt ct : Nat) (s : Nat → Int) (t : Nat → St5) (at' dg : Int) (w : World) (hls : ls ≤ 1000000) (hlt : lt ≤ 1000000) (H : Hid (AnyLine w sa ta ls lt s t)) (K : Hid KnownOk) (hq : ls ≤ 13 ∧ lt ≤ 10) (HR : Hid (RightP ls lt s t)) (hd : dg < 0) :
    Calls Tryz.prog 5 #[.agg #[.slice sa ls cs, .slice ta lt ct], .int .i64 at', .int .i64 dg] w
      fun e w' => e = .returned (.bool true) ∧ Below w.heap.size w w' := by
  have hsh : decide (ls ≤ 13 ∧ lt ≤ 10) = true := decide_eq_true hq
  have hd1 : decide (dg < 0) = true := decide_eq_true hd
  have BX := Lib.hid (fun (w1 : World) (hb : Below (w.alloc (.cells #[.slice sa ls cs, .slice ta lt ct] 25)).heap.size (w.alloc (.cells #[.slice sa ls cs, .slice ta lt ct] 25)) w1) => box_cells hb)
  have HN : Hid (∀ w1, Below (w.alloc (.cells #[.slice sa ls cs, .slice ta lt ct] 25)).heap.size (w.alloc (.cells #[.slice sa ls cs, .slice ta lt ct] 25)) w1 → Hid (AnyLine w1 sa ta ls lt s t)) := Lib.hid fun w1 h => Lib.hid (H.out.below (below_al h))
  have hb : Below (w.alloc (.cells #[.slice sa ls cs, .slice ta lt ct] 25)).heap.size (w.alloc (.cells #[.slice sa ls cs, .slice ta lt ct] 25)) (w.alloc (.cells #[.slice sa ls cs, .slice ta lt ct] 25)) := Below.refl _ _
  obtain ⟨x1, x2, x3⟩ := BX.out _ hb
  clear H
  go_enter Tryz.func5, Tryz.ntmps5
  go_wp2_with (first
    | (go_at_call 6; refine (short_w _ _ _ _ _ _ _ (by unfold maxLen; omega) (by unfold maxLen; omega)).mono ?_; rw [hsh]; rintro e wl ⟨rfl, hv⟩; replace hb := hb.trans (hv.mono hb.size); clear x1 x2 x3; obtain ⟨x1, x2, x3⟩ := BX.out _ hb)
    | (go_at_call 10; refine (right_w _ _ _ _ _ _ s t _ hls hlt (Lib.hid (HN.out _ hb).out.hs) (Lib.hid (HN.out _ hb).out.ht)).mono ?_; rintro e wl ⟨⟨rb, rfl, hrb⟩, hv⟩; obtain rfl : rb = true := hrb.2 HR.out; clear hrb; replace hb := hb.trans (hv.mono hb.size); clear x1 x2 x3; obtain ⟨x1, x2, x3⟩ := BX.out _ hb)
    | (go_at_call 7; refine (K.out _).mono ?_; rintro e wl ⟨rfl, hv⟩; replace hb := hb.trans (hv.mono hb.size); clear x1 x2 x3; obtain ⟨x1, x2, x3⟩ := BX.out _ hb)    )
  go_ret
  exact ⟨rfl, below_al hb⟩

set_option maxRecDepth 100000 in
set_option maxHeartbeats 2000000 in
theorem lawsp_d2 (sa ta : Option Addr) (ls cs lt ct : Nat) (s : Nat → Int) (t : Nat → St5) (at' dg : Int) (w : World) (hls : ls ≤ 1000000) (hlt : lt ≤ 1000000) (H : Hid (AnyLine w sa ta ls lt s t)) (K : Hid KnownOk) (hq : ls ≤ 13 ∧ lt ≤ 10) (HR : Hid (RightP ls lt s t)) (hd : ¬ dg < 0) (hd2 : 9 < dg) :
    Calls Tryz.prog 5 #[.agg #[.slice sa ls cs, .slice ta lt ct], .int .i64 at', .int .i64 dg] w
      fun e w' => e = .returned (.bool true) ∧ Below w.heap.size w w' := by
  have hsh : decide (ls ≤ 13 ∧ lt ≤ 10) = true := decide_eq_true hq
  have hd1 : decide (dg < 0) = false := decide_eq_false hd
  have hd3 : decide (9 < dg) = true := decide_eq_true hd2
  have BX := Lib.hid (fun (w1 : World) (hb : Below (w.alloc (.cells #[.slice sa ls cs, .slice ta lt ct] 25)).heap.size (w.alloc (.cells #[.slice sa ls cs, .slice ta lt ct] 25)) w1) => box_cells hb)
  have HN : Hid (∀ w1, Below (w.alloc (.cells #[.slice sa ls cs, .slice ta lt ct] 25)).heap.size (w.alloc (.cells #[.slice sa ls cs, .slice ta lt ct] 25)) w1 → Hid (AnyLine w1 sa ta ls lt s t)) := Lib.hid fun w1 h => Lib.hid (H.out.below (below_al h))
  have hb : Below (w.alloc (.cells #[.slice sa ls cs, .slice ta lt ct] 25)).heap.size (w.alloc (.cells #[.slice sa ls cs, .slice ta lt ct] 25)) (w.alloc (.cells #[.slice sa ls cs, .slice ta lt ct] 25)) := Below.refl _ _
  obtain ⟨x1, x2, x3⟩ := BX.out _ hb
  clear H
  go_enter Tryz.func5, Tryz.ntmps5
  go_wp2_with (first
    | (go_at_call 6; refine (short_w _ _ _ _ _ _ _ (by unfold maxLen; omega) (by unfold maxLen; omega)).mono ?_; rw [hsh]; rintro e wl ⟨rfl, hv⟩; replace hb := hb.trans (hv.mono hb.size); clear x1 x2 x3; obtain ⟨x1, x2, x3⟩ := BX.out _ hb)
    | (go_at_call 10; refine (right_w _ _ _ _ _ _ s t _ hls hlt (Lib.hid (HN.out _ hb).out.hs) (Lib.hid (HN.out _ hb).out.ht)).mono ?_; rintro e wl ⟨⟨rb, rfl, hrb⟩, hv⟩; obtain rfl : rb = true := hrb.2 HR.out; clear hrb; replace hb := hb.trans (hv.mono hb.size); clear x1 x2 x3; obtain ⟨x1, x2, x3⟩ := BX.out _ hb)
    | (go_at_call 7; refine (K.out _).mono ?_; rintro e wl ⟨rfl, hv⟩; replace hb := hb.trans (hv.mono hb.size); clear x1 x2 x3; obtain ⟨x1, x2, x3⟩ := BX.out _ hb)    )
  go_ret
  exact ⟨rfl, below_al hb⟩

set_option maxRecDepth 100000 in
set_option maxHeartbeats 4000000 in
theorem lawsp_e1 (A O C P ls cs lt ct : Nat) (s : Nat → Int) (t : Nat → St5) (at' dg : Int) (w : World) (H : Hid (LineAt w A O C P ls lt s t)) (K : Hid KnownOk) (hp : Hid (Pow w)) (hm : Hid (ML w)) (hd : 0 ≤ dg ∧ dg ≤ 9) (ha : at' < 0) :
    Calls Tryz.prog 5 #[.agg #[.slice (some ⟨A, O, none⟩) ls cs, .slice (some ⟨C, P, none⟩) lt ct], .int .i64 at', .int .i64 dg] w
      fun e w' => e = .returned (.bool true) ∧ Below w.heap.size w w' := by
  have BX := Lib.hid (fun (w1 : World) (hb : Below (w.alloc (.cells #[.slice (some ⟨A, O, none⟩) ls cs, .slice (some ⟨C, P, none⟩) lt ct] 25)).heap.size (w.alloc (.cells #[.slice (some ⟨A, O, none⟩) ls cs, .slice (some ⟨C, P, none⟩) lt ct] 25)) w1) => box_cells hb)
  have HL : Hid (∀ w1, Below (w.alloc (.cells #[.slice (some ⟨A, O, none⟩) ls cs, .slice (some ⟨C, P, none⟩) lt ct] 25)).heap.size (w.alloc (.cells #[.slice (some ⟨A, O, none⟩) ls cs, .slice (some ⟨C, P, none⟩) lt ct] 25)) w1 → LineAt w1 A O C P ls lt s t ∧ Pow w1 ∧ ML w1) := Lib.hid fun w1 h => ⟨H.out.below (below_al h), hp.out.on (below_al h), hm.out.on (below_al h)⟩
  have HN : Hid (∀ w1, Below (w.alloc (.cells #[.slice (some ⟨A, O, none⟩) ls cs, .slice (some ⟨C, P, none⟩) lt ct] 25)).heap.size (w.alloc (.cells #[.slice (some ⟨A, O, none⟩) ls cs, .slice (some ⟨C, P, none⟩) lt ct] 25)) w1 → Hid (AnyLine w1 (some ⟨A, O, none⟩) (some ⟨C, P, none⟩) ls lt s t)) := Lib.hid fun w1 h => Lib.hid ⟨.inr ⟨A, O, rfl, (HL.out w1 h).1.hA, (HL.out w1 h).1.sp⟩, .inr ⟨C, P, rfl, (HL.out w1 h).1.hC, (HL.out w1 h).1.st⟩⟩
  have HR : Hid (RightP ls lt s t) := Lib.hid ⟨H.out.ls1, H.out.ls2, H.out.lt1, H.out.lt2, H.out.sok, H.out.tok⟩
  have q0 := H.out.ls2
  have q2 := H.out.lt2
  have hls : ls ≤ 1000000 := by omega
  have hlt : lt ≤ 1000000 := by omega
  have hsh : decide (ls ≤ 13 ∧ lt ≤ 10) = true := decide_eq_true ⟨by omega, by omega⟩
  have htl := text_len H.out
  have hdl : ¬ dg < 0 := by omega
  have hdg : ¬ 9 < dg := by omega
  have hb : Below (w.alloc (.cells #[.slice (some ⟨A, O, none⟩) ls cs, .slice (some ⟨C, P, none⟩) lt ct] 25)).heap.size (w.alloc (.cells #[.slice (some ⟨A, O, none⟩) ls cs, .slice (some ⟨C, P, none⟩) lt ct] 25)) (w.alloc (.cells #[.slice (some ⟨A, O, none⟩) ls cs, .slice (some ⟨C, P, none⟩) lt ct] 25)) := Below.refl _ _
  obtain ⟨x1, x2, x3⟩ := BX.out _ hb
  have HPR : Hid (∀ w1, Below (w.alloc (.cells #[.slice (some ⟨A, O, none⟩) ls cs, .slice (some ⟨C, P, none⟩) lt ct] 25)).heap.size (w.alloc (.cells #[.slice (some ⟨A, O, none⟩) ls cs, .slice (some ⟨C, P, none⟩) lt ct] 25)) w1 → Calls Tryz.prog 14 #[.agg #[.slice (some ⟨A, O, none⟩) ls cs, .slice (some ⟨C, P, none⟩) lt ct]] w1 fun e w' => e = .returned (.tuple #[.string (bs (textL (rowsL ls s t lt))), .int .i64 0]) ∧ Below w1.heap.size w1 w') := Lib.hid fun w1 h => print_w A O C P ls cs lt ct s t w1 (Lib.hid (HL.out _ h).1) (Lib.hid (HL.out _ h).2.1) (Lib.hid (by omega))
  obtain ⟨TX, hTX⟩ : ∃ TX, textL (rowsL ls s t lt) = TX := ⟨_, rfl⟩
  rw [hTX] at HPR htl
  have HTX := Lib.hid hTX
  clear hTX
  have hbz : (bs TX).size = TX.length := bs_size TX
  have ha1 : decide (at' < 0) = true := decide_eq_true ha
  go_enter Tryz.func5, Tryz.ntmps5
  go_wp2_with (first
    | (go_at_call 6; refine (short_w _ _ _ _ _ _ _ (by unfold maxLen; omega) (by unfold maxLen; omega)).mono ?_; rw [hsh]; rintro e wl ⟨rfl, hv⟩; replace hb := hb.trans (hv.mono hb.size); clear x1 x2 x3; obtain ⟨x1, x2, x3⟩ := BX.out _ hb)
    | (go_at_call 10; refine (right_w _ _ _ _ _ _ s t _ hls hlt (Lib.hid (HN.out _ hb).out.hs) (Lib.hid (HN.out _ hb).out.ht)).mono ?_; rintro e wl ⟨⟨rb, rfl, hrb⟩, hv⟩; obtain rfl : rb = true := hrb.2 HR.out; clear hrb; replace hb := hb.trans (hv.mono hb.size); clear x1 x2 x3; obtain ⟨x1, x2, x3⟩ := BX.out _ hb)
    | (go_at_call 14; refine (HPR.out _ hb).mono ?_; rintro e wl ⟨rfl, hv⟩; replace hb := hb.trans (hv.mono hb.size); clear x1 x2 x3; obtain ⟨x1, x2, x3⟩ := BX.out _ hb)
    | (go_at_call 7; refine (K.out _).mono ?_; rintro e wl ⟨rfl, hv⟩; replace hb := hb.trans (hv.mono hb.size); clear x1 x2 x3; obtain ⟨x1, x2, x3⟩ := BX.out _ hb))
  go_ret
  exact ⟨rfl, below_al hb⟩

set_option maxRecDepth 100000 in
set_option maxHeartbeats 4000000 in
theorem lawsp_e2 (A O C P ls cs lt ct : Nat) (s : Nat → Int) (t : Nat → St5) (at' dg : Int) (w : World) (H : Hid (LineAt w A O C P ls lt s t)) (K : Hid KnownOk) (hp : Hid (Pow w)) (hm : Hid (ML w)) (hd : 0 ≤ dg ∧ dg ≤ 9) (ha : ¬ at' < 0) (ha2 : ((textL (rowsL ls s t lt)).length : Int) ≤ at') :
    Calls Tryz.prog 5 #[.agg #[.slice (some ⟨A, O, none⟩) ls cs, .slice (some ⟨C, P, none⟩) lt ct], .int .i64 at', .int .i64 dg] w
      fun e w' => e = .returned (.bool true) ∧ Below w.heap.size w w' := by
  have BX := Lib.hid (fun (w1 : World) (hb : Below (w.alloc (.cells #[.slice (some ⟨A, O, none⟩) ls cs, .slice (some ⟨C, P, none⟩) lt ct] 25)).heap.size (w.alloc (.cells #[.slice (some ⟨A, O, none⟩) ls cs, .slice (some ⟨C, P, none⟩) lt ct] 25)) w1) => box_cells hb)
  have HL : Hid (∀ w1, Below (w.alloc (.cells #[.slice (some ⟨A, O, none⟩) ls cs, .slice (some ⟨C, P, none⟩) lt ct] 25)).heap.size (w.alloc (.cells #[.slice (some ⟨A, O, none⟩) ls cs, .slice (some ⟨C, P, none⟩) lt ct] 25)) w1 → LineAt w1 A O C P ls lt s t ∧ Pow w1 ∧ ML w1) := Lib.hid fun w1 h => ⟨H.out.below (below_al h), hp.out.on (below_al h), hm.out.on (below_al h)⟩
  have HN : Hid (∀ w1, Below (w.alloc (.cells #[.slice (some ⟨A, O, none⟩) ls cs, .slice (some ⟨C, P, none⟩) lt ct] 25)).heap.size (w.alloc (.cells #[.slice (some ⟨A, O, none⟩) ls cs, .slice (some ⟨C, P, none⟩) lt ct] 25)) w1 → Hid (AnyLine w1 (some ⟨A, O, none⟩) (some ⟨C, P, none⟩) ls lt s t)) := Lib.hid fun w1 h => Lib.hid ⟨.inr ⟨A, O, rfl, (HL.out w1 h).1.hA, (HL.out w1 h).1.sp⟩, .inr ⟨C, P, rfl, (HL.out w1 h).1.hC, (HL.out w1 h).1.st⟩⟩
  have HR : Hid (RightP ls lt s t) := Lib.hid ⟨H.out.ls1, H.out.ls2, H.out.lt1, H.out.lt2, H.out.sok, H.out.tok⟩
  have q0 := H.out.ls2
  have q2 := H.out.lt2
  have hls : ls ≤ 1000000 := by omega
  have hlt : lt ≤ 1000000 := by omega
  have hsh : decide (ls ≤ 13 ∧ lt ≤ 10) = true := decide_eq_true ⟨by omega, by omega⟩
  have htl := text_len H.out
  have hdl : ¬ dg < 0 := by omega
  have hdg : ¬ 9 < dg := by omega
  have hb : Below (w.alloc (.cells #[.slice (some ⟨A, O, none⟩) ls cs, .slice (some ⟨C, P, none⟩) lt ct] 25)).heap.size (w.alloc (.cells #[.slice (some ⟨A, O, none⟩) ls cs, .slice (some ⟨C, P, none⟩) lt ct] 25)) (w.alloc (.cells #[.slice (some ⟨A, O, none⟩) ls cs, .slice (some ⟨C, P, none⟩) lt ct] 25)) := Below.refl _ _
  obtain ⟨x1, x2, x3⟩ := BX.out _ hb
  have HPR : Hid (∀ w1, Below (w.alloc (.cells #[.slice (some ⟨A, O, none⟩) ls cs, .slice (some ⟨C, P, none⟩) lt ct] 25)).heap.size (w.alloc (.cells #[.slice (some ⟨A, O, none⟩) ls cs, .slice (some ⟨C, P, none⟩) lt ct] 25)) w1 → Calls Tryz.prog 14 #[.agg #[.slice (some ⟨A, O, none⟩) ls cs, .slice (some ⟨C, P, none⟩) lt ct]] w1 fun e w' => e = .returned (.tuple #[.string (bs (textL (rowsL ls s t lt))), .int .i64 0]) ∧ Below w1.heap.size w1 w') := Lib.hid fun w1 h => print_w A O C P ls cs lt ct s t w1 (Lib.hid (HL.out _ h).1) (Lib.hid (HL.out _ h).2.1) (Lib.hid (by omega))
  obtain ⟨TX, hTX⟩ : ∃ TX, textL (rowsL ls s t lt) = TX := ⟨_, rfl⟩
  rw [hTX] at HPR htl
  have HTX := Lib.hid hTX
  clear hTX
  have hbz : (bs TX).size = TX.length := bs_size TX
  rw [HTX.out] at ha2
  have ha1 : decide (at' < 0) = false := decide_eq_false ha
  have ha3 : decide ((TX.length : Int) ≤ at') = true := decide_eq_true ha2
  go_enter Tryz.func5, Tryz.ntmps5
  go_wp2_with (first
    | (go_at_call 6; refine (short_w _ _ _ _ _ _ _ (by unfold maxLen; omega) (by unfold maxLen; omega)).mono ?_; rw [hsh]; rintro e wl ⟨rfl, hv⟩; replace hb := hb.trans (hv.mono hb.size); clear x1 x2 x3; obtain ⟨x1, x2, x3⟩ := BX.out _ hb)
    | (go_at_call 10; refine (right_w _ _ _ _ _ _ s t _ hls hlt (Lib.hid (HN.out _ hb).out.hs) (Lib.hid (HN.out _ hb).out.ht)).mono ?_; rintro e wl ⟨⟨rb, rfl, hrb⟩, hv⟩; obtain rfl : rb = true := hrb.2 HR.out; clear hrb; replace hb := hb.trans (hv.mono hb.size); clear x1 x2 x3; obtain ⟨x1, x2, x3⟩ := BX.out _ hb)
    | (go_at_call 14; refine (HPR.out _ hb).mono ?_; rintro e wl ⟨rfl, hv⟩; replace hb := hb.trans (hv.mono hb.size); clear x1 x2 x3; obtain ⟨x1, x2, x3⟩ := BX.out _ hb)
    | (go_at_call 7; refine (K.out _).mono ?_; rintro e wl ⟨rfl, hv⟩; replace hb := hb.trans (hv.mono hb.size); clear x1 x2 x3; obtain ⟨x1, x2, x3⟩ := BX.out _ hb))
  go_ret
  exact ⟨rfl, below_al hb⟩

set_option maxRecDepth 100000 in
set_option maxHeartbeats 4000000 in
theorem lawsp_e3 (A O C P ls cs lt ct : Nat) (s : Nat → Int) (t : Nat → St5) (at' dg : Int) (w : World) (H : Hid (LineAt w A O C P ls lt s t)) (K : Hid KnownOk) (hp : Hid (Pow w)) (hm : Hid (ML w)) (hd : 0 ≤ dg ∧ dg ≤ 9) (p : Nat) (c : UInt8) (hat : at' = (p : Int)) (hpc : (textL (rowsL ls s t lt))[p]? = some c) (hc : c.toNat < 48) :
    Calls Tryz.prog 5 #[.agg #[.slice (some ⟨A, O, none⟩) ls cs, .slice (some ⟨C, P, none⟩) lt ct], .int .i64 at', .int .i64 dg] w
      fun e w' => e = .returned (.bool true) ∧ Below w.heap.size w w' := by
  have BX := Lib.hid (fun (w1 : World) (hb : Below (w.alloc (.cells #[.slice (some ⟨A, O, none⟩) ls cs, .slice (some ⟨C, P, none⟩) lt ct] 25)).heap.size (w.alloc (.cells #[.slice (some ⟨A, O, none⟩) ls cs, .slice (some ⟨C, P, none⟩) lt ct] 25)) w1) => box_cells hb)
  have HL : Hid (∀ w1, Below (w.alloc (.cells #[.slice (some ⟨A, O, none⟩) ls cs, .slice (some ⟨C, P, none⟩) lt ct] 25)).heap.size (w.alloc (.cells #[.slice (some ⟨A, O, none⟩) ls cs, .slice (some ⟨C, P, none⟩) lt ct] 25)) w1 → LineAt w1 A O C P ls lt s t ∧ Pow w1 ∧ ML w1) := Lib.hid fun w1 h => ⟨H.out.below (below_al h), hp.out.on (below_al h), hm.out.on (below_al h)⟩
  have HN : Hid (∀ w1, Below (w.alloc (.cells #[.slice (some ⟨A, O, none⟩) ls cs, .slice (some ⟨C, P, none⟩) lt ct] 25)).heap.size (w.alloc (.cells #[.slice (some ⟨A, O, none⟩) ls cs, .slice (some ⟨C, P, none⟩) lt ct] 25)) w1 → Hid (AnyLine w1 (some ⟨A, O, none⟩) (some ⟨C, P, none⟩) ls lt s t)) := Lib.hid fun w1 h => Lib.hid ⟨.inr ⟨A, O, rfl, (HL.out w1 h).1.hA, (HL.out w1 h).1.sp⟩, .inr ⟨C, P, rfl, (HL.out w1 h).1.hC, (HL.out w1 h).1.st⟩⟩
  have HR : Hid (RightP ls lt s t) := Lib.hid ⟨H.out.ls1, H.out.ls2, H.out.lt1, H.out.lt2, H.out.sok, H.out.tok⟩
  have q0 := H.out.ls2
  have q2 := H.out.lt2
  have hls : ls ≤ 1000000 := by omega
  have hlt : lt ≤ 1000000 := by omega
  have hsh : decide (ls ≤ 13 ∧ lt ≤ 10) = true := decide_eq_true ⟨by omega, by omega⟩
  have htl := text_len H.out
  have hdl : ¬ dg < 0 := by omega
  have hdg : ¬ 9 < dg := by omega
  have hb : Below (w.alloc (.cells #[.slice (some ⟨A, O, none⟩) ls cs, .slice (some ⟨C, P, none⟩) lt ct] 25)).heap.size (w.alloc (.cells #[.slice (some ⟨A, O, none⟩) ls cs, .slice (some ⟨C, P, none⟩) lt ct] 25)) (w.alloc (.cells #[.slice (some ⟨A, O, none⟩) ls cs, .slice (some ⟨C, P, none⟩) lt ct] 25)) := Below.refl _ _
  obtain ⟨x1, x2, x3⟩ := BX.out _ hb
  have HPR : Hid (∀ w1, Below (w.alloc (.cells #[.slice (some ⟨A, O, none⟩) ls cs, .slice (some ⟨C, P, none⟩) lt ct] 25)).heap.size (w.alloc (.cells #[.slice (some ⟨A, O, none⟩) ls cs, .slice (some ⟨C, P, none⟩) lt ct] 25)) w1 → Calls Tryz.prog 14 #[.agg #[.slice (some ⟨A, O, none⟩) ls cs, .slice (some ⟨C, P, none⟩) lt ct]] w1 fun e w' => e = .returned (.tuple #[.string (bs (textL (rowsL ls s t lt))), .int .i64 0]) ∧ Below w1.heap.size w1 w') := Lib.hid fun w1 h => print_w A O C P ls cs lt ct s t w1 (Lib.hid (HL.out _ h).1) (Lib.hid (HL.out _ h).2.1) (Lib.hid (by omega))
  obtain ⟨TX, hTX⟩ : ∃ TX, textL (rowsL ls s t lt) = TX := ⟨_, rfl⟩
  rw [hTX] at HPR htl
  have HTX := Lib.hid hTX
  clear hTX
  have hbz : (bs TX).size = TX.length := bs_size TX
  subst hat
  rw [HTX.out] at hpc
  have hpl : p < TX.length := (List.getElem?_eq_some_iff.1 hpc).1
  have hby : ∀ h : p < (bs TX).size, (bs TX)[p]'h = c := fun h => by rw [bs_byte h]; simp [List.getD, hpc]
  have n0 : (0 : Int) ≤ (p : Int) := by omega
  have n1 : (p : Int) < (TX.length : Int) := by omega
  have n2 : ¬ (p : Int) < 0 := by omega
  have n3 : ¬ (TX.length : Int) ≤ (p : Int) := by omega
  have hc1 : (c.toNat : Int) < 48 := by omega
  have hc2 : decide ((c.toNat : Int) < 48) = true := decide_eq_true hc1
  go_enter Tryz.func5, Tryz.ntmps5
  go_wp2_with (first
    | (go_at_call 6; refine (short_w _ _ _ _ _ _ _ (by unfold maxLen; omega) (by unfold maxLen; omega)).mono ?_; rw [hsh]; rintro e wl ⟨rfl, hv⟩; replace hb := hb.trans (hv.mono hb.size); clear x1 x2 x3; obtain ⟨x1, x2, x3⟩ := BX.out _ hb)
    | (go_at_call 10; refine (right_w _ _ _ _ _ _ s t _ hls hlt (Lib.hid (HN.out _ hb).out.hs) (Lib.hid (HN.out _ hb).out.ht)).mono ?_; rintro e wl ⟨⟨rb, rfl, hrb⟩, hv⟩; obtain rfl : rb = true := hrb.2 HR.out; clear hrb; replace hb := hb.trans (hv.mono hb.size); clear x1 x2 x3; obtain ⟨x1, x2, x3⟩ := BX.out _ hb)
    | (go_at_call 14; refine (HPR.out _ hb).mono ?_; rintro e wl ⟨rfl, hv⟩; replace hb := hb.trans (hv.mono hb.size); clear x1 x2 x3; obtain ⟨x1, x2, x3⟩ := BX.out _ hb)
    | (go_at_call 7; refine (K.out _).mono ?_; rintro e wl ⟨rfl, hv⟩; replace hb := hb.trans (hv.mono hb.size); clear x1 x2 x3; obtain ⟨x1, x2, x3⟩ := BX.out _ hb))
  go_ret
  exact ⟨rfl, below_al hb⟩

set_option maxRecDepth 100000 in
set_option maxHeartbeats 4000000 in
theorem lawsp_e4 (A O C P ls cs lt ct : Nat) (s : Nat → Int) (t : Nat → St5) (at' dg : Int) (w : World) (H : Hid (LineAt w A O C P ls lt s t)) (K : Hid KnownOk) (hp : Hid (Pow w)) (hm : Hid (ML w)) (hd : 0 ≤ dg ∧ dg ≤ 9) (p : Nat) (c : UInt8) (hat : at' = (p : Int)) (hpc : (textL (rowsL ls s t lt))[p]? = some c) (hc : 57 < c.toNat) :
    Calls Tryz.prog 5 #[.agg #[.slice (some ⟨A, O, none⟩) ls cs, .slice (some ⟨C, P, none⟩) lt ct], .int .i64 at', .int .i64 dg] w
      fun e w' => e = .returned (.bool true) ∧ Below w.heap.size w w' := by
  have BX := Lib.hid (fun (w1 : World) (hb : Below (w.alloc (.cells #[.slice (some ⟨A, O, none⟩) ls cs, .slice (some ⟨C, P, none⟩) lt ct] 25)).heap.size (w.alloc (.cells #[.slice (some ⟨A, O, none⟩) ls cs, .slice (some ⟨C, P, none⟩) lt ct] 25)) w1) => box_cells hb)
  have HL : Hid (∀ w1, Below (w.alloc (.cells #[.slice (some ⟨A, O, none⟩) ls cs, .slice (some ⟨C, P, none⟩) lt ct] 25)).heap.size (w.alloc (.cells #[.slice (some ⟨A, O, none⟩) ls cs, .slice (some ⟨C, P, none⟩) lt ct] 25)) w1 → LineAt w1 A O C P ls lt s t ∧ Pow w1 ∧ ML w1) := Lib.hid fun w1 h => ⟨H.out.below (below_al h), hp.out.on (below_al h), hm.out.on (below_al h)⟩
  have HN : Hid (∀ w1, Below (w.alloc (.cells #[.slice (some ⟨A, O, none⟩) ls cs, .slice (some ⟨C, P, none⟩) lt ct] 25)).heap.size (w.alloc (.cells #[.slice (some ⟨A, O, none⟩) ls cs, .slice (some ⟨C, P, none⟩) lt ct] 25)) w1 → Hid (AnyLine w1 (some ⟨A, O, none⟩) (some ⟨C, P, none⟩) ls lt s t)) := Lib.hid fun w1 h => Lib.hid ⟨.inr ⟨A, O, rfl, (HL.out w1 h).1.hA, (HL.out w1 h).1.sp⟩, .inr ⟨C, P, rfl, (HL.out w1 h).1.hC, (HL.out w1 h).1.st⟩⟩
  have HR : Hid (RightP ls lt s t) := Lib.hid ⟨H.out.ls1, H.out.ls2, H.out.lt1, H.out.lt2, H.out.sok, H.out.tok⟩
  have q0 := H.out.ls2
  have q2 := H.out.lt2
  have hls : ls ≤ 1000000 := by omega
  have hlt : lt ≤ 1000000 := by omega
  have hsh : decide (ls ≤ 13 ∧ lt ≤ 10) = true := decide_eq_true ⟨by omega, by omega⟩
  have htl := text_len H.out
  have hdl : ¬ dg < 0 := by omega
  have hdg : ¬ 9 < dg := by omega
  have hb : Below (w.alloc (.cells #[.slice (some ⟨A, O, none⟩) ls cs, .slice (some ⟨C, P, none⟩) lt ct] 25)).heap.size (w.alloc (.cells #[.slice (some ⟨A, O, none⟩) ls cs, .slice (some ⟨C, P, none⟩) lt ct] 25)) (w.alloc (.cells #[.slice (some ⟨A, O, none⟩) ls cs, .slice (some ⟨C, P, none⟩) lt ct] 25)) := Below.refl _ _
  obtain ⟨x1, x2, x3⟩ := BX.out _ hb
  have HPR : Hid (∀ w1, Below (w.alloc (.cells #[.slice (some ⟨A, O, none⟩) ls cs, .slice (some ⟨C, P, none⟩) lt ct] 25)).heap.size (w.alloc (.cells #[.slice (some ⟨A, O, none⟩) ls cs, .slice (some ⟨C, P, none⟩) lt ct] 25)) w1 → Calls Tryz.prog 14 #[.agg #[.slice (some ⟨A, O, none⟩) ls cs, .slice (some ⟨C, P, none⟩) lt ct]] w1 fun e w' => e = .returned (.tuple #[.string (bs (textL (rowsL ls s t lt))), .int .i64 0]) ∧ Below w1.heap.size w1 w') := Lib.hid fun w1 h => print_w A O C P ls cs lt ct s t w1 (Lib.hid (HL.out _ h).1) (Lib.hid (HL.out _ h).2.1) (Lib.hid (by omega))
  obtain ⟨TX, hTX⟩ : ∃ TX, textL (rowsL ls s t lt) = TX := ⟨_, rfl⟩
  rw [hTX] at HPR htl
  have HTX := Lib.hid hTX
  clear hTX
  have hbz : (bs TX).size = TX.length := bs_size TX
  subst hat
  rw [HTX.out] at hpc
  have hpl : p < TX.length := (List.getElem?_eq_some_iff.1 hpc).1
  have hby : ∀ h : p < (bs TX).size, (bs TX)[p]'h = c := fun h => by rw [bs_byte h]; simp [List.getD, hpc]
  have n0 : (0 : Int) ≤ (p : Int) := by omega
  have n1 : (p : Int) < (TX.length : Int) := by omega
  have n2 : ¬ (p : Int) < 0 := by omega
  have n3 : ¬ (TX.length : Int) ≤ (p : Int) := by omega
  have hc0 : ¬ (c.toNat : Int) < 48 := by omega
  have hc1 : (57 : Int) < (c.toNat : Int) := by omega
  have hc2 : decide ((57 : Int) < (c.toNat : Int)) = true := decide_eq_true hc1
  go_enter Tryz.func5, Tryz.ntmps5
  go_wp2_with (first
    | (go_at_call 6; refine (short_w _ _ _ _ _ _ _ (by unfold maxLen; omega) (by unfold maxLen; omega)).mono ?_; rw [hsh]; rintro e wl ⟨rfl, hv⟩; replace hb := hb.trans (hv.mono hb.size); clear x1 x2 x3; obtain ⟨x1, x2, x3⟩ := BX.out _ hb)
    | (go_at_call 10; refine (right_w _ _ _ _ _ _ s t _ hls hlt (Lib.hid (HN.out _ hb).out.hs) (Lib.hid (HN.out _ hb).out.ht)).mono ?_; rintro e wl ⟨⟨rb, rfl, hrb⟩, hv⟩; obtain rfl : rb = true := hrb.2 HR.out; clear hrb; replace hb := hb.trans (hv.mono hb.size); clear x1 x2 x3; obtain ⟨x1, x2, x3⟩ := BX.out _ hb)
    | (go_at_call 14; refine (HPR.out _ hb).mono ?_; rintro e wl ⟨rfl, hv⟩; replace hb := hb.trans (hv.mono hb.size); clear x1 x2 x3; obtain ⟨x1, x2, x3⟩ := BX.out _ hb)
    | (go_at_call 7; refine (K.out _).mono ?_; rintro e wl ⟨rfl, hv⟩; replace hb := hb.trans (hv.mono hb.size); clear x1 x2 x3; obtain ⟨x1, x2, x3⟩ := BX.out _ hb))
  go_ret
  exact ⟨rfl, below_al hb⟩

set_option maxRecDepth 100000 in
set_option maxHeartbeats 4000000 in
theorem lawsp_e5 (A O C P ls cs lt ct : Nat) (s : Nat → Int) (t : Nat → St5) (at' dg : Int) (w : World) (H : Hid (LineAt w A O C P ls lt s t)) (K : Hid KnownOk) (hp : Hid (Pow w)) (hm : Hid (ML w)) (hd : 0 ≤ dg ∧ dg ≤ 9) (p : Nat) (c : UInt8) (hat : at' = (p : Int)) (hpc : (textL (rowsL ls s t lt))[p]? = some c) (hc : 48 ≤ c.toNat ∧ c.toNat ≤ 57) (hcd : Hid ((c.toNat : Int) = 48 + dg)) :
    Calls Tryz.prog 5 #[.agg #[.slice (some ⟨A, O, none⟩) ls cs, .slice (some ⟨C, P, none⟩) lt ct], .int .i64 at', .int .i64 dg] w
      fun e w' => e = .returned (.bool true) ∧ Below w.heap.size w w' := by
  have BX := Lib.hid (fun (w1 : World) (hb : Below (w.alloc (.cells #[.slice (some ⟨A, O, none⟩) ls cs, .slice (some ⟨C, P, none⟩) lt ct] 25)).heap.size (w.alloc (.cells #[.slice (some ⟨A, O, none⟩) ls cs, .slice (some ⟨C, P, none⟩) lt ct] 25)) w1) => box_cells hb)
  have HL : Hid (∀ w1, Below (w.alloc (.cells #[.slice (some ⟨A, O, none⟩) ls cs, .slice (some ⟨C, P, none⟩) lt ct] 25)).heap.size (w.alloc (.cells #[.slice (some ⟨A, O, none⟩) ls cs, .slice (some ⟨C, P, none⟩) lt ct] 25)) w1 → LineAt w1 A O C P ls lt s t ∧ Pow w1 ∧ ML w1) := Lib.hid fun w1 h => ⟨H.out.below (below_al h), hp.out.on (below_al h), hm.out.on (below_al h)⟩
  have HN : Hid (∀ w1, Below (w.alloc (.cells #[.slice (some ⟨A, O, none⟩) ls cs, .slice (some ⟨C, P, none⟩) lt ct] 25)).heap.size (w.alloc (.cells #[.slice (some ⟨A, O, none⟩) ls cs, .slice (some ⟨C, P, none⟩) lt ct] 25)) w1 → Hid (AnyLine w1 (some ⟨A, O, none⟩) (some ⟨C, P, none⟩) ls lt s t)) := Lib.hid fun w1 h => Lib.hid ⟨.inr ⟨A, O, rfl, (HL.out w1 h).1.hA, (HL.out w1 h).1.sp⟩, .inr ⟨C, P, rfl, (HL.out w1 h).1.hC, (HL.out w1 h).1.st⟩⟩
  have HR : Hid (RightP ls lt s t) := Lib.hid ⟨H.out.ls1, H.out.ls2, H.out.lt1, H.out.lt2, H.out.sok, H.out.tok⟩
  have q0 := H.out.ls2
  have q2 := H.out.lt2
  have hls : ls ≤ 1000000 := by omega
  have hlt : lt ≤ 1000000 := by omega
  have hsh : decide (ls ≤ 13 ∧ lt ≤ 10) = true := decide_eq_true ⟨by omega, by omega⟩
  have htl := text_len H.out
  have hdl : ¬ dg < 0 := by omega
  have hdg : ¬ 9 < dg := by omega
  have hb : Below (w.alloc (.cells #[.slice (some ⟨A, O, none⟩) ls cs, .slice (some ⟨C, P, none⟩) lt ct] 25)).heap.size (w.alloc (.cells #[.slice (some ⟨A, O, none⟩) ls cs, .slice (some ⟨C, P, none⟩) lt ct] 25)) (w.alloc (.cells #[.slice (some ⟨A, O, none⟩) ls cs, .slice (some ⟨C, P, none⟩) lt ct] 25)) := Below.refl _ _
  obtain ⟨x1, x2, x3⟩ := BX.out _ hb
  have HPR : Hid (∀ w1, Below (w.alloc (.cells #[.slice (some ⟨A, O, none⟩) ls cs, .slice (some ⟨C, P, none⟩) lt ct] 25)).heap.size (w.alloc (.cells #[.slice (some ⟨A, O, none⟩) ls cs, .slice (some ⟨C, P, none⟩) lt ct] 25)) w1 → Calls Tryz.prog 14 #[.agg #[.slice (some ⟨A, O, none⟩) ls cs, .slice (some ⟨C, P, none⟩) lt ct]] w1 fun e w' => e = .returned (.tuple #[.string (bs (textL (rowsL ls s t lt))), .int .i64 0]) ∧ Below w1.heap.size w1 w') := Lib.hid fun w1 h => print_w A O C P ls cs lt ct s t w1 (Lib.hid (HL.out _ h).1) (Lib.hid (HL.out _ h).2.1) (Lib.hid (by omega))
  obtain ⟨TX, hTX⟩ : ∃ TX, textL (rowsL ls s t lt) = TX := ⟨_, rfl⟩
  rw [hTX] at HPR htl
  have HTX := Lib.hid hTX
  clear hTX
  have hbz : (bs TX).size = TX.length := bs_size TX
  subst hat
  rw [HTX.out] at hpc
  have hpl : p < TX.length := (List.getElem?_eq_some_iff.1 hpc).1
  have hby : ∀ h : p < (bs TX).size, (bs TX)[p]'h = c := fun h => by rw [bs_byte h]; simp [List.getD, hpc]
  have n0 : (0 : Int) ≤ (p : Int) := by omega
  have n1 : (p : Int) < (TX.length : Int) := by omega
  have n2 : ¬ (p : Int) < 0 := by omega
  have n3 : ¬ (TX.length : Int) ≤ (p : Int) := by omega
  have hc0 : ¬ (c.toNat : Int) < 48 := by omega
  have hc1 : ¬ (57 : Int) < (c.toNat : Int) := by omega
  have hce : ((c.toNat : Int) - 48 == dg) = true := by have := hcd.out; simp; omega
  go_enter Tryz.func5, Tryz.ntmps5
  go_wp2_with (first
    | (go_at_call 6; refine (short_w _ _ _ _ _ _ _ (by unfold maxLen; omega) (by unfold maxLen; omega)).mono ?_; rw [hsh]; rintro e wl ⟨rfl, hv⟩; replace hb := hb.trans (hv.mono hb.size); clear x1 x2 x3; obtain ⟨x1, x2, x3⟩ := BX.out _ hb)
    | (go_at_call 10; refine (right_w _ _ _ _ _ _ s t _ hls hlt (Lib.hid (HN.out _ hb).out.hs) (Lib.hid (HN.out _ hb).out.ht)).mono ?_; rintro e wl ⟨⟨rb, rfl, hrb⟩, hv⟩; obtain rfl : rb = true := hrb.2 HR.out; clear hrb; replace hb := hb.trans (hv.mono hb.size); clear x1 x2 x3; obtain ⟨x1, x2, x3⟩ := BX.out _ hb)
    | (go_at_call 14; refine (HPR.out _ hb).mono ?_; rintro e wl ⟨rfl, hv⟩; replace hb := hb.trans (hv.mono hb.size); clear x1 x2 x3; obtain ⟨x1, x2, x3⟩ := BX.out _ hb)
    | (go_at_call 7; refine (K.out _).mono ?_; rintro e wl ⟨rfl, hv⟩; replace hb := hb.trans (hv.mono hb.size); clear x1 x2 x3; obtain ⟨x1, x2, x3⟩ := BX.out _ hb))
  go_ret
  exact ⟨rfl, below_al hb⟩

set_option maxRecDepth 100000 in
set_option maxHeartbeats 4000000 in
theorem lawsp_f (A O C P ls cs lt ct : Nat) (s : Nat → Int) (t : Nat → St5) (at' dg : Int) (w : World) (H : Hid (LineAt w A O C P ls lt s t)) (K : Hid KnownOk) (hp : Hid (Pow w)) (hm : Hid (ML w)) (hd : 0 ≤ dg ∧ dg ≤ 9) (p : Nat) (c : UInt8) (hat : at' = (p : Int)) (hpc : (textL (rowsL ls s t lt))[p]? = some c) (hc : 48 ≤ c.toNat ∧ c.toNat ≤ 57) (hcd : Hid ((c.toNat : Int) ≠ 48 + dg)) :
    Calls Tryz.prog 5 #[.agg #[.slice (some ⟨A, O, none⟩) ls cs, .slice (some ⟨C, P, none⟩) lt ct], .int .i64 at', .int .i64 dg] w
      fun e w' => e = .returned (.bool true) ∧ Below w.heap.size w w' := by
  have BX := Lib.hid (fun (w1 : World) (hb : Below (w.alloc (.cells #[.slice (some ⟨A, O, none⟩) ls cs, .slice (some ⟨C, P, none⟩) lt ct] 25)).heap.size (w.alloc (.cells #[.slice (some ⟨A, O, none⟩) ls cs, .slice (some ⟨C, P, none⟩) lt ct] 25)) w1) => box_cells hb)
  have HL : Hid (∀ w1, Below (w.alloc (.cells #[.slice (some ⟨A, O, none⟩) ls cs, .slice (some ⟨C, P, none⟩) lt ct] 25)).heap.size (w.alloc (.cells #[.slice (some ⟨A, O, none⟩) ls cs, .slice (some ⟨C, P, none⟩) lt ct] 25)) w1 → LineAt w1 A O C P ls lt s t ∧ Pow w1 ∧ ML w1) := Lib.hid fun w1 h => ⟨H.out.below (below_al h), hp.out.on (below_al h), hm.out.on (below_al h)⟩
  have HN : Hid (∀ w1, Below (w.alloc (.cells #[.slice (some ⟨A, O, none⟩) ls cs, .slice (some ⟨C, P, none⟩) lt ct] 25)).heap.size (w.alloc (.cells #[.slice (some ⟨A, O, none⟩) ls cs, .slice (some ⟨C, P, none⟩) lt ct] 25)) w1 → Hid (AnyLine w1 (some ⟨A, O, none⟩) (some ⟨C, P, none⟩) ls lt s t)) := Lib.hid fun w1 h => Lib.hid ⟨.inr ⟨A, O, rfl, (HL.out w1 h).1.hA, (HL.out w1 h).1.sp⟩, .inr ⟨C, P, rfl, (HL.out w1 h).1.hC, (HL.out w1 h).1.st⟩⟩
  have HR : Hid (RightP ls lt s t) := Lib.hid ⟨H.out.ls1, H.out.ls2, H.out.lt1, H.out.lt2, H.out.sok, H.out.tok⟩
  have q0 := H.out.ls2
  have q2 := H.out.lt2
  have hls : ls ≤ 1000000 := by omega
  have hlt : lt ≤ 1000000 := by omega
  have hsh : decide (ls ≤ 13 ∧ lt ≤ 10) = true := decide_eq_true ⟨by omega, by omega⟩
  have htl := text_len H.out
  have hdl : ¬ dg < 0 := by omega
  have hdg : ¬ 9 < dg := by omega
  have hb : Below (w.alloc (.cells #[.slice (some ⟨A, O, none⟩) ls cs, .slice (some ⟨C, P, none⟩) lt ct] 25)).heap.size (w.alloc (.cells #[.slice (some ⟨A, O, none⟩) ls cs, .slice (some ⟨C, P, none⟩) lt ct] 25)) (w.alloc (.cells #[.slice (some ⟨A, O, none⟩) ls cs, .slice (some ⟨C, P, none⟩) lt ct] 25)) := Below.refl _ _
  obtain ⟨x1, x2, x3⟩ := BX.out _ hb
  have HPR : Hid (∀ w1, Below (w.alloc (.cells #[.slice (some ⟨A, O, none⟩) ls cs, .slice (some ⟨C, P, none⟩) lt ct] 25)).heap.size (w.alloc (.cells #[.slice (some ⟨A, O, none⟩) ls cs, .slice (some ⟨C, P, none⟩) lt ct] 25)) w1 → Calls Tryz.prog 14 #[.agg #[.slice (some ⟨A, O, none⟩) ls cs, .slice (some ⟨C, P, none⟩) lt ct]] w1 fun e w' => e = .returned (.tuple #[.string (bs (textL (rowsL ls s t lt))), .int .i64 0]) ∧ Below w1.heap.size w1 w') := Lib.hid fun w1 h => print_w A O C P ls cs lt ct s t w1 (Lib.hid (HL.out _ h).1) (Lib.hid (HL.out _ h).2.1) (Lib.hid (by omega))
  obtain ⟨TX, hTX⟩ : ∃ TX, textL (rowsL ls s t lt) = TX := ⟨_, rfl⟩
  rw [hTX] at HPR htl
  have HTX := Lib.hid hTX
  clear hTX
  have hbz : (bs TX).size = TX.length := bs_size TX
  subst hat
  rw [HTX.out] at hpc
  have hpl : p < TX.length := (List.getElem?_eq_some_iff.1 hpc).1
  have hby : ∀ h : p < (bs TX).size, (bs TX)[p]'h = c := fun h => by rw [bs_byte h]; simp [List.getD, hpc]
  have n0 : (0 : Int) ≤ (p : Int) := by omega
  have n1 : (p : Int) < (TX.length : Int) := by omega
  have n2 : ¬ (p : Int) < 0 := by omega
  have n3 : ¬ (TX.length : Int) ≤ (p : Int) := by omega
  have hc0 : ¬ (c.toNat : Int) < 48 := by omega
  have hc1 : ¬ (57 : Int) < (c.toNat : Int) := by omega
  have hcd0 := hcd.out
  have hce : ((c.toNat : Int) - 48 == dg) = false := by simp; omega
  have hcneq : ¬ ((c.toNat : Int) - 48 = dg) := by omega
  obtain ⟨d, hdd⟩ : ∃ d, UInt8.ofNat (48 + dg.toNat) = d := ⟨_, rfl⟩
  have hdn : (d.toNat : Int) = 48 + dg := by rw [← hdd, UInt8.toNat_ofNat']; omega
  obtain ⟨ys, z, hBad, hset⟩ := bad_of_change (A := A) (O := O) (C := C) (P := P) H.out (p := p) (c := c) (d := d) (by rw [HTX.out]; exact hpc) (by intro e; subst e; simp at hc) (by intro e; subst e; simp at hdn; omega) (by intro e; subst e; omega) (by omega) (by omega)
  rw [HTX.out] at hset
  obtain ⟨BW, hBW⟩ : ∃ BW : World → World, ∀ w', BW w' = Lib.bytesWorld w' 5 (bs TX) := ⟨_, fun _ => rfl⟩
  obtain ⟨CP, hCP⟩ : ∃ CP : World → Nat, ∀ w', CP w' = grownCap w' (bs TX).size 0 5 := ⟨_, fun _ => rfl⟩
  have hcv : ∀ w' : World, (convert 9 44 (.string (bs TX))).run Tryz.prog w' = .ok (.slice (some ⟨w'.heap.size, 0, none⟩) TX.length (CP w')) (BW w') := fun w' => by
    rw [hBW, hCP, ← hbz]
    exact Lib.run_convert_string_bytes w' 9 44 5 (bs TX) Tryz.underlying9 Tryz.underlying44 Tryz.underlying5
  have hfz : ∀ w' : World, (BW w').frozen? ⟨w'.heap.size, p, none⟩ = false := fun w' => by
    rw [hBW]
    have hlen : TX.length ≤ (Lib.bytesCells w' 5 (bs TX)).size := by
      unfold Lib.bytesCells
      simp [bs]
    unfold World.frozen?
    simp only []
    rw [Lib.bytesWorld_at_new]
    simp
    omega
  have hcellp : ∀ w' : World, (BW w').cell? ⟨w'.heap.size, p, none⟩ = some (.int .u8 c.toNat) := fun w' => by
    rw [hBW, Lib.bytesWorld_cell _ _ _ _ (by rw [hbz]; exact hpl), bs_list]
    simp [List.getD, hpc]
  have hbel : ∀ w' : World, Below w'.heap.size w' (BW w') := fun w' => by
    rw [hBW]
    exact Lib.bytesWorld_below _ _ _
  have hback : ∀ w' : World, (convert 44 9 (.slice (some ⟨w'.heap.size, 0, none⟩) TX.length (CP w'))).run Tryz.prog ((BW w').setCell ⟨w'.heap.size, p, none⟩ (.int .u8 (48 + dg))) = .ok (.string (txt ys z)) ((BW w').setCell ⟨w'.heap.size, p, none⟩ (.int .u8 (48 + dg))) := fun w' => by
    have hl : (TX.set p d).length = TX.length := by simp
    have h := run_convert_bytes_back ((BW w').setCell ⟨w'.heap.size, p, none⟩ (.int .u8 (48 + dg))) 44 9 5 ⟨w'.heap.size, 0, none⟩ (CP w') (TX.set p d) Tryz.underlying44 Tryz.underlying5 Tryz.underlying9 (fun j hj => by
      rw [hl] at hj
      by_cases e : j = p
      · subst e
        rw [List.getElem_set_self, hdn, addr_plain]
        exact World.cell?_setCell_same' _ _ _ (by rw [hcellp]; rfl)
      · rw [List.getElem_set_ne (fun h => e h.symm), addr_plain, World.cell?_setCell_other _ _ _ _ (by intro h; cases h; exact e rfl), hBW, Lib.bytesWorld_cell _ _ _ _ (by rw [hbz]; exact hj), bs_list]
        simp [List.getD, hj])
    rw [hl] at h
    unfold txt
    rw [← hset]
    exact h
  have HBAD := Lib.hid hBad
  have HBEL := Lib.hid hbel
  have HRD : Hid (∀ w1, Below (w.alloc (.cells #[.slice (some ⟨A, O, none⟩) ls cs, .slice (some ⟨C, P, none⟩) lt ct] 25)).heap.size (w.alloc (.cells #[.slice (some ⟨A, O, none⟩) ls cs, .slice (some ⟨C, P, none⟩) lt ct] 25)) w1 → Calls Tryz.prog 15 #[.string (txt ys z)] ((BW w1).setCell ⟨w1.heap.size, p, none⟩ (.int .u8 (48 + dg))) fun e w' => e = .returned (.tuple #[.agg #[.slice none 0 0, .slice none 0 0], .int .i64 4]) ∧ Below w1.heap.size w1 w') := Lib.hid fun w1 h => by
    have h3 : Below w1.heap.size w1 ((BW w1).setCell ⟨w1.heap.size, p, none⟩ (.int .u8 (48 + dg))) := (HBEL.out w1).setCell (Nat.le_refl _) _
    exact (read_f ys z _ HBAD (Lib.hid ((HL.out _ h).2.1.on h3)) (Lib.hid ((HL.out _ h).2.2.on h3))).mono fun e w' ⟨he, hb'⟩ => ⟨he, h3.trans (hb'.mono h3.size)⟩
  clear hBad hset hBW hCP hdn hdd hcd0 hbel
  go_enter Tryz.func5, Tryz.ntmps5
  go_wp2_with (first
    | (go_at_call 6; refine (short_w _ _ _ _ _ _ _ (by unfold maxLen; omega) (by unfold maxLen; omega)).mono ?_; rw [hsh]; rintro e wl ⟨rfl, hv⟩; replace hb := hb.trans (hv.mono hb.size); clear x1 x2 x3; obtain ⟨x1, x2, x3⟩ := BX.out _ hb)
    | (go_at_call 10; refine (right_w _ _ _ _ _ _ s t _ hls hlt (Lib.hid (HN.out _ hb).out.hs) (Lib.hid (HN.out _ hb).out.ht)).mono ?_; rintro e wl ⟨⟨rb, rfl, hrb⟩, hv⟩; obtain rfl : rb = true := hrb.2 HR.out; clear hrb; replace hb := hb.trans (hv.mono hb.size); clear x1 x2 x3; obtain ⟨x1, x2, x3⟩ := BX.out _ hb)
    | (go_at_call 14; refine (HPR.out _ hb).mono ?_; rintro e wl ⟨rfl, hv⟩; replace hb := hb.trans (hv.mono hb.size); clear x1 x2 x3; obtain ⟨x1, x2, x3⟩ := BX.out _ hb)
    | (go_at_call 15; refine (HRD.out _ hb).mono ?_; rintro e wl ⟨rfl, hv⟩; replace hb := hb.trans (hv.mono hb.size); clear x1 x2 x3; obtain ⟨x1, x2, x3⟩ := BX.out _ hb)
    | (go_at_call 17; refine (sameLines0_w _).mono ?_; rintro e wl ⟨rfl, hv⟩; replace hb := (hb.alloc hb.size _).trans (hv.mono (hb.alloc hb.size _).size); clear x1 x2 x3; obtain ⟨x1, x2, x3⟩ := BX.out _ hb)
    | (go_at_call 7; refine (K.out _).mono ?_; rintro e wl ⟨rfl, hv⟩; replace hb := hb.trans (hv.mono hb.size); clear x1 x2 x3; obtain ⟨x1, x2, x3⟩ := BX.out _ hb))
  go_ret
  exact ⟨rfl, below_al hb⟩

theorem lawsp_w (sa ta : Option Addr) (ls cs lt ct : Nat) (s : Nat → Int) (t : Nat → St5) (at' dg : Int) (w : World) (hls : ls ≤ maxLen) (hlt : lt ≤ maxLen) (HS : NumSl w sa ls s) (HT : StSl w ta lt t) (hp : Hid (Pow w)) (hm : Hid (ML w)) (K : Hid KnownOk) :
    Calls Tryz.prog 5 #[.agg #[.slice sa ls cs, .slice ta lt ct], .int .i64 at', .int .i64 dg] w
      fun e w' => e = .returned (.bool true) ∧ Below w.heap.size w w' := by
  by_cases hq : ls ≤ 13 ∧ lt ≤ 10
  case neg => exact lawsp_a sa ta ls cs lt ct s t at' dg w hls hlt (Lib.hid ⟨HS, HT⟩) K hq
  have hls' : ls ≤ 1000000 := by omega
  have hlt' : lt ≤ 1000000 := by omega
  by_cases hR : RightP ls lt s t
  case neg => exact lawsp_c sa ta ls cs lt ct s t at' dg w hls' hlt' (Lib.hid ⟨HS, HT⟩) K hq (Lib.hid hR)
  by_cases h1 : dg < 0
  · exact lawsp_d1 sa ta ls cs lt ct s t at' dg w hls' hlt' (Lib.hid ⟨HS, HT⟩) K hq (Lib.hid hR) h1
  by_cases h2 : 9 < dg
  · exact lawsp_d2 sa ta ls cs lt ct s t at' dg w hls' hlt' (Lib.hid ⟨HS, HT⟩) K hq (Lib.hid hR) h1 h2
  obtain ⟨A, O, rfl, hA, hsp⟩ := HS.resolve_left (by have := hR.ls1; omega)
  obtain ⟨C, P, rfl, hC, hst⟩ := HT.resolve_left (by have := hR.lt1; omega)
  have H : LineAt w A O C P ls lt s t := ⟨hA, hC, hR.ls1, hR.ls2, hR.lt1, hR.lt2, hsp, hst, hR.sok, hR.tok⟩
  have hd : 0 ≤ dg ∧ dg ≤ 9 := by omega
  by_cases h3 : at' < 0
  · exact lawsp_e1 A O C P ls cs lt ct s t at' dg w (Lib.hid H) K hp hm hd h3
  by_cases h4 : ((textL (rowsL ls s t lt)).length : Int) ≤ at'
  · exact lawsp_e2 A O C P ls cs lt ct s t at' dg w (Lib.hid H) K hp hm hd h3 h4
  obtain ⟨p, hpp⟩ : ∃ p : Nat, at' = (p : Int) := ⟨at'.toNat, by omega⟩
  have hpl : p < (textL (rowsL ls s t lt)).length := by omega
  have hpc := List.getElem?_eq_getElem hpl
  by_cases h5 : ((textL (rowsL ls s t lt))[p]).toNat < 48
  · exact lawsp_e3 A O C P ls cs lt ct s t at' dg w (Lib.hid H) K hp hm hd p _ hpp hpc h5
  by_cases h6 : 57 < ((textL (rowsL ls s t lt))[p]).toNat
  · exact lawsp_e4 A O C P ls cs lt ct s t at' dg w (Lib.hid H) K hp hm hd p _ hpp hpc h6
  by_cases h7 : (((textL (rowsL ls s t lt))[p]).toNat : Int) = 48 + dg
  · exact lawsp_e5 A O C P ls cs lt ct s t at' dg w (Lib.hid H) K hp hm hd p _ hpp hpc ⟨by omega, by omega⟩ (Lib.hid h7)
  · exact lawsp_f A O C P ls cs lt ct s t at' dg w (Lib.hid H) K hp hm hd p _ hpp hpc ⟨by omega, by omega⟩ (Lib.hid h7)
end Go.Kn

namespace Go
variable {H : Type} {enc : TypeId × Value → H}

/-- a row with a condition on the package variables, and the world's shape for the contract -/
theorem retShaped {a : Assume} {C : Checked} {os : Os} {f : FuncId} {fn : Func} {s : ChangeSpec} {conds : List PathCond} {apart fresh handsOn again : Bool} {X : World → Array Value → Prop}
    (hX : ∀ (w w' : World) (args : Array Value), w.heap = w'.heap → X w args → X w' args)
    (own : ownKnob C.prog.godebug = none) (started : os.Started) (noInit : C.prog.inits.idxOf? f = none) (hfn : C.prog.funcs[f]? = some fn)
    (witness : ∃ (w : World) (tape : Tape) (i : Input), w.os = os ∧ (w.forCall tape i).Shaped C.prog ∧ i.vars = [] ∧ Input.okWide C.prog (w.forCall tape i) .any w.heap.size f i ∧
      ((s.pre enc C.prog fn conds apart (w.forCall tape i).memory i.args ∧ X (w.forCall tape i).memory i.args) ∧ sizedMet enc C.prog fn (OpenSpec.ofChange s) apart (w.forCall tape i).memory i.args) ∧ a.holds C.prog (lone (Frame.enter C.prog f i.args .normal) [] (w.forCall tape i)))
    (body : ∀ (W : World) (base : Nat) (args : Array Value) (ds gs : List (DataW H)) (before : List MemPlace),
      (∀ (j : Nat) t v, fn.params[j]? = some t → args[j]? = some v → Value.okWide C.prog W .any base t v) →
      DataW.Whole enc C.prog fn.params.toList s.vars apart W args.toList ds gs before → X W args → W.ShapedOpen C.prog →
      Calls C.prog f args W fun e W' => ∃ v, e = .returned v ∧ s.post enc C.prog fn apart fresh handsOn again W args v W') :
    ReturnsInHanded a C os f .any (fun w args => (s.pre enc C.prog fn conds apart w args ∧ X w args) ∧ sizedMet enc C.prog fn (OpenSpec.ofChange s) apart w args) (s.post enc C.prog fn apart fresh handsOn again) := by
  refine returnsInHanded_of_calls own started noInit witness fun w tape i _ shape _ hok hpre _ => ?_
  obtain ⟨_, _, _, fn1, hf1, _, _, _, _, hval⟩ := hok
  obtain rfl : fn1 = fn := Option.some.inj (hf1.symm.trans hfn)
  obtain ⟨⟨⟨ds, gs, before, hw, _⟩, hx⟩, _⟩ := hpre
  refine (body (w.forCall tape i) w.heap.size i.args ds gs before hval (hw.of_heap (by rfl)) (hX _ _ _ (by rfl) hx) shape).mono fun e W' ⟨v, he, hp⟩ => ?_
  subst he
  exact ChangeSpec.post_blind hp
end Go
namespace Go.Kn
open Go Go.Proofs Go.RowKit

theorem pow_of_laid {x y : String × DataW Unit} {rest : List (String × DataW Unit)} {W : World} (h : laidMet Tryz.prog (x :: y :: ("internal/strconv.uint64pow10", Lib.tabData .u64 Lib.pow10Tab) :: rest) W) : Pow W :=
  Lib.tabBelow_of_tabIs (Lib.tabIs_of_head (g := 1) (t := 209) (e := 196) (n := 20) (by kernel_rfl) (by kernel_rfl) Tryz.underlying209 Tryz.underlying196 (by kernel_rfl) (by kernel_rfl) (laidMet.tail (laidMet.tail h)))

theorem ml_of_shape {W : World} (h : W.ShapedOpen Tryz.prog) : ML W := Tryz.laysM146.s1_3 W h
end Go.Kn
