/- Walks of functions of layer 2 (contracts that the laws of this seat use). Conditions: as each theorem states them. -/
import Derived.Test.YtnlbofaiihlniaaGreatDoorGZ
import Derived.Test.YtnlbofaiihlniaaGreatDoorGX
import Derived.Test.YtnlbofaiihlniaaGreatDoorGQ
import Derived.Test.YtnlbofaiihlniaaGreatDoorGL
set_option linter.unusedVariables false
set_option linter.unusedSimpArgs false
namespace Go.Kn
open Go Go.Proofs Go.RowKit

set_option maxRecDepth 100000 in
set_option maxHeartbeats 1000000 in
theorem printF (sa ta : Option Addr) (ls cs lt ct : Nat) (s : Nat → Int) (t : Nat → St5) (w : World) (hls : ls ≤ 1000000) (hlt : lt ≤ 1000000) (H : Hid (AnyLine w sa ta ls lt s t)) (HR : Hid (¬ RightP ls lt s t)) :
    Calls Tryz.prog 14 #[.agg #[.slice sa ls cs, .slice ta lt ct]] w fun e w' => e = .returned (.tuple #[.string ⟨#[]⟩, .int .i64 2]) ∧ Below w.heap.size w w' := by
  have BX := Lib.hid (fun (w1 : World) (hb : Below (w.alloc (.cells #[.slice sa ls cs, .slice ta lt ct] 25)).heap.size (w.alloc (.cells #[.slice sa ls cs, .slice ta lt ct] 25)) w1) => box_cells hb)
  have HN : Hid (∀ w1, Below (w.alloc (.cells #[.slice sa ls cs, .slice ta lt ct] 25)).heap.size (w.alloc (.cells #[.slice sa ls cs, .slice ta lt ct] 25)) w1 → Hid (AnyLine w1 sa ta ls lt s t)) := Lib.hid fun w1 h => Lib.hid (H.out.below (below_al h))
  have hb : Below (w.alloc (.cells #[.slice sa ls cs, .slice ta lt ct] 25)).heap.size (w.alloc (.cells #[.slice sa ls cs, .slice ta lt ct] 25)) (w.alloc (.cells #[.slice sa ls cs, .slice ta lt ct] 25)) := Below.refl _ _
  obtain ⟨x1, x2, x3⟩ := BX.out _ hb
  clear H
  go_enter Tryz.func14, Tryz.ntmps14
  go_wp2_with (first
    | (go_at_call 33; refine (isLine2_w _ _ _ _ _ _ s t _ hls hlt (HN.out _ hb)).mono ?_; rintro e wl ⟨⟨rb, rfl, hrb⟩, hv⟩; obtain rfl : rb = false := (by cases rb <;> first | rfl | exact (HR.out (hrb.1 rfl)).elim); clear hrb; replace hb := hb.trans (hv.mono hb.size); clear x1 x2 x3; obtain ⟨x1, x2, x3⟩ := BX.out _ hb))
  refine bodyPost_ret (v := .tuple #[.string ⟨#[]⟩, .int .i64 2]) (by simp [results, Tryz.results14, go_sem]) rfl ?_
  exact ⟨rfl, below_al hb⟩

set_option maxRecDepth 100000 in
set_option maxHeartbeats 2000000 in
theorem lawpr_a (sa ta : Option Addr) (ls cs lt ct : Nat) (s : Nat → Int) (t : Nat → St5) (w : World) (hls : ls ≤ maxLen) (hlt : lt ≤ maxLen) (H : Hid (AnyLine w sa ta ls lt s t)) (K : Hid KnownOk) (hq : ¬ (ls ≤ 13 ∧ lt ≤ 10)) :
    Calls Tryz.prog 4 #[.agg #[.slice sa ls cs, .slice ta lt ct]] w
      fun e w' => e = .returned (.bool true) ∧ Below w.heap.size w w' := by
  have hsh : decide (ls ≤ 13 ∧ lt ≤ 10) = false := decide_eq_false hq
  have BX := Lib.hid (fun (w1 : World) (hb : Below (w.alloc (.cells #[.slice sa ls cs, .slice ta lt ct] 25)).heap.size (w.alloc (.cells #[.slice sa ls cs, .slice ta lt ct] 25)) w1) => box_cells hb)
  have HN : Hid (∀ w1, Below (w.alloc (.cells #[.slice sa ls cs, .slice ta lt ct] 25)).heap.size (w.alloc (.cells #[.slice sa ls cs, .slice ta lt ct] 25)) w1 → Hid (AnyLine w1 sa ta ls lt s t)) := Lib.hid fun w1 h => Lib.hid (H.out.below (below_al h))
  have hb : Below (w.alloc (.cells #[.slice sa ls cs, .slice ta lt ct] 25)).heap.size (w.alloc (.cells #[.slice sa ls cs, .slice ta lt ct] 25)) (w.alloc (.cells #[.slice sa ls cs, .slice ta lt ct] 25)) := Below.refl _ _
  obtain ⟨x1, x2, x3⟩ := BX.out _ hb
  clear H
  go_enter Tryz.func4, Tryz.ntmps4
  go_wp2_with (first
    | (go_at_call 6; refine (short_w _ _ _ _ _ _ _ hls hlt).mono ?_; rw [hsh]; rintro e wl ⟨rfl, hv⟩; replace hb := hb.trans (hv.mono hb.size); clear x1 x2 x3; obtain ⟨x1, x2, x3⟩ := BX.out _ hb)
    | (go_at_call 7; refine (K.out _).mono ?_; rintro e wl ⟨rfl, hv⟩; replace hb := hb.trans (hv.mono hb.size); clear x1 x2 x3; obtain ⟨x1, x2, x3⟩ := BX.out _ hb)    )
  go_ret
  exact ⟨rfl, below_al hb⟩

set_option maxRecDepth 100000 in
set_option maxHeartbeats 2000000 in
theorem lawpr_c (sa ta : Option Addr) (ls cs lt ct : Nat) (s : Nat → Int) (t : Nat → St5) (w : World) (hls : ls ≤ 1000000) (hlt : lt ≤ 1000000) (H : Hid (AnyLine w sa ta ls lt s t)) (K : Hid KnownOk) (hq : ls ≤ 13 ∧ lt ≤ 10) (HR : Hid (¬ RightP ls lt s t)) :
    Calls Tryz.prog 4 #[.agg #[.slice sa ls cs, .slice ta lt ct]] w
      fun e w' => e = .returned (.bool true) ∧ Below w.heap.size w w' := by
  have hsh : decide (ls ≤ 13 ∧ lt ≤ 10) = true := decide_eq_true hq
  have BX := Lib.hid (fun (w1 : World) (hb : Below (w.alloc (.cells #[.slice sa ls cs, .slice ta lt ct] 25)).heap.size (w.alloc (.cells #[.slice sa ls cs, .slice ta lt ct] 25)) w1) => box_cells hb)
  have HN : Hid (∀ w1, Below (w.alloc (.cells #[.slice sa ls cs, .slice ta lt ct] 25)).heap.size (w.alloc (.cells #[.slice sa ls cs, .slice ta lt ct] 25)) w1 → Hid (AnyLine w1 sa ta ls lt s t)) := Lib.hid fun w1 h => Lib.hid (H.out.below (below_al h))
  have hb : Below (w.alloc (.cells #[.slice sa ls cs, .slice ta lt ct] 25)).heap.size (w.alloc (.cells #[.slice sa ls cs, .slice ta lt ct] 25)) (w.alloc (.cells #[.slice sa ls cs, .slice ta lt ct] 25)) := Below.refl _ _
  obtain ⟨x1, x2, x3⟩ := BX.out _ hb
  clear H
  go_enter Tryz.func4, Tryz.ntmps4
  go_wp2_with (first
    | (go_at_call 6; refine (short_w _ _ _ _ _ _ _ (by unfold maxLen; omega) (by unfold maxLen; omega)).mono ?_; rw [hsh]; rintro e wl ⟨rfl, hv⟩; replace hb := hb.trans (hv.mono hb.size); clear x1 x2 x3; obtain ⟨x1, x2, x3⟩ := BX.out _ hb)
    | (go_at_call 14; refine (printF _ _ _ _ _ _ s t _ hls hlt (HN.out _ hb) HR).mono ?_; rintro e wl ⟨rfl, hv⟩; replace hb := hb.trans (hv.mono hb.size); clear x1 x2 x3; obtain ⟨x1, x2, x3⟩ := BX.out _ hb)
    | (go_at_call 10; refine (right_w _ _ _ _ _ _ s t _ hls hlt (Lib.hid (HN.out _ hb).out.hs) (Lib.hid (HN.out _ hb).out.ht)).mono ?_; rintro e wl ⟨⟨rb, rfl, hrb⟩, hv⟩; obtain rfl : rb = false := (by cases rb <;> first | rfl | exact (HR.out (hrb.1 rfl)).elim); clear hrb; replace hb := hb.trans (hv.mono hb.size); clear x1 x2 x3; obtain ⟨x1, x2, x3⟩ := BX.out _ hb)
    | (go_at_call 7; refine (K.out _).mono ?_; rintro e wl ⟨rfl, hv⟩; replace hb := hb.trans (hv.mono hb.size); clear x1 x2 x3; obtain ⟨x1, x2, x3⟩ := BX.out _ hb)    )
  go_ret
  exact ⟨rfl, below_al hb⟩

set_option maxRecDepth 100000 in
set_option maxHeartbeats 4000000 in
theorem lawpr_i (A O C P ls cs lt ct : Nat) (s : Nat → Int) (t : Nat → St5) (w : World) (H : Hid (LineAt w A O C P ls lt s t)) (K : Hid KnownOk) (hp : Hid (Pow w)) (hm : Hid (ML w)) :
    Calls Tryz.prog 4 #[.agg #[.slice (some ⟨A, O, none⟩) ls cs, .slice (some ⟨C, P, none⟩) lt ct]] w
      fun e w' => e = .returned (.bool true) ∧ Below w.heap.size w w' := by
  have BX := Lib.hid (fun (w1 : World) (hb : Below (w.alloc (.cells #[.slice (some ⟨A, O, none⟩) ls cs, .slice (some ⟨C, P, none⟩) lt ct] 25)).heap.size (w.alloc (.cells #[.slice (some ⟨A, O, none⟩) ls cs, .slice (some ⟨C, P, none⟩) lt ct] 25)) w1) => box_cells hb)
  have HL : Hid (∀ w1, Below (w.alloc (.cells #[.slice (some ⟨A, O, none⟩) ls cs, .slice (some ⟨C, P, none⟩) lt ct] 25)).heap.size (w.alloc (.cells #[.slice (some ⟨A, O, none⟩) ls cs, .slice (some ⟨C, P, none⟩) lt ct] 25)) w1 → LineAt w1 A O C P ls lt s t ∧ Pow w1 ∧ ML w1) := Lib.hid fun w1 h => ⟨H.out.below (below_al h), hp.out.on (below_al h), hm.out.on (below_al h)⟩
  have HN : Hid (∀ w1, Below (w.alloc (.cells #[.slice (some ⟨A, O, none⟩) ls cs, .slice (some ⟨C, P, none⟩) lt ct] 25)).heap.size (w.alloc (.cells #[.slice (some ⟨A, O, none⟩) ls cs, .slice (some ⟨C, P, none⟩) lt ct] 25)) w1 → Hid (AnyLine w1 (some ⟨A, O, none⟩) (some ⟨C, P, none⟩) ls lt s t)) := Lib.hid fun w1 h => Lib.hid ⟨.inr ⟨A, O, rfl, (HL.out w1 h).1.hA, (HL.out w1 h).1.sp⟩, .inr ⟨C, P, rfl, (HL.out w1 h).1.hC, (HL.out w1 h).1.st⟩⟩
  have HR : Hid (RightP ls lt s t) := Lib.hid ⟨H.out.ls1, H.out.ls2, H.out.lt1, H.out.lt2, H.out.sok, H.out.tok⟩
  have q0 := H.out.ls2
  have q2 := H.out.lt2
  have hls : ls ≤ 1000000 := by omega
  have hlt : lt ≤ 1000000 := by omega
  have hsh : decide (ls ≤ 13 ∧ lt ≤ 10) = true := decide_eq_true ⟨by omega, by omega⟩
  have htl := text_len H.out
  have hb : Below (w.alloc (.cells #[.slice (some ⟨A, O, none⟩) ls cs, .slice (some ⟨C, P, none⟩) lt ct] 25)).heap.size (w.alloc (.cells #[.slice (some ⟨A, O, none⟩) ls cs, .slice (some ⟨C, P, none⟩) lt ct] 25)) (w.alloc (.cells #[.slice (some ⟨A, O, none⟩) ls cs, .slice (some ⟨C, P, none⟩) lt ct] 25)) := Below.refl _ _
  obtain ⟨x1, x2, x3⟩ := BX.out _ hb
  have HPR : Hid (∀ w1, Below (w.alloc (.cells #[.slice (some ⟨A, O, none⟩) ls cs, .slice (some ⟨C, P, none⟩) lt ct] 25)).heap.size (w.alloc (.cells #[.slice (some ⟨A, O, none⟩) ls cs, .slice (some ⟨C, P, none⟩) lt ct] 25)) w1 → Calls Tryz.prog 14 #[.agg #[.slice (some ⟨A, O, none⟩) ls cs, .slice (some ⟨C, P, none⟩) lt ct]] w1 fun e w' => e = .returned (.tuple #[.string (tx ls lt s t), .int .i64 0]) ∧ Below w1.heap.size w1 w') := Lib.hid fun w1 h => print_w A O C P ls cs lt ct s t w1 (Lib.hid (HL.out _ h).1) (Lib.hid (HL.out _ h).2.1) (Lib.hid (by omega))
  have HRP : Hid (∀ w1, Below (w.alloc (.cells #[.slice (some ⟨A, O, none⟩) ls cs, .slice (some ⟨C, P, none⟩) lt ct] 25)).heap.size (w.alloc (.cells #[.slice (some ⟨A, O, none⟩) ls cs, .slice (some ⟨C, P, none⟩) lt ct] 25)) w1 → Calls Tryz.prog 16 #[.agg #[.slice (some ⟨A, O, none⟩) ls cs, .slice (some ⟨C, P, none⟩) lt ct]] w1 fun e w' => e = .returned (.string (tx ls lt s t)) ∧ Below w1.heap.size w1 w') := Lib.hid fun w1 h => rprint_w A O C P ls cs lt ct s t w1 (Lib.hid (HL.out _ h).1)
  have HRD : Hid (∀ w1, Below (w.alloc (.cells #[.slice (some ⟨A, O, none⟩) ls cs, .slice (some ⟨C, P, none⟩) lt ct] 25)).heap.size (w.alloc (.cells #[.slice (some ⟨A, O, none⟩) ls cs, .slice (some ⟨C, P, none⟩) lt ct] 25)) w1 → Calls Tryz.prog 15 #[.string (tx ls lt s t)] w1 fun e w' => (∃ A1 c1 C1 c2, e = .returned (.tuple #[.agg #[.slice (some ⟨A1, 0, none⟩) ls c1, .slice (some ⟨C1, 0, none⟩) lt c2], .int .i64 0]) ∧ LineAt w' A1 0 C1 0 ls lt s t) ∧ Below w1.heap.size w1 w') := Lib.hid fun w1 h => read_t A O C P ls lt s t w w1 H (Lib.hid (HL.out _ h).2.1) (Lib.hid (HL.out _ h).2.2)
  obtain ⟨T, hT⟩ : ∃ T, tx ls lt s t = T := ⟨_, rfl⟩
  rw [hT] at HPR HRP HRD
  have hTT : (T.toList == T.toList) = true := by simp
  clear hT htl
  go_enter Tryz.func4, Tryz.ntmps4
  go_wp2_with (first
    | (go_at_call 6; refine (short_w _ _ _ _ _ _ _ (by unfold maxLen; omega) (by unfold maxLen; omega)).mono ?_; rw [hsh]; rintro e wl ⟨rfl, hv⟩; replace hb := hb.trans (hv.mono hb.size); clear x1 x2 x3; obtain ⟨x1, x2, x3⟩ := BX.out _ hb)
    | (go_at_call 14; refine (HPR.out _ hb).mono ?_; rintro e wl ⟨rfl, hv⟩; replace hb := hb.trans (hv.mono hb.size); clear x1 x2 x3; obtain ⟨x1, x2, x3⟩ := BX.out _ hb)
    | (go_at_call 10; refine (right_w _ _ _ _ _ _ s t _ hls hlt (Lib.hid (HN.out _ hb).out.hs) (Lib.hid (HN.out _ hb).out.ht)).mono ?_; rintro e wl ⟨⟨rb, rfl, hrb⟩, hv⟩; obtain rfl : rb = true := hrb.2 HR.out; clear hrb; replace hb := hb.trans (hv.mono hb.size); clear x1 x2 x3; obtain ⟨x1, x2, x3⟩ := BX.out _ hb)
    | (go_at_call 15; refine (HRD.out _ hb).mono ?_; rintro e wl ⟨⟨A1, c1, C1, c2, rfl, hL1⟩, hv⟩; replace hb := hb.trans (hv.mono hb.size); clear x1 x2 x3; obtain ⟨x1, x2, x3⟩ := BX.out _ hb; have HL1 := Lib.hid hL1; clear hL1; have hbx : Below wl.heap.size wl (wl.alloc (.cells #[.slice (some ⟨A1, 0, none⟩) ls c1, .slice (some ⟨C1, 0, none⟩) lt c2] 25)) := (Below.refl _ _).alloc (Nat.le_refl _) _; have HBX := Lib.hid (And.intro (hb.trans (hbx.mono hb.size)) hbx); have BX2 := Lib.hid (fun (w1 : World) (hb' : Below (wl.alloc (.cells #[.slice (some ⟨A1, 0, none⟩) ls c1, .slice (some ⟨C1, 0, none⟩) lt c2] 25)).heap.size (wl.alloc (.cells #[.slice (some ⟨A1, 0, none⟩) ls c1, .slice (some ⟨C1, 0, none⟩) lt c2] 25)) w1) => box_cells hb'); clear hbx)
    | (go_at_call 16; refine (HRP.out _ HBX.out.1).mono ?_; rintro e w5 ⟨rfl, hv5⟩; have h5 := HBX.out.1.trans (hv5.mono HBX.out.1.size); have HL5 := Lib.hid (HL1.out.below (HBX.out.2.trans (hv5.mono HBX.out.2.size))); clear x1 x2 x3; obtain ⟨x1, x2, x3⟩ := BX.out _ h5; obtain ⟨z1, z2, z3⟩ := BX2.out _ hv5)
    | (go_at_call 17; refine (sameLines_w A1 0 C1 0 A O C P ls lt c1 c2 cs ct s t _ HL5 (Lib.hid (HL.out _ h5).1)).mono ?_; rintro e w6 ⟨rfl, hv6⟩; have h6 := h5.trans (hv6.mono h5.size))
    | (go_at_call 7; refine (K.out _).mono ?_; rintro e w7 ⟨rfl, hv7⟩; have h7 := h6.trans (hv7.mono h6.size)))
  go_ret
  exact ⟨rfl, below_al h7⟩

theorem lawpr_w (sa ta : Option Addr) (ls cs lt ct : Nat) (s : Nat → Int) (t : Nat → St5) (w : World) (hls : ls ≤ maxLen) (hlt : lt ≤ maxLen) (HS : NumSl w sa ls s) (HT : StSl w ta lt t) (hp : Hid (Pow w)) (hm : Hid (ML w)) (K : Hid KnownOk) :
    Calls Tryz.prog 4 #[.agg #[.slice sa ls cs, .slice ta lt ct]] w
      fun e w' => e = .returned (.bool true) ∧ Below w.heap.size w w' := by
  by_cases hq : ls ≤ 13 ∧ lt ≤ 10
  case neg => exact lawpr_a sa ta ls cs lt ct s t w hls hlt (Lib.hid ⟨HS, HT⟩) K hq
  have hls' : ls ≤ 1000000 := by omega
  have hlt' : lt ≤ 1000000 := by omega
  by_cases hR : RightP ls lt s t
  case neg => exact lawpr_c sa ta ls cs lt ct s t w hls' hlt' (Lib.hid ⟨HS, HT⟩) K hq (Lib.hid hR)
  obtain ⟨A, O, rfl, hA, hsp⟩ := HS.resolve_left (by have := hR.ls1; omega)
  obtain ⟨C, P, rfl, hC, hst⟩ := HT.resolve_left (by have := hR.lt1; omega)
  exact lawpr_i A O C P ls cs lt ct s t w (Lib.hid ⟨hA, hC, hR.ls1, hR.ls2, hR.lt1, hR.lt2, hsp, hst, hR.sok, hR.tok⟩) K hp hm
end Go.Kn
