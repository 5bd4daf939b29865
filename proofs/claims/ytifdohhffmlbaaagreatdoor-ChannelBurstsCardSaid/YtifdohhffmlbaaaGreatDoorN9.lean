/- Walks of the functions of layer 2 that ChannelHeights calls, and the law itself (a part of it). Conditions: as each theorem states them. -/
import Derived.Test.YtifdohhffmlbaaaGreatDoorN8
set_option linter.unusedVariables false
set_option linter.unusedSimpArgs false
namespace Go.Kn
open Go Go.Proofs Go.RowKit

theorem SipAt.any {w : World} {C P lp A O ll : Nat} {il ih : Int} {p : Nat → Sp2} {l : Nat → Int} (h : SipAt w C P lp A O ll il ih p l) : AnySip w (some ⟨C, P, none⟩) (some ⟨A, O, none⟩) lp ll p l :=
  ⟨.inr ⟨C, P, rfl, h.hC, h.sp⟩, .inr ⟨A, O, rfl, h.hA, h.ln⟩⟩
theorem SipAt.ok {w : World} {C P lp A O ll : Nat} {il ih : Int} {p : Nat → Sp2} {l : Nat → Int} (h : SipAt w C P lp A O ll il ih p l) : SipP il ih lp ll p l :=
  ⟨h.iok, h.lp1, h.lp2, h.lpe, h.pok, h.lok⟩

theorem isSip_t {w : World} {C P lp A O ll : Nat} {il ih : Int} {p : Nat → Sp2} {l : Nat → Int} (cp cl : Nat) (h : SipAt w C P lp A O ll il ih p l) :
    Calls Tryz.prog 79 #[.agg #[.int .i64 il, .int .i64 ih, .slice (some ⟨C, P, none⟩) lp cp, .slice (some ⟨A, O, none⟩) ll cl]] w
      fun e w' => e = .returned (.bool true) ∧ Below w.heap.size w w' :=
  (isSiphon_w il ih _ _ lp cp ll cl p l w (by have := h.lp2; omega) (by have := h.lp2; have := h.lpe; omega) (Lib.hid h.any)).mono (by
    rintro e w' ⟨⟨rb, rfl, hrb⟩, hb⟩
    rw [hrb.2 h.ok]
    exact ⟨rfl, hb⟩)
theorem isSip_f {w : World} {pa la : Option Addr} {lp ll : Nat} {il ih : Int} {p : Nat → Sp2} {l : Nat → Int} (cp cl : Nat) (hlp : lp ≤ 1000000) (hll : ll ≤ 1000000) (h : AnySip w pa la lp ll p l) (hn : ¬ SipP il ih lp ll p l) :
    Calls Tryz.prog 79 #[.agg #[.int .i64 il, .int .i64 ih, .slice pa lp cp, .slice la ll cl]] w
      fun e w' => e = .returned (.bool false) ∧ Below w.heap.size w w' :=
  (isSiphon_w il ih _ _ lp cp ll cl p l w hlp hll (Lib.hid h)).mono (by
    rintro e w' ⟨⟨rb, rfl, hrb⟩, hb⟩
    cases rb
    · exact ⟨rfl, hb⟩
    · exact (hn (hrb.1 rfl)).elim)

set_option maxRecDepth 100000 in
set_option maxHeartbeats 2000000 in
theorem ppress_w (il ih : Int) (C P lp cp A O ll cl : Nat) (p : Nat → Sp2) (l : Nat → Int) (w : World) (H : Hid (SipAt w C P lp A O ll il ih p l)) :
    Calls Tryz.prog 41 #[.agg #[.int .i64 il, .int .i64 ih, .slice (some ⟨C, P, none⟩) lp cp, .slice (some ⟨A, O, none⟩) ll cl]] w
      fun e w' => (∃ G, e = .returned (.tuple #[.slice (some ⟨G, 0, none⟩) ll ll, .int .i64 0]) ∧ w.heap.size ≤ G ∧ G < w'.heap.size ∧ SpAt w' G 0 ll (prOf il ih p)) ∧ Below w.heap.size w w' := by
  have BX := Lib.hid (fun (w1 : World) (hb : Below (w.alloc (.cells #[.int .i64 il, .int .i64 ih, .slice (some ⟨C, P, none⟩) lp cp, .slice (some ⟨A, O, none⟩) ll cl] 70)).heap.size (w.alloc (.cells #[.int .i64 il, .int .i64 ih, .slice (some ⟨C, P, none⟩) lp cp, .slice (some ⟨A, O, none⟩) ll cl] 70)) w1) => bcell4 hb)
  have HL : Hid (∀ w1, Below (w.alloc (.cells #[.int .i64 il, .int .i64 ih, .slice (some ⟨C, P, none⟩) lp cp, .slice (some ⟨A, O, none⟩) ll cl] 70)).heap.size (w.alloc (.cells #[.int .i64 il, .int .i64 ih, .slice (some ⟨C, P, none⟩) lp cp, .slice (some ⟨A, O, none⟩) ll cl] 70)) w1 → SipAt w1 C P lp A O ll il ih p l) := Lib.hid fun w1 h => H.out.below (below_al h)
  go_enter Tryz.func41, Tryz.ntmps41
  go_wp2_with (first
    | (go_at_call 79; refine (isSip_t _ _ (HL.out _ (Below.refl _ _))).mono ?_; rintro e w1 ⟨rfl, hb1⟩; obtain ⟨x0, x1, x2, x3, x4⟩ := BX.out _ hb1)
    | (go_at_call 80; refine (pressures_w _ _ _ _ _ _ _ _ _ _ p l _ (Lib.hid (HL.out _ hb1))).mono ?_; rintro e w2 ⟨⟨G, rfl, hG1, hG2, hG3⟩, hb2⟩; have HG := Lib.hid hG3; clear hG3))
  have hb12 := hb1.trans (hb2.mono hb1.size)
  exact bodyPost_ret (v := .tuple #[.slice (some ⟨G, 0, none⟩) ll ll, .int .i64 0]) (by simp [results, Tryz.results41, go_sem]) rfl ⟨⟨G, rfl, by omega, hG2, HG.out⟩, below_al hb12⟩

set_option maxRecDepth 100000 in
set_option maxHeartbeats 2000000 in
theorem ppressF_w (il ih : Int) (pa la : Option Addr) (lp cp ll cl : Nat) (p : Nat → Sp2) (l : Nat → Int) (w : World) (hlp : lp ≤ 1000000) (hll : ll ≤ 1000000) (H : Hid (AnySip w pa la lp ll p l)) (hn : Hid (¬ SipP il ih lp ll p l)) :
    Calls Tryz.prog 41 #[.agg #[.int .i64 il, .int .i64 ih, .slice pa lp cp, .slice la ll cl]] w
      fun e w' => e = .returned (.tuple #[.slice none 0 0, .int .i64 2]) ∧ Below w.heap.size w w' := by
  have HL : Hid (∀ o : Obj, AnySip (w.alloc o) pa la lp ll p l) := Lib.hid fun o => H.out.below ((Below.refl _ _).alloc (Nat.le_refl _) _)
  go_enter Tryz.func41, Tryz.ntmps41
  go_wp2_with (go_at_call 79; refine (isSip_f _ _ hlp hll (HL.out _) hn.out).mono ?_; rintro e w1 ⟨rfl, hb1⟩)
  exact bodyPost_ret (v := .tuple #[.slice none 0 0, .int .i64 2]) (by simp [results, Tryz.results41, go_sem]) rfl ⟨rfl, below_al hb1⟩

/-- whether a siphon flows: 3 surely, 1 never, 2 perhaps -/
def flowV (il ih : Int) (x : Sp2) : Int := if x.hi < il then 3 else if ih ≤ x.lo then 1 else 2

set_option maxRecDepth 100000 in
set_option maxHeartbeats 4000000 in
theorem pflows_w (il ih : Int) (C P cp A O ll cl : Nat) (p : Nat → Sp2) (l : Nat → Int) (w : World) (H : Hid (SipAt w C P (ll + 1) A O ll il ih p l)) :
    Calls Tryz.prog 42 #[.agg #[.int .i64 il, .int .i64 ih, .slice (some ⟨C, P, none⟩) (ll + 1) cp, .slice (some ⟨A, O, none⟩) ll cl]] w
      fun e w' => e = .returned (.tuple #[.int .i64 (flowV il ih (p ll)), .int .i64 0]) ∧ Below w.heap.size w w' := by
  have BX := Lib.hid (fun (w1 : World) (hb : Below (w.alloc (.cells #[.int .i64 il, .int .i64 ih, .slice (some ⟨C, P, none⟩) (ll + 1) cp, .slice (some ⟨A, O, none⟩) ll cl] 70)).heap.size (w.alloc (.cells #[.int .i64 il, .int .i64 ih, .slice (some ⟨C, P, none⟩) (ll + 1) cp, .slice (some ⟨A, O, none⟩) ll cl] 70)) w1) => bcell4 hb)
  have HL : Hid (∀ w1, Below (w.alloc (.cells #[.int .i64 il, .int .i64 ih, .slice (some ⟨C, P, none⟩) (ll + 1) cp, .slice (some ⟨A, O, none⟩) ll cl] 70)).heap.size (w.alloc (.cells #[.int .i64 il, .int .i64 ih, .slice (some ⟨C, P, none⟩) (ll + 1) cp, .slice (some ⟨A, O, none⟩) ll cl] 70)) w1 → SipAt w1 C P (ll + 1) A O ll il ih p l) := Lib.hid fun w1 h => H.out.below (below_al h)
  have q1 := H.out.lp1
  have q2 := H.out.lp2
  by_cases h1 : (p ll).hi < il <;> by_cases h2 : ih ≤ (p ll).lo
  all_goals
    go_enter Tryz.func42, Tryz.ntmps42
    go_wp2_with (go_at_call 79; refine (isSip_t _ _ (HL.out _ (Below.refl _ _))).mono ?_; rintro e w1 ⟨rfl, hb1⟩; obtain ⟨x0, x1, x2, x3, x4⟩ := BX.out _ hb1; obtain ⟨y0, y1⟩ := (HL.out _ hb1).sp ll (by omega))
    have hb1' := below_al hb1
    refine bodyPost_ret (v := .tuple #[.int .i64 (flowV il ih (p ll)), .int .i64 0]) (by simp only [flowV]; (repeat' split) <;> first | omega | simp [results, Tryz.results42, go_sem]) rfl ⟨rfl, ?_⟩
    repeat (first | exact hb1' | refine Below.setCell ?_ (by simp) _ | refine Below.alloc ?_ (by have := hb1.size; simp at this ⊢; omega) _ | refine Below.drew ?_)

set_option maxRecDepth 100000 in
set_option maxHeartbeats 2000000 in
theorem pflowsF_w (il ih : Int) (pa la : Option Addr) (lp cp ll cl : Nat) (p : Nat → Sp2) (l : Nat → Int) (w : World) (hlp : lp ≤ 1000000) (hll : ll ≤ 1000000) (H : Hid (AnySip w pa la lp ll p l)) (hn : Hid (¬ SipP il ih lp ll p l)) :
    Calls Tryz.prog 42 #[.agg #[.int .i64 il, .int .i64 ih, .slice pa lp cp, .slice la ll cl]] w
      fun e w' => e = .returned (.tuple #[.int .i64 0, .int .i64 2]) ∧ Below w.heap.size w w' := by
  have HL : Hid (∀ o : Obj, AnySip (w.alloc o) pa la lp ll p l) := Lib.hid fun o => H.out.below ((Below.refl _ _).alloc (Nat.le_refl _) _)
  go_enter Tryz.func42, Tryz.ntmps42
  go_wp2_with (go_at_call 79; refine (isSip_f _ _ hlp hll (HL.out _) hn.out).mono ?_; rintro e w1 ⟨rfl, hb1⟩)
  exact bodyPost_ret (v := .tuple #[.int .i64 0, .int .i64 2]) (by simp [results, Tryz.results42, go_sem]) rfl ⟨rfl, below_al hb1⟩
end Go.Kn
