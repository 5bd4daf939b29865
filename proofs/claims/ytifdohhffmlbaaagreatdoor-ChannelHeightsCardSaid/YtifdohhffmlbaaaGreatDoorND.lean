/- Walks of the functions of layer 2 that ChannelHeights calls, and the law itself (a part of it). Conditions: as each theorem states them. -/
import Derived.Test.YtifdohhffmlbaaaGreatDoorNC
set_option linter.unusedVariables false
set_option linter.unusedSimpArgs false
namespace Go.Kn
open Go Go.Proofs Go.RowKit
theorem lawh_w (il ih : Int) (pa la : Option Addr) (lp cp ll cl : Nat) (p : Nat → Sp2) (l : Nat → Int) (n : Int) (sq : Option Addr) (lq cq : Nat) (s : Nat → Int) (w : World) (hlp : lp ≤ maxLen) (hll : ll ≤ maxLen) (hlq : lq ≤ maxLen) (H : AnySip w pa la lp ll p l) (HS : IntSl w sq lq s) (K : Hid KnownOk') :
    Calls Tryz.prog 12 #[.agg #[.int .i64 il, .int .i64 ih, .slice pa lp cp, .slice la ll cl], .int .i64 n, .slice sq lq cq] w
      fun e w' => e = .returned (.bool true) ∧ Below w.heap.size w w' := by
  by_cases hq : lp ≤ 10 ∧ ll ≤ 10
  case neg => exact lawh_a il ih pa la lp cp ll cl p l n sq lq cq s w hlp hll hlq (Lib.hid H) (Lib.hid HS) K hq
  by_cases hR : SipP il ih lp ll p l
  case neg => exact lawh_b il ih pa la lp cp ll cl p l n sq lq cq s w hlp hll hlq (Lib.hid H) (Lib.hid HS) K hq hR
  obtain rfl := hR.lpe
  obtain ⟨C, P, rfl, hC, hsp⟩ := H.hp.resolve_left (by have := hR.lp1; omega)
  obtain ⟨A, O, rfl, hA, hln⟩ := H.hl.resolve_left (by have := hR.lp1; omega)
  have HH : SipAt w C P (ll + 1) A O ll il ih p l := ⟨hC, hA, hsp, hln, hR.lp1, hR.lp2, rfl, hR.iok, hR.pok, hR.lok⟩
  by_cases hQ : HeiP il ih (ll + 1) p n lq s
  case neg => exact lawh_c il ih C P cp A O ll cl p l n sq lq cq s w hlq (Lib.hid HH) (Lib.hid HS) K hQ
  obtain rfl := hQ.lq
  obtain ⟨D, F, rfl, hD, hss⟩ := HS.resolve_left (by omega)
  exact lawh_d il ih C P cp A O ll cl p l n D F cq s w (Lib.hid HH) hD (Lib.hid hss) K (Lib.hid hQ)
end Go.Kn
