/- Walks of the functions of layer 2 that ChannelCarries calls, and the law itself (a part of it). Conditions: as each theorem states them. -/
import Derived.Test.YtifdohhffmlbaaaGreatDoorX6
set_option linter.unusedVariables false
set_option linter.unusedSimpArgs false
namespace Go.Kn
open Go Go.Proofs Go.RowKit
theorem lawc_w (sa ta : Option Addr) (ls cs lt ct : Nat) (s : Nat → Int) (t : Nat → St5) (st ag : Int) (w : World) (hls : ls ≤ maxLen) (hlt : lt ≤ maxLen) (HS0 : NumSl w sa ls s) (HT0 : StSl w ta lt t) (K : Hid KnownOk) :
    Calls Tryz.prog 3 #[.agg #[.slice sa ls cs, .slice ta lt ct], .int .i64 st, .int .i64 ag] w
      fun e w' => e = .returned (.bool true) ∧ Below w.heap.size w w' := by
  by_cases hq : ls ≤ 13 ∧ lt ≤ 10
  case neg => exact lawc_a sa ta ls cs lt ct s t st ag w hls hlt ⟨HS0, HT0⟩ K hq
  by_cases hR : RightP ls lt s t
  case neg => exact lawc_b sa ta ls cs lt ct s t st ag w hls hlt ⟨HS0, HT0⟩ K hq hR
  cases g1 : fromB 0 ((lt : Int) - 1) st
  case false => exact lawc_c sa ta ls cs lt ct s t st ag w hls hlt ⟨HS0, HT0⟩ K hq hR g1
  cases g2 : fromB 0 200 ag
  case false => exact lawc_d sa ta ls cs lt ct s t st ag w hls hlt ⟨HS0, HT0⟩ K hq hR g1 g2
  simp only [fromB, decide_eq_true_eq] at g1 g2
  obtain ⟨n, rfl⟩ : ∃ n : Nat, st = n := ⟨st.toNat, by omega⟩
  have hn : n < lt := by omega
  obtain ⟨A, O, rfl, hA, hsp⟩ := HS0.resolve_left (by have := hR.ls1; omega)
  obtain ⟨C, P, rfl, hC, hst⟩ := HT0.resolve_left (by have := hR.lt1; omega)
  exact lawc_good A O C P ls cs lt ct n s t ag w (Lib.hid ⟨hA, hC, hR.ls1, hR.ls2, hR.lt1, hR.lt2, hsp, hst, hR.sok, hR.tok⟩) hn g2 K
end Go.Kn
