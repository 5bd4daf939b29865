/- Walks of the functions of layer 2 that ChannelLast calls, and the law itself (a part of it). Conditions: as each theorem states them. -/
import Derived.Test.YtifdohhffmlbaaaGreatDoorZ3
set_option linter.unusedVariables false
set_option linter.unusedSimpArgs false
namespace Go.Kn
open Go Go.Proofs Go.RowKit
theorem lawl_w (sa ta : Option Addr) (ls cs lt ct : Nat) (s : Nat → Int) (t : Nat → St5) (st nd ot : Int) (w : World) (hls : ls ≤ maxLen) (hlt : lt ≤ maxLen) (HS0 : NumSl w sa ls s) (HT0 : StSl w ta lt t) (K : Hid KnownOk) :
    Calls Tryz.prog 8 #[.agg #[.slice sa ls cs, .slice ta lt ct], .int .i64 st, .int .i64 nd, .int .i64 ot] w
      fun e w' => e = .returned (.bool true) ∧ Below w.heap.size w w' := by
  by_cases hq : ls ≤ 13 ∧ lt ≤ 10
  case neg => exact lawl_a sa ta ls cs lt ct s t st nd ot w hls hlt HS0 HT0 K hq
  by_cases hR : RightP ls lt s t
  case neg => exact lawl_b sa ta ls cs lt ct s t st nd ot w hls hlt HS0 HT0 K hq hR
  cases g1 : fromB 0 ((lt : Int) - 1) st
  case false => exact lawl_c sa ta ls cs lt ct s t st nd ot w hls hlt HS0 HT0 K hq hR g1
  cases g2 : fromB 1 10000000 nd
  case false => exact lawl_d sa ta ls cs lt ct s t st nd ot w hls hlt HS0 HT0 K hq hR g1 g2
  cases g3 : fromB 0 200 ot
  case false => exact lawl_e sa ta ls cs lt ct s t st nd ot w hls hlt HS0 HT0 K hq hR g1 g2 g3
  simp only [fromB, decide_eq_true_eq] at g1 g3
  obtain ⟨n, rfl⟩ : ∃ n : Nat, st = n := ⟨st.toNat, by omega⟩
  have hn : n < lt := by omega
  obtain ⟨A, O, rfl, hA, hsp⟩ := HS0.resolve_left (by have := hR.ls1; omega)
  obtain ⟨C, P, rfl, hC, hst⟩ := HT0.resolve_left (by have := hR.lt1; omega)
  have H : Hid (LineAt w A O C P ls lt s t) := Lib.hid ⟨hA, hC, hR.ls1, hR.ls2, hR.lt1, hR.lt2, hsp, hst, hR.sok, hR.tok⟩
  obtain ⟨a, b, hG⟩ := great_exists s (t n) nd
  cases b
  · exact lawl_n A O C P ls cs lt ct n s t nd ot a w H hn g2 g3 K hG
  · by_cases ho : ot ≤ a
    · by_cases h2 : a = 200
      · exact lawl_s1 A O C P ls cs lt ct n s t nd ot a w H hn g2 g3 K ho hG h2
      · exact lawl_s2 A O C P ls cs lt ct n s t nd ot a w H hn g2 g3 K ho hG h2
    · exact lawl_t2 A O C P ls cs lt ct n s t nd ot a w H hn g2 g3 K ho hG (by omega)
end Go.Kn
