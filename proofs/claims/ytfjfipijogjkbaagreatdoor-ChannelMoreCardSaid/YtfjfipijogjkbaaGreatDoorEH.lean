/- Walks of functions of layer 2 (contracts that the laws of this seat use). Conditions: as each theorem states them. -/
import Derived.Test.YtfjfipijogjkbaaGreatDoorEG
import Derived.Test.YtfjfipijogjkbaaGreatDoorES
set_option linter.unusedVariables false
set_option linter.unusedSimpArgs false
namespace Go.Kn
open Go Go.Proofs Go.RowKit

theorem lawmo_w (sa ta sq pa la ka : Option Addr) (ls cs lt ct lq cq lp cp ll cl lk ck : Nat) (s : Nat → Int) (t : Nat → St5) (g : Nat → Int) (p : Nat → Sp2) (l : Nat → Int) (c : Nat → Cl3) (z : Cl3) (st up down nd less il ih : Int) (w : World) (hls : ls ≤ maxLen) (hlt : lt ≤ maxLen) (hlq : lq ≤ maxLen) (hlp : lp ≤ maxLen) (hll : ll ≤ maxLen) (hlk : lk ≤ maxLen) (HA : NumSl w sa ls s) (HT : StSl w ta lt t) (HS : IntSl w sq lq g) (HP : AnySip w pa la lp ll p l) (HC : ClSl w ka lk c) (K : Hid KnownOk') :
    Calls Tryz.prog 7 #[.agg #[.slice sa ls cs, .slice ta lt ct], .int .i64 st, .slice sq lq cq, .int .i64 up, .int .i64 down, .int .i64 nd, .int .i64 less, .agg #[.int .i64 il, .int .i64 ih, .slice pa lp cp, .slice la ll cl], .slice ka lk ck, .agg #[.int .i64 z.be, .int .i64 z.pr, .int .i64 z.st]] w
      fun e w' => e = .returned (.bool true) ∧ Below w.heap.size w w' := by
  by_cases hq1 : ls ≤ 13 ∧ lt ≤ 10
  case neg => exact lawmo_a1 sa ta sq pa la ka ls cs lt ct lq cq lp cp ll cl lk ck s t g p l c z st up down nd less il ih w hls hlt hlq hlp hll hlk (Lib.hid HA) (Lib.hid HT) (Lib.hid HS) K hq1
  by_cases hq2 : lq ≤ 10
  case neg => exact lawmo_a2 sa ta sq pa la ka ls cs lt ct lq cq lp cp ll cl lk ck s t g p l c z st up down nd less il ih w hls hlt hlq hlp hll hlk (Lib.hid HA) (Lib.hid HT) (Lib.hid HS) K hq1 hq2
  by_cases hq3 : lp ≤ 10 ∧ ll ≤ 10 ∧ lk ≤ 6
  case neg => exact lawmo_a3 sa ta sq pa la ka ls cs lt ct lq cq lp cp ll cl lk ck s t g p l c z st up down nd less il ih w hls hlt hlq hlp hll hlk (Lib.hid HA) (Lib.hid HT) (Lib.hid HS) K hq1 hq2 hq3
  by_cases hR : RightP ls lt s t
  case neg => exact lawmo_b1 sa ta sq pa la ka ls cs lt ct lq cq lp cp ll cl lk ck s t g p l c z st up down nd less il ih w hls hlt hlq hlp hll hlk (Lib.hid HA) (Lib.hid HT) (Lib.hid HS) K hq1 hq2 hq3 (Lib.hid hR)
  cases hc5 : fromB 0 ((lt : Int) - 1) st
  case false => exact lawmo_b2 sa ta sq pa la ka ls cs lt ct lq cq lp cp ll cl lk ck s t g p l c z st up down nd less il ih w hls hlt hlq hlp hll hlk (Lib.hid HA) (Lib.hid HT) (Lib.hid HS) K hq1 hq2 hq3 (Lib.hid hR) hc5
  by_cases hQ : AgeP lt lq g
  case neg => exact lawmo_b3 sa ta sq pa la ka ls cs lt ct lq cq lp cp ll cl lk ck s t g p l c z st up down nd less il ih w hls hlt hlq hlp hll hlk (Lib.hid HA) (Lib.hid HT) (Lib.hid HS) K hq1 hq2 hq3 (Lib.hid hR) hc5 (Lib.hid hQ)
  by_cases hu1 : up < 0
  case pos => exact lawmo_c1 sa ta sq pa la ka ls cs lt ct lq cq lp cp ll cl lk ck s t g p l c z st up down nd less il ih w hls hlt hlq hlp hll hlk (Lib.hid HA) (Lib.hid HT) (Lib.hid HS) K hq1 hq2 hq3 (Lib.hid hR) hc5 (Lib.hid hQ) hu1
  by_cases hu2 : (100 : Int) < up
  case pos => exact lawmo_c2 sa ta sq pa la ka ls cs lt ct lq cq lp cp ll cl lk ck s t g p l c z st up down nd less il ih w hls hlt hlq hlp hll hlk (Lib.hid HA) (Lib.hid HT) (Lib.hid HS) K hq1 hq2 hq3 (Lib.hid hR) hc5 (Lib.hid hQ) hu1 hu2
  by_cases hd1 : down < 0
  case pos => exact lawmo_c3 sa ta sq pa la ka ls cs lt ct lq cq lp cp ll cl lk ck s t g p l c z st up down nd less il ih w hls hlt hlq hlp hll hlk (Lib.hid HA) (Lib.hid HT) (Lib.hid HS) K hq1 hq2 hq3 (Lib.hid hR) hc5 (Lib.hid hQ) hu1 hu2 hd1
  by_cases hd2 : (100 : Int) < down
  case pos => exact lawmo_c4 sa ta sq pa la ka ls cs lt ct lq cq lp cp ll cl lk ck s t g p l c z st up down nd less il ih w hls hlt hlq hlp hll hlk (Lib.hid HA) (Lib.hid HT) (Lib.hid HS) K hq1 hq2 hq3 (Lib.hid hR) hc5 (Lib.hid hQ) hu1 hu2 hd1 hd2
  cases hcn : fromB 1 10000000 nd
  case false => exact lawmo_d sa ta sq pa la ka ls cs lt ct lq cq lp cp ll cl lk ck s t g p l c z st up down nd less il ih w hls hlt hlq hlp hll hlk (Lib.hid HA) (Lib.hid HT) (Lib.hid HS) K hq1 hq2 hq3 (Lib.hid hR) hc5 (Lib.hid hQ) hu1 hu2 hd1 hd2 hcn
  by_cases he1 : less < 0
  case pos => exact lawmo_e1 sa ta sq pa la ka ls cs lt ct lq cq lp cp ll cl lk ck s t g p l c z st up down nd less il ih w hls hlt hlq hlp hll hlk (Lib.hid HA) (Lib.hid HT) (Lib.hid HS) K hq1 hq2 hq3 (Lib.hid hR) hc5 (Lib.hid hQ) hu1 hu2 hd1 hd2 hcn he1
  by_cases he2 : nd ≤ less
  case pos => exact lawmo_e2 sa ta sq pa la ka ls cs lt ct lq cq lp cp ll cl lk ck s t g p l c z st up down nd less il ih w hls hlt hlq hlp hll hlk (Lib.hid HA) (Lib.hid HT) (Lib.hid HS) K hq1 hq2 hq3 (Lib.hid hR) hc5 (Lib.hid hQ) hu1 hu2 hd1 hd2 hcn he1 he2
  obtain rfl := hQ.eq
  obtain ⟨A, O, rfl, hA, hsp⟩ := HA.resolve_left (by have := hR.ls1; omega)
  obtain ⟨C, P, rfl, hC, hst⟩ := HT.resolve_left (by have := hR.lt1; omega)
  obtain ⟨D, F, rfl, hD, hdn⟩ := HS.resolve_left (by have := hR.lt1; omega)
  have h5 := hc5
  simp only [fromB, decide_eq_true_eq] at h5
  obtain ⟨n, rfl⟩ : ∃ n : Nat, st = (n : Int) := ⟨st.toNat, by omega⟩
  exact lawmo_g A O C P ls cs lq ct n D F cq pa la ka lp cp ll cl lk ck s t g p l c z up down nd less il ih w (Lib.hid ⟨hA, hC, hR.ls1, hR.ls2, hR.lt1, hR.lt2, hsp, hst, hR.sok, hR.tok⟩) (by omega) hD (Lib.hid hdn) (Lib.hid hQ) (Lib.hid HP) (Lib.hid HC) K hq3 hu1 hu2 hd1 hd2 hcn he1 he2
end Go.Kn

namespace Go.Kn
open Go Go.Proofs Go.RowKit Go.ChangeShapes Go.WideShapes Go.Deep
section
variable {H : Type} {enc : TypeId × Value → H} {w : World} {base : Nat} {spare : Nat → Bool} {held : Bool}
set_option maxRecDepth 100000 in
/-- a class as an argument -/
theorem cly_open {r : Reach} {b0 : Nat} {v : Value} {d : DataW H} {p : List MemPlace} {t : TypeId} (ht : t = 54) (hv : Value.okWide Tryz.prog w r b0 t v) (h : DataW.Trod enc Tryz.prog w base spare held t v d p) :
    ∃ y : Cl3, v = .agg #[.int .i64 y.be, .int .i64 y.pr, .int .i64 y.st] := by
  obtain ⟨cs, rfl, hsz⟩ := okWide_struct (by rw [ht]; exact Tryz.underlying54) hv
  subst ht
  obtain ⟨l⟩ := cs
  obtain ⟨fuel, hf⟩ := h
  obtain ⟨a, b, c, e⟩ := cl_cells hf
  have e' : l = [.int .i64 a, .int .i64 b, .int .i64 c] := e
  exact ⟨⟨a, b, c⟩, by rw [e']⟩
end
end Go.Kn
