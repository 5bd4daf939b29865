/- Contracts of functions that the laws of this seat call, or the evaluator of closed calls and its runs. Conditions: as each theorem states them. -/
import Derived.Test.YtpfbfdcpibajoaaGreatDoorHA
import Derived.Deep.QuietTactic
import Derived.KernelRfl
import Derived.Defers
import Derived.Recover
import Derived.Shelf.RegionOpen
import Derived.Deep.AppendLies
import Derived.Deep.RegionLaw
set_option linter.unusedVariables false
set_option linter.unusedSimpArgs false
/- Contracts of functions that the laws of this seat call, or the evaluator of closed calls and its runs. Conditions: as each theorem states them. -/
set_option linter.unusedVariables false
set_option linter.unusedSimpArgs false
namespace Go.Kn
open Go Go.Proofs Go.RowKit

def ndV (x : N2) : Value := .agg #[.int .i64 x.p, .int .i64 x.c]
def ouV (x : O3) : Value := .agg #[.int .i64 x.n, .int .i64 x.c, .int .i64 x.k]

theorem ndOf_w (p c f b : Int) (na oa : Option Addr) (ln cn lo co : Nat) (w : World) :
    Calls Tryz.prog 246 #[.agg #[.int .i64 p, .int .i64 c], .agg #[.int .i64 f, .slice na ln cn, .slice oa lo co], .int .i64 b] w
      fun e w' => e = .returned (.bool (fromB 0 b p && fromB 0 200 c)) ∧ Below w.heap.size w w' := by
  cases h1 : fromB 0 b p
  all_goals
    go_enter Tryz.func246, Tryz.ntmps246
    go_wp2_with (first | (go_at_call 91; refine (isFrom_w _ _ _ _).mono ?_; rintro e w1 ⟨rfl, rfl⟩) | (go_at_call 104; refine (areCups_w _ _).mono ?_; rintro e w1 ⟨rfl, rfl⟩))
    go_ret
    exact ⟨rfl, ((Below.refl _ _).alloc (Nat.le_refl _) _).alloc (by simp) _⟩

theorem ouOf_w (n c k f b : Int) (na oa : Option Addr) (ln cn lo co : Nat) (w : World) :
    Calls Tryz.prog 248 #[.agg #[.int .i64 n, .int .i64 c, .int .i64 k], .agg #[.int .i64 f, .slice na ln cn, .slice oa lo co], .int .i64 b] w
      fun e w' => e = .returned (.bool (fromB 0 ln n && fromB 1 200 c && fromB 0 3 k)) ∧ Below w.heap.size w w' := by
  have x0 : ((w.alloc (.cells #[.int .i64 n, .int .i64 c, .int .i64 k] 144)).alloc (.cells #[.int .i64 f, .slice na ln cn, .slice oa lo co] 25)).heap.size = w.heap.size + 1 + 1 := by simp
  cases h1 : fromB 0 ln n <;> cases h2 : fromB 1 200 c
  all_goals
    go_enter Tryz.func248, Tryz.ntmps248
    go_wp2_with (first
      | (go_at_call 102; refine (isNode_w _ _ _ _ _ _ _ _ _).mono ?_; rintro e w1 ⟨rfl, hb1⟩; have hz1 := hb1.size; rw [x0] at hz1; have y1 : w1.cell? ⟨w.heap.size, 1, none⟩ = some (.int .i64 c) := ((bcell hb1).1 _ _ (by rw [x0]; omega)).trans (by simp); have y2 : w1.cell? ⟨w.heap.size, 2, none⟩ = some (.int .i64 k) := ((bcell hb1).1 _ _ (by rw [x0]; omega)).trans (by simp))
      | (go_at_call 91; refine (isFrom_w _ _ _ _).mono ?_; rintro e w2 ⟨rfl, rfl⟩) | (go_at_call 108; refine (isClass_w _ _).mono ?_; rintro e w3 ⟨rfl, rfl⟩))
    go_ret
    exact ⟨rfl, (((Below.refl _ _).alloc (Nat.le_refl _) _).alloc (by simp) _).trans (hb1.mono (by rw [x0]; omega))⟩

def partsL (ln lo : Nat) (N : Nat → N2) (U : Nat → O3) : List Value := (upto N ln).map (fun x => Value.iface 143 (ndV x)) ++ (upto U lo).map (fun x => Value.iface 144 (ouV x))
theorem partsL_sn (ln : Nat) (N : Nat → N2) (U : Nat → O3) : partsL (ln + 1) 0 N U = partsL ln 0 N U ++ [.iface 143 (ndV (N ln))] := by simp [partsL, upto, List.range_succ]
theorem partsL_so (ln lo : Nat) (N : Nat → N2) (U : Nat → O3) : partsL ln (lo + 1) N U = partsL ln lo N U ++ [.iface 144 (ouV (U lo))] := by simp [partsL, upto_succ]
theorem partsL_n {ln lo k : Nat} {N : Nat → N2} {U : Nat → O3} (h : k < ln) : (partsL ln lo N U)[k]? = some (.iface 143 (ndV (N k))) := by
  rw [partsL, List.getElem?_append_left (by simp [upto_length]; omega)]
  simp [upto, h]
theorem partsL_o {ln lo j : Nat} {N : Nat → N2} {U : Nat → O3} (h : j < lo) : (partsL ln lo N U)[ln + j]? = some (.iface 144 (ouV (U j))) := by
  rw [partsL, List.getElem?_append_right (by simp [upto_length])]
  simp [upto, h]
theorem partsL_len (ln lo : Nat) (N : Nat → N2) (U : Nat → O3) : (partsL ln lo N U).length = ln + lo := by simp [partsL, upto_length]

set_option maxRecDepth 100000 in
set_option maxHeartbeats 4000000 in
theorem partsOf_w (f : Int) (na oa : Option Addr) (ln cn lo co : Nat) (N : Nat → N2) (U : Nat → O3) (w : World) (hln : ln ≤ 1000000) (hlo : lo ≤ 1000000) (H : Hid (Tr7 w na oa ln lo N U)) :
    Calls Tryz.prog 89 #[.agg #[.int .i64 f, .slice na ln cn, .slice oa lo co]] w
      fun e w' => (∃ v, e = .returned v ∧ w'.ownsRow w.heap.size 119 1 v (ln + lo) (partsL ln lo N U)) ∧ Below w.heap.size w w' := by
  have HN := Lib.hid H.out.hn
  have HO := Lib.hid H.out.ho
  obtain ⟨i0, hi, hz0, hz1, hz2⟩ := info_parts info87'
  go_enter Tryz.func89, Tryz.ntmps89
  go_wp2
  go_loopw [2, 10] (fun v ii wr => ∃ k : Nat, k ≤ ln ∧ ii = .int .i64 (k : Int) ∧ wr.ownsRow (w.heap.size + 1) 119 1 v k (partsL k 0 N U) ∧ Below (w.heap.size + 1) (w.alloc (.cells #[.int .i64 f, .slice na ln cn, .slice oa lo co] 25)) wr) (fun _ ii _ => ln - (intOf ii).toNat)
  case atStart => exact ⟨0, Nat.zero_le _, rfl, ⟨rfl, .inl ⟨rfl, rfl⟩⟩, Below.refl _ _⟩
  case round =>
    obtain ⟨k, hk, rfl, hown, hbw⟩ := hrel
    have HOW := Lib.hid hown
    have HBW := Lib.hid hbw
    have hz : w.heap.size + 1 ≤ wr.heap.size := by have := hbw.size; simp at this; omega
    have x1 : wr.cell? ⟨w.heap.size, 1, none⟩ = some (.slice na ln cn) := (hbw.cell (p := ⟨w.heap.size, 1, none⟩) (by simp)).trans (by simp)
    have x2 : wr.cell? ⟨w.heap.size, 2, none⟩ = some (.slice oa lo co) := (hbw.cell (p := ⟨w.heap.size, 2, none⟩) (by simp)).trans (by simp)
    have hB : Below w.heap.size w wr := ((Below.refl _ _).alloc (Nat.le_refl _) _).trans (hbw.mono (Nat.le_succ _))
    by_cases hlt : k < ln
    · obtain ⟨A, O, rfl, hA, hcells⟩ := (HN.out.below hB).resolve_left (by omega)
      obtain ⟨c0, c1⟩ := hcells k hlt
      have n1 : (0 : Int) ≤ (k : Int) := by omega
      have n2 : (k : Int) < (ln : Int) := by omega
      clear hcells hown hbw hB
      go_wp2_with (at_builtin; refine wpList_append_own_at _ rfl (.tmp 14) (.tmp 17) 116 rfl (w.heap.size + 1) 119 i0 (.nilIface) 1 16 Tryz.underlying116 hi hz0 hz1 hz2 rfl (by decide) _ k _ rfl ((HOW.out.alloc _).alloc _) ⟨_, 0, none⟩ 1 1 [.iface 143 (ndV (N k))] rfl rfl (lies_any (by first | exact al_top rfl _ _ | exact al_top (by simp) _ _)) (by intro u hu; simp at hu; subst hu; rfl) (by unfold maxLen; omega) (by omega) (by simp; omega) ?_; intro v7 w7 hown7 hgrow7 _ hloc7)
      go_roundw
      case rel => exact ⟨k + 1, by omega, by go_num, by rw [partsL_sn]; exact hown7, ((HBW.out.alloc (by omega) _).alloc (by simp; omega) _).grown hgrow7 (by simp; omega) (fun r e => by have := own_ge HOW.out r e; omega)⟩
      case measure => simp [intOf]; omega
    · have hkl : k = ln := by omega
      subst hkl
      clear hown hbw hB
      obtain ⟨wm, rfl⟩ : ∃ wm, wm = wr := ⟨_, rfl⟩
      go_wp2
      go_loopw [2, 23] (fun v ii wq => ∃ j : Nat, j ≤ lo ∧ ii = .int .i64 (j : Int) ∧ wq.ownsRow (w.heap.size + 1) 119 1 v (k + j) (partsL k j N U) ∧ Below (w.heap.size + 1) (w.alloc (.cells #[.int .i64 f, .slice na k cn, .slice oa lo co] 25)) wq) (fun _ ii _ => lo - (intOf ii).toNat)
      case atStart => exact ⟨0, Nat.zero_le _, rfl, HOW.out, HBW.out⟩
      case round =>
        obtain ⟨j, hj, rfl, hown, hbw⟩ := hrel
        have HOW2 := Lib.hid hown
        have HBW2 := Lib.hid hbw
        have hz2' : w.heap.size + 1 ≤ wr.heap.size := by have := hbw.size; simp at this; omega
        have hB2 : Below w.heap.size w wr := ((Below.refl _ _).alloc (Nat.le_refl _) _).trans (hbw.mono (Nat.le_succ _))
        by_cases hlt2 : j < lo
        · obtain ⟨A, O, rfl, hA, hcells⟩ := (HO.out.below hB2).resolve_left (by omega)
          obtain ⟨c0, c1, c2⟩ := hcells j hlt2
          have n1 : (0 : Int) ≤ (j : Int) := by omega
          have n2 : (j : Int) < (lo : Int) := by omega
          clear hcells hown hbw hB2
          go_wp2_with (at_builtin; refine wpList_append_own_at _ rfl (.tmp 27) (.tmp 30) 116 rfl (w.heap.size + 1) 119 i0 (.nilIface) 1 16 Tryz.underlying116 hi hz0 hz1 hz2 rfl (by decide) _ (k + j) _ rfl ((HOW2.out.alloc _).alloc _) ⟨_, 0, none⟩ 1 1 [.iface 144 (ouV (U j))] rfl rfl (lies_any (by first | exact al_top rfl _ _ | exact al_top (by simp) _ _)) (by intro u hu; simp at hu; subst hu; rfl) (by unfold maxLen; omega) (by omega) (by simp; omega) ?_; intro v7 w7 hown7 hgrow7 _ hloc7)
          go_roundw
          case rel => exact ⟨j + 1, by omega, by go_num, by rw [partsL_so]; exact hown7, ((HBW2.out.alloc (by omega) _).alloc (by simp; omega) _).grown hgrow7 (by simp; omega) (fun r e => by have := own_ge HOW2.out r e; omega)⟩
          case measure => simp [intOf]; omega
        · have hjl : j = lo := by omega
          subst hjl
          clear hown hbw
          go_wp2
          go_ret
          exact ⟨⟨_, rfl, own_base HOW2.out (by omega)⟩, hB2⟩

theorem isOf2 (v : Value) (w : World) : (method 343 144 v "quinaria/drought.isOf").run Tryz.prog w = .ok (248, v) w := by kernel_rfl
theorem isOf1 (v : Value) (w : World) : (method 343 143 v "quinaria/drought.isOf").run Tryz.prog w = .ok (246, v) w := by kernel_rfl

set_option maxRecDepth 100000 in
set_option maxHeartbeats 4000000 in
theorem isTree_w (f : Int) (na oa : Option Addr) (ln cn lo co : Nat) (N : Nat → N2) (U : Nat → O3) (w : World) (hln : ln ≤ 1000000) (hlo : lo ≤ 1000000) (H : Hid (Tr7 w na oa ln lo N U)) :
    Calls Tryz.prog 62 #[.agg #[.int .i64 f, .slice na ln cn, .slice oa lo co]] w
      fun e w' => (∃ rb : Bool, e = .returned (.bool rb) ∧ (rb = true ↔ TreeS f ln lo N U)) ∧ Below w.heap.size w w' := by
  cases hf : fromB 0 200 f
  · go_enter Tryz.func62, Tryz.ntmps62
    go_wp2_with (first | (go_at_call 104; refine (areCups_w _ _).mono ?_; rintro e w1 ⟨rfl, rfl⟩) | (go_at_call 91; refine (isFrom_w _ _ _ _).mono ?_; rintro e w1 ⟨rfl, rfl⟩))
    go_ret
    exact ⟨⟨false, rfl, no_iff (fun h => by have := h.ff; rw [hf] at this; cases this)⟩, (Below.refl _ _).alloc (Nat.le_refl _) _⟩
  by_cases hl6 : ¬ ln ≤ 6
  · go_enter Tryz.func62, Tryz.ntmps62
    go_wp2_with (first | (go_at_call 104; refine (areCups_w _ _).mono ?_; rintro e w1 ⟨rfl, rfl⟩) | (go_at_call 91; refine (isFrom_w _ _ _ _).mono ?_; rintro e w1 ⟨rfl, rfl⟩))
    go_ret
    first
      | exact ⟨⟨false, rfl, no_iff (fun h => hl6 h.l6)⟩, (Below.refl _ _).alloc (Nat.le_refl _) _⟩
      | exact ⟨.inl ⟨rfl, fun h => hl6 h.l6⟩, (Below.refl _ _).alloc (Nat.le_refl _) _⟩
  have hl6 : ln ≤ 6 := by omega
  cases hv2 : fromB 1 8 (lo : Int)
  · go_enter Tryz.func62, Tryz.ntmps62
    go_wp2_with (first | (go_at_call 104; refine (areCups_w _ _).mono ?_; rintro e w1 ⟨rfl, rfl⟩) | (go_at_call 91; refine (isFrom_w _ _ _ _).mono ?_; rintro e w1 ⟨rfl, rfl⟩))
    go_ret
    exact ⟨⟨false, rfl, no_iff (fun h => by have := h.lo1; have := h.lo2; simp only [fromB, decide_eq_false_iff_not] at hv2; omega)⟩, (Below.refl _ _).alloc (Nat.le_refl _) _⟩
  have hlo2 : 1 ≤ lo ∧ lo ≤ 8 := by simp only [fromB, decide_eq_true_eq] at hv2; omega
  obtain ⟨W0, hW0⟩ : ∃ W0, W0 = w.alloc (.cells #[.int .i64 f, .slice na ln cn, .slice oa lo co] 25) := ⟨_, rfl⟩
  have hz0 : W0.heap.size = w.heap.size + 1 := by rw [hW0]; simp
  have hB0 : Below w.heap.size w W0 := by rw [hW0]; exact (Below.refl _ _).alloc (Nat.le_refl _) _
  have HP : Hid (Calls Tryz.prog 89 #[.agg #[.int .i64 f, .slice na ln cn, .slice oa lo co]] W0 fun e w' => (∃ v, e = .returned v ∧ w'.ownsRow W0.heap.size 119 1 v (ln + lo) (partsL ln lo N U)) ∧ Below W0.heap.size W0 w') := Lib.hid (partsOf_w f na oa ln cn lo co N U W0 hln hlo (Lib.hid (H.out.below hB0)))
  have FX : Hid (∀ w', Below W0.heap.size W0 w' → w'.cell? ⟨w.heap.size, 0, none⟩ = some (.int .i64 f) ∧ w'.cell? ⟨w.heap.size, 1, none⟩ = some (.slice na ln cn) ∧ w'.cell? ⟨w.heap.size, 2, none⟩ = some (.slice oa lo co)) := Lib.hid fun w' h => by
    have q := (bcell h).1
    exact ⟨(q _ _ (by omega)).trans (by rw [hW0]; simp), (q _ _ (by omega)).trans (by rw [hW0]; simp), (q _ _ (by omega)).trans (by rw [hW0]; simp)⟩
  have HB0 := Lib.hid hB0
  clear hB0
  obtain ⟨x0, x1, x2⟩ := FX.out _ (Below.refl _ _)
  go_enter Tryz.func62, Tryz.ntmps62
  go_wp2_with (first
    | (go_at_call 104; refine (areCups_w _ _).mono ?_; rintro e w1 ⟨rfl, rfl⟩)
    | (go_at_call 91; refine (isFrom_w _ _ _ _).mono ?_; rintro e w1 ⟨rfl, rfl⟩)
    | (go_at_call 89; rw [← hW0]; refine HP.out.mono ?_; rintro e w1 ⟨⟨v1, rfl, hown1⟩, hb1⟩; obtain ⟨G, cap, rfl, g1, g2, g3, hcellG⟩ := vals_of_owns hown1 (by omega)))
  have hw1 := hb1.size
  have HG : Hid (∀ w', Below w1.heap.size w1 w' → ∀ (j : Nat) (x : Value), (partsL ln lo N U)[j]? = some x → w'.cell? ⟨G, j, none⟩ = some x) := Lib.hid fun w' h j x hj => by rw [(bcell h).1 _ _ g3]; exact hcellG j x hj
  have HB1 := Lib.hid hb1
  clear hcellG x0 x1 x2 hb1
  go_loopw [25] (fun ii wr => ∃ k : Nat, k ≤ ln + lo ∧ ii = .int .i64 (k : Int) ∧ Below w1.heap.size w1 wr ∧ (∀ j, j < k → j < ln → nodeB j (N j) = true) ∧ (∀ j, j < lo → ln + j < k → outB ln (U j) = true)) (fun ii _ => ln + lo - (intOf ii).toNat)
  case atStart => exact ⟨0, Nat.zero_le _, rfl, Below.refl _ _, fun j hj => absurd hj (by omega), fun j _ hj => absurd hj (by omega)⟩
  case round =>
    obtain ⟨k, hk, rfl, hbw, hnk, hok⟩ := hrel
    have HNK := Lib.hid hnk
    have HOK := Lib.hid hok
    obtain ⟨x0, x1, x2⟩ := FX.out wr (HB1.out.trans (hbw.mono HB1.out.size))
    have HBW := Lib.hid hbw
    have fin : Below w.heap.size w wr := HB0.out.trans ((HB1.out.trans (hbw.mono HB1.out.size)).mono HB0.out.size)
    clear hnk hok
    by_cases hlt : k < ln + lo
    · have n1 : (0 : Int) ≤ (k : Int) := by omega
      have n2 : (k : Int) < ((ln + lo : Nat) : Int) := by omega
      have n3 : (k : Int) < (ln : Int) + (lo : Int) := by omega
      by_cases hkn : k < ln
      · have hc : wr.cell? ⟨G, k, none⟩ = some (.iface 143 (ndV (N k))) := HG.out wr hbw k _ (partsL_n hkn)
        have hm := isOf1
        unfold ndV at hc
        clear hbw
        cases hb : nodeB k (N k)
        · have hbb : (fromB 0 (k : Int) (N k).p && fromB 0 200 (N k).c) = false := hb
          go_wp2_with (go_at_call 246; refine (ndOf_w _ _ _ _ _ _ _ _ _ _ _).mono ?_; rw [hbb]; rintro e w3 ⟨rfl, hb3⟩)
          go_ret
          exact ⟨⟨false, rfl, no_iff (fun h => by have := h.nk k hkn; rw [hb] at this; cases this)⟩, fin.trans (hb3.mono fin.size)⟩
        · have hbb : (fromB 0 (k : Int) (N k).p && fromB 0 200 (N k).c) = true := hb
          go_wp2_with (go_at_call 246; refine (ndOf_w _ _ _ _ _ _ _ _ _ _ _).mono ?_; rw [hbb]; rintro e w3 ⟨rfl, hb3⟩)
          go_roundw
          case rel => exact ⟨k + 1, by omega, by go_num, HBW.out.trans (hb3.mono HBW.out.size), fun j h1 h2 => by
            rcases Nat.lt_succ_iff_lt_or_eq.1 h1 with h | h
            · exact HNK.out j h h2
            · rw [h]; exact hb, fun j h1 h2 => absurd h2 (by omega)⟩
          case measure => simp [intOf]; omega
      · obtain ⟨j, rfl⟩ : ∃ j, k = ln + j := ⟨k - ln, by omega⟩
        have hjl : j < lo := by omega
        have hc : wr.cell? ⟨G, ln + j, none⟩ = some (.iface 144 (ouV (U j))) := HG.out wr hbw (ln + j) _ (partsL_o hjl)
        have hm := isOf2
        unfold ouV at hc
        clear hbw
        cases hb : outB ln (U j)
        · have hbb : (fromB 0 (ln : Int) (U j).n && fromB 1 200 (U j).c && fromB 0 3 (U j).k) = false := hb
          go_wp2_with (go_at_call 248; refine (ouOf_w _ _ _ _ _ _ _ _ _ _ _ _).mono ?_; rw [hbb]; rintro e w3 ⟨rfl, hb3⟩)
          go_ret
          exact ⟨⟨false, rfl, no_iff (fun h => by have := h.ok j hjl; rw [hb] at this; cases this)⟩, fin.trans (hb3.mono fin.size)⟩
        · have hbb : (fromB 0 (ln : Int) (U j).n && fromB 1 200 (U j).c && fromB 0 3 (U j).k) = true := hb
          go_wp2_with (go_at_call 248; refine (ouOf_w _ _ _ _ _ _ _ _ _ _ _ _).mono ?_; rw [hbb]; rintro e w3 ⟨rfl, hb3⟩)
          go_roundw
          case rel => exact ⟨ln + j + 1, by omega, by go_num, HBW.out.trans (hb3.mono HBW.out.size), fun i h1 h2 => HNK.out i (by omega) h2, fun i h1 h2 => by
            rcases Nat.lt_succ_iff_lt_or_eq.1 (show ln + i < ln + j + 1 by omega) with h | h
            · exact HOK.out i h1 h
            · obtain rfl : i = j := by omega
              exact hb⟩
          case measure => simp [intOf]; omega
    · obtain rfl : k = ln + lo := by omega
      clear hbw
      go_wp2
      go_ret
      exact ⟨⟨true, rfl, ⟨fun _ => ⟨hf, hl6, hlo2.1, hlo2.2, fun i hi => HNK.out i (by omega) hi, fun i hi => HOK.out i hi (by omega)⟩, fun _ => rfl⟩⟩, fin⟩
end Go.Kn

namespace Go.Kn
open Go Go.Proofs Go.RowKit

theorem below_drew {B : Nat} {a w : World} (h : Below B a w) : Below B a w.drew := h.trans ⟨rfl, rfl, rfl, Nat.le_refl _, fun _ _ => rfl⟩

/-- The lexical walk, behind a door: so that nobody lays it open unasked. -/
structure Calm (P : Program) (ops : Array Oper) (C : World → Prop) (Q : Act → Prop) (l : List Oper) (a : Act) : Prop where
  out : wpQuiet P ops C Q l a

/-- One walk of the lexical order serves every order: the class of worlds in which nothing below a mark has changed. -/
theorem wp_region_calm {P : Program} {id : Nat} {Q : Exit → Act → World → Prop} {a : Act} {w W : World} {l : List Oper} (hm : P.follows .mixedOrders = true) (hB : Region.lexB .any l.toArray = true) (h0 : Below W.heap.size W w)
    (h : Calm P l.toArray (fun w' => Below W.heap.size W w') (fun a' => ∀ w', Below W.heap.size W w' → Q .normal a' w') l a) : (Code.region id l.toArray true).wp P Q a w :=
  wp_region_quiet (C := fun w' => Below W.heap.size W w') hm hB (below_drew h0) (by simpa using h.out)

theorem calm_nil {P : Program} {ops : Array Oper} {C : World → Prop} {Q : Act → Prop} {a : Act} (h : Q a) : Calm P ops C Q [] a := ⟨wpQuiet_nil h⟩

theorem calm_yes {P : Program} {ops : Array Oper} {C : World → Prop} {Q : Act → Prop} {a : Act} {o : Oper} {rest : List Oper} {v : Value} (hw : Region.wanted o (yielded ops a.tmps) = true)
    (h1 : ∀ w', C w' → o.quietAt P a C w' v) (h2 : Calm P ops C Q rest (a.put o.dst v)) : Calm P ops C Q (o :: rest) a := by
  refine ⟨?_⟩
  unfold wpQuiet
  rw [if_pos hw]
  exact ⟨v, h1, h2.out⟩

theorem calm_no {P : Program} {ops : Array Oper} {C : World → Prop} {Q : Act → Prop} {a : Act} {o : Oper} {rest : List Oper} (hw : Region.wanted o (yielded ops a.tmps) = false)
    (h2 : Calm P ops C Q rest (a.put o.dst undef)) : Calm P ops C Q (o :: rest) a := by
  refine ⟨?_⟩
  unfold wpQuiet
  rw [if_neg (by rw [hw]; decide)]
  exact h2.out

theorem ta_nil1 (w : World) : (Instr.typeAssert Value.nilIface 20 130 true).run Tryz.prog w = .ok (.tuple #[.agg #[], .bool false]) w := by kernel_rfl

theorem ta_nil2 (w : World) : (Instr.typeAssert Value.nilIface 20 131 true).run Tryz.prog w = .ok (.tuple #[.agg #[], .bool false]) w := by kernel_rfl

theorem ta_rate (w : World) : (Instr.typeAssert (Value.iface 130 (.agg #[])) 20 130 true).run Tryz.prog w = .ok (.tuple #[.agg #[], .bool true]) w := by kernel_rfl

set_option maxRecDepth 100000 in
set_option maxHeartbeats 1000000 in
theorem catch_none (p : Addr) (w : World) :
    CallsD Tryz.prog 114 #[.pointer (some p)] .returning w fun e u' w' => e = .returned (.tuple #[]) ∧ u' = .returning ∧ w' = w := by
  refine callsD_of_wpS Tryz.func114 rfl fun c₀ cs hu => ?_
  have h1 := ta_nil1
  have h2 := ta_nil2
  apply wpS_seq
  apply wpS_region
  simp [wpOpsS, go_sem, recoverD, hu, Tryz.ntmps114, Exit.thenS]
  refine wpS_of_wp ?_
  go_wp2
  simp [bodyPostS, results, Tryz.results114]
  cases c₀
  simp_all

set_option maxRecDepth 100000 in
set_option maxHeartbeats 1000000 in
theorem catch_rate (p : Addr) (x : Int) (older : List PanicEntry) (w : World) (hc : w.cell? p = some (.int .i64 x)) (hz : w.frozen? p = false) :
    CallsD Tryz.prog 114 #[.pointer (some p)] (.panicking ({ v := .iface 130 (.agg #[]), recovered := false } :: older)) w fun e u' w' =>
      e = .returned (.tuple #[]) ∧ u' = .panicking ({ v := .iface 130 (.agg #[]), recovered := true } :: older) ∧ w' = w.setCell p (.int .i64 7) := by
  refine callsD_of_wpS Tryz.func114 rfl fun c₀ cs hu => ?_
  have h1 := ta_rate
  apply wpS_seq
  apply wpS_region
  simp [wpOpsS, go_sem, recoverD, hu, Tryz.ntmps114, Exit.thenS]
  refine wpS_of_wp ?_
  go_wp2
  simp [bodyPostS, results, Tryz.results114]

theorem must_f (t : TypeId) (v : Value) (w : World) : Calls Tryz.prog 115 #[.bool false, .iface t v] w fun e w' => e = .panicked [{ v := .iface t v, recovered := false }] ∧ w' = w := by
  go_enter Tryz.func115, Tryz.ntmps115
  go_wp2
  exact ⟨rfl, rfl, rfl⟩

theorem must_t (v : Value) (w : World) : Calls Tryz.prog 115 #[.bool true, v] w fun e w' => e = .returned (.tuple #[]) ∧ w' = w := by
  go_enter Tryz.func115, Tryz.ntmps115
  go_wp2
  go_end0
  exact ⟨rfl, rfl⟩

/-- the chapter's examples hold -/
def KnownOk : Prop := ∀ w : World, Calls Tryz.prog 14 #[] w fun e w' => e = .returned (.bool true) ∧ Below w.heap.size w w'

theorem box7 {w w1 : World} {f : Int} {na oa : Option Addr} {ln cn lo co : Nat} (hb : Below (w.alloc (.cells #[.int .i64 f, .slice na ln cn, .slice oa lo co] 25)).heap.size (w.alloc (.cells #[.int .i64 f, .slice na ln cn, .slice oa lo co] 25)) w1) :
    w1.cell? ⟨w.heap.size, 0, none⟩ = some (.int .i64 f) ∧ w1.cell? ⟨w.heap.size, 1, none⟩ = some (.slice na ln cn) ∧ w1.cell? ⟨w.heap.size, 2, none⟩ = some (.slice oa lo co) ∧ w.heap.size < w1.heap.size := by
  have q := (bcell hb).1
  have hs := hb.size
  refine ⟨(q _ _ (by simp)).trans (by simp), (q _ _ (by simp)).trans (by simp), (q _ _ (by simp)).trans (by simp), ?_⟩
  simp at hs; omega

end Go.Kn
