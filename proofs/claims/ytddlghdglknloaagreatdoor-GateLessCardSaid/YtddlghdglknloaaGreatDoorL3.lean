/- Contracts of functions that the laws of this seat call, or the evaluator of closed calls and its runs. Conditions: as each theorem states them. -/
import Derived.Test.YtddlghdglknloaaGreatDoorL2
import Derived.Test.YtddlghdglknloaaGreatDoorJ4
set_option linter.unusedVariables false
set_option linter.unusedSimpArgs false
namespace Go.Kn
open Go Go.Proofs Go.RowKit

theorem memI_any {L : List Nat} {x : Int} : memI L x = anyB (lgI L) x L.length := by
  rw [Bool.eq_iff_iff, memI_iff, anyB_iff]
  constructor
  · rintro ⟨i, hi, rfl⟩
    obtain ⟨k, hk, rfl⟩ := List.getElem_of_mem hi
    exact ⟨k, hk, lgI_get hk⟩
  · rintro ⟨k, hk, rfl⟩
    exact ⟨L[k], List.getElem_mem _, (lgI_get hk).symm⟩
theorem sumL_one (g : Nat → Int) (x : Nat) : sumL g [x] = g x := by simp [sumL]

set_option maxRecDepth 100000 in
set_option maxHeartbeats 8000000 in
theorem rshort_w (pa ca sa la : Option Addr) (lp cp lc cc m sc q qc : Nat) (P : Nat → P8) (C : Nat → C8) (s : Nat → Int) (L : List Nat) (hi : Bool) (w : World) (HP : Hid (NetP lp P lc C)) (HG : Hid (gatsB lc C s m = true)) (hm : m ≤ 1000) (hl : L.length = q) (hq : q ≤ 7) (HL : Hid (∀ y ∈ L, y < lp)) (H : Hid (Ne8 w pa ca lp lc P C)) (HO : Hid (IntSl w sa m s)) (HS : Hid (IntSl w la q (lgI L))) :
    Calls Tryz.prog 26 #[.agg #[.slice pa lp cp, .slice ca lc cc], .slice sa m sc, .slice la q qc, .bool hi] w fun e w' => e = .returned (.int .i64 (-(spareV P lc C (opnF s m) hi L))) ∧ Below w.heap.size w w' := by
  have hc10 := HP.out.c10
  have hl7 := HP.out.l7
  obtain ⟨W0, hW0⟩ : ∃ W0, W0 = w.alloc (.cells #[.slice pa lp cp, .slice ca lc cc] 25) := ⟨_, rfl⟩
  have hA : Below w.heap.size w W0 := by rw [hW0]; exact (Below.refl _ _).alloc (Nat.le_refl _) _
  have HF : Hid (∀ w2, Below W0.heap.size W0 w2 → w2.cell? ⟨w.heap.size, 0, none⟩ = some (.slice pa lp cp) ∧ w2.cell? ⟨w.heap.size, 1, none⟩ = some (.slice ca lc cc)) := Lib.hid fun w2 h => by
    rw [hW0] at h
    exact ⟨(box_cells h).1, (box_cells h).2.1⟩
  have HN : Hid (∀ w2, Below W0.heap.size W0 w2 → Ne8 w2 pa ca lp lc P C) := Lib.hid fun w2 h => H.out.below (hA.trans (h.mono hA.size))
  have HLS : Hid (∀ w2, Below W0.heap.size W0 w2 → IntSl w2 la q (lgI L)) := Lib.hid fun w2 h => HS.out.below (hA.trans (h.mono hA.size))
  have HOP : Hid (∀ c w2, c < lc → Below W0.heap.size W0 w2 → Calls Tryz.prog 63 #[.agg #[.slice pa lp cp, .slice ca lc cc], .slice sa m sc, .int .i64 (c : Int)] w2 fun e w' => e = .returned (.bool (!(C c).ga || anyB s (c : Int) m)) ∧ Below w2.heap.size w2 w') :=
    Lib.hid fun c w2 hc h => ropen_w pa ca sa lp cp lc cc m sc c P C s w2 hc (by omega) (by omega) (Lib.hid (HN.out w2 h)) (Lib.hid (HO.out.below (hA.trans (h.mono hA.size))))
  have HLI : Hid (∀ (x : Int) w2, Below W0.heap.size W0 w2 → Calls Tryz.prog 40 #[.slice la q qc, .int .i64 x] w2 fun e w' => e = .returned (.bool (memI L x)) ∧ w2 = w') :=
    Lib.hid fun x w2 h => by rw [memI_any, hl]; exact rlisted_w la q qc (lgI L) x w2 (by omega) (Lib.hid (HLS.out w2 h))
  have HA := Lib.hid hA
  have HLL := Lib.hid hl
  have HOA : Hid (∀ c, opnF s m c = anyB s (c : Int) m) := Lib.hid fun c => opnF_any HG.out c m (Nat.le_refl _)
  have HB1 : Hid (∀ k, k ≤ q → -7000000 ≤ sumL (leftV P hi) (L.take k) ∧ sumL (leftV P hi) (L.take k) ≤ 7000000) := Lib.hid fun k hk => by
    have h1 := sumL_bd (g := leftV P hi) (m := 1000000) (by decide) (L.take k) (fun x hx => leftV_bd HP.out.b (HL.out x (List.mem_of_mem_take hx)))
    have h2 := List.length_take_le k L
    omega
  have HB2 : Hid (∀ j, j ≤ lc → 0 ≤ sumN (fun k => if inV C L k then carV C (opnF s m) k else 0) j ∧ sumN (fun k => if inV C L k then carV C (opnF s m) k else 0) j ≤ 100000) := Lib.hid fun j hj => by
    have h1 := sumN_bd (g := fun k => if inV C L k then carV C (opnF s m) k else 0) (m := 10000) j (fun i hi => by
      have := HP.out.c (show i < lc by omega)
      simp only [carV]
      split <;> (try split) <;> omega)
    have h2 : (j : Int) ≤ 10 := by omega
    omega
  have HV : Hid (spareV P lc C (opnF s m) hi L = sumL (leftV P hi) L + sumN (fun k => if inV C L k then carV C (opnF s m) k else 0) lc) := Lib.hid rfl
  obtain ⟨V, hV⟩ : ∃ V, spareV P lc C (opnF s m) hi L = V := ⟨_, rfl⟩
  rw [hV] at HV ⊢
  clear hA H HO HS hl hV
  go_enter Tryz.func26, Tryz.ntmps26
  go_wp2
  rw [← hW0]
  clear hW0
  go_loopw [9, 10] (fun v ii wr => ∃ k : Nat, k ≤ q ∧ ii = .int .i64 (k : Int) ∧ v = .int .i64 (-(sumL (leftV P hi) (L.take k))) ∧ Below W0.heap.size W0 wr) (fun _ ii _ => q - (Go.RowKit.intOf ii).toNat)
  case atStart => exact ⟨0, Nat.zero_le _, rfl, by simp [sumL], Below.refl _ _⟩
  case round =>
    obtain ⟨k, hk, rfl, rfl, hbr⟩ := hrel
    have HBR := Lib.hid hbr
    clear hbr
    obtain ⟨f0, f1⟩ := HF.out _ HBR.out
    by_cases hlt : k < q
    case pos =>
      obtain ⟨LA, LO, rfl, hLA, hLN⟩ := (HLS.out _ HBR.out).resolve_left (by omega)
      have yl := hLN k hlt
      have hkl : k < L.length := by rw [HLL.out]; exact hlt
      obtain ⟨i, hil⟩ : ∃ i, L[k] = i := ⟨_, rfl⟩
      have hip : i < lp := HL.out i (by rw [← hil]; exact List.getElem_mem _)
      rw [lgI_get hkl, hil] at yl
      have HTK : Hid (sumL (leftV P hi) (L.take (k + 1)) = sumL (leftV P hi) (L.take k) + leftV P hi i) := Lib.hid (by rw [take_next hkl, sumL_app, hil, sumL_one])
      have hb := HB1.out k hk
      obtain ⟨S, hS⟩ : ∃ S, sumL (leftV P hi) (L.take k) = S := ⟨_, rfl⟩
      rw [hS] at HTK hb ⊢
      obtain ⟨A, O, rfl, hA, hN⟩ := (HN.out _ HBR.out).hp.resolve_left (by omega)
      obtain ⟨y0, y1, y2⟩ := hN i hip
      have hpb := HP.out.p hip
      obtain ⟨⟨lo, hh, nd⟩, hpi⟩ : ∃ p, P i = p := ⟨_, rfl⟩
      have HLV : Hid (leftV P hi i = (if hi then hh else lo) - nd) := Lib.hid (by unfold leftV; rw [hpi])
      rw [hpi] at y0 y1 y2 hpb
      dsimp only at y0 y1 y2 hpb
      have n1 : (0 : Int) ≤ (k : Int) := by omega
      have n2 : (k : Int) < (q : Int) := by omega
      have n3 : (0 : Int) ≤ (i : Int) := by omega
      have n4 : (i : Int) < (lp : Int) := by omega
      have hal : Below wr.heap.size wr (wr.alloc (.cells #[.int .i64 0, .int .i64 0, .int .i64 0] 37)) := (Below.refl _ _).alloc (Nat.le_refl _) _
      have e0 := (hal.cell (p := ⟨A, O + i * 3, none⟩) hA).trans y0
      have e1 := (hal.cell (p := ⟨A, O + i * 3 + 1, none⟩) hA).trans y1
      have e2 := (hal.cell (p := ⟨A, O + i * 3 + 2, none⟩) hA).trans y2
      have e3 := (hal.cell (p := ⟨LA, LO + k, none⟩) hLA).trans yl
      have e4 := (hal.cell (p := ⟨w.heap.size, 0, none⟩) (cell_lt f0)).trans f0
      have HAL := Lib.hid hal
      clear hLN hkl hil hS hN hpi hLA hA hal
      go_wp2
      go_region_law ((first | fail))
      all_goals
        obtain ⟨W6, hW6⟩ : ∃ W6, W6 = (wr.alloc (.cells #[.int .i64 lo, .int .i64 hh, .int .i64 nd] 37)).drew := ⟨_, rfl⟩
        have HB6 : Hid (Below W0.heap.size W0 W6) := Lib.hid (by rw [hW6]; exact below_drew (HBR.out.alloc HBR.out.size _))
        have g0 : W6.cell? ⟨wr.heap.size, 0, none⟩ = some (.int .i64 lo) := by rw [hW6]; exact al_get rfl rfl
        have g1 : W6.cell? ⟨wr.heap.size, 1, none⟩ = some (.int .i64 hh) := by rw [hW6]; exact al_get rfl rfl
        have g2 : W6.cell? ⟨wr.heap.size, 2, none⟩ = some (.int .i64 nd) := by rw [hW6]; exact al_get rfl rfl
        rw [← hW6]
        clear hW6 y0 y1 y2 yl e0 e1 e2 e3 e4 f0 f1 HAL
        cases hi with
        | false =>
          simp only [Bool.false_eq_true, if_false] at HLV
          go_wp2
          go_roundw
          case rel => exact ⟨k + 1, by omega, by go_num, by rw [HTK.out, HLV.out]; go_num, HB6.out⟩
          case measure => simp [Go.RowKit.intOf]; omega
        | true =>
          simp only [if_true] at HLV
          go_wp2
          go_roundw
          case rel => exact ⟨k + 1, by omega, by go_num, by rw [HTK.out, HLV.out]; go_num, HB6.out⟩
          case measure => simp [Go.RowKit.intOf]; omega
    case neg =>
      obtain rfl : k = q := by omega
      have hbq := HB1.out k (Nat.le_refl _)
      have HTA : Hid (L.take k = L) := Lib.hid (by rw [← HLL.out, List.take_length])
      rw [HTA.out] at hbq ⊢
      obtain ⟨S, hS⟩ : ∃ S, sumL (leftV P hi) L = S := ⟨_, rfl⟩
      rw [hS] at hbq HV ⊢
      clear hS
      obtain ⟨w9, hw9⟩ : ∃ w9, w9 = wr := ⟨_, rfl⟩
      subst hw9
      go_wp2
      clear f0 f1
      go_loopw [9, 12] (fun v ii wr => ∃ j : Nat, j ≤ lc ∧ ii = .int .i64 (j : Int) ∧ v = .int .i64 (-(S + sumN (fun k => if inV C L k then carV C (opnF s m) k else 0) j)) ∧ Below W0.heap.size W0 wr) (fun _ ii _ => lc - (Go.RowKit.intOf ii).toNat)
      case atStart => exact ⟨0, Nat.zero_le _, rfl, by simp [sumN], HBR.out⟩
      case round =>
        obtain ⟨j, hj, rfl, rfl, hbr⟩ := hrel
        have HB2' := Lib.hid hbr
        clear hbr
        obtain ⟨f0, f1⟩ := HF.out _ HB2'.out
        have hbt := HB2.out j hj
        by_cases hlt : j < lc
        case pos =>
          have HTN : Hid (sumN (fun k => if inV C L k then carV C (opnF s m) k else 0) (j + 1) = sumN (fun k => if inV C L k then carV C (opnF s m) k else 0) j + (if inV C L j then carV C (opnF s m) j else 0)) := Lib.hid rfl
          obtain ⟨T, hT⟩ : ∃ T, sumN (fun k => if inV C L k then carV C (opnF s m) k else 0) j = T := ⟨_, rfl⟩
          rw [hT] at hbt HTN ⊢
          obtain ⟨A, O, rfl, hA, hN⟩ := (HN.out _ HB2'.out).hc.resolve_left (by omega)
          obtain ⟨y0, y1, y2, y3⟩ := hN j hlt
          have hcj := HP.out.c hlt
          have R1 : Hid (∀ w2, Below W0.heap.size W0 w2 → Calls Tryz.prog 63 #[.agg #[.slice pa lp cp, .slice (some ⟨A, O, none⟩) lc cc], .slice sa m sc, .int .i64 (j : Int)] w2 fun e w' => e = .returned (.bool (!(C j).ga || anyB s (j : Int) m)) ∧ Below w2.heap.size w2 w') := Lib.hid fun w2 h => HOP.out j w2 hlt h
          have HCV : Hid ((if inV C L j then carV C (opnF s m) j else 0) = if (!(C j).ga || anyB s (j : Int) m) && memI L (C j).to && !memI L (C j).fr then (C j).cu else 0) := Lib.hid (by
            unfold inV carV
            rw [HOA.out]
            cases (C j).ga <;> cases anyB s (j : Int) m <;> cases memI L (C j).to <;> cases memI L (C j).fr <;> rfl)
          rw [HCV.out] at HTN
          obtain ⟨⟨fr, to, cu, ga⟩, hcc⟩ : ∃ c, C j = c := ⟨_, rfl⟩
          rw [hcc] at y0 y1 y2 y3 R1 HTN hcj
          dsimp only at y0 y1 y2 y3 R1 HTN hcj
          have R2 : Hid (∀ w2, Below W0.heap.size W0 w2 → Calls Tryz.prog 40 #[.slice la k qc, .int .i64 to] w2 fun e w' => e = .returned (.bool (memI L to)) ∧ w2 = w') := Lib.hid (HLI.out to)
          have R3 : Hid (∀ w2, Below W0.heap.size W0 w2 → Calls Tryz.prog 40 #[.slice la k qc, .int .i64 fr] w2 fun e w' => e = .returned (.bool (memI L fr)) ∧ w2 = w') := Lib.hid (HLI.out fr)
          obtain ⟨o, ho⟩ : ∃ b, (!ga || anyB s (j : Int) m) = b := ⟨_, rfl⟩
          obtain ⟨t, ht⟩ : ∃ b, memI L to = b := ⟨_, rfl⟩
          obtain ⟨g, hg⟩ : ∃ b, memI L fr = b := ⟨_, rfl⟩
          rw [ho] at R1
          rw [ht] at R2
          rw [hg] at R3
          rw [ho, ht, hg] at HTN
          obtain ⟨W1, hW1⟩ : ∃ W1, W1 = wr.alloc (.cells #[.int .i64 fr, .int .i64 to, .int .i64 cu, .bool ga] 68) := ⟨_, rfl⟩
          have hs1 : wr.heap.size < W1.heap.size := by rw [hW1]; simp
          have HW1 : Hid (Below W0.heap.size W0 W1) := Lib.hid (by rw [hW1]; exact HB2'.out.alloc HB2'.out.size _)
          have t0 : W1.cell? ⟨wr.heap.size, 0, none⟩ = some (.int .i64 fr) := by rw [hW1]; simp
          have t1 : W1.cell? ⟨wr.heap.size, 1, none⟩ = some (.int .i64 to) := by rw [hW1]; simp
          have t2 : W1.cell? ⟨wr.heap.size, 2, none⟩ = some (.int .i64 cu) := by rw [hW1]; simp
          have HX1 : Hid (∀ w2, Below W1.heap.size W1 w2 → w2.cell? ⟨wr.heap.size, 0, none⟩ = some (.int .i64 fr) ∧ w2.cell? ⟨wr.heap.size, 1, none⟩ = some (.int .i64 to) ∧ w2.cell? ⟨wr.heap.size, 2, none⟩ = some (.int .i64 cu) ∧ Below W0.heap.size W0 w2) := Lib.hid fun w2 h => by
            have h0 := HW1.out.trans (h.mono HW1.out.size)
            exact ⟨((bcell h).1 _ _ hs1).trans t0, ((bcell h).1 _ _ hs1).trans t1, ((bcell h).1 _ _ hs1).trans t2, h0⟩
          obtain ⟨e4, e5⟩ := HF.out _ HW1.out
          rw [hW1] at e4 e5
          have n1 : (0 : Int) ≤ (j : Int) := by omega
          have n2 : (j : Int) < (lc : Int) := by omega
          clear hN hcc hT ho ht hg hA t0 t1 t2 hs1
          cases o with
          | false =>
            simp only [Bool.false_and, Bool.false_eq_true, if_false] at HTN
            go_wp2_with (go_at_call 63; rw [← hW1]; refine (R1.out _ HW1.out).mono ?_; rintro e w5 ⟨rfl, hv⟩; clear hW1 e4 e5 f0 f1; obtain ⟨g0, g1, g2, g3⟩ := HX1.out _ hv; have HB5 := Lib.hid g3; clear hv g3)
            go_roundw
            case rel => exact ⟨j + 1, by omega, by go_num, by rw [HTN.out]; go_num, HB5.out⟩
            case measure => simp [Go.RowKit.intOf]; omega
          | true =>
            cases t with
            | false =>
              simp only [Bool.and_false, Bool.false_and, Bool.false_eq_true, if_false] at HTN
              go_wp2_with (first
                | (go_at_call 63; rw [← hW1]; refine (R1.out _ HW1.out).mono ?_; rintro e w5 ⟨rfl, hv⟩; clear hW1 e4 e5 f0 f1; obtain ⟨g0, g1, g2, g3⟩ := HX1.out _ hv; have HB5 := Lib.hid g3; clear hv g3)
                | (go_at_call_of 40 to; refine (R2.out _ HB5.out).mono ?_; rintro e w6 ⟨rfl, rfl⟩))
              go_roundw
              case rel => exact ⟨j + 1, by omega, by go_num, by rw [HTN.out]; go_num, HB5.out⟩
              case measure => simp [Go.RowKit.intOf]; omega
            | true =>
              cases g with
              | true =>
                simp only [Bool.not_true, Bool.and_false, Bool.false_eq_true, if_false] at HTN
                go_wp2_with (first
                  | (go_at_call 63; rw [← hW1]; refine (R1.out _ HW1.out).mono ?_; rintro e w5 ⟨rfl, hv⟩; clear hW1 e4 e5 f0 f1; obtain ⟨g0, g1, g2, g3⟩ := HX1.out _ hv; have HB5 := Lib.hid g3; clear hv g3)
                  | (go_at_call_of 40 to; refine (R2.out _ HB5.out).mono ?_; rintro e w6 ⟨rfl, rfl⟩)
                  | (go_at_call_of 40 fr; refine (R3.out _ HB5.out).mono ?_; rintro e w7 ⟨rfl, rfl⟩))
                go_roundw
                case rel => exact ⟨j + 1, by omega, by go_num, by rw [HTN.out]; go_num, HB5.out⟩
                case measure => simp [Go.RowKit.intOf]; omega
              | false =>
                simp only [Bool.not_false, Bool.and_true, if_true] at HTN
                go_wp2_with (first
                  | (go_at_call 63; rw [← hW1]; refine (R1.out _ HW1.out).mono ?_; rintro e w5 ⟨rfl, hv⟩; clear hW1 e4 e5 f0 f1; obtain ⟨g0, g1, g2, g3⟩ := HX1.out _ hv; have HB5 := Lib.hid g3; clear hv g3)
                  | (go_at_call_of 40 to; refine (R2.out _ HB5.out).mono ?_; rintro e w6 ⟨rfl, rfl⟩)
                  | (go_at_call_of 40 fr; refine (R3.out _ HB5.out).mono ?_; rintro e w7 ⟨rfl, rfl⟩))
                go_roundw
                case rel => exact ⟨j + 1, by omega, by go_num, by rw [HTN.out]; go_num, HB5.out⟩
                case measure => simp [Go.RowKit.intOf]; omega
        case neg =>
          obtain rfl : j = lc := by omega
          obtain ⟨T, hT⟩ : ∃ T, sumN (fun k => if inV C L k then carV C (opnF s m) k else 0) j = T := ⟨_, rfl⟩
          rw [hT] at HV ⊢
          clear hT
          go_wp2
          go_ret
          exact ⟨by rw [HV.out]; rfl, HA.out.trans (HB2'.out.mono HA.out.size)⟩
end Go.Kn

namespace Go.Kn
open Go Go.Proofs Go.RowKit

/-- the first cut -/
def cutL (lp : Nat) (P : Nat → P8) (lc : Nat) (C : Nat → C8) (op : Nat → Bool) (hi : Bool) : Option (List Nat) := (shL (List.range lp)).find? fun L => decide (spareV P lc C op hi L < 0)
theorem cutL_fed {lp : Nat} {P : Nat → P8} {lc : Nat} {C : Nat → C8} {op : Nat → Bool} {hi : Bool} : (cutL lp P lc C op hi).isSome = !fedV lp P lc C op hi := by
  rw [Bool.eq_iff_iff]
  unfold cutL fedV
  rw [List.find?_isSome]
  simp only [decide_eq_true_eq, Bool.not_eq_true', List.all_eq_false]
  constructor
  · rintro ⟨L, h1, h2⟩; exact ⟨L, allLs_iff.2 (shL_iff.1 h1), by simpa using h2⟩
  · rintro ⟨L, h1, h2⟩; exact ⟨L, shL_iff.2 (allLs_iff.1 h1), by simpa using h2⟩
/-- what is returned of the first cut -/
def CutAt (w : World) (v : Value) : Option (List Nat) → Prop
  | none => v = .slice none 0 0
  | some L => ∃ sa c, v = .slice sa L.length c ∧ IntSl w sa L.length (lgI L)
theorem find_first {α : Type} {p : α → Bool} {Ls : List α} {k : Nat} {d : α} (hk : k < Ls.length) (h0 : (Ls.take k).all (fun x => !p x) = true) (h : p (Ls.getD k d) = true) : Ls.find? p = some (Ls.getD k d) := by
  have e : Ls = Ls.take k ++ Ls[k] :: Ls.drop (k + 1) := by rw [← List.drop_eq_getElem_cons hk, List.take_append_drop]
  have hg : Ls.getD k d = Ls[k] := by simp [hk]
  rw [hg] at h ⊢
  have e2 := congrArg (List.find? p) e
  rw [e2, List.find?_append]
  have h1 : (Ls.take k).find? p = none := by
    rw [List.find?_eq_none]
    intro x hx
    have := List.all_eq_true.1 h0 x hx
    simpa using this
  rw [h1, Option.none_or, List.find?_cons, h]
theorem find_none {α : Type} {p : α → Bool} {Ls : List α} (h0 : Ls.all (fun x => !p x) = true) : Ls.find? p = none := by
  rw [List.find?_eq_none]
  intro x hx
  have := List.all_eq_true.1 h0 x hx
  simpa using this
theorem all_next {α : Type} {p : α → Bool} {Ls : List α} {k : Nat} {d : α} (hk : k < Ls.length) (h0 : (Ls.take k).all p = true) (h : p (Ls.getD k d) = true) : (Ls.take (k + 1)).all p = true := by
  have hg : Ls.getD k d = Ls[k] := by simp [hk]
  rw [hg] at h
  rw [List.take_add_one, List.getElem?_eq_getElem hk, List.all_append, h0]
  simpa using h

set_option maxRecDepth 100000 in
set_option maxHeartbeats 8000000 in
theorem rcut_w (pa ca sa : Option Addr) (lp cp lc cc m sc : Nat) (P : Nat → P8) (C : Nat → C8) (s : Nat → Int) (hi : Bool) (w : World) (HP : Hid (NetP lp P lc C)) (HG : Hid (gatsB lc C s m = true)) (hm : m ≤ 1000) (H : Hid (Ne8 w pa ca lp lc P C)) (HO : Hid (IntSl w sa m s)) :
    Calls Tryz.prog 33 #[.agg #[.slice pa lp cp, .slice ca lc cc], .slice sa m sc, .bool hi] w fun e w' => (∃ v, e = .returned (.tuple #[v, .bool (cutL lp P lc C (opnF s m) hi).isSome]) ∧ CutAt w' v (cutL lp P lc C (opnF s m) hi)) ∧ Below w.heap.size w w' := by
  have hl1 := HP.out.l1
  have hl7 := HP.out.l7
  obtain ⟨W0, hW0⟩ : ∃ W0, W0 = w.alloc (.cells #[.slice pa lp cp, .slice ca lc cc] 25) := ⟨_, rfl⟩
  have hA : Below w.heap.size w W0 := by rw [hW0]; exact (Below.refl _ _).alloc (Nat.le_refl _) _
  have HF : Hid (∀ w2, Below W0.heap.size W0 w2 → w2.cell? ⟨w.heap.size, 0, none⟩ = some (.slice pa lp cp) ∧ w2.cell? ⟨w.heap.size, 1, none⟩ = some (.slice ca lc cc)) := Lib.hid fun w2 h => by
    rw [hW0] at h
    exact ⟨(box_cells h).1, (box_cells h).2.1⟩
  have HSH : Hid (∀ (L : List Nat) la qc w2, L.length ≤ 7 → (∀ y ∈ L, y < lp) → Below W0.heap.size W0 w2 → IntSl w2 la L.length (lgI L) → Calls Tryz.prog 26 #[.agg #[.slice pa lp cp, .slice ca lc cc], .slice sa m sc, .slice la L.length qc, .bool hi] w2 fun e w' => e = .returned (.int .i64 (-(spareV P lc C (opnF s m) hi L))) ∧ Below w2.heap.size w2 w') :=
    Lib.hid fun L la qc w2 hL hy h hs => rshort_w pa ca sa la lp cp lc cc m sc L.length qc P C s L hi w2 HP HG hm rfl hL (Lib.hid hy) (Lib.hid (H.out.below (hA.trans (h.mono hA.size)))) (Lib.hid (HO.out.below (hA.trans (h.mono hA.size)))) (Lib.hid hs)
  have HNU : Hid (Calls Tryz.prog 76 #[.int .i64 (lp : Int)] W0 fun e w' => (∃ sa sc, e = .returned (.slice sa lp sc) ∧ lp ≤ sc ∧ IntSl w' sa lp (lgI (List.range lp))) ∧ Below W0.heap.size W0 w') := Lib.hid (numbers_w lp W0 (by omega) hl1)
  have HSO : Hid (∀ na nc w2, lp ≤ nc → IntSl w2 na lp (lgI (List.range lp)) → Calls Tryz.prog 75 #[.slice na lp nc] w2 fun e w' => (∃ oo cc E, e = .returned (.slice oo (shL (List.range lp)).length cc) ∧ PlSl w' oo (shL (List.range lp)).length E ∧ LsE E (shL (List.range lp))) ∧ Below w2.heap.size w2 w') :=
    Lib.hid fun na nc w2 h1 h2 => shortest_w na lp nc (List.range lp) w2 (by simp) hl7 h1 (Lib.hid h2)
  have HA := Lib.hid hA
  have HMEM : Hid (∀ L ∈ shL (List.range lp), L.length ≤ 7 ∧ ∀ y ∈ L, y < lp) := Lib.hid fun L hL => by
    have h1 := shL_iff.1 hL
    exact ⟨by have := h1.length_le; simp at this; omega, fun y hy => List.mem_range.1 (h1.subset hy)⟩
  have HCL : Hid (cutL lp P lc C (opnF s m) hi = (shL (List.range lp)).find? fun L => decide (spareV P lc C (opnF s m) hi L < 0)) := Lib.hid rfl
  have HSZ : Hid ((shL (List.range lp)).length ≤ 2000) := Lib.hid (by
    have h1 := shP_len (l := List.range lp) (by simpa using hl7) (lp + 1) (by omega)
    have h2 : shP (List.range lp) (lp + 1) = shL (List.range lp) := by unfold shP shL; simp
    rw [h2] at h1; omega)
  obtain ⟨Ls, hLs⟩ : ∃ Ls, shL (List.range lp) = Ls := ⟨_, rfl⟩
  rw [hLs] at HSO HMEM HCL HSZ
  obtain ⟨cu, hcu⟩ : ∃ cu, cutL lp P lc C (opnF s m) hi = cu := ⟨_, rfl⟩
  rw [hcu] at HCL ⊢
  obtain ⟨f0, f1⟩ := HF.out _ (Below.refl _ _)
  rw [hW0] at f0 f1
  clear hA H HO hLs hcu
  go_enter Tryz.func33, Tryz.ntmps33
  go_wp2_with (first
    | (go_at_call 76; rw [← hW0]; refine HNU.out.mono ?_; rintro e w5 ⟨⟨na, nc, rfl, hnc, hns⟩, hv⟩; have HSO1 := Lib.hid (HSO.out na nc w5 hnc hns); have HV5 := Lib.hid hv; clear hv hns hW0 f0 f1)
    | (go_at_call 75; refine HSO1.out.mono ?_; rintro e w6 ⟨⟨oo, oc, E, rfl, hpl, hls⟩, hv⟩; have HPL := Lib.hid hpl; have HLS := Lib.hid hls; have HV6 := Lib.hid (HV5.out.trans (hv.mono HV5.out.size)); clear hv hpl hls))
  go_loopw [9] (fun ii wr => ∃ k : Nat, k ≤ Ls.length ∧ ii = .int .i64 (k : Int) ∧ (Ls.take k).all (fun L => !decide (spareV P lc C (opnF s m) hi L < 0)) = true ∧ Below w6.heap.size w6 wr) (fun ii _ => Ls.length - (Go.RowKit.intOf ii).toNat)
  case atStart => exact ⟨0, Nat.zero_le _, rfl, by simp, Below.refl _ _⟩
  case round =>
    obtain ⟨k, hk, rfl, hal, hbr⟩ := hrel
    have HAL := Lib.hid hal
    have HBR := Lib.hid hbr
    have hsz := HSZ.out
    clear hal hbr
    by_cases hlt : k < Ls.length
    case pos =>
      obtain ⟨A, O, rfl, hA, hp⟩ := (HPL.out.below HBR.out).resolve_left (by omega)
      obtain ⟨z1, z2⟩ := hp k hlt
      obtain ⟨hE1, hE2⟩ := HLS.out k hlt
      have hKm : Ls.getD k [] ∈ Ls := by simp [hlt]
      obtain ⟨hK1, hK2⟩ := HMEM.out _ hKm
      have HNX : Hid (spareV P lc C (opnF s m) hi (Ls.getD k []) < 0 → cu = some (Ls.getD k [])) := Lib.hid fun h => HCL.out.trans (find_first (p := fun L => decide (spareV P lc C (opnF s m) hi L < 0)) hlt HAL.out (by simpa using h))
      have HNO : Hid (¬ spareV P lc C (opnF s m) hi (Ls.getD k []) < 0 → (Ls.take (k + 1)).all (fun L => !decide (spareV P lc C (opnF s m) hi L < 0)) = true) := Lib.hid fun h => all_next (d := []) hlt HAL.out (by simpa using h)
      obtain ⟨K, hK⟩ : ∃ K, Ls.getD k [] = K := ⟨_, rfl⟩
      rw [hK] at hE1 hE2 hK1 hK2 HNX HNO
      obtain ⟨ka, hka⟩ : ∃ v, (E k).a = v := ⟨_, rfl⟩
      obtain ⟨kc, hkc⟩ : ∃ v, (E k).c = v := ⟨_, rfl⟩
      rw [hE1, hka, hkc] at z1
      rw [hE1, hE2, hka] at z2
      have HKS : Hid (∀ w2, Below wr.heap.size wr w2 → IntSl w2 ka K.length (lgI K)) := Lib.hid fun w2 h => z2.below h
      have HB0 : Hid (∀ w2, Below wr.heap.size wr w2 → Below W0.heap.size W0 w2) := Lib.hid fun w2 h => HV6.out.trans ((HBR.out.trans (h.mono HBR.out.size)).mono HV6.out.size)
      have HSC : Hid (∀ w2, Below wr.heap.size wr w2 → Calls Tryz.prog 26 #[.agg #[.slice pa lp cp, .slice ca lc cc], .slice sa m sc, .slice ka K.length kc, .bool hi] w2 fun e w' => e = .returned (.int .i64 (-(spareV P lc C (opnF s m) hi K))) ∧ Below wr.heap.size wr w') :=
        Lib.hid fun w2 h => (HSH.out K ka kc w2 hK1 hK2 (HB0.out w2 h) (HKS.out w2 h)).mono fun e w' ⟨he, hv⟩ => ⟨he, h.trans (hv.mono h.size)⟩
      have HX : Hid (∀ w2, Below wr.heap.size wr w2 → w2.cell? ⟨w.heap.size, 0, none⟩ = some (.slice pa lp cp) ∧ w2.cell? ⟨w.heap.size, 1, none⟩ = some (.slice ca lc cc) ∧ w2.cell? ⟨A, O + k, none⟩ = some (.slice ka K.length kc)) := Lib.hid fun w2 h => ⟨(HF.out _ (HB0.out w2 h)).1, (HF.out _ (HB0.out w2 h)).2, ((bcell h).1 _ _ hA).trans z1⟩
      have hmx : Tryz.prog.follows .mixedOrders = true := by kernel_rfl
      obtain ⟨S, hS⟩ : ∃ S, spareV P lc C (opnF s m) hi K = S := ⟨_, rfl⟩
      obtain ⟨q, hq⟩ : ∃ q, K.length = q := ⟨_, rfl⟩
      rw [hS] at HSC HNX HNO
      rw [hq] at HSC HX HKS
      have HQ := Lib.hid hq
      have n1 : (0 : Int) ≤ (k : Int) := by omega
      have n2 : (k : Int) < (Ls.length : Int) := by omega
      clear hp hK hka hkc hE1 hE2 z1 z2 hA hKm hS hq
      by_cases hn : S < 0
      case pos =>
        have HCU := Lib.hid (HNX.out hn)
        have n5 : decide (0 < -S) = true := decide_eq_true (by omega)
        go_wp2
        refine wp_region_calm (W := wr) hmx (by kernel_rfl) (Below.refl _ _) ?_
        repeat (first
          | (refine calm_no (by rfl) ?_
             (try simp only [Act.put, List.setIfInBounds_toArray, List.set_cons_zero, List.set_cons_succ]))
          | (apply calm_yes
             focus rfl
             focus
               intro w' hw'
               obtain ⟨z1, z2, z3⟩ := HX.out w' hw'
               go_simp
               first
                 | done
                 | with_reducible rfl
                 | (go_at_call 26; exact HSC.out w' hw')
                 | fail
             (try simp only [Act.put, List.setIfInBounds_toArray, List.set_cons_zero, List.set_cons_succ])
             (try rw [n5])))
        refine calm_nil ?_
        intro w7 hqw7
        have HQ7 := Lib.hid hqw7
        have HB7 := Lib.hid (HB0.out w7 hqw7)
        clear hqw7
        obtain ⟨_, _, z3⟩ := HX.out w7 HQ7.out
        go_wp2
        refine bodyPost_ret (v := .tuple #[.slice ka q kc, .bool true]) (by simp [results, Tryz.results33, go_sem]) rfl ⟨⟨_, by rw [HCU.out]; rfl, ?_⟩, HA.out.trans (HB7.out.mono HA.out.size)⟩
        rw [HCU.out]
        exact ⟨ka, kc, by rw [HQ.out], by rw [HQ.out]; exact HKS.out w7 HQ7.out⟩
      case neg =>
        have HCU := Lib.hid (HNO.out hn)
        have n5 : decide (0 < -S) = false := decide_eq_false (by omega)
        go_wp2
        refine wp_region_calm (W := wr) hmx (by kernel_rfl) (Below.refl _ _) ?_
        repeat (first
          | (refine calm_no (by rfl) ?_
             (try simp only [Act.put, List.setIfInBounds_toArray, List.set_cons_zero, List.set_cons_succ]))
          | (apply calm_yes
             focus rfl
             focus
               intro w' hw'
               obtain ⟨z1, z2, z3⟩ := HX.out w' hw'
               go_simp
               first
                 | done
                 | with_reducible rfl
                 | (go_at_call 26; exact HSC.out w' hw')
                 | fail
             (try simp only [Act.put, List.setIfInBounds_toArray, List.set_cons_zero, List.set_cons_succ])
             (try rw [n5])))
        refine calm_nil ?_
        intro w7 hqw7
        have HQ7 := Lib.hid hqw7
        have HB7 := Lib.hid (HB0.out w7 hqw7)
        clear hqw7
        go_wp2
        go_roundw
        case rel => exact ⟨k + 1, by omega, by go_num, HCU.out, HBR.out.trans (HQ7.out.mono HBR.out.size)⟩
        case measure => simp [Go.RowKit.intOf]; omega
    case neg =>
      obtain rfl : k = Ls.length := by omega
      have HCU : Hid (cu = none) := Lib.hid (by rw [HCL.out]; exact find_none (by have := HAL.out; rw [List.take_length] at this; exact this))
      have n2 : ¬ ((Ls.length : Int) < (Ls.length : Int)) := by omega
      go_wp2
      refine bodyPost_ret (v := .tuple #[.slice none 0 0, .bool false]) (by simp [results, Tryz.results33, go_sem]) rfl ⟨⟨_, by rw [HCU.out]; rfl, by rw [HCU.out]; rfl⟩, HA.out.trans ((HV6.out.trans (HBR.out.mono HV6.out.size)).mono HA.out.size)⟩
end Go.Kn
