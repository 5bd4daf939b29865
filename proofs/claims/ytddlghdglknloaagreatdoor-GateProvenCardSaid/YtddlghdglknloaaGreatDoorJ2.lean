/- Contracts of functions that the laws of this seat call, or the evaluator of closed calls and its runs. Conditions: as each theorem states them. -/
import Derived.Test.YtddlghdglknloaaGreatDoorJ1
set_option linter.unusedVariables false
set_option linter.unusedSimpArgs false
namespace Go.Kn
open Go Go.Proofs Go.RowKit

/-- what is left at each point when the first channels have flowed -/
def accF (P : Nat → P8) (C : Nat → C8) (f : Nat → Int) : Nat → Nat → Int
  | 0 => leftV P false
  | k + 1 => updI (updI (accF P C f k) (C k).fr.toNat (accF P C f k (C k).fr.toNat - f k)) (C k).to.toNat (updI (accF P C f k) (C k).fr.toNat (accF P C f k (C k).fr.toNat - f k) (C k).to.toNat + f k)
theorem accF_bd {lp : Nat} {P : Nat → P8} {lc : Nat} {C : Nat → C8} (h : NetP lp P lc C) {f : Nat → Int} (hf : ∀ i, i < lc → 0 ≤ f i ∧ f i ≤ 10000) : ∀ k, k ≤ lc → ∀ i, i < lp → -(10000 + 10000 * (k : Int)) ≤ accF P C f k i ∧ accF P C f k i ≤ 10000 + 10000 * (k : Int)
  | 0, _, i, hi => by
    have := h.p hi
    simp only [accF, leftV, Bool.false_eq_true, if_false]
    omega
  | k + 1, hk, i, hi => by
    have hc := h.c (show k < lc by omega)
    have hfk := hf k (by omega)
    have i1 := accF_bd h hf k (by omega)
    have a1 := i1 i hi
    have a2 := i1 (C k).fr.toNat (by omega)
    have a3 := i1 (C k).to.toNat (by omega)
    simp only [accF, updI]
    push_cast
    split <;> split <;> (try split) <;> omega
def fbV (lp : Nat) (P : Nat → P8) (lc : Nat) (C : Nat → C8) (op : Nat → Bool) (f : Nat → Int) : Bool :=
  allN (fun k => decide (f k ≤ carV C op k)) lc && allN (fun i => decide (0 ≤ accF P C f lc i)) lp
end Go.Kn

namespace Go.Kn
open Go Go.Proofs Go.RowKit

theorem IntOwn.drew {w : World} {base g n : Nat} {s : Nat → Int} (h : IntOwn w base g n s) : IntOwn w.drew base g n s := ⟨h.lo, h.lt, fun i hi => h.at_ i hi, fun i hi => h.fr i hi⟩
theorem IntOwn.sl {w : World} {base g n : Nat} {s : Nat → Int} (h : IntOwn w base g n s) : IntSl w (some ⟨g, 0, none⟩) n s := .inr ⟨g, 0, rfl, h.lt, h.at_⟩

set_option maxRecDepth 100000 in
set_option maxHeartbeats 8000000 in
theorem fedBy_w (pa ca fa : Option Addr) (lp cp lc cc fc : Nat) (P : Nat → P8) (C : Nat → C8) (op : Nat → Bool) (f : Nat → Int) (w : World) (HP : Hid (NetP lp P lc C)) (HFB : Hid (∀ i, i < lc → 0 ≤ f i ∧ f i ≤ 10000)) (H : Hid (Ne8 w pa ca lp lc P C)) (HS : Hid (IntSl w fa lc f)) :
    Calls Tryz.prog 60 #[.agg (opC pa ca lp cp lc cc op), .slice fa lc fc] w fun r w' => r = .returned (.bool (fbV lp P lc C op f)) ∧ Below w.heap.size w w' := by
  obtain ⟨i0, hi0, hz0, hz1, hz2⟩ := info_parts info3'
  have hc10 := HP.out.c10
  have hl7 := HP.out.l7
  have hl1 := HP.out.l1
  obtain ⟨W0, hW0⟩ : ∃ W0, W0 = w.alloc (.cells (opC pa ca lp cp lc cc op) 81) := ⟨_, rfl⟩
  have hA : Below w.heap.size w W0 := by rw [hW0]; exact (Below.refl _ _).alloc (Nat.le_refl _) _
  have BX : Hid (∀ w2, Below W0.heap.size W0 w2 → B12 w2 w.heap.size pa ca lp cp lc cc op) := Lib.hid fun w2 h => (show B12 W0 w.heap.size pa ca lp cp lc cc op by rw [hW0]; exact B12.new _ _ _ _ _ _ _ _).below h
  have HN : Hid (∀ w2, Below W0.heap.size W0 w2 → Hid (Ne8 w2 pa ca lp lc P C)) := Lib.hid fun w2 h => Lib.hid (H.out.below (hA.trans (h.mono hA.size)))
  have HSL : Hid (∀ w2, Below W0.heap.size W0 w2 → IntSl w2 fa lc f) := Lib.hid fun w2 h => HS.out.below (hA.trans (h.mono hA.size))
  have HA := Lib.hid hA
  have HV : Hid (fbV lp P lc C op f = (allN (fun k => decide (f k ≤ carV C op k)) lc && allN (fun i => decide (0 ≤ accF P C f lc i)) lp)) := Lib.hid rfl
  clear hA H HS
  go_enter Tryz.func60, Tryz.ntmps60
  simp only [opC] at hW0 ⊢
  go_wp2
  rw [← hW0]
  clear hW0
  go_loopw [5, 13] (fun v ii wr => ∃ k : Nat, k ≤ lp ∧ ii = .int .i64 (k : Int) ∧ wr.ownsRow W0.heap.size 3 1 v k ((upto (leftV P false) k).map (Value.int .i64)) ∧ Below W0.heap.size W0 wr) (fun _ ii _ => lp - (Go.RowKit.intOf ii).toNat)
  case atStart => exact ⟨0, Nat.zero_le _, rfl, ⟨rfl, .inl ⟨rfl, rfl⟩⟩, Below.refl _ _⟩
  case round =>
    obtain ⟨k, hk, rfl, hown, hbr⟩ := hrel
    have HOW := Lib.hid hown
    have HBR := Lib.hid hbr
    clear hown
    obtain ⟨x0, x1, x2, x3, x4, x5, x6, x7, x8, x9, x10, x11, x12⟩ := BX.out _ hbr
    clear hbr
    by_cases hlt : k < lp
    case pos =>
      have n1 : (0 : Int) ≤ (k : Int) := by omega
      have n2 : (k : Int) < (lp : Int) := by omega
      have HTK : Hid (upto (leftV P false) (k + 1) = upto (leftV P false) k ++ [leftV P false k]) := Lib.hid (upto_succ _ _)
      have HLF : Hid (Calls Tryz.prog 112 #[.agg (opC pa ca lp cp lc cc op), .int .i64 (k : Int), .int .i64 0] wr fun r w' => r = .returned (.int .i64 (leftV P false k)) ∧ Below wr.heap.size wr w') := Lib.hid (left_w pa ca lp cp lc cc k P C op false wr hlt (by omega) (Lib.hid (by have := HP.out.p hlt; omega)) (HN.out _ HBR.out))
      simp only [opC] at HLF
      go_wp2_with (first
        | (go_at_call 112; refine HLF.out.mono ?_; rintro r w5 ⟨rfl, hv⟩; have HV5 := Lib.hid hv; clear hv x0 x1 x2 x3 x4 x5 x6 x7 x8 x9 x10 x11 x12; have HO5 := Lib.hid (owns_below HOW.out HV5.out); have HB5 := Lib.hid (HBR.out.trans (HV5.out.mono HBR.out.size)))
        | (at_builtin; refine wpList_append_own_at _ rfl (.tmp 16) (.tmp 20) 26 rfl W0.heap.size 3 i0 (.int .i64 0) 1 8 Tryz.underlying26 hi0 hz0 hz1 hz2 rfl (by decide) _ k _ rfl (HO5.out.alloc _) ⟨_, 0, none⟩ 1 1 [.int .i64 (leftV P false k)] rfl rfl (lies_any (by first | exact al_top rfl _ _ | exact al_top (by simp) _ _)) (by intro u hu; simp at hu; subst hu; rfl) (by unfold maxLen; omega) (by omega) (by have := HB5.out.size; simp; omega) ?_; intro v7 w7 hown7 hgrow7 _ hloc7))
      go_roundw
      case rel => exact ⟨k + 1, by omega, by go_num, by rw [HTK.out, List.map_append]; exact hown7, (HB5.out.alloc HB5.out.size _).grown hgrow7 (by have := HB5.out.size; simp; omega) (fun r e => own_ge HO5.out r e)⟩
      case measure => simp [Go.RowKit.intOf]; omega
    case neg =>
      obtain rfl : k = lp := by omega
      obtain ⟨g, gc, rfl, hio⟩ := IntOwn.of HOW.out (by omega)
      have HIO := Lib.hid hio
      clear hio
      go_wp2
      clear x0 x1 x2 x3 x4 x5 x6 x7 x8 x9 x10 x11 x12
      go_loopw [27] (fun ii w2 => ∃ j : Nat, j ≤ lc ∧ ii = .int .i64 (j : Int) ∧ IntOwn w2 W0.heap.size g k (accF P C f j) ∧ allN (fun k => decide (f k ≤ carV C op k)) j = true ∧ Below W0.heap.size W0 w2) (fun ii _ => lc - (Go.RowKit.intOf ii).toNat)
      case atStart => exact ⟨0, Nat.zero_le _, rfl, HIO.out, rfl, HBR.out⟩
      case round =>
        obtain ⟨j, hj, rfl, hio, hal, hbr⟩ := hrel
        have HI2 := Lib.hid hio
        have HB2 := Lib.hid hbr
        have HAL := Lib.hid hal
        clear hio hal
        obtain ⟨x0, x1, x2, x3, x4, x5, x6, x7, x8, x9, x10, x11, x12⟩ := BX.out _ hbr
        clear hbr
        by_cases hlt : j < lc
        case pos =>
          obtain ⟨A, O, rfl, hA, hN⟩ := (HN.out _ HB2.out).out.hc.resolve_left (by omega)
          obtain ⟨y0, y1, y2, y3⟩ := hN j hlt
          obtain ⟨FA, FO, rfl, hFA, hFN⟩ := (HSL.out _ (Below.refl _ _)).resolve_left (by omega)
          have hcj := HP.out.c hlt
          have hfj := HFB.out j hlt
          have hbd := accF_bd HP.out HFB.out j (by omega)
          have HACC : Hid (accF P C f (j + 1) = updI (updI (accF P C f j) (C j).fr.toNat (accF P C f j (C j).fr.toNat - f j)) (C j).to.toNat (updI (accF P C f j) (C j).fr.toNat (accF P C f j (C j).fr.toNat - f j) (C j).to.toNat + f j)) := Lib.hid rfl
          have n1 : (0 : Int) ≤ (j : Int) := by omega
          have n2 : (j : Int) < (lc : Int) := by omega
          have HCA : Hid (∀ w3, Below W0.heap.size W0 w3 → Calls Tryz.prog 113 #[.agg (opC pa (some ⟨A, O, none⟩) k cp lc cc op), .int .i64 (j : Int)] w3 fun e w' => e = .returned (.int .i64 (carV C op j)) ∧ Below w3.heap.size w3 w') := Lib.hid fun w3 h => carries_w pa (some ⟨A, O, none⟩) k cp lc cc j P C op w3 hlt hc10 (HN.out _ h)
          simp only [opC] at HCA
          have HNX : Hid (f j ≤ carV C op j → allN (fun k => decide (f k ≤ carV C op k)) (j + 1) = true) := Lib.hid fun h => allN_next HAL.out (by simpa using h)
          have HNO : Hid (¬ (f j ≤ carV C op j) → allN (fun k => decide (f k ≤ carV C op k)) lc = false) := Lib.hid fun h => allN_no hlt (by simpa using h)
          obtain ⟨cv, hcv⟩ : ∃ cv, carV C op j = cv := ⟨_, rfl⟩
          rw [hcv] at HCA HNX HNO
          obtain ⟨⟨fr, to, cu, ga⟩, hcc⟩ : ∃ c, C j = c := ⟨_, rfl⟩
          rw [hcc] at y0 y1 y2 y3 hcj HACC
          dsimp only at y0 y1 y2 y3 hcj HACC
          obtain ⟨a, ha⟩ : ∃ a : Nat, fr = (a : Int) := ⟨fr.toNat, by omega⟩
          obtain ⟨b, hb⟩ : ∃ b : Nat, to = (b : Int) := ⟨to.toNat, by omega⟩
          subst ha; subst hb
          have hak : a < k := by omega
          have hbk : b < k := by omega
          have hab : a ≠ b := by omega
          have hb1 := hbd a hak
          have hb2 := hbd b hbk
          simp only [Int.toNat_natCast] at HACC
          obtain ⟨va, hva⟩ : ∃ v, accF P C f j a = v := ⟨_, rfl⟩
          obtain ⟨vb, hvb⟩ : ∃ v, accF P C f j b = v := ⟨_, rfl⟩
          obtain ⟨fj, hfe⟩ : ∃ v, f j = v := ⟨_, rfl⟩
          have HVA := Lib.hid hva
          have HVB := Lib.hid hvb
          have yf := hFN j hlt
          rw [hva] at hb1 HACC
          rw [hvb] at hb2
          rw [hfe] at hfj HACC HNX HNO yf
          have HUB : Hid (updI (accF P C f j) a (va - fj) b = vb) := Lib.hid (by unfold updI; rw [if_neg (fun h => hab h.symm)]; exact hvb)
          rw [HUB.out] at HACC
          obtain ⟨W1, hW1⟩ : ∃ W1, W1 = wr.alloc (.cells #[.int .i64 (a : Int), .int .i64 (b : Int), .int .i64 cu, .bool ga] 68) := ⟨_, rfl⟩
          have hw1 : Below wr.heap.size wr W1 := by rw [hW1]; exact (Below.refl _ _).alloc (Nat.le_refl _) _
          have HB1 := Lib.hid (HB2.out.trans (hw1.mono HB2.out.size))
          have hs1 : wr.heap.size < W1.heap.size := by rw [hW1]; simp
          have z0 : W1.cell? ⟨wr.heap.size, 0, none⟩ = some (.int .i64 (a : Int)) := by rw [hW1]; simp
          have z1 : W1.cell? ⟨wr.heap.size, 1, none⟩ = some (.int .i64 (b : Int)) := by rw [hW1]; simp
          have hI1 := HI2.out.below hw1
          have HX : Hid (∀ w3, Below W1.heap.size W1 w3 → B12 w3 w.heap.size pa (some ⟨A, O, none⟩) k cp lc cc op ∧ w3.cell? ⟨FA, FO + j, none⟩ = some (.int .i64 fj) ∧ w3.cell? ⟨wr.heap.size, 0, none⟩ = some (.int .i64 (a : Int)) ∧ w3.cell? ⟨wr.heap.size, 1, none⟩ = some (.int .i64 (b : Int)) ∧ IntOwn w3 W0.heap.size g k (accF P C f j) ∧ Below W0.heap.size W0 w3) := Lib.hid fun w3 h => by
            have h0 := HB1.out.trans (h.mono HB1.out.size)
            exact ⟨BX.out _ h0, ((bcell h0).1 _ _ hFA).trans yf, ((bcell h).1 _ _ hs1).trans z0, ((bcell h).1 _ _ hs1).trans z1, hI1.below h, h0⟩
          have HD := Lib.hid (below_drew (Below.refl W1.heap.size W1))
          clear hN hcc hcv hFN hfe hbd hva hvb hA hab hw1 x0 x1 x2 x3 x4 x5 x6 x7 x8 x9 x10 x11 x12 hI1
          go_wp2
          rw [← hW1]
          clear hW1 y0 y1 y2 y3 z0 z1
          obtain ⟨⟨x0, x1, x2, x3, x4, x5, x6, x7, x8, x9, x10, x11, x12⟩, yf1, _, _, _, _⟩ := HX.out _ (Below.refl _ _)
          go_region_law ((first
            | (go_simp; go_at_call 113; refine (HCA.out _ (HX.out _ HD.out).2.2.2.2.2).mono ?_; rintro e w5 ⟨rfl, hv⟩; have HV5 := Lib.hid (HD.out.trans (hv.mono HD.out.size)); clear hv; obtain ⟨⟨p0, p1, p2, p3, p4, p5, p6, p7, p8, p9, p10, p11, p12⟩, yf5, z50, z51, hI5, hB5⟩ := HX.out _ HV5.out)))
          all_goals
            have HI5 := Lib.hid hI5
            have HB5 := Lib.hid hB5
            clear hI5 hB5 p0 p1 p2 p3 p4 p5 p6 p7 p8 p9 p10 p11 p12 x0 x1 x2 x3 x4 x5 x6 x7 x8 x9 x10 x11 x12 yf1
            by_cases hle : fj ≤ cv
            case neg =>
              have HNO2 := Lib.hid (HNO.out (by omega))
              go_wp2
              go_ret
              exact ⟨by rw [HV.out, HNO2.out]; rfl, HA.out.trans (HB5.out.mono HA.out.size)⟩
            case pos =>
              have HNX2 := Lib.hid (HNX.out hle)
              have c0 := HI5.out.at_ a hak
              have c1 := HI5.out.fr a hak
              rw [HVA.out, Nat.zero_add] at c0
              have n3 : (0 : Int) ≤ (a : Int) := by omega
              have n4 : (a : Int) < (k : Int) := by omega
              have n5 : (0 : Int) ≤ (b : Int) := by omega
              have n6 : (b : Int) < (k : Int) := by omega
              go_wp2
              go_region_law ((first | fail))
              all_goals
                obtain ⟨W6, hW6⟩ : ∃ W6, W6 = (w5.setCell ⟨g, a, none⟩ (.int .i64 (IntKind.i64.wrap (va - fj)))).drew := ⟨_, rfl⟩
                have hwr : IntKind.i64.wrap (va - fj) = va - fj := by rw [IntKind.wrap_i64]; omega
                have hI6 : IntOwn W6 W0.heap.size g k (updI (accF P C f j) a (va - fj)) := by rw [hW6, hwr]; exact (HI5.out.set hak _).drew
                have hB6 : Below W0.heap.size W0 W6 := by rw [hW6]; exact below_drew (HB5.out.trans ((Frx.setCell [g] w5 g a _ (by simp)).below HB5.out.size (by simp; exact HI5.out.lo)))
                have k1 : W6.cell? ⟨wr.heap.size, 1, none⟩ = some (.int .i64 (b : Int)) := by
                  rw [hW6]; exact (World.cell?_setCell_other _ _ _ _ (by intro e; cases e; exact Nat.lt_irrefl _ HI2.out.lt)).trans z51
                have k2 := ((bcell hB6).1 _ (FO + j) hFA).trans yf
                have k3 := hI6.at_ b hbk
                rw [HUB.out, Nat.zero_add] at k3
                have k4 := hI6.fr b hbk
                rw [← hW6]
                have HI6 := Lib.hid hI6
                have HB6 := Lib.hid hB6
                clear hW6 hwr hI6 hB6 c0 c1 yf5 z50 z51
                go_wp2
                go_region_law ((first | fail))
                all_goals
                  obtain ⟨W7, hW7⟩ : ∃ W7, W7 = (W6.setCell ⟨g, b, none⟩ (.int .i64 (IntKind.i64.wrap (vb + fj)))).drew := ⟨_, rfl⟩
                  have hwr : IntKind.i64.wrap (vb + fj) = vb + fj := by rw [IntKind.wrap_i64]; omega
                  have hI7 : IntOwn W7 W0.heap.size g k (accF P C f (j + 1)) := by rw [hW7, hwr, HACC.out]; exact (HI6.out.set hbk _).drew
                  have hB7 : Below W0.heap.size W0 W7 := by rw [hW7]; exact below_drew (HB6.out.trans ((Frx.setCell [g] W6 g b _ (by simp)).below HB6.out.size (by simp; exact HI6.out.lo)))
                  rw [← hW7]
                  have HI7 := Lib.hid hI7
                  have HB7 := Lib.hid hB7
                  clear hW7 hwr hI7 hB7 k1 k2 k3 k4
                  go_wp2
                  go_roundw
                  case rel => exact ⟨j + 1, by omega, by go_num, HI7.out, HNX2.out, HB7.out⟩
                  case measure => simp [Go.RowKit.intOf]; omega
        case neg =>
          obtain rfl : j = lc := by omega
          have HJ := Lib.hid (allJ_w (some ⟨g, 0, none⟩) k gc (accF P C f j) (fun i => decide (0 ≤ accF P C f j i)) wr (by omega) (Lib.hid HI2.out.sl) (Lib.hid fun d w3 _ _ => notNeg_w (accF P C f j d) w3))
          obtain ⟨b, hb⟩ : ∃ b, allN (fun i => decide (0 ≤ accF P C f j i)) k = b := ⟨_, rfl⟩
          have HBB := Lib.hid hb
          rw [hb] at HJ
          clear hb
          go_wp2_with (go_at_call 110; refine HJ.out.mono ?_; rintro e w5 ⟨rfl, hv⟩)
          go_ret
          exact ⟨by rw [HV.out, HAL.out, HBB.out]; rfl, HA.out.trans ((HB2.out.trans (hv.mono HB2.out.size)).mono HA.out.size)⟩
end Go.Kn
