/- Contracts of functions that the laws of this seat call, or the evaluator of closed calls and its runs. Conditions: as each theorem states them. -/
import Derived.Test.YtddlghdglknloaaGreatDoorJ3
import Derived.Test.YtddlghdglknloaaGreatDoorJ1
import Derived.Test.YtddlghdglknloaaGreatDoorKN
set_option linter.unusedVariables false
set_option linter.unusedSimpArgs false
namespace Go.Kn
open Go Go.Proofs Go.RowKit

/-- whether what flows in a channel can -/
def okF (C : Nat → C8) (s : Nat → Int) (m : Nat) (f : Nat → Int) (c : Nat) : Bool := decide (f c ≤ (C c).cu) && ((!(C c).ga || anyB s (c : Int) m) || decide (f c = 0))
/-- what is left at a point when the first channels have flowed -/
def netF (P : Nat → P8) (C : Nat → C8) (f : Nat → Int) (p : Nat) : Nat → Int
  | 0 => leftV P false p
  | k + 1 => (if (C k).to = (p : Int) then netF P C f p k + f k else netF P C f p k) - (if (C k).fr = (p : Int) then f k else 0)
theorem netF_acc {lp : Nat} {P : Nat → P8} {lc : Nat} {C : Nat → C8} (h : NetP lp P lc C) {f : Nat → Int} {p : Nat} : ∀ k, k ≤ lc → netF P C f p k = accF P C f k p
  | 0, _ => rfl
  | k + 1, hk => by
    have hc := h.c (show k < lc by omega)
    have ih := netF_acc h (f := f) (p := p) k (by omega)
    simp only [netF, accF, updI, ih]
    by_cases h1 : (C k).to = (p : Int) <;> by_cases h2 : (C k).fr = (p : Int)
    · omega
    · have e1 : p = (C k).to.toNat := by omega
      have e2 : ¬ p = (C k).fr.toNat := by omega
      rw [if_pos h1, if_neg h2, if_pos e1, ← e1, if_neg e2]; omega
    · have e1 : ¬ p = (C k).to.toNat := by omega
      have e2 : p = (C k).fr.toNat := by omega
      rw [if_neg h1, if_pos h2, if_neg e1, if_pos e2, ← e2]
    · have e1 : ¬ p = (C k).to.toNat := by omega
      have e2 : ¬ p = (C k).fr.toNat := by omega
      rw [if_neg h1, if_neg h2, if_neg e1, if_neg e2]; omega
theorem gatsB_inc {lc : Nat} {C : Nat → C8} {s : Nat → Int} : ∀ {m : Nat}, gatsB lc C s m = true → ∀ i, i < m → frm8 s i ≤ s i ∧ 0 ≤ s i ∧ s i < lc ∧ (C (s i).toNat).ga = true
  | 0, _, i, hi => by omega
  | m + 1, h, i, hi => by
    simp only [gatsB, Bool.and_eq_true, Bool.not_eq_true', decide_eq_false_iff_not] at h
    by_cases e : i = m
    · subst e
      have := gatB_bd h.2
      have hg : (C (s i).toNat).ga = true := by have h2 := h.2; simp only [gatB, Bool.and_eq_true] at h2; exact h2.2
      exact ⟨by omega, this.1, this.2, hg⟩
    · exact gatsB_inc h.1.1 i (by omega)
theorem gatsB_lt {lc : Nat} {C : Nat → C8} {s : Nat → Int} {m : Nat} (h : gatsB lc C s m = true) : ∀ i j, i < j → j < m → s i < s j := by
  intro i j hij hj
  induction j with
  | zero => omega
  | succ j ih =>
    have h1 := (gatsB_inc h (j + 1) hj).1
    simp only [frm8] at h1
    by_cases e : i = j
    · subst e; omega
    · have := ih (by omega) (by omega); omega
theorem opnF_any {lc : Nat} {C : Nat → C8} {s : Nat → Int} {m : Nat} (h : gatsB lc C s m = true) (c : Nat) : ∀ k, k ≤ m → opnF s k c = anyB s (c : Int) k
  | 0, _ => rfl
  | k + 1, hk => by
    have ih := opnF_any h c k (by omega)
    unfold opnF at ih ⊢
    show (if (c : Int) = s k then _ else _) = (anyB s (c : Int) k || decide (s k = (c : Int)))
    by_cases e : (c : Int) = s k
    · have hno : anyB s (c : Int) k = false := by
        cases hb : anyB s (c : Int) k with
        | false => rfl
        | true =>
          obtain ⟨i, h1, h2⟩ := anyB_iff.1 hb
          have := gatsB_lt h i k h1 (by omega)
          omega
      rw [if_pos e, ih, hno]; simp [e]
    · rw [if_neg e, ih]
      have : ¬ s k = (c : Int) := fun h => e h.symm
      simp [this]
theorem okF_car {lp : Nat} {P : Nat → P8} {lc : Nat} {C : Nat → C8} (h : NetP lp P lc C) {s : Nat → Int} {m : Nat} (hg : gatsB lc C s m = true) {f : Nat → Int} {c : Nat} (hc : c < lc) (hf : 0 ≤ f c) : okF C s m f c = decide (f c ≤ carV C (opnF s m) c) := by
  have hcc := h.c hc
  have ho := opnF_any hg c m (Nat.le_refl _)
  unfold okF carV
  rw [ho]
  rw [Bool.eq_iff_iff]
  cases (C c).ga <;> cases anyB s (c : Int) m <;> simp <;> omega
theorem allN_congr {A B : Nat → Bool} : ∀ k, (∀ i, i < k → A i = B i) → allN A k = allN B k
  | 0, _ => rfl
  | k + 1, h => by simp only [allN]; rw [allN_congr k (fun i hi => h i (by omega)), h k (by omega)]
/-- whether flows feed a network, as the specification tells it -/
def rfdV (lp : Nat) (P : Nat → P8) (lc : Nat) (C : Nat → C8) (s : Nat → Int) (m : Nat) (f : Nat → Int) : Bool := allN (okF C s m f) lc && allN (fun p => decide (0 ≤ netF P C f p lc)) lp
theorem rfdV_eq {lp : Nat} {P : Nat → P8} {lc : Nat} {C : Nat → C8} (h : NetP lp P lc C) {s : Nat → Int} {m : Nat} (hg : gatsB lc C s m = true) {f : Nat → Int} (hf : ∀ i, i < lc → 0 ≤ f i ∧ f i ≤ 10000) : rfdV lp P lc C s m f = fbV lp P lc C (opnF s m) f := by
  unfold rfdV fbV
  rw [allN_congr lc (fun i hi => okF_car h hg hi (hf i hi).1), allN_congr lp (fun p _ => by rw [netF_acc h lc (Nat.le_refl _)])]
theorem netF_bd {lp : Nat} {P : Nat → P8} {lc : Nat} {C : Nat → C8} (h : NetP lp P lc C) {f : Nat → Int} (hf : ∀ i, i < lc → 0 ≤ f i ∧ f i ≤ 10000) {k p : Nat} (hk : k ≤ lc) (hp : p < lp) : -110000 ≤ netF P C f p k ∧ netF P C f p k ≤ 110000 := by
  have := accF_bd h hf k hk p hp
  have := h.c10
  rw [netF_acc h k hk]
  omega

set_option maxRecDepth 100000 in
set_option maxHeartbeats 8000000 in
theorem rfeeds_w (pa ca sa fa : Option Addr) (lp cp lc cc m sc fc : Nat) (P : Nat → P8) (C : Nat → C8) (s f : Nat → Int) (w : World) (hm : m ≤ 1000000) (HP : Hid (NetP lp P lc C)) (HFB : Hid (∀ i, i < lc → 0 ≤ f i ∧ f i ≤ 10000)) (H : Hid (Ne8 w pa ca lp lc P C)) (HO : Hid (IntSl w sa m s)) (HS : Hid (IntSl w fa lc f)) :
    Calls Tryz.prog 21 #[.agg #[.slice pa lp cp, .slice ca lc cc], .slice sa m sc, .slice fa lc fc] w fun e w' => e = .returned (.bool (rfdV lp P lc C s m f)) ∧ Below w.heap.size w w' := by
  have hmx : Tryz.prog.follows .mixedOrders = true := by kernel_rfl
  have hc10 := HP.out.c10
  have hl7 := HP.out.l7
  obtain ⟨W0, hW0⟩ : ∃ W0, W0 = w.alloc (.cells #[.slice pa lp cp, .slice ca lc cc] 25) := ⟨_, rfl⟩
  have hA : Below w.heap.size w W0 := by rw [hW0]; exact (Below.refl _ _).alloc (Nat.le_refl _) _
  have HF : Hid (∀ w2, Below W0.heap.size W0 w2 → w2.cell? ⟨w.heap.size, 0, none⟩ = some (.slice pa lp cp) ∧ w2.cell? ⟨w.heap.size, 1, none⟩ = some (.slice ca lc cc)) := Lib.hid fun w2 h => by
    rw [hW0] at h
    exact ⟨(box_cells h).1, (box_cells h).2.1⟩
  have HN : Hid (∀ w2, Below W0.heap.size W0 w2 → Ne8 w2 pa ca lp lc P C) := Lib.hid fun w2 h => H.out.below (hA.trans (h.mono hA.size))
  have HFS : Hid (∀ w2, Below W0.heap.size W0 w2 → IntSl w2 fa lc f) := Lib.hid fun w2 h => HS.out.below (hA.trans (h.mono hA.size))
  have HOP : Hid (∀ c w2, c < lc → Below W0.heap.size W0 w2 → Calls Tryz.prog 63 #[.agg #[.slice pa lp cp, .slice ca lc cc], .slice sa m sc, .int .i64 (c : Int)] w2 fun e w' => e = .returned (.bool (!(C c).ga || anyB s (c : Int) m)) ∧ Below w2.heap.size w2 w') :=
    Lib.hid fun c w2 hc h => ropen_w pa ca sa lp cp lc cc m sc c P C s w2 hc (by omega) hm (Lib.hid (HN.out w2 h)) (Lib.hid (HO.out.below (hA.trans (h.mono hA.size))))
  have HA := Lib.hid hA
  have HV : Hid (rfdV lp P lc C s m f = (allN (okF C s m f) lc && allN (fun p => decide (0 ≤ netF P C f p lc)) lp)) := Lib.hid rfl
  clear hA H HO HS
  go_enter Tryz.func21, Tryz.ntmps21
  go_wp2
  rw [← hW0]
  clear hW0
  go_loopw [7] (fun ii wr => ∃ k : Nat, k ≤ lc ∧ ii = .int .i64 (k : Int) ∧ allN (okF C s m f) k = true ∧ Below W0.heap.size W0 wr) (fun ii _ => lc - (Go.RowKit.intOf ii).toNat)
  case atStart => exact ⟨0, Nat.zero_le _, rfl, rfl, Below.refl _ _⟩
  case round =>
    obtain ⟨k, hk, rfl, hal, hbr⟩ := hrel
    have HAL := Lib.hid hal
    have HBR := Lib.hid hbr
    clear hal hbr
    by_cases hlt : k < lc
    case pos =>
      obtain ⟨A, O, rfl, hA, hN⟩ := (HN.out _ HBR.out).hc.resolve_left (by omega)
      obtain ⟨_, _, y2, _⟩ := hN k hlt
      obtain ⟨FA, FO, rfl, hFA, hFN⟩ := (HFS.out _ HBR.out).resolve_left (by omega)
      have yf := hFN k hlt
      have n1 : (0 : Int) ≤ (k : Int) := by omega
      have n2 : (k : Int) < (lc : Int) := by omega
      have HNX : Hid (okF C s m f k = true → allN (okF C s m f) (k + 1) = true) := Lib.hid fun h => allN_next HAL.out h
      have HNO : Hid (okF C s m f k = false → rfdV lp P lc C s m f = false) := Lib.hid fun h => by rw [HV.out, allN_no hlt h, Bool.false_and]
      have HOK : Hid (okF C s m f k = (decide (f k ≤ (C k).cu) && ((!(C k).ga || anyB s (k : Int) m) || decide (f k = 0)))) := Lib.hid rfl
      rw [HOK.out] at HNX HNO
      have HOC : Hid (∀ w2, Below wr.heap.size wr w2 → Calls Tryz.prog 63 #[.agg #[.slice pa lp cp, .slice (some ⟨A, O, none⟩) lc cc], .slice sa m sc, .int .i64 (k : Int)] w2 fun e w' => e = .returned (.bool (!(C k).ga || anyB s (k : Int) m)) ∧ Below wr.heap.size wr w') :=
        Lib.hid fun w2 h => (HOP.out k w2 hlt (HBR.out.trans (h.mono HBR.out.size))).mono fun e w' ⟨he, hv⟩ => ⟨he, h.trans (hv.mono h.size)⟩
      have HX : Hid (∀ w2, Below wr.heap.size wr w2 → w2.cell? ⟨w.heap.size, 0, none⟩ = some (.slice pa lp cp) ∧ w2.cell? ⟨w.heap.size, 1, none⟩ = some (.slice (some ⟨A, O, none⟩) lc cc) ∧ w2.cell? ⟨A, O + k * 4 + 2, none⟩ = some (.int .i64 (C k).cu) ∧ w2.cell? ⟨FA, FO + k, none⟩ = some (.int .i64 (f k))) := Lib.hid fun w2 h => ⟨(HF.out _ (HBR.out.trans (h.mono HBR.out.size))).1, (HF.out _ (HBR.out.trans (h.mono HBR.out.size))).2, ((bcell h).1 _ _ hA).trans y2, ((bcell h).1 _ _ hFA).trans yf⟩
      obtain ⟨cu, hcu⟩ : ∃ v, (C k).cu = v := ⟨_, rfl⟩
      obtain ⟨v, hv⟩ : ∃ v, f k = v := ⟨_, rfl⟩
      obtain ⟨o, ho⟩ : ∃ v, (!(C k).ga || anyB s (k : Int) m) = v := ⟨_, rfl⟩
      rw [hcu, hv, ho] at HNX HNO
      rw [ho] at HOC
      rw [hcu, hv] at HX
      clear hN hFN hA hFA y2 yf hcu hv ho HOK
      by_cases hle : v ≤ cu
      case neg =>
        have HX2 := Lib.hid (HNO.out (by simp [hle]))
        have n5 : decide (cu < v) = true := decide_eq_true (by omega)
        go_wp2
        refine wp_region_calm (W := wr) hmx (by kernel_rfl) (Below.refl _ _) ?_
        repeat (first
          | (refine calm_no (by rfl) ?_
             (try simp only [Act.put, List.setIfInBounds_toArray, List.set_cons_zero, List.set_cons_succ]))
          | (apply calm_yes
             focus rfl
             focus
               intro w' hw'
               obtain ⟨z1, z2, z3, z4⟩ := HX.out w' hw'
               go_simp
               first
                 | done
                 | with_reducible rfl
                 | (go_at_call 63; exact HOC.out w' hw')
                 | fail
             (try simp only [Act.put, List.setIfInBounds_toArray, List.set_cons_zero, List.set_cons_succ])
             (try rw [n5])))
        refine calm_nil ?_
        intro w7 hqw7
        have HB7 := Lib.hid (HBR.out.trans (hqw7.mono HBR.out.size))
        clear hqw7
        go_wp2
        go_ret
        exact ⟨by rw [HX2.out]; rfl, HA.out.trans (HB7.out.mono HA.out.size)⟩
      case pos =>
        have n5 : decide (cu < v) = false := decide_eq_false (by omega)
        cases o with
        | true =>
          have HX2 := Lib.hid (HNX.out (by simp [hle]))
          go_wp2
          refine wp_region_calm (W := wr) hmx (by kernel_rfl) (Below.refl _ _) ?_
          repeat (first
            | (refine calm_no (by rfl) ?_
               (try simp only [Act.put, List.setIfInBounds_toArray, List.set_cons_zero, List.set_cons_succ]))
            | (apply calm_yes
               focus rfl
               focus
                 intro w' hw'
                 obtain ⟨z1, z2, z3, z4⟩ := HX.out w' hw'
                 go_simp
                 first
                   | done
                   | with_reducible rfl
                   | (go_at_call 63; exact HOC.out w' hw')
                   | fail
               (try simp only [Act.put, List.setIfInBounds_toArray, List.set_cons_zero, List.set_cons_succ])
               (try rw [n5])))
          refine calm_nil ?_
          intro w7 hqw7
          have HB7 := Lib.hid (HBR.out.trans (hqw7.mono HBR.out.size))
          clear hqw7
          go_wp2
          go_roundw
          case rel => exact ⟨k + 1, by omega, by go_num, HX2.out, HB7.out⟩
          case measure => simp [Go.RowKit.intOf]; omega
        | false =>
          by_cases h0 : v = 0
          · have HX2 := Lib.hid (HNX.out (by simp [h0]; omega))
            have n8 : (v != 0) = false := by simp [h0]
            clear h0
            go_wp2
            refine wp_region_calm (W := wr) hmx (by kernel_rfl) (Below.refl _ _) ?_
            repeat (first
              | (refine calm_no (by rfl) ?_
                 (try simp only [Act.put, List.setIfInBounds_toArray, List.set_cons_zero, List.set_cons_succ]))
              | (apply calm_yes
                 focus rfl
                 focus
                   intro w' hw'
                   obtain ⟨z1, z2, z3, z4⟩ := HX.out w' hw'
                   go_simp
                   first
                     | done
                     | with_reducible rfl
                     | (go_at_call 63; exact HOC.out w' hw')
                     | fail
                 (try simp only [Act.put, List.setIfInBounds_toArray, List.set_cons_zero, List.set_cons_succ])
                 (try rw [n5])
                 (try rw [n8])))
            refine calm_nil ?_
            intro w7 hqw7
            have HB7 := Lib.hid (HBR.out.trans (hqw7.mono HBR.out.size))
            clear hqw7
            go_wp2
            go_roundw
            case rel => exact ⟨k + 1, by omega, by go_num, HX2.out, HB7.out⟩
            case measure => simp [Go.RowKit.intOf]; omega
          · have HX2 := Lib.hid (HNO.out (by simp [h0]))
            have n8 : (v != 0) = true := by simp [h0]
            clear h0
            go_wp2
            refine wp_region_calm (W := wr) hmx (by kernel_rfl) (Below.refl _ _) ?_
            repeat (first
              | (refine calm_no (by rfl) ?_
                 (try simp only [Act.put, List.setIfInBounds_toArray, List.set_cons_zero, List.set_cons_succ]))
              | (apply calm_yes
                 focus rfl
                 focus
                   intro w' hw'
                   obtain ⟨z1, z2, z3, z4⟩ := HX.out w' hw'
                   go_simp
                   first
                     | done
                     | with_reducible rfl
                     | (go_at_call 63; exact HOC.out w' hw')
                     | fail
                 (try simp only [Act.put, List.setIfInBounds_toArray, List.set_cons_zero, List.set_cons_succ])
                 (try rw [n5])
                 (try rw [n8])))
            refine calm_nil ?_
            intro w7 hqw7
            have HB7 := Lib.hid (HBR.out.trans (hqw7.mono HBR.out.size))
            clear hqw7
            go_wp2
            go_ret
            exact ⟨by rw [HX2.out]; rfl, HA.out.trans (HB7.out.mono HA.out.size)⟩
    case neg =>
      obtain rfl : k = lc := by omega
      obtain ⟨w9, hw9⟩ : ∃ w9, w9 = wr := ⟨_, rfl⟩
      subst hw9
      go_wp2
      go_loopw [8] (fun ii wr => ∃ p : Nat, p ≤ lp ∧ ii = .int .i64 (p : Int) ∧ allN (fun p => decide (0 ≤ netF P C f p k)) p = true ∧ Below W0.heap.size W0 wr) (fun ii _ => lp - (Go.RowKit.intOf ii).toNat)
      case atStart => exact ⟨0, Nat.zero_le _, rfl, rfl, HBR.out⟩
      case round =>
        obtain ⟨p, hp, rfl, hal, hbr⟩ := hrel
        have HA2 := Lib.hid hal
        have HB2 := Lib.hid hbr
        clear hal hbr
        obtain ⟨f0, f1⟩ := HF.out _ HB2.out
        by_cases hlt : p < lp
        case pos =>
          obtain ⟨A, O, rfl, hA, hN⟩ := (HN.out _ HB2.out).hp.resolve_left (by omega)
          obtain ⟨y0, _, y2⟩ := hN p hlt
          have n1 : (0 : Int) ≤ (p : Int) := by omega
          have n2 : (p : Int) < (lp : Int) := by omega
          have hpb := HP.out.p hlt
          have HL : Hid (leftV P false p = (P p).lo - (P p).nd) := Lib.hid (by simp [leftV])
          have HX : Hid (∀ w2, Below wr.heap.size wr w2 → w2.cell? ⟨w.heap.size, 0, none⟩ = some (.slice (some ⟨A, O, none⟩) lp cp) ∧ w2.cell? ⟨A, O + p * 3, none⟩ = some (.int .i64 (P p).lo) ∧ w2.cell? ⟨A, O + p * 3 + 2, none⟩ = some (.int .i64 (P p).nd)) := Lib.hid fun w2 h => ⟨(HF.out _ (HB2.out.trans (h.mono HB2.out.size))).1, ((bcell h).1 _ _ hA).trans y0, ((bcell h).1 _ _ hA).trans y2⟩
          obtain ⟨lo, hlo⟩ : ∃ v, (P p).lo = v := ⟨_, rfl⟩
          obtain ⟨nd, hnd⟩ : ∃ v, (P p).nd = v := ⟨_, rfl⟩
          rw [hlo, hnd] at HX HL hpb
          have hwr : IntKind.i64.wrap (lo - nd) = lo - nd := by rw [IntKind.wrap_i64]; omega
          have HNX : Hid (0 ≤ netF P C f p k → allN (fun p => decide (0 ≤ netF P C f p k)) (p + 1) = true) := Lib.hid fun h => allN_next HA2.out (decide_eq_true h)
          have HNO : Hid (¬ 0 ≤ netF P C f p k → rfdV lp P k C s m f = false) := Lib.hid fun h => by rw [HV.out, allN_no (B := fun p => decide (0 ≤ netF P C f p k)) hlt (decide_eq_false h), Bool.and_false]
          clear hN hlo hnd hA y0 y2 f1
          go_wp2
          refine wp_region_calm (W := wr) hmx (by kernel_rfl) (Below.refl _ _) ?_
          repeat (first
            | (refine calm_no (by rfl) ?_
               (try simp only [Act.put, List.setIfInBounds_toArray, List.set_cons_zero, List.set_cons_succ]))
            | (apply calm_yes
               focus rfl
               focus
                 intro w' hw'
                 obtain ⟨z1, z2, z3⟩ := HX.out w' hw'
                 go_simp
                 first
                   | done
                   | with_reducible rfl
                   | fail
               (try simp only [Act.put, List.setIfInBounds_toArray, List.set_cons_zero, List.set_cons_succ])
               (try rw [hwr])))
          refine calm_nil ?_
          intro w7 hqw7
          have HB7 := Lib.hid (HB2.out.trans (hqw7.mono HB2.out.size))
          clear hqw7
          go_wp2
          go_loopw [9, 10] (fun vv ii wr => ∃ c : Nat, c ≤ k ∧ ii = .int .i64 (c : Int) ∧ vv = .int .i64 (netF P C f p c) ∧ Below W0.heap.size W0 wr) (fun _ ii _ => k - (Go.RowKit.intOf ii).toNat)
          case atStart => exact ⟨0, Nat.zero_le _, rfl, by rw [show netF P C f p 0 = lo - nd from HL.out], HB7.out⟩
          case round =>
            obtain ⟨c, hc, rfl, rfl, hbr⟩ := hrel
            have HB3 := Lib.hid hbr
            clear hbr
            obtain ⟨g0, g1⟩ := HF.out _ HB3.out
            have hbd := netF_bd HP.out HFB.out hc hlt
            by_cases hlc : c < k
            case pos =>
              obtain ⟨CA, CO, rfl, hCA, hCN⟩ := (HN.out _ HB3.out).hc.resolve_left (by omega)
              obtain ⟨y0, y1, _, _⟩ := hCN c hlc
              obtain ⟨FA, FO, rfl, hFA, hFN⟩ := (HFS.out _ HB3.out).resolve_left (by omega)
              have yf := hFN c hlc
              have hfb := HFB.out c hlc
              have n3 : (0 : Int) ≤ (c : Int) := by omega
              have n4 : (c : Int) < (k : Int) := by omega
              have HST : Hid (netF P C f p (c + 1) = (if (C c).to = (p : Int) then netF P C f p c + f c else netF P C f p c) - (if (C c).fr = (p : Int) then f c else 0)) := Lib.hid rfl
              have hft := (HP.out.c hlc).2.2.2.2.1
              obtain ⟨u, hu⟩ : ∃ v, netF P C f p c = v := ⟨_, rfl⟩
              obtain ⟨v, hv⟩ : ∃ v, f c = v := ⟨_, rfl⟩
              obtain ⟨fr, hfr⟩ : ∃ v, (C c).fr = v := ⟨_, rfl⟩
              obtain ⟨to, hto⟩ : ∃ v, (C c).to = v := ⟨_, rfl⟩
              rw [hu, hv, hfr, hto] at HST
              rw [hfr, hto] at hft
              rw [hfr] at y0
              rw [hto] at y1
              rw [hv] at yf hfb
              rw [hu] at hbd ⊢
              clear hCN hFN hu hv hfr hto
              by_cases e1 : to = (p : Int) <;> by_cases e2 : fr = (p : Int)
              · exact absurd (e2.trans e1.symm) hft
              · have q1 : (to == (p : Int)) = true := by rw [beq_iff_eq]; exact e1
                have q2 : (fr == (p : Int)) = false := by rw [beq_eq_false_iff_ne]; exact e2
                have HE : Hid (netF P C f p (c + 1) = u + v) := Lib.hid (by rw [HST.out, if_pos e1, if_neg e2]; omega)
                have hw1 : IntKind.i64.wrap (u + v) = u + v := by rw [IntKind.wrap_i64]; omega
                clear e1 e2 HST hft
                go_wp2
                go_roundw
                case rel => exact ⟨c + 1, by omega, by go_num, by rw [HE.out], HB3.out⟩
                case measure => simp [Go.RowKit.intOf]; omega
              · have q1 : (to == (p : Int)) = false := by rw [beq_eq_false_iff_ne]; exact e1
                have q2 : (fr == (p : Int)) = true := by rw [beq_iff_eq]; exact e2
                have HE : Hid (netF P C f p (c + 1) = u - v) := Lib.hid (by rw [HST.out, if_neg e1, if_pos e2])
                clear e1 e2 HST hft
                go_wp2
                go_roundw
                case rel => exact ⟨c + 1, by omega, by go_num, by rw [HE.out], HB3.out⟩
                case measure => simp [Go.RowKit.intOf]; omega
              · have q1 : (to == (p : Int)) = false := by rw [beq_eq_false_iff_ne]; exact e1
                have q2 : (fr == (p : Int)) = false := by rw [beq_eq_false_iff_ne]; exact e2
                have HE : Hid (netF P C f p (c + 1) = u) := Lib.hid (by rw [HST.out, if_neg e1, if_neg e2]; omega)
                clear e1 e2 HST hft
                go_wp2
                go_roundw
                case rel => exact ⟨c + 1, by omega, by go_num, by rw [HE.out], HB3.out⟩
                case measure => simp [Go.RowKit.intOf]; omega
            case neg =>
              obtain rfl : c = k := by omega
              obtain ⟨u, hu⟩ : ∃ v, netF P C f p c = v := ⟨_, rfl⟩
              rw [hu] at HNX HNO hbd ⊢
              clear hu
              by_cases h0 : 0 ≤ u
              · have HX2 := Lib.hid (HNX.out h0)
                have n6 : ¬ u < 0 := by omega
                go_wp2
                go_roundw
                case rel => exact ⟨p + 1, by omega, by go_num, HX2.out, HB3.out⟩
                case measure => simp [Go.RowKit.intOf]; omega
              · have HX2 := Lib.hid (HNO.out (by omega))
                have n6 : u < 0 := by omega
                go_wp2
                go_ret
                exact ⟨by rw [HX2.out]; rfl, HA.out.trans (HB3.out.mono HA.out.size)⟩
        case neg =>
          obtain rfl : p = lp := by omega
          go_wp2
          go_ret
          exact ⟨by rw [HV.out, HAL.out, HA2.out]; rfl, HA.out.trans (HB2.out.mono HA.out.size)⟩
end Go.Kn

namespace Go.Kn
open Go Go.Proofs Go.RowKit

set_option maxRecDepth 100000 in
set_option maxHeartbeats 2000000 in
theorem short_w (pa ca : Option Addr) (lp cp lc cc : Nat) (w : World) : Calls Tryz.prog 15 #[.agg #[.slice pa lp cp, .slice ca lc cc]] w fun e w' => e = .returned (.bool (decide (lp ≤ 9 ∧ lc ≤ 13))) ∧ Below w.heap.size w w' := by
  by_cases h1 : lp ≤ 9
  · have n1 : ((lp : Int) ≤ 9) := by omega
    by_cases h2 : lc ≤ 13
    all_goals
      first
        | have n2 : ((lc : Int) ≤ 13) := by omega
        | have n2 : ¬ ((lc : Int) ≤ 13) := by omega
      go_enter Tryz.func15, Tryz.ntmps15
      go_wp2
      go_ret
      exact ⟨by simp [h1, h2]; try omega, (Below.refl _ _).alloc (Nat.le_refl _) _⟩
  · have n1 : ¬ ((lp : Int) ≤ 9) := by omega
    go_enter Tryz.func15, Tryz.ntmps15
    go_wp2
    go_ret
    exact ⟨by simp [h1], (Below.refl _ _).alloc (Nat.le_refl _) _⟩

/-- what Feeds asks of its arguments -/
def fdQ (lp : Nat) (P : Nat → P8) (lc : Nat) (C : Nat → C8) (s : Nat → Int) (m : Nat) (f : Nat → Int) (n : Nat) : Bool := netV lp P lc C && gatsB lc C s m && flowB lc f n
theorem flowB_iff {lc n : Nat} {f : Nat → Int} : flowB lc f n = true ↔ n = lc ∧ ∀ i, i < n → 0 ≤ f i ∧ f i ≤ 10000 := by
  simp [flowB, allN_iff, fromB]

set_option maxRecDepth 100000 in
set_option maxHeartbeats 4000000 in
theorem feeds_w (pa ca sa fa : Option Addr) (lp cp lc cc m sc n fc : Nat) (P : Nat → P8) (C : Nat → C8) (s f : Nat → Int) (w : World) (hlp : lp ≤ 1000000) (hlc : lc ≤ 1000000) (hm : m ≤ 1000000) (hn : n ≤ 1000000) (H : Hid (Ne8 w pa ca lp lc P C)) (HO : Hid (IntSl w sa m s)) (HS : Hid (IntSl w fa n f)) :
    Calls Tryz.prog 17 #[.agg #[.slice pa lp cp, .slice ca lc cc], .slice sa m sc, .slice fa n fc] w fun e w' => e = .returned (.tuple #[.bool (fdQ lp P lc C s m f n && fbV lp P lc C (opnF s m) f), .int .i64 (if fdQ lp P lc C s m f n then 0 else 2)]) ∧ Below w.heap.size w w' := by
  obtain ⟨W0, hW0⟩ : ∃ W0, W0 = w.alloc (.cells #[.slice pa lp cp, .slice ca lc cc] 25) := ⟨_, rfl⟩
  have hA : Below w.heap.size w W0 := by rw [hW0]; exact (Below.refl _ _).alloc (Nat.le_refl _) _
  have HF : Hid (∀ w2, Below W0.heap.size W0 w2 → w2.cell? ⟨w.heap.size, 0, none⟩ = some (.slice pa lp cp) ∧ w2.cell? ⟨w.heap.size, 1, none⟩ = some (.slice ca lc cc)) := Lib.hid fun w2 h => by
    rw [hW0] at h
    exact ⟨(box_cells h).1, (box_cells h).2.1⟩
  have HN : Hid (∀ w2, Below W0.heap.size W0 w2 → Ne8 w2 pa ca lp lc P C) := Lib.hid fun w2 h => H.out.below (hA.trans (h.mono hA.size))
  have HOS : Hid (∀ w2, Below W0.heap.size W0 w2 → IntSl w2 sa m s) := Lib.hid fun w2 h => HO.out.below (hA.trans (h.mono hA.size))
  have HFS : Hid (∀ w2, Below W0.heap.size W0 w2 → IntSl w2 fa n f) := Lib.hid fun w2 h => HS.out.below (hA.trans (h.mono hA.size))
  have H1 : Hid (Calls Tryz.prog 56 #[.agg #[.slice pa lp cp, .slice ca lc cc]] W0 fun e w' => e = .returned (.bool (netV lp P lc C)) ∧ Below W0.heap.size W0 w') := Lib.hid (isNet_w pa ca lp cp lc cc P C W0 hlp hlc (Lib.hid (HN.out _ (Below.refl _ _))))
  have H2 : Hid (∀ w2, Below W0.heap.size W0 w2 → Calls Tryz.prog 57 #[.agg #[.slice pa lp cp, .slice ca lc cc], .slice sa m sc] w2 fun e w' => e = .returned (.bool (gatsB lc C s m)) ∧ Below w2.heap.size w2 w') := Lib.hid fun w2 h => areGates_w pa ca sa lp cp lc cc m sc P C s w2 hlc hm (Lib.hid (HN.out _ h)) (Lib.hid (HOS.out _ h))
  have H3 : Hid (∀ w2, Below W0.heap.size W0 w2 → Calls Tryz.prog 58 #[.agg #[.slice pa lp cp, .slice ca lc cc], .slice fa n fc] w2 fun e w' => e = .returned (.bool (flowB lc f n)) ∧ Below w2.heap.size w2 w') := Lib.hid fun w2 h => areFlows_w pa ca fa lp cp lc cc n fc f w2 hn (Lib.hid (HFS.out _ h))
  have HA := Lib.hid hA
  obtain ⟨f0, f1⟩ := HF.out _ (Below.refl _ _)
  rw [hW0] at f0 f1
  clear hA H HO HS
  obtain ⟨q1, hq1⟩ : ∃ q, netV lp P lc C = q := ⟨_, rfl⟩
  obtain ⟨q2, hq2⟩ : ∃ q, gatsB lc C s m = q := ⟨_, rfl⟩
  obtain ⟨q3, hq3⟩ : ∃ q, flowB lc f n = q := ⟨_, rfl⟩
  have HQ1 := Lib.hid hq1
  have HQ2 := Lib.hid hq2
  have HQ3 := Lib.hid hq3
  have HQ : Hid (fdQ lp P lc C s m f n = (q1 && q2 && q3)) := Lib.hid (by rw [← hq1, ← hq2, ← hq3]; rfl)
  rw [HQ.out]
  rw [hq1] at H1
  rw [hq2] at H2
  rw [hq3] at H3
  clear hq1 hq2 hq3 HQ
  cases q1 with
  | false =>
    go_enter Tryz.func17, Tryz.ntmps17
    go_wp2_with (go_at_call 56; rw [← hW0]; refine H1.out.mono ?_; rintro e w5 ⟨rfl, hv⟩)
    refine bodyPost_ret (v := .tuple #[.bool false, .int .i64 2]) (by simp [results, Tryz.results17, go_sem]) rfl ⟨rfl, HA.out.trans (hv.mono HA.out.size)⟩
  | true =>
    cases q2 with
    | false =>
      go_enter Tryz.func17, Tryz.ntmps17
      go_wp2_with (first
        | (go_at_call 56; rw [← hW0]; refine H1.out.mono ?_; rintro e w5 ⟨rfl, hv⟩; clear hW0 f0 f1; have HV5 := Lib.hid hv; obtain ⟨g0, g1⟩ := HF.out _ hv; clear hv)
        | (go_at_call 57; refine (H2.out _ HV5.out).mono ?_; rintro e w6 ⟨rfl, hv⟩; have HV6 := Lib.hid (HV5.out.trans (hv.mono HV5.out.size)); clear hv))
      refine bodyPost_ret (v := .tuple #[.bool false, .int .i64 2]) (by simp [results, Tryz.results17, go_sem]) rfl ⟨rfl, HA.out.trans (HV6.out.mono HA.out.size)⟩
    | true =>
      cases q3 with
      | false =>
        go_enter Tryz.func17, Tryz.ntmps17
        go_wp2_with (first
          | (go_at_call 56; rw [← hW0]; refine H1.out.mono ?_; rintro e w5 ⟨rfl, hv⟩; clear hW0 f0 f1; have HV5 := Lib.hid hv; obtain ⟨g0, g1⟩ := HF.out _ hv; clear hv)
          | (go_at_call 57; refine (H2.out _ HV5.out).mono ?_; rintro e w6 ⟨rfl, hv⟩; have HV6 := Lib.hid (HV5.out.trans (hv.mono HV5.out.size)); clear hv g0 g1; obtain ⟨g0, g1⟩ := HF.out _ HV6.out)
          | (go_at_call 58; refine (H3.out _ HV6.out).mono ?_; rintro e w7 ⟨rfl, hv⟩; have HV7 := Lib.hid (HV6.out.trans (hv.mono HV6.out.size)); clear hv))
        refine bodyPost_ret (v := .tuple #[.bool false, .int .i64 2]) (by simp [results, Tryz.results17, go_sem]) rfl ⟨rfl, HA.out.trans (HV7.out.mono HA.out.size)⟩
      | true =>
        obtain ⟨e1, e2⟩ := flowB_iff.1 HQ3.out
        subst e1
        have HP := Lib.hid (netV_iff.1 HQ1.out)
        have hn10 := HP.out.c10
        have HFB := Lib.hid e2
        have HOB : Hid (∀ i, i < m → 0 ≤ s i ∧ s i < 10) := Lib.hid fun i hi => by have := gatsB_inc HQ2.out i hi; omega
        have H4 : Hid (∀ w2, Below W0.heap.size W0 w2 → Calls Tryz.prog 59 #[.agg #[.slice pa lp cp, .slice ca n cc], .slice sa m sc] w2 fun e w' => e = .returned (.agg (opC pa ca lp cp n cc (opnF s m))) ∧ Below w2.heap.size w2 w') := Lib.hid fun w2 h => withOpen_w pa ca sa lp cp n cc m sc s w2 hm HOB (Lib.hid (HOS.out _ h))
        have H5 : Hid (∀ w2, Below W0.heap.size W0 w2 → Calls Tryz.prog 60 #[.agg (opC pa ca lp cp n cc (opnF s m)), .slice fa n fc] w2 fun e w' => e = .returned (.bool (fbV lp P n C (opnF s m) f)) ∧ Below w2.heap.size w2 w') := Lib.hid fun w2 h => fedBy_w pa ca fa lp cp n cc fc P C (opnF s m) f w2 HP HFB (Lib.hid (HN.out _ h)) (Lib.hid (HFS.out _ h))
        obtain ⟨v, hv⟩ : ∃ v, fbV lp P n C (opnF s m) f = v := ⟨_, rfl⟩
        obtain ⟨oc, hoc⟩ : ∃ v, opC pa ca lp cp n cc (opnF s m) = v := ⟨_, rfl⟩
        rw [hv, hoc] at H5
        rw [hoc] at H4
        rw [hv]
        clear hv hoc e2
        go_enter Tryz.func17, Tryz.ntmps17
        go_wp2_with (first
          | (go_at_call 56; rw [← hW0]; refine H1.out.mono ?_; rintro e w5 ⟨rfl, hv⟩; clear hW0 f0 f1; have HV5 := Lib.hid hv; obtain ⟨g0, g1⟩ := HF.out _ hv; clear hv)
          | (go_at_call 57; refine (H2.out _ HV5.out).mono ?_; rintro e w6 ⟨rfl, hv⟩; have HV6 := Lib.hid (HV5.out.trans (hv.mono HV5.out.size)); clear hv g0 g1; obtain ⟨g0, g1⟩ := HF.out _ HV6.out)
          | (go_at_call 58; refine (H3.out _ HV6.out).mono ?_; rintro e w7 ⟨rfl, hv⟩; have HV7 := Lib.hid (HV6.out.trans (hv.mono HV6.out.size)); clear hv g0 g1; obtain ⟨g0, g1⟩ := HF.out _ HV7.out)
          | (go_at_call 59; refine (H4.out _ HV7.out).mono ?_; rintro e w8 ⟨rfl, hv⟩; have HV8 := Lib.hid (HV7.out.trans (hv.mono HV7.out.size)); clear hv g0 g1)
          | (go_at_call 60; refine (H5.out _ HV8.out).mono ?_; rintro e w9 ⟨rfl, hv⟩; have HV9 := Lib.hid (HV8.out.trans (hv.mono HV8.out.size)); clear hv))
        refine bodyPost_ret (v := .tuple #[.bool v, .int .i64 0]) (by simp [results, Tryz.results17, go_sem]) rfl ⟨by simp, HA.out.trans (HV9.out.mono HA.out.size)⟩
end Go.Kn
