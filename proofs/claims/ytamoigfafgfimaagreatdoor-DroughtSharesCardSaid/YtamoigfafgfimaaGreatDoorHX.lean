/- Contracts of functions that the laws of this seat call, or the evaluator of closed calls and its runs. Conditions: as each theorem states them. -/
import Derived.Test.YtamoigfafgfimaaGreatDoorHW
import Derived.Test.YtamoigfafgfimaaGreatDoorSHL
import Derived.Sort.OwnSortedInts
import Derived.Test.YtamoigfafgfimaaGreatDoorHO
set_option linter.unusedVariables false
set_option linter.unusedSimpArgs false
namespace Go.Kn
open Go Go.Proofs Go.RowKit

def srt (zs : List Int) : List Int := zs.mergeSort fun x y => decide (x ≤ y)
theorem srt_len (zs : List Int) : (srt zs).length = zs.length := by simp [srt, List.length_mergeSort]

theorem sort_w {base n : Nat} {v : Value} {zs : List Int} {w : World} (h : w.ownsRow base 3 1 v n (zs.map (Value.int .i64))) (hn : n ≤ 1000000) :
    Calls Tryz.prog 130 #[v] w fun e w' => e = .returned (.tuple #[]) ∧ w'.ownsRow base 3 1 v n ((srt zs).map (Value.int .i64)) ∧ Below base w w' := by
  have hl : zs.length = n := by have := h.1; simp at this; omega
  rcases h.2 with ⟨rfl, h0⟩ | ⟨g, cap, cur, rfl, hb, hg, hn1, hc, hs, hx⟩
  · subst h0
    refine (Any.slices_Sort_int_none Tryz.lays189 none 0 w).mono ?_
    rintro e w' ⟨rfl, rfl⟩
    have hz : zs = [] := List.length_eq_zero_iff.1 hl
    subst hz
    exact ⟨rfl, ⟨by simp [srt], .inl ⟨rfl, rfl⟩⟩, Below.refl _ _⟩
  · subst hl
    have hH := holds_of_blockI (ss := zs) hg (by simpa using hx)
    refine (Any.slices_Sort_int Tryz.lays189 g 0 cap zs w hH (Array.getElem?_eq_some_iff.1 hg).1 (by omega)).mono ?_
    rintro e w' ⟨rfl, nn, os, rfl⟩
    have hgr := grownBy_sortedI (w := w) (g := g) (n := nn) (os := os) (srt zs).toArray
    have hgl := (Array.getElem?_eq_some_iff.1 hg).1
    refine ⟨rfl, ownsRow_sortedI (ss := zs) (ts := srt zs) (srt_len zs) hb hg hn1 hc hs, ⟨hgr.os, hgr.tape, hgr.output, hgr.size, fun k hk => ?_⟩⟩
    exact hgr.block k (by omega) (fun e => by have := Option.some.inj e; omega)

theorem values_w (sa : Option Addr) (len cap : Nat) (w : World) :
    Calls Tryz.prog 109 #[.slice sa len cap] w fun e w' => e = .returned (.func (.func 131) #[] #[.pointer (some ⟨w.heap.size, 0, none⟩)]) ∧ w' = w.alloc (.cells #[.slice sa len cap] 26) := by
  have hmf : ∀ (fn : Fn) (first cap : Array Value) (w : World), (Instr.makeFunc fn first cap).run Tryz.prog w = .ok (.func fn first cap) w := fun _ _ _ _ => rfl
  go_enter Tryz.func109, Tryz.ntmps109
  go_wp2
  go_ret
  exact ⟨rfl, rfl⟩

theorem collect_w (Bs len cap : Nat) (sa : Option Addr) (z : Nat → Int) (w : World) (hlen : len ≤ 1000) (hB : w.cell? ⟨Bs, 0, none⟩ = some (.slice sa len cap)) (hBl : Bs < w.heap.size) (H : Hid (IntSl w sa len z)) :
    Calls Tryz.prog 129 #[.func (.func 131) #[] #[.pointer (some ⟨Bs, 0, none⟩)]] w fun e w' => (∃ v, e = .returned v ∧ w'.ownsRow w.heap.size 3 1 v len ((upto z len).map (Value.int .i64))) ∧ Below w.heap.size w w' := by
  have HC := Lib.hid (append_w Bs len cap sa z w hlen hB hBl H)
  clear hB hBl
  go_enter Tryz.func129, Tryz.ntmps129
  go_wp2_with (go_at_call 145; refine HC.out.mono ?_; rintro e w2 ⟨⟨v, rfl, ho⟩, hb⟩; obtain ⟨s7, c7, rfl⟩ := own_slice ho; have HO := Lib.hid ho; have HB := Lib.hid hb; clear ho hb)
  go_ret
  exact ⟨⟨_, rfl, HO.out⟩, HB.out⟩

theorem sorted_w (Bs len cap : Nat) (sa : Option Addr) (z : Nat → Int) (w : World) (hlen : len ≤ 1000) (hB : w.cell? ⟨Bs, 0, none⟩ = some (.slice sa len cap)) (hBl : Bs < w.heap.size) (H : Hid (IntSl w sa len z)) :
    Calls Tryz.prog 108 #[.func (.func 131) #[] #[.pointer (some ⟨Bs, 0, none⟩)]] w fun e w' => (∃ v, e = .returned v ∧ w'.ownsRow w.heap.size 3 1 v len ((srt (upto z len)).map (Value.int .i64))) ∧ Below w.heap.size w w' := by
  have HC := Lib.hid (collect_w Bs len cap sa z w hlen hB hBl H)
  clear hB hBl
  go_enter Tryz.func108, Tryz.ntmps108
  go_wp2_with (first
    | (go_at_call 129; refine HC.out.mono ?_; rintro e w2 ⟨⟨v, rfl, ho⟩, hb⟩; obtain ⟨s7, c7, rfl⟩ := own_slice ho; have HO := Lib.hid ho; have HB := Lib.hid hb; clear ho hb)
    | (go_at_call 130; refine (sort_w HO.out (by omega)).mono ?_; rintro e w3 ⟨rfl, ho, hb⟩; have HO3 := Lib.hid ho; have HB3 := Lib.hid hb; clear ho hb))
  go_ret
  exact ⟨⟨_, rfl, HO3.out⟩, HB.out.trans HB3.out⟩

theorem equal4_w {base n : Nat} {v : Value} {xs : List Int} {pa : Option Addr} {cc : Nat} {w : World} (h : w.ownsRow base 3 1 v n (xs.map (Value.int .i64))) (hn : n ≤ 1000) (HP : IntSl w pa 4 (fun i => ((i : Nat) : Int))) :
    Calls Tryz.prog 107 #[v, .slice pa 4 cc] w fun e w' => e = .returned (.bool (decide (xs = [0, 1, 2, 3]))) ∧ Below w.heap.size w w' := by
  have hl : xs.length = n := by have := h.1; simp at this; omega
  obtain ⟨B, O, rfl, hB, hnum⟩ := HP.resolve_left (by omega)
  by_cases h0 : n = 0
  · subst h0
    obtain ⟨sa, c, rfl⟩ := own_slice h
    have hz : xs = [] := List.length_eq_zero_iff.1 hl
    subst hz
    refine (Any.slices_Equal_int_empty Tryz.lays111 sa _ c 4 cc w (by omega)).mono ?_
    rintro e w' ⟨rfl, rfl⟩
    exact ⟨by simp, Below.refl _ _⟩
  · obtain ⟨g, cap, rfl, _, _, _, hc⟩ := vals_of_owns h h0
    subst hl
    refine (Any.slices_Equal_int Tryz.lays111 g 0 xs.length cap B O 4 cc xs [0, 1, 2, 3] w (Nat.le_refl _) (by simp) (by omega) (by omega) (fun j hj => ?_) (fun j hj => ?_)).mono ?_
    · rw [Nat.zero_add]
      exact hc j _ (by simp [List.getD, hj])
    · rw [hnum j hj]
      match j, hj with
      | 0, _ => rfl
      | 1, _ => rfl
      | 2, _ => rfl
      | 3, _ => rfl
    · rintro e w' ⟨rfl, q, rfl⟩
      refine ⟨?_, below_drewM (Below.refl _ _) _⟩
      simp
      exact Bool.eq_iff_iff.2 (by simp)

def isOrd (z : Nat → Int) (len : Nat) : Bool := decide (srt (upto z len) = [0, 1, 2, 3])

theorem isOrder_w (sa : Option Addr) (len cap : Nat) (z : Nat → Int) (w : World) (hlen : len ≤ 1000) (H : Hid (IntSl w sa len z)) :
    Calls Tryz.prog 69 #[.slice sa len cap] w fun e w' => e = .returned (.bool (isOrd z len)) ∧ Below w.heap.size w w' := by
  have hA : Below w.heap.size w (w.alloc (.cells #[.slice sa len cap] 26)) := (Below.refl _ _).alloc (Nat.le_refl _) _
  have HS := Lib.hid (sorted_w w.heap.size len cap sa z (w.alloc (.cells #[.slice sa len cap] 26)) hlen (by simp) (by simp) (Lib.hid (H.out.below hA)))
  have HA := Lib.hid hA
  clear hA
  go_enter Tryz.func69, Tryz.ntmps69
  go_wp2_with (first
    | (go_at_call 109; refine (values_w sa len cap w).mono ?_; rintro e w2 ⟨rfl, rfl⟩)
    | (go_at_call 108; refine HS.out.mono ?_; rintro e w3 ⟨⟨v, rfl, ho⟩, hb⟩; obtain ⟨s7, c7, rfl⟩ := own_slice ho; have HO := Lib.hid ho; have HB := Lib.hid hb; clear ho hb)
    | (go_at_call 106; refine (lawsOrder_w _).mono ?_; rintro e w4 ⟨⟨pa, cc, rfl, hsl⟩, hb⟩; have HO4 := Lib.hid (owns_below HO.out hb); have HP4 := Lib.hid hsl; have HB4 := Lib.hid hb; clear hb hsl)
    | (go_at_call 107; refine (equal4_w HO4.out hlen HP4.out).mono ?_; rintro e w5 ⟨rfl, hb⟩; have HB5 := Lib.hid hb; clear hb))
  go_ret
  exact ⟨rfl, HA.out.trans (((HB.out.mono HA.out.size).trans (HB4.out.mono (Nat.le_trans HA.out.size HB.out.size))).trans (HB5.out.mono (Nat.le_trans HA.out.size (Nat.le_trans HB.out.size HB4.out.size))))⟩
end Go.Kn

namespace Go.Kn
open Go Go.Proofs Go.RowKit

def OrdP (z : Nat → Int) (len : Nat) : Prop := len = 4 ∧ (∀ i, i < len → 0 ≤ z i ∧ z i ≤ 3) ∧ ∀ i k, k < i → i < len → z k ≠ z i

theorem perm4 : ∀ a b c d : Fin 4, a ≠ b → a ≠ c → a ≠ d → b ≠ c → b ≠ d → c ≠ d → ([a, b, c, d].Perm [0, 1, 2, 3]) := by decide
theorem srt_four {l : List Int} (h : l.Perm [0, 1, 2, 3]) : srt l = [0, 1, 2, 3] := by
  have hs : (srt l).Pairwise (fun x y => decide (x ≤ y) = true) := List.pairwise_mergeSort (le := fun x y : Int => decide (x ≤ y)) (fun a b c h1 h2 => by simp at *; omega) (fun a b => by simp; omega) l
  refine List.Perm.eq_of_pairwise (le := fun x y => decide (x ≤ y) = true) (fun a b _ _ h1 h2 => by simp at h1 h2; omega) hs (by decide) ((List.mergeSort_perm _ _).trans h)

theorem isOrd_iff (z : Nat → Int) (len : Nat) : isOrd z len = true ↔ OrdP z len := by
  unfold isOrd
  rw [decide_eq_true_iff]
  constructor
  · intro h
    have hp : (upto z len).Perm [0, 1, 2, 3] := by
      have := (List.mergeSort_perm (upto z len) (fun x y => decide (x ≤ y))).symm
      unfold srt at h
      rwa [h] at this
    have hl : len = 4 := by have := hp.length_eq; simpa [upto_length] using this
    subst hl
    have hnd : (upto z 4).Nodup := hp.nodup_iff.2 (by decide)
    have hm : ∀ i, i < 4 → z i ∈ [0, 1, 2, 3] := fun i hi => hp.mem_iff.1 (by unfold upto; exact List.mem_map.2 ⟨i, by simpa using hi, rfl⟩)
    refine ⟨rfl, fun i hi => ?_, fun i k hk hi e => ?_⟩
    · have := hm i hi
      simp at this
      omega
    · have h1 := List.pairwise_iff_getElem.1 hnd k i (by rw [upto_length]; omega) (by rw [upto_length]; omega) hk
      simp [upto] at h1
      exact h1 e
  · rintro ⟨rfl, hb, hd⟩
    refine srt_four ?_
    have b0 := hb 0 (by omega); have b1 := hb 1 (by omega); have b2 := hb 2 (by omega); have b3 := hb 3 (by omega)
    have d01 := hd 1 0 (by omega) (by omega); have d02 := hd 2 0 (by omega) (by omega); have d03 := hd 3 0 (by omega) (by omega)
    have d12 := hd 2 1 (by omega) (by omega); have d13 := hd 3 1 (by omega) (by omega); have d23 := hd 3 2 (by omega) (by omega)
    have hf : ∀ x : Int, 0 ≤ x ∧ x ≤ 3 → ∃ a : Fin 4, x = (a.val : Int) := fun x hx => ⟨⟨x.toNat, by omega⟩, by simp; omega⟩
    obtain ⟨a, ha⟩ := hf _ b0
    obtain ⟨b, hb'⟩ := hf _ b1
    obtain ⟨c, hc⟩ := hf _ b2
    obtain ⟨d, hd'⟩ := hf _ b3
    have hp := perm4 a b c d (fun e => d01 (by rw [ha, hb', e])) (fun e => d02 (by rw [ha, hc, e])) (fun e => d03 (by rw [ha, hd', e])) (fun e => d12 (by rw [hb', hc, e])) (fun e => d13 (by rw [hb', hd', e])) (fun e => d23 (by rw [hc, hd', e]))
    have := hp.map (fun x : Fin 4 => (x.val : Int))
    have e : upto z 4 = [z 0, z 1, z 2, z 3] := by simp [upto, List.range_succ]
    rw [e, ha, hb', hc, hd']
    exact this

set_option maxRecDepth 100000 in
set_option maxHeartbeats 2000000 in
theorem order_w (sa : Option Addr) (len cap : Nat) (z : Nat → Int) (w : World) (hlen : len ≤ 1000) (H : Hid (IntSl w sa len z)) :
    Calls Tryz.prog 25 #[.slice sa len cap] w fun e w' => (∃ b, e = .returned (.bool b) ∧ (b = true ↔ OrdP z len)) ∧ Below w.heap.size w w' := by
  go_enter Tryz.func25, Tryz.ntmps25
  go_wp2
  go_loopw [3] (fun ii wr => ∃ k : Nat, k ≤ len ∧ ii = .int .i64 (k : Int) ∧ (∀ i, i < k → 0 ≤ z i ∧ z i ≤ 3) ∧ (∀ i j, j < i → i < k → z j ≠ z i) ∧ Below w.heap.size w wr) (fun ii _ => len - (Go.RowKit.intOf ii).toNat)
  case atStart => exact ⟨0, Nat.zero_le _, rfl, fun i hi => by omega, fun i j h1 h2 => by omega, Below.refl _ _⟩
  case round =>
    obtain ⟨k, hk, rfl, hb, hd, hbw⟩ := hrel
    have HB := Lib.hid hb
    have HD := Lib.hid hd
    have HBW := Lib.hid hbw
    clear hb hd hbw
    by_cases hlt : k < len
    case neg =>
      have hkl : len = k := by omega
      subst hkl
      by_cases h4 : len = 4
      · have h4' : (len : Int) = 4 := by omega
        have HH := Lib.hid h4
        clear h4
        go_wp2
        go_ret
        exact ⟨⟨_, rfl, by simp [h4']; exact ⟨HH.out, HB.out, fun i j h1 h2 => HD.out i j h1 h2⟩⟩, HBW.out⟩
      · have h4' : ¬ (len : Int) = 4 := by omega
        have HH := Lib.hid h4
        clear h4
        go_wp2
        go_ret
        exact ⟨⟨_, rfl, by simp [h4']; exact fun h => HH.out h.1⟩, HBW.out⟩
    case pos =>
      obtain ⟨A, O, rfl, hA, hnum⟩ := H.out.resolve_left (by omega)
      have HN : Hid (∀ w' j, Below w.heap.size w w' → j < len → w'.cell? ⟨A, O + j, none⟩ = some (.int .i64 (z j))) := Lib.hid fun w' j h hj => (h.cell (p := ⟨A, O + j, none⟩) hA).trans (hnum j hj)
      clear hnum
      have n1 : (0 : Int) ≤ (k : Int) := by omega
      have n2 : (k : Int) < (len : Int) := by omega
      have x1 := HN.out wr k HBW.out hlt
      by_cases hc : 0 ≤ z k ∧ z k ≤ 3
      case neg =>
        have hfb : fromB 0 3 (z k) = false := by simp only [fromB, decide_eq_false_iff_not]; exact hc
        have HC := Lib.hid hc
        clear hc
        go_wp2_with (go_at_call 48; refine (class_w (z k) wr).mono ?_; rintro e w2 ⟨rfl, rfl⟩)
        go_ret
        exact ⟨⟨false, rfl, by simp; exact fun h => HC.out (h.2.1 k hlt)⟩, HBW.out⟩
      case pos =>
        have hfb : fromB 0 3 (z k) = true := by simp only [fromB, decide_eq_true_eq]; exact hc
        have HC := Lib.hid hc
        clear hc
        go_wp2_with (go_at_call 48; refine (class_w (z k) wr).mono ?_; rintro e w2 ⟨rfl, rfl⟩)
        clear x1
        obtain ⟨wm, hwm⟩ : ∃ wm, wm = wr := ⟨_, rfl⟩
        subst hwm
        go_loopw [4] (fun ii wz => ∃ j : Nat, j ≤ k ∧ ii = .int .i64 (j : Int) ∧ (∀ i, i < j → z i ≠ z k) ∧ Below w.heap.size w wz) (fun ii _ => k - (Go.RowKit.intOf ii).toNat)
        case atStart => exact ⟨0, Nat.zero_le _, rfl, fun i hi => by omega, HBW.out⟩
        case round =>
          obtain ⟨j, hj, rfl, hne, hbz⟩ := hrel
          have HNE := Lib.hid hne
          have HBZ := Lib.hid hbz
          clear hne hbz
          by_cases hjk : j < k
          case neg =>
            have hjl : k = j := by omega
            subst hjl
            go_wp2
            go_roundw
            case rel => exact ⟨k + 1, by omega, by go_num, fun i hi => by (by_cases e : i = k; (subst e; exact HC.out); exact HB.out i (by omega)), fun i j h1 h2 => by (by_cases e : i = k; (subst e; exact HNE.out j h1); exact HD.out i j h1 (by omega)), HBZ.out⟩
            case measure => simp [Go.RowKit.intOf]; omega
          case pos =>
            have y1 := HN.out wr j HBZ.out (by omega)
            have y2 := HN.out wr k HBZ.out hlt
            have m1 : (0 : Int) ≤ (j : Int) := by omega
            have m2 : (j : Int) < (len : Int) := by omega
            have m3 : (j : Int) < (k : Int) := by omega
            by_cases he : z j = z k
            · have HE := Lib.hid he
              go_wp2
              go_quiet (fail)
              go_wp2
              go_ret
              exact ⟨⟨false, rfl, by simp; exact fun h => h.2.2 k j hjk hlt HE.out⟩, below_drewM HBZ.out _⟩
            · have HE := Lib.hid he
              have hd : (z j == z k) = false := by simpa using he
              go_wp2
              go_quiet (fail)
              go_wp2
              go_roundw
              case rel => exact ⟨j + 1, by omega, by go_num, fun i hi => by (by_cases e : i = j; (subst e; exact HE.out); exact HNE.out i (by omega)), below_drewM HBZ.out _⟩
              case measure => simp [Go.RowKit.intOf]; omega
end Go.Kn

namespace Go.Kn
open Go Go.Proofs Go.RowKit

set_option maxRecDepth 100000 in
set_option maxHeartbeats 2000000 in
theorem lsame_w (sa sb : Option Addr) (ls c1 c2 : Nat) (s : Nat → Int) (w : World) (hls : ls ≤ maxLen) (H1 : Hid (IntSl w sa ls s)) (H2 : Hid (IntSl w sb ls s)) :
    Calls Tryz.prog 23 #[.slice sa ls c1, .slice sb ls c2] w fun e w' => e = .returned (.bool true) ∧ Below w.heap.size w w' := by
  unfold maxLen at hls
  go_enter Tryz.func23, Tryz.ntmps23
  go_wp2
  go_loopw [5] (fun i wr => ∃ k : Nat, k ≤ ls ∧ i = .int .i64 k ∧ Below w.heap.size w wr) (fun i _ => ls - (Go.RowKit.intOf i).toNat)
  case atStart => exact ⟨0, Nat.zero_le _, rfl, Below.refl _ _⟩
  case round =>
    obtain ⟨k, hk, rfl, hbw⟩ := hrel
    by_cases hlt : k < ls
    · obtain ⟨A, O, rfl, hA, h1⟩ := H1.out.resolve_left (by omega)
      obtain ⟨B, U, rfl, hB, h2⟩ := H2.out.resolve_left (by omega)
      have y0 := (h1.below hA hbw) k hlt
      have y1 := (h2.below hB hbw) k hlt
      clear h1 h2
      have n1 : (0 : Int) ≤ (k : Int) := by omega
      have n2 : (k : Int) < (ls : Int) := by omega
      go_wp2
      go_quiet (fail)
      go_wp2
      go_roundw
      case rel => exact ⟨k + 1, by omega, by go_num, below_drewM hbw _⟩
      case measure => simp [Go.RowKit.intOf]; omega
    · go_wp2
      go_ret
      exact ⟨rfl, hbw⟩

set_option maxRecDepth 100000 in
set_option maxHeartbeats 1000000 in
theorem rshares_w (f : Int) (na oa : Option Addr) (ln cn lo co : Nat) (N : Nat → N2) (U : Nat → O3) (w : World) (HR : Hid (TreeP f ln lo N U)) (H : Hid (Tr7 w na oa ln lo N U)) :
    Calls Tryz.prog 24 #[.agg #[.int .i64 f, .slice na ln cn, .slice oa lo co]] w fun e w' =>
      (∃ sa cs t, e = .returned (.slice sa lo cs) ∧ IntSl w' sa lo t ∧ Ord f lo N U (fun _ => 0) [0, 1, 2, 3] t) ∧ Below w.heap.size w w' := by
  obtain ⟨WA, hWA⟩ : ∃ WA, WA = w.alloc (.cells #[.int .i64 f, .slice na ln cn, .slice oa lo co] 25) := ⟨_, rfl⟩
  have hA : Below w.heap.size w WA := by rw [hWA]; exact (Below.refl _ _).alloc (Nat.le_refl _) _
  have hB : Below w.heap.size w (WA.alloc (.cells #[.int .i64 0, .int .i64 1, .int .i64 2, .int .i64 3] 3)) := hA.alloc hA.size _
  have hI : IntSl (WA.alloc (.cells #[.int .i64 0, .int .i64 1, .int .i64 2, .int .i64 3] 3)) (some ⟨WA.heap.size, 0, none⟩) 4 (fun i => ((i : Nat) : Int)) := .inr ⟨_, 0, rfl, by simp, fun i hi => by
    match i, hi with
    | 0, _ => simp
    | 1, _ => simp
    | 2, _ => simp
    | 3, _ => simp⟩
  have HO : Hid (∀ cc, Calls Tryz.prog 26 #[.agg #[.int .i64 f, .slice na ln cn, .slice oa lo co], .slice (some ⟨WA.heap.size, 0, none⟩) 4 cc] (WA.alloc (.cells #[.int .i64 0, .int .i64 1, .int .i64 2, .int .i64 3] 3)) fun e w' =>
      (∃ sa cs t, e = .returned (.slice sa lo cs) ∧ IntSl w' sa lo t ∧ Ord f lo N U (fun _ => 0) [0, 1, 2, 3] t) ∧ Below w.heap.size w w') := Lib.hid fun cc => by
    refine (rordered_w f na oa _ ln cn lo co 4 cc N U _ _ HR (Lib.hid (H.out.below hB)) (Lib.hid hI) (by decide)).mono ?_
    rintro e w' ⟨⟨sa, cs, t, he, h1, h2⟩, hb⟩
    rw [law4] at h2
    exact ⟨⟨sa, cs, t, he, h1, h2⟩, hB.trans (hb.mono hB.size)⟩
  have hz : WA.heap.size = w.heap.size + 1 := by rw [hWA]; simp
  rw [hz] at HO
  rw [hWA] at HO
  clear hWA hA hB hI hz
  go_enter Tryz.func24, Tryz.ntmps24
  go_wp2_with (go_at_call 26; refine (HO.out _).mono ?_; rintro e w2 ⟨⟨sa, cs, t, rfl, hs, ho⟩, hb⟩; have HS := Lib.hid hs; have HORD := Lib.hid ho; have HB := Lib.hid hb; clear hs ho hb)
  go_ret
  exact ⟨⟨_, _, _, rfl, HS.out, HORD.out⟩, HB.out⟩

set_option maxRecDepth 100000 in
set_option maxHeartbeats 1000000 in
theorem ordered_bad (f : Int) (na oa pa : Option Addr) (ln cn lo co lc cc : Nat) (N : Nat → N2) (U : Nat → O3) (cl : Nat → Int) (w : World) (hls : ln ≤ 1000000) (hlt : lo ≤ 1000000) (hlc : lc ≤ 1000) (H : Hid (Tr7 w na oa ln lo N U)) (HO : Hid (IntSl w pa lc cl)) (HR : Hid (¬ TreeP f ln lo N U ∨ ¬ OrdP cl lc)) :
    Calls Tryz.prog 22 #[.agg #[.int .i64 f, .slice na ln cn, .slice oa lo co], .slice pa lc cc] w fun e w' => e = .returned (.tuple #[.slice none 0 0, .int .i64 2]) ∧ Below w.heap.size w w' := by
  have hbW : Below w.heap.size w (w.alloc (.cells #[.int .i64 f, .slice na ln cn, .slice oa lo co] 25)) := (Below.refl _ _).alloc (Nat.le_refl _) _
  have HIT := Lib.hid (isTree_w f na oa ln cn lo co N U (w.alloc (.cells #[.int .i64 f, .slice na ln cn, .slice oa lo co] 25)) hls hlt (Lib.hid (H.out.below hbW)))
  have HIO : Hid (∀ w2, Below (w.alloc (.cells #[.int .i64 f, .slice na ln cn, .slice oa lo co] 25)).heap.size (w.alloc (.cells #[.int .i64 f, .slice na ln cn, .slice oa lo co] 25)) w2 → Calls Tryz.prog 69 #[.slice pa lc cc] w2 fun e w' => e = .returned (.bool (isOrd cl lc)) ∧ Below w.heap.size w w') := Lib.hid fun w2 h =>
    (isOrder_w pa lc cc cl w2 hlc (Lib.hid (HO.out.below (below_al h)))).mono fun e w' ⟨he, hb⟩ => ⟨he, (below_al h).trans (hb.mono (below_al h).size)⟩
  clear hbW
  by_cases hT : TreeP f ln lo N U
  · have hio : isOrd cl lc = false := by
      cases e : isOrd cl lc with
      | false => rfl
      | true => exact (HR.out.elim (fun h => h hT) (fun h => h ((isOrd_iff cl lc).1 e))).elim
    rw [hio] at HIO
    clear hio
    go_enter Tryz.func22, Tryz.ntmps22
    go_wp2_with (first
      | (go_at_call 61; refine HIT.out.mono ?_; rintro e w1 ⟨⟨rb, rfl, hrb⟩, hb1⟩; obtain rfl : rb = true := hrb.2 hT; clear hrb)
      | (go_at_call 69; refine (HIO.out _ hb1).mono ?_; rintro e w2 ⟨rfl, hb2⟩))
    refine bodyPost_ret (v := .tuple #[.slice none 0 0, .int .i64 2]) (by simp [results, Tryz.results22, go_sem]) rfl ⟨rfl, hb2⟩
  · go_enter Tryz.func22, Tryz.ntmps22
    go_wp2_with (go_at_call 61; refine HIT.out.mono ?_; rintro e w1 ⟨⟨rb, rfl, hrb⟩, hb1⟩; obtain rfl : rb = false := (by cases rb <;> first | rfl | exact (hT (hrb.1 rfl)).elim); clear hrb)
    refine bodyPost_ret (v := .tuple #[.slice none 0 0, .int .i64 2]) (by simp [results, Tryz.results22, go_sem]) rfl ⟨rfl, below_al hb1⟩

set_option maxRecDepth 100000 in
set_option maxHeartbeats 1000000 in
theorem ordered_good (f : Int) (na oa pa : Option Addr) (ln cn lo co lc cc : Nat) (N : Nat → N2) (U : Nat → O3) (cl : Nat → Int) (w : World) (hlc : lc ≤ 1000) (HR : Hid (TreeP f ln lo N U)) (HP : Hid (OrdP cl lc)) (H : Hid (Tr7 w na oa ln lo N U)) (HO : Hid (IntSl w pa lc cl)) :
    Calls Tryz.prog 22 #[.agg #[.int .i64 f, .slice na ln cn, .slice oa lo co], .slice pa lc cc] w fun e w' => (∃ sa cs t, e = .returned (.tuple #[.slice sa lo cs, .int .i64 0]) ∧ IntSl w' sa lo t ∧ Ord f lo N U (fun _ => 0) (upto cl lc) t) ∧ Below w.heap.size w w' := by
  have q1 := HR.out.l6
  have q2 := HR.out.lo2
  have hbW : Below w.heap.size w (w.alloc (.cells #[.int .i64 f, .slice na ln cn, .slice oa lo co] 25)) := (Below.refl _ _).alloc (Nat.le_refl _) _
  have BX := Lib.hid (fun (w1 : World) (hb : Below (w.alloc (.cells #[.int .i64 f, .slice na ln cn, .slice oa lo co] 25)).heap.size (w.alloc (.cells #[.int .i64 f, .slice na ln cn, .slice oa lo co] 25)) w1) => box7 hb)
  have HIT : Hid (Calls Tryz.prog 61 #[.agg #[.int .i64 f, .slice na ln cn, .slice oa lo co]] (w.alloc (.cells #[.int .i64 f, .slice na ln cn, .slice oa lo co] 25)) fun e w' => e = .returned (.bool true) ∧ Below (w.alloc (.cells #[.int .i64 f, .slice na ln cn, .slice oa lo co] 25)).heap.size (w.alloc (.cells #[.int .i64 f, .slice na ln cn, .slice oa lo co] 25)) w') := Lib.hid ((isTree_w f na oa ln cn lo co N U _ (by omega) (by omega) (Lib.hid (H.out.below hbW))).mono fun e w' ⟨⟨rb, he, hrb⟩, hb⟩ => ⟨by rw [he, hrb.2 HR.out], hb⟩)
  have hio : isOrd cl lc = true := (isOrd_iff cl lc).2 HP.out
  have HIO : Hid (∀ w2, Below (w.alloc (.cells #[.int .i64 f, .slice na ln cn, .slice oa lo co] 25)).heap.size (w.alloc (.cells #[.int .i64 f, .slice na ln cn, .slice oa lo co] 25)) w2 → Calls Tryz.prog 69 #[.slice pa lc cc] w2 fun e w' => e = .returned (.bool true) ∧ Below (w.alloc (.cells #[.int .i64 f, .slice na ln cn, .slice oa lo co] 25)).heap.size (w.alloc (.cells #[.int .i64 f, .slice na ln cn, .slice oa lo co] 25)) w') := Lib.hid fun w2 h =>
    (isOrder_w pa lc cc cl w2 hlc (Lib.hid (HO.out.below (below_al h)))).mono fun e w' ⟨he, hb⟩ => ⟨by rw [he, hio], h.trans (hb.mono h.size)⟩
  have HL : Hid (∀ w2, Below (w.alloc (.cells #[.int .i64 f, .slice na ln cn, .slice oa lo co] 25)).heap.size (w.alloc (.cells #[.int .i64 f, .slice na ln cn, .slice oa lo co] 25)) w2 → Calls Tryz.prog 70 #[.agg #[.int .i64 f, .slice na ln cn, .slice oa lo co], .slice pa lc cc] w2 fun e w' =>
      (∃ sv SH FL cs cf t, e = .returned (.pointer (some ⟨sv, 0, none⟩)) ∧ SvS w' sv SH FL f na oa ln cn lo co cs cf N U t ∧ Ord f lo N U (fun _ => 0) (upto cl lc) t ∧ w2.heap.size ≤ sv ∧ w2.heap.size ≤ SH ∧ w2.heap.size ≤ FL) ∧ Below w2.heap.size w2 w') := Lib.hid fun w2 h => ordered_w f na oa pa ln cn lo co lc cc N U cl w2 HR (Lib.hid (H.out.below (below_al h))) (Lib.hid (HO.out.below (below_al h))) (by omega)
  clear hbW hio
  go_enter Tryz.func22, Tryz.ntmps22
  go_wp2_with (first
    | (go_at_call 61; refine HIT.out.mono ?_; rintro e w1 ⟨rfl, hb1⟩)
    | (go_at_call 69; refine (HIO.out _ hb1).mono ?_; rintro e w2 ⟨rfl, hb2⟩; obtain ⟨x1, x2, x3, x4⟩ := BX.out _ hb2)
    | (go_at_call 70; refine (HL.out _ hb2).mono ?_; rintro e w5 ⟨⟨sv, SH, FL, cs, cf, t, rfl, h1, h2, h3, h4, h5⟩, hb5⟩; have y3 := h1.at_.c3; have HR5 := Lib.hid (And.intro h1 (And.intro h2 hb5)); clear h1 h2 h3 h4 h5 hb5))
  obtain ⟨h1, h2, hb5⟩ := HR5.out
  refine bodyPost_ret (v := .tuple #[.slice (some ⟨SH, 0, none⟩) lo cs, .int .i64 0]) (by simp [results, Tryz.results22, go_sem]) rfl ⟨⟨_, _, t, rfl, intSl_of_svs h1, h2⟩, (below_al hb2).trans (hb5.mono (below_al hb2).size)⟩
end Go.Kn

namespace Go.Kn
open Go Go.Proofs Go.RowKit

set_option maxRecDepth 100000 in
set_option maxHeartbeats 4000000 in
theorem lawsh_a (f : Int) (na oa pa : Option Addr) (ln cn lo co lc cc : Nat) (N : Nat → N2) (U : Nat → O3) (cl : Nat → Int) (w : World) (hls : ln ≤ maxLen) (hlt : lo ≤ maxLen) (hlz : lc ≤ maxLen) (H : Hid (Tr7 w na oa ln lo N U)) (HS : Hid (IntSl w pa lc cl)) (K : Hid KnownOk) (hq : ¬ (ln ≤ 8 ∧ lo ≤ 10)) :
    Calls Tryz.prog 4 #[.agg #[.int .i64 f, .slice na ln cn, .slice oa lo co], .slice pa lc cc] w
      fun e w' => e = .returned (.bool true) ∧ Below w.heap.size w w' := by
  have hlz' := hlz
  unfold maxLen at hlz'
  have hsh : decide (ln ≤ 8 ∧ lo ≤ 10) = false := decide_eq_false hq
  have BX := Lib.hid (fun (w1 : World) (hb : Below (w.alloc (.cells #[.int .i64 f, .slice na ln cn, .slice oa lo co] 25)).heap.size (w.alloc (.cells #[.int .i64 f, .slice na ln cn, .slice oa lo co] 25)) w1) => box7 hb)
  have HN : Hid (∀ w1, Below (w.alloc (.cells #[.int .i64 f, .slice na ln cn, .slice oa lo co] 25)).heap.size (w.alloc (.cells #[.int .i64 f, .slice na ln cn, .slice oa lo co] 25)) w1 → Hid (Tr7 w1 na oa ln lo N U)) := Lib.hid fun w1 h => Lib.hid (H.out.below (below_al h))
  have HM : Hid (∀ w1, Below (w.alloc (.cells #[.int .i64 f, .slice na ln cn, .slice oa lo co] 25)).heap.size (w.alloc (.cells #[.int .i64 f, .slice na ln cn, .slice oa lo co] 25)) w1 → Hid (IntSl w1 pa lc cl)) := Lib.hid fun w1 h => Lib.hid (HS.out.below (below_al h))
  have hb : Below (w.alloc (.cells #[.int .i64 f, .slice na ln cn, .slice oa lo co] 25)).heap.size (w.alloc (.cells #[.int .i64 f, .slice na ln cn, .slice oa lo co] 25)) (w.alloc (.cells #[.int .i64 f, .slice na ln cn, .slice oa lo co] 25)) := Below.refl _ _
  obtain ⟨x1, x2, x3, x4⟩ := BX.out _ hb
  clear H HS
  go_enter Tryz.func4, Tryz.ntmps4
  go_wp2_with (first
    | (go_at_call 14; refine (short_w _ _ _ _ _ _ _ _ hls hlt).mono ?_; rw [hsh]; rintro e wl ⟨rfl, hv⟩; (try replace hbs := hbs.trans (hv.mono hbs.size)); (try replace hbt := hbt.trans (hv.mono hbt.size)); replace hb := hb.trans (hv.mono hb.size); clear x1 x2 x3 x4; obtain ⟨x1, x2, x3, x4⟩ := BX.out _ hb)
    | (go_at_call 15; refine (K.out _).mono ?_; rintro e wl ⟨rfl, hv⟩; (try replace hbs := hbs.trans (hv.mono hbs.size)); (try replace hbt := hbt.trans (hv.mono hbt.size)); replace hb := hb.trans (hv.mono hb.size); clear x1 x2 x3 x4; obtain ⟨x1, x2, x3, x4⟩ := BX.out _ hb))
  go_ret
  exact ⟨rfl, below_al hb⟩

set_option maxRecDepth 100000 in
set_option maxHeartbeats 4000000 in
theorem lawsh_b (f : Int) (na oa pa : Option Addr) (ln cn lo co lc cc : Nat) (N : Nat → N2) (U : Nat → O3) (cl : Nat → Int) (w : World) (hls : ln ≤ 1000000) (hlt : lo ≤ 1000000) (hlz : lc ≤ maxLen) (H : Hid (Tr7 w na oa ln lo N U)) (HS : Hid (IntSl w pa lc cl)) (K : Hid KnownOk) (hq : ln ≤ 8 ∧ lo ≤ 10) (hq2 : 6 < lc) :
    Calls Tryz.prog 4 #[.agg #[.int .i64 f, .slice na ln cn, .slice oa lo co], .slice pa lc cc] w
      fun e w' => e = .returned (.bool true) ∧ Below w.heap.size w w' := by
  have hlz' := hlz
  unfold maxLen at hlz'
  have hsh : decide (ln ≤ 8 ∧ lo ≤ 10) = true := decide_eq_true hq
  have hd : ((6 : Int) < (lc : Int)) := by omega
  have BX := Lib.hid (fun (w1 : World) (hb : Below (w.alloc (.cells #[.int .i64 f, .slice na ln cn, .slice oa lo co] 25)).heap.size (w.alloc (.cells #[.int .i64 f, .slice na ln cn, .slice oa lo co] 25)) w1) => box7 hb)
  have HN : Hid (∀ w1, Below (w.alloc (.cells #[.int .i64 f, .slice na ln cn, .slice oa lo co] 25)).heap.size (w.alloc (.cells #[.int .i64 f, .slice na ln cn, .slice oa lo co] 25)) w1 → Hid (Tr7 w1 na oa ln lo N U)) := Lib.hid fun w1 h => Lib.hid (H.out.below (below_al h))
  have HM : Hid (∀ w1, Below (w.alloc (.cells #[.int .i64 f, .slice na ln cn, .slice oa lo co] 25)).heap.size (w.alloc (.cells #[.int .i64 f, .slice na ln cn, .slice oa lo co] 25)) w1 → Hid (IntSl w1 pa lc cl)) := Lib.hid fun w1 h => Lib.hid (HS.out.below (below_al h))
  have hb : Below (w.alloc (.cells #[.int .i64 f, .slice na ln cn, .slice oa lo co] 25)).heap.size (w.alloc (.cells #[.int .i64 f, .slice na ln cn, .slice oa lo co] 25)) (w.alloc (.cells #[.int .i64 f, .slice na ln cn, .slice oa lo co] 25)) := Below.refl _ _
  obtain ⟨x1, x2, x3, x4⟩ := BX.out _ hb
  clear H HS
  go_enter Tryz.func4, Tryz.ntmps4
  go_wp2_with (first
    | (go_at_call 14; refine (short_w _ _ _ _ _ _ _ _ (by unfold maxLen; omega) (by unfold maxLen; omega)).mono ?_; rw [hsh]; rintro e wl ⟨rfl, hv⟩; (try replace hbs := hbs.trans (hv.mono hbs.size)); (try replace hbt := hbt.trans (hv.mono hbt.size)); replace hb := hb.trans (hv.mono hb.size); clear x1 x2 x3 x4; obtain ⟨x1, x2, x3, x4⟩ := BX.out _ hb)
    | (go_at_call 15; refine (K.out _).mono ?_; rintro e wl ⟨rfl, hv⟩; (try replace hbs := hbs.trans (hv.mono hbs.size)); (try replace hbt := hbt.trans (hv.mono hbt.size)); replace hb := hb.trans (hv.mono hb.size); clear x1 x2 x3 x4; obtain ⟨x1, x2, x3, x4⟩ := BX.out _ hb))
  go_ret
  exact ⟨rfl, below_al hb⟩

set_option maxRecDepth 100000 in
set_option maxHeartbeats 4000000 in
theorem lawsh_c (f : Int) (na oa pa : Option Addr) (ln cn lo co lc cc : Nat) (N : Nat → N2) (U : Nat → O3) (cl : Nat → Int) (w : World) (hls : ln ≤ 1000000) (hlt : lo ≤ 1000000) (hlz : lc ≤ maxLen) (H : Hid (Tr7 w na oa ln lo N U)) (HS : Hid (IntSl w pa lc cl)) (K : Hid KnownOk) (hq : ln ≤ 8 ∧ lo ≤ 10) (hq2 : ¬ 6 < lc) (HR : Hid (¬ TreeP f ln lo N U)) :
    Calls Tryz.prog 4 #[.agg #[.int .i64 f, .slice na ln cn, .slice oa lo co], .slice pa lc cc] w
      fun e w' => e = .returned (.bool true) ∧ Below w.heap.size w w' := by
  have hlz' := hlz
  unfold maxLen at hlz'
  have hsh : decide (ln ≤ 8 ∧ lo ≤ 10) = true := decide_eq_true hq
  have hd : ¬ ((6 : Int) < (lc : Int)) := by omega
  have BX := Lib.hid (fun (w1 : World) (hb : Below (w.alloc (.cells #[.int .i64 f, .slice na ln cn, .slice oa lo co] 25)).heap.size (w.alloc (.cells #[.int .i64 f, .slice na ln cn, .slice oa lo co] 25)) w1) => box7 hb)
  have HN : Hid (∀ w1, Below (w.alloc (.cells #[.int .i64 f, .slice na ln cn, .slice oa lo co] 25)).heap.size (w.alloc (.cells #[.int .i64 f, .slice na ln cn, .slice oa lo co] 25)) w1 → Hid (Tr7 w1 na oa ln lo N U)) := Lib.hid fun w1 h => Lib.hid (H.out.below (below_al h))
  have HM : Hid (∀ w1, Below (w.alloc (.cells #[.int .i64 f, .slice na ln cn, .slice oa lo co] 25)).heap.size (w.alloc (.cells #[.int .i64 f, .slice na ln cn, .slice oa lo co] 25)) w1 → Hid (IntSl w1 pa lc cl)) := Lib.hid fun w1 h => Lib.hid (HS.out.below (below_al h))
  have hb : Below (w.alloc (.cells #[.int .i64 f, .slice na ln cn, .slice oa lo co] 25)).heap.size (w.alloc (.cells #[.int .i64 f, .slice na ln cn, .slice oa lo co] 25)) (w.alloc (.cells #[.int .i64 f, .slice na ln cn, .slice oa lo co] 25)) := Below.refl _ _
  obtain ⟨x1, x2, x3, x4⟩ := BX.out _ hb
  clear H HS
  go_enter Tryz.func4, Tryz.ntmps4
  go_wp2_with (first
    | (go_at_call 14; refine (short_w _ _ _ _ _ _ _ _ (by unfold maxLen; omega) (by unfold maxLen; omega)).mono ?_; rw [hsh]; rintro e wl ⟨rfl, hv⟩; (try replace hbs := hbs.trans (hv.mono hbs.size)); (try replace hbt := hbt.trans (hv.mono hbt.size)); replace hb := hb.trans (hv.mono hb.size); clear x1 x2 x3 x4; obtain ⟨x1, x2, x3, x4⟩ := BX.out _ hb)
    | (go_at_call 21; refine (shares_bad f na oa ln cn lo co N U _ hls hlt (HN.out _ hb) HR).mono ?_; rintro e wl ⟨rfl, hv⟩; (try replace hbs := hbs.trans (hv.mono hbs.size)); (try replace hbt := hbt.trans (hv.mono hbt.size)); replace hb := hb.trans (hv.mono hb.size); clear x1 x2 x3 x4; obtain ⟨x1, x2, x3, x4⟩ := BX.out _ hb)
    | (go_at_call 22; refine (ordered_bad f na oa pa ln cn lo co lc cc N U cl _ hls hlt (by omega) (HN.out _ hb) (HM.out _ hb) (Lib.hid (.inl HR.out))).mono ?_; rintro e wl ⟨rfl, hv⟩; (try replace hbs := hbs.trans (hv.mono hbs.size)); (try replace hbt := hbt.trans (hv.mono hbt.size)); replace hb := hb.trans (hv.mono hb.size); clear x1 x2 x3 x4; obtain ⟨x1, x2, x3, x4⟩ := BX.out _ hb)
    | (go_at_call 18; refine (tree_w _ _ _ _ _ _ _ N U _ hls hlt (HN.out _ hb)).mono ?_; rintro e wl ⟨⟨rb, rfl, hrb⟩, hv⟩; obtain rfl : rb = false := (by cases rb <;> first | rfl | exact (HR.out (hrb.1 rfl)).elim); clear hrb; (try replace hbs := hbs.trans (hv.mono hbs.size)); (try replace hbt := hbt.trans (hv.mono hbt.size)); replace hb := hb.trans (hv.mono hb.size); clear x1 x2 x3 x4; obtain ⟨x1, x2, x3, x4⟩ := BX.out _ hb)
    | (go_at_call 15; refine (K.out _).mono ?_; rintro e wl ⟨rfl, hv⟩; (try replace hbs := hbs.trans (hv.mono hbs.size)); (try replace hbt := hbt.trans (hv.mono hbt.size)); replace hb := hb.trans (hv.mono hb.size); clear x1 x2 x3 x4; obtain ⟨x1, x2, x3, x4⟩ := BX.out _ hb))
  go_ret
  exact ⟨rfl, below_al hb⟩

set_option maxRecDepth 100000 in
set_option maxHeartbeats 4000000 in
theorem lawsh_d (f : Int) (na oa pa : Option Addr) (ln cn lo co lc cc : Nat) (N : Nat → N2) (U : Nat → O3) (cl : Nat → Int) (w : World) (hls : ln ≤ 1000000) (hlt : lo ≤ 1000000) (hlz : lc ≤ maxLen) (H : Hid (Tr7 w na oa ln lo N U)) (HS : Hid (IntSl w pa lc cl)) (K : Hid KnownOk) (hq : ln ≤ 8 ∧ lo ≤ 10) (hq2 : ¬ 6 < lc) (HR : Hid (TreeP f ln lo N U)) (HP : Hid (¬ OrdP cl lc)) :
    Calls Tryz.prog 4 #[.agg #[.int .i64 f, .slice na ln cn, .slice oa lo co], .slice pa lc cc] w
      fun e w' => e = .returned (.bool true) ∧ Below w.heap.size w w' := by
  have hlz' := hlz
  unfold maxLen at hlz'
  have hsh : decide (ln ≤ 8 ∧ lo ≤ 10) = true := decide_eq_true hq
  have hd : ¬ ((6 : Int) < (lc : Int)) := by omega
  have BX := Lib.hid (fun (w1 : World) (hb : Below (w.alloc (.cells #[.int .i64 f, .slice na ln cn, .slice oa lo co] 25)).heap.size (w.alloc (.cells #[.int .i64 f, .slice na ln cn, .slice oa lo co] 25)) w1) => box7 hb)
  have HN : Hid (∀ w1, Below (w.alloc (.cells #[.int .i64 f, .slice na ln cn, .slice oa lo co] 25)).heap.size (w.alloc (.cells #[.int .i64 f, .slice na ln cn, .slice oa lo co] 25)) w1 → Hid (Tr7 w1 na oa ln lo N U)) := Lib.hid fun w1 h => Lib.hid (H.out.below (below_al h))
  have HM : Hid (∀ w1, Below (w.alloc (.cells #[.int .i64 f, .slice na ln cn, .slice oa lo co] 25)).heap.size (w.alloc (.cells #[.int .i64 f, .slice na ln cn, .slice oa lo co] 25)) w1 → Hid (IntSl w1 pa lc cl)) := Lib.hid fun w1 h => Lib.hid (HS.out.below (below_al h))
  have hb : Below (w.alloc (.cells #[.int .i64 f, .slice na ln cn, .slice oa lo co] 25)).heap.size (w.alloc (.cells #[.int .i64 f, .slice na ln cn, .slice oa lo co] 25)) (w.alloc (.cells #[.int .i64 f, .slice na ln cn, .slice oa lo co] 25)) := Below.refl _ _
  obtain ⟨x1, x2, x3, x4⟩ := BX.out _ hb
  clear H HS
  go_enter Tryz.func4, Tryz.ntmps4
  go_wp2_with (first
    | (go_at_call 14; refine (short_w _ _ _ _ _ _ _ _ (by unfold maxLen; omega) (by unfold maxLen; omega)).mono ?_; rw [hsh]; rintro e wl ⟨rfl, hv⟩; (try replace hbs := hbs.trans (hv.mono hbs.size)); (try replace hbt := hbt.trans (hv.mono hbt.size)); replace hb := hb.trans (hv.mono hb.size); clear x1 x2 x3 x4; obtain ⟨x1, x2, x3, x4⟩ := BX.out _ hb)
    | (go_at_call 21; refine (shares_w f na oa ln cn lo co N U _ HR (HN.out _ hb)).mono ?_; rintro e wl ⟨⟨sb, cb, t, rfl, hsb, hord⟩, hv⟩; (try replace hbs := hbs.trans (hv.mono hbs.size)); (try replace hbt := hbt.trans (hv.mono hbt.size)); replace hb := hb.trans (hv.mono hb.size); clear x1 x2 x3 x4; obtain ⟨x1, x2, x3, x4⟩ := BX.out _ hb; have HORD := Lib.hid hord; have HSB := Lib.hid hsb; have hbs := Below.refl wl.heap.size wl; clear hord hsb)
    | (go_at_call 22; refine (ordered_bad f na oa pa ln cn lo co lc cc N U cl _ hls hlt (by omega) (HN.out _ hb) (HM.out _ hb) (Lib.hid (.inr HP.out))).mono ?_; rintro e wl ⟨rfl, hv⟩; (try replace hbs := hbs.trans (hv.mono hbs.size)); (try replace hbt := hbt.trans (hv.mono hbt.size)); replace hb := hb.trans (hv.mono hb.size); clear x1 x2 x3 x4; obtain ⟨x1, x2, x3, x4⟩ := BX.out _ hb)
    | (go_at_call 18; refine (tree_w _ _ _ _ _ _ _ N U _ hls hlt (HN.out _ hb)).mono ?_; rintro e wl ⟨⟨rb, rfl, hrb⟩, hv⟩; obtain rfl : rb = true := hrb.2 HR.out; clear hrb; (try replace hbs := hbs.trans (hv.mono hbs.size)); (try replace hbt := hbt.trans (hv.mono hbt.size)); replace hb := hb.trans (hv.mono hb.size); clear x1 x2 x3 x4; obtain ⟨x1, x2, x3, x4⟩ := BX.out _ hb)
    | (go_at_call 24; refine (rshares_w f na oa ln cn lo co N U _ HR (HN.out _ hb)).mono ?_; rintro e wl ⟨⟨se, ce, t2, rfl, hse, hord2⟩, hv⟩; (try replace hbs := hbs.trans (hv.mono hbs.size)); (try replace hbt := hbt.trans (hv.mono hbt.size)); replace hb := hb.trans (hv.mono hb.size); clear x1 x2 x3 x4; obtain ⟨x1, x2, x3, x4⟩ := BX.out _ hb; obtain rfl := hord2.det HORD.out; have HSE := Lib.hid hse; clear hord2 hse)
    | (go_at_call_of 23 se; refine (lsame_w _ _ _ _ _ _ _ (by unfold maxLen; omega) (Lib.hid (HSB.out.below hbs)) HSE).mono ?_; rintro e wl ⟨rfl, hv⟩; (try replace hbs := hbs.trans (hv.mono hbs.size)); (try replace hbt := hbt.trans (hv.mono hbt.size)); replace hb := hb.trans (hv.mono hb.size); clear x1 x2 x3 x4; obtain ⟨x1, x2, x3, x4⟩ := BX.out _ hb)
    | (go_at_call 25; refine (order_w _ _ _ _ _ (by omega) (HM.out _ hb)).mono ?_; rintro e wl ⟨⟨rb, rfl, hrb⟩, hv⟩; obtain rfl : rb = false := (by cases rb <;> first | rfl | exact (HP.out (hrb.1 rfl)).elim); clear hrb; (try replace hbs := hbs.trans (hv.mono hbs.size)); (try replace hbt := hbt.trans (hv.mono hbt.size)); replace hb := hb.trans (hv.mono hb.size); clear x1 x2 x3 x4; obtain ⟨x1, x2, x3, x4⟩ := BX.out _ hb)
    | (go_at_call 15; refine (K.out _).mono ?_; rintro e wl ⟨rfl, hv⟩; (try replace hbs := hbs.trans (hv.mono hbs.size)); (try replace hbt := hbt.trans (hv.mono hbt.size)); replace hb := hb.trans (hv.mono hb.size); clear x1 x2 x3 x4; obtain ⟨x1, x2, x3, x4⟩ := BX.out _ hb))
  go_ret
  exact ⟨rfl, below_al hb⟩

set_option maxRecDepth 100000 in
set_option maxHeartbeats 4000000 in
theorem lawsh_e (f : Int) (na oa pa : Option Addr) (ln cn lo co lc cc : Nat) (N : Nat → N2) (U : Nat → O3) (cl : Nat → Int) (w : World) (hls : ln ≤ 1000000) (hlt : lo ≤ 1000000) (hlz : lc ≤ maxLen) (H : Hid (Tr7 w na oa ln lo N U)) (HS : Hid (IntSl w pa lc cl)) (K : Hid KnownOk) (hq : ln ≤ 8 ∧ lo ≤ 10) (hq2 : ¬ 6 < lc) (HR : Hid (TreeP f ln lo N U)) (HP : Hid (OrdP cl lc)) :
    Calls Tryz.prog 4 #[.agg #[.int .i64 f, .slice na ln cn, .slice oa lo co], .slice pa lc cc] w
      fun e w' => e = .returned (.bool true) ∧ Below w.heap.size w w' := by
  have hlz' := hlz
  unfold maxLen at hlz'
  have hsh : decide (ln ≤ 8 ∧ lo ≤ 10) = true := decide_eq_true hq
  have hd : ¬ ((6 : Int) < (lc : Int)) := by omega
  have BX := Lib.hid (fun (w1 : World) (hb : Below (w.alloc (.cells #[.int .i64 f, .slice na ln cn, .slice oa lo co] 25)).heap.size (w.alloc (.cells #[.int .i64 f, .slice na ln cn, .slice oa lo co] 25)) w1) => box7 hb)
  have HN : Hid (∀ w1, Below (w.alloc (.cells #[.int .i64 f, .slice na ln cn, .slice oa lo co] 25)).heap.size (w.alloc (.cells #[.int .i64 f, .slice na ln cn, .slice oa lo co] 25)) w1 → Hid (Tr7 w1 na oa ln lo N U)) := Lib.hid fun w1 h => Lib.hid (H.out.below (below_al h))
  have HM : Hid (∀ w1, Below (w.alloc (.cells #[.int .i64 f, .slice na ln cn, .slice oa lo co] 25)).heap.size (w.alloc (.cells #[.int .i64 f, .slice na ln cn, .slice oa lo co] 25)) w1 → Hid (IntSl w1 pa lc cl)) := Lib.hid fun w1 h => Lib.hid (HS.out.below (below_al h))
  have hb : Below (w.alloc (.cells #[.int .i64 f, .slice na ln cn, .slice oa lo co] 25)).heap.size (w.alloc (.cells #[.int .i64 f, .slice na ln cn, .slice oa lo co] 25)) (w.alloc (.cells #[.int .i64 f, .slice na ln cn, .slice oa lo co] 25)) := Below.refl _ _
  obtain ⟨x1, x2, x3, x4⟩ := BX.out _ hb
  clear H HS
  go_enter Tryz.func4, Tryz.ntmps4
  go_wp2_with (first
    | (go_at_call 14; refine (short_w _ _ _ _ _ _ _ _ (by unfold maxLen; omega) (by unfold maxLen; omega)).mono ?_; rw [hsh]; rintro e wl ⟨rfl, hv⟩; (try replace hbs := hbs.trans (hv.mono hbs.size)); (try replace hbt := hbt.trans (hv.mono hbt.size)); replace hb := hb.trans (hv.mono hb.size); clear x1 x2 x3 x4; obtain ⟨x1, x2, x3, x4⟩ := BX.out _ hb)
    | (go_at_call 21; refine (shares_w f na oa ln cn lo co N U _ HR (HN.out _ hb)).mono ?_; rintro e wl ⟨⟨sb, cb, t, rfl, hsb, hord⟩, hv⟩; (try replace hbs := hbs.trans (hv.mono hbs.size)); (try replace hbt := hbt.trans (hv.mono hbt.size)); replace hb := hb.trans (hv.mono hb.size); clear x1 x2 x3 x4; obtain ⟨x1, x2, x3, x4⟩ := BX.out _ hb; have HORD := Lib.hid hord; have HSB := Lib.hid hsb; have hbs := Below.refl wl.heap.size wl; clear hord hsb)
    | (go_at_call 22; refine (ordered_good f na oa pa ln cn lo co lc cc N U cl _ (by omega) HR HP (HN.out _ hb) (HM.out _ hb)).mono ?_; rintro e wl ⟨⟨sd, cd, u, rfl, hsd, hordu⟩, hv⟩; (try replace hbs := hbs.trans (hv.mono hbs.size)); (try replace hbt := hbt.trans (hv.mono hbt.size)); replace hb := hb.trans (hv.mono hb.size); clear x1 x2 x3 x4; obtain ⟨x1, x2, x3, x4⟩ := BX.out _ hb; have HORDU := Lib.hid hordu; have HSD := Lib.hid hsd; have hbt := Below.refl wl.heap.size wl; clear hordu hsd)
    | (go_at_call 18; refine (tree_w _ _ _ _ _ _ _ N U _ hls hlt (HN.out _ hb)).mono ?_; rintro e wl ⟨⟨rb, rfl, hrb⟩, hv⟩; obtain rfl : rb = true := hrb.2 HR.out; clear hrb; (try replace hbs := hbs.trans (hv.mono hbs.size)); (try replace hbt := hbt.trans (hv.mono hbt.size)); replace hb := hb.trans (hv.mono hb.size); clear x1 x2 x3 x4; obtain ⟨x1, x2, x3, x4⟩ := BX.out _ hb)
    | (go_at_call 24; refine (rshares_w f na oa ln cn lo co N U _ HR (HN.out _ hb)).mono ?_; rintro e wl ⟨⟨se, ce, t2, rfl, hse, hord2⟩, hv⟩; (try replace hbs := hbs.trans (hv.mono hbs.size)); (try replace hbt := hbt.trans (hv.mono hbt.size)); replace hb := hb.trans (hv.mono hb.size); clear x1 x2 x3 x4; obtain ⟨x1, x2, x3, x4⟩ := BX.out _ hb; obtain rfl := hord2.det HORD.out; have HSE := Lib.hid hse; clear hord2 hse)
    | (go_at_call_of 23 se; refine (lsame_w _ _ _ _ _ _ _ (by unfold maxLen; omega) (Lib.hid (HSB.out.below hbs)) HSE).mono ?_; rintro e wl ⟨rfl, hv⟩; (try replace hbs := hbs.trans (hv.mono hbs.size)); (try replace hbt := hbt.trans (hv.mono hbt.size)); replace hb := hb.trans (hv.mono hb.size); clear x1 x2 x3 x4; obtain ⟨x1, x2, x3, x4⟩ := BX.out _ hb)
    | (go_at_call 25; refine (order_w _ _ _ _ _ (by omega) (HM.out _ hb)).mono ?_; rintro e wl ⟨⟨rb, rfl, hrb⟩, hv⟩; obtain rfl : rb = true := hrb.2 HP.out; clear hrb; (try replace hbs := hbs.trans (hv.mono hbs.size)); (try replace hbt := hbt.trans (hv.mono hbt.size)); replace hb := hb.trans (hv.mono hb.size); clear x1 x2 x3 x4; obtain ⟨x1, x2, x3, x4⟩ := BX.out _ hb)
    | (go_at_call 26; refine (rordered_w f na oa pa ln cn lo co lc cc N U cl _ HR (HN.out _ hb) (HM.out _ hb) (by omega)).mono ?_; rintro e wl ⟨⟨sg, cg, u2, rfl, hsg, hordu2⟩, hv⟩; (try replace hbs := hbs.trans (hv.mono hbs.size)); (try replace hbt := hbt.trans (hv.mono hbt.size)); replace hb := hb.trans (hv.mono hb.size); clear x1 x2 x3 x4; obtain ⟨x1, x2, x3, x4⟩ := BX.out _ hb; obtain rfl := hordu2.det HORDU.out; have HSG := Lib.hid hsg; clear hordu2 hsg)
    | (go_at_call_of 23 sg; refine (lsame_w _ _ _ _ _ _ _ (by unfold maxLen; omega) (Lib.hid (HSD.out.below hbt)) HSG).mono ?_; rintro e wl ⟨rfl, hv⟩; (try replace hbs := hbs.trans (hv.mono hbs.size)); (try replace hbt := hbt.trans (hv.mono hbt.size)); replace hb := hb.trans (hv.mono hb.size); clear x1 x2 x3 x4; obtain ⟨x1, x2, x3, x4⟩ := BX.out _ hb)
    | (go_at_call 15; refine (K.out _).mono ?_; rintro e wl ⟨rfl, hv⟩; (try replace hbs := hbs.trans (hv.mono hbs.size)); (try replace hbt := hbt.trans (hv.mono hbt.size)); replace hb := hb.trans (hv.mono hb.size); clear x1 x2 x3 x4; obtain ⟨x1, x2, x3, x4⟩ := BX.out _ hb))
  go_ret
  exact ⟨rfl, below_al hb⟩

set_option maxHeartbeats 1000000 in
theorem lawsh_w (f : Int) (na oa pa : Option Addr) (ln cn lo co lc cc : Nat) (N : Nat → N2) (U : Nat → O3) (cl : Nat → Int) (w : World) (hls : ln ≤ maxLen) (hlt : lo ≤ maxLen) (hlz : lc ≤ maxLen) (H : Tr7 w na oa ln lo N U) (HS : IntSl w pa lc cl) (K : KnownOk) :
    Calls Tryz.prog 4 #[.agg #[.int .i64 f, .slice na ln cn, .slice oa lo co], .slice pa lc cc] w
      fun e w' => e = .returned (.bool true) ∧ Below w.heap.size w w' := by
  by_cases hq : ln ≤ 8 ∧ lo ≤ 10
  · by_cases hq2 : 6 < lc
    · exact lawsh_b f na oa pa ln cn lo co lc cc N U cl w (by omega) (by omega) hlz (Lib.hid H) (Lib.hid HS) (Lib.hid K) hq hq2
    · by_cases HR : TreeP f ln lo N U
      · by_cases HP : OrdP cl lc
        · exact lawsh_e f na oa pa ln cn lo co lc cc N U cl w (by omega) (by omega) hlz (Lib.hid H) (Lib.hid HS) (Lib.hid K) hq hq2 (Lib.hid HR) (Lib.hid HP)
        · exact lawsh_d f na oa pa ln cn lo co lc cc N U cl w (by omega) (by omega) hlz (Lib.hid H) (Lib.hid HS) (Lib.hid K) hq hq2 (Lib.hid HR) (Lib.hid HP)
      · exact lawsh_c f na oa pa ln cn lo co lc cc N U cl w (by omega) (by omega) hlz (Lib.hid H) (Lib.hid HS) (Lib.hid K) hq hq2 (Lib.hid HR)
  · exact lawsh_a f na oa pa ln cn lo co lc cc N U cl w hls hlt hlz (Lib.hid H) (Lib.hid HS) (Lib.hid K) hq
end Go.Kn
