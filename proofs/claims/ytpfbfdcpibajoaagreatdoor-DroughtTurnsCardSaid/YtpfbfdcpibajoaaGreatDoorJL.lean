/- Contracts of functions that the laws of this seat call, or the evaluator of closed calls and its runs. Conditions: as each theorem states them. -/
import Derived.Test.YtpfbfdcpibajoaaGreatDoorJF
import Derived.Lib.SliceRun
set_option linter.unusedVariables false
set_option linter.unusedSimpArgs false
namespace Go.Kn
open Go Go.Proofs Go.RowKit

def b2i (b : Bool) : Int := if b then 1 else 0
/-- how many of the first are right -/
def cntB (p : Nat → Bool) : Nat → Int
  | 0 => 0
  | k + 1 => cntB p k + b2i (p k)
theorem cntB_congr {p q : Nat → Bool} : ∀ k, (∀ i, i < k → p i = q i) → cntB p k = cntB q k
  | 0, _ => rfl
  | k + 1, h => by simp only [cntB]; rw [cntB_congr k (fun i hi => h i (by omega)), h k (by omega)]
theorem cntB_upd {p : Nat → Bool} {a : Nat} {v : Bool} : ∀ k, a < k → cntB (fun d => if d = a then v else p d) k = cntB p k + b2i v - b2i (p a)
  | 0, h => by omega
  | k + 1, h => by
    simp only [cntB]
    by_cases e : a = k
    · subst e
      rw [if_pos rfl, cntB_congr (q := p) a (fun i hi => if_neg (by omega))]
      omega
    · rw [cntB_upd k (by omega), if_neg (by omega)]
      omega
theorem cntB_bd {p : Nat → Bool} : ∀ k, 0 ≤ cntB p k ∧ cntB p k ≤ (k : Int)
  | 0 => by simp [cntB]
  | k + 1 => by
    have := cntB_bd (p := p) k
    simp only [cntB, b2i]
    split <;> omega
def dys (D : Nat → Dy) (x : Int) : Nat → Bool := fun d => hasB (D d).s x (D d).n
theorem b2i_t : b2i true = 1 := rfl
theorem b2i_f : b2i false = 0 := rfl

set_option maxRecDepth 100000 in
set_option maxHeartbeats 2000000 in
theorem days_w (pa : Option Addr) (lp cp : Nat) (D : Nat → Dy) (x : Int) (w : World) (hlp : lp ≤ 1000) (HD : Hid (∀ d, d < lp → (D d).n ≤ 1000000)) (HP : Hid (PlSl w pa lp D)) :
    Calls Tryz.prog 49 #[.slice pa lp cp, .int .i64 x] w fun e w' => e = .returned (.int .i64 (cntB (dys D x) lp)) ∧ Below w.heap.size w w' := by
  go_enter Tryz.func49, Tryz.ntmps49
  go_wp2
  go_loopw [5, 6] (fun nv ii wr => ∃ k : Nat, k ≤ lp ∧ ii = .int .i64 (k : Int) ∧ nv = .int .i64 (cntB (dys D x) k) ∧ Below w.heap.size w wr) (fun _ ii _ => lp - (Go.RowKit.intOf ii).toNat)
  case atStart => exact ⟨0, Nat.zero_le _, rfl, rfl, Below.refl _ _⟩
  case round =>
    obtain ⟨k, hk, rfl, rfl, hbr⟩ := hrel
    have HBR := Lib.hid hbr
    clear hbr
    by_cases hlt : k < lp
    · obtain ⟨A, O, rfl, hA, hN⟩ := HP.out.resolve_left (by omega)
      have y1 := (hN.below hA HBR.out k hlt).1
      have n1 : (0 : Int) ≤ (k : Int) := by omega
      have n2 : (k : Int) < (lp : Int) := by omega
      have HH := Lib.hid (has_w (D k).a (D k).n (D k).c (D k).s x wr (HD.out k hlt) (Lib.hid (hN.below hA HBR.out k hlt).2))
      have bd := cntB_bd (p := dys D x) k
      have hs : cntB (dys D x) (k + 1) = cntB (dys D x) k + b2i (hasB (D k).s x (D k).n) := rfl
      have HS := Lib.hid hs
      obtain ⟨c, hc⟩ : ∃ c, cntB (dys D x) k = c := ⟨_, rfl⟩
      rw [hc] at bd HS ⊢
      have wr1 : IntKind.i64.wrap (c + 1) = c + 1 := by rw [IntKind.wrap_i64]; omega
      clear hN hs hc
      cases hB : hasB (D k).s x (D k).n with
      | true =>
        rw [hB] at HH HS
        clear hB
        go_wp2_with (go_at_call 36; refine HH.out.mono ?_; rintro e w5 ⟨rfl, hv5⟩)
        go_roundw
        case rel => exact ⟨k + 1, by omega, by go_num, by rw [HS.out, b2i_t], HBR.out.trans (hv5.mono HBR.out.size)⟩
        case measure => simp [Go.RowKit.intOf]; omega
      | false =>
        rw [hB] at HH HS
        clear hB
        go_wp2_with (go_at_call 36; refine HH.out.mono ?_; rintro e w5 ⟨rfl, hv5⟩)
        go_roundw
        case rel => exact ⟨k + 1, by omega, by go_num, by rw [HS.out, b2i_f, Int.add_zero], HBR.out.trans (hv5.mono HBR.out.size)⟩
        case measure => simp [Go.RowKit.intOf]; omega
    · obtain rfl : k = lp := by omega
      go_wp2
      go_ret
      exact ⟨rfl, HBR.out⟩

set_option maxRecDepth 100000 in
set_option maxHeartbeats 2000000 in
theorem druns_w (f : Int) (na oa pa : Option Addr) (ln cn lo co lp cp : Nat) (N : Nat → N2) (U : Nat → O3) (D : Nat → Dy) (w : World) (hlp : lp ≤ 10) (HR : Hid (TreeS f ln lo N U)) (H : Hid (Tr7 w na oa ln lo N U)) (HP : Hid (PlSl w pa lp D)) (HDY : Hid (∀ d, d < lp → dayB lo (D d).s (D d).n = true)) :
    Calls Tryz.prog 43 #[.agg #[.int .i64 f, .slice na ln cn, .slice oa lo co], .slice pa lp cp] w fun e w' => e = .returned (.tuple #[.bool (allN (fun d => runD f ln lo N U (D d)) lp), .int .i64 0]) ∧ Below w.heap.size w w' := by
  have q1 := HR.out.l6
  have q2 := HR.out.lo2
  have BX := Lib.hid (fun (w1 : World) (hb : Below (w.alloc (.cells #[.int .i64 f, .slice na ln cn, .slice oa lo co] 25)).heap.size (w.alloc (.cells #[.int .i64 f, .slice na ln cn, .slice oa lo co] 25)) w1) => box7 hb)
  have HN : Hid (∀ w1, Below (w.alloc (.cells #[.int .i64 f, .slice na ln cn, .slice oa lo co] 25)).heap.size (w.alloc (.cells #[.int .i64 f, .slice na ln cn, .slice oa lo co] 25)) w1 → Hid (Tr7 w1 na oa ln lo N U) ∧ Hid (PlSl w1 pa lp D)) := Lib.hid fun w1 h => ⟨Lib.hid (H.out.below (below_al h)), Lib.hid (HP.out.below (below_al h))⟩
  have hb : Below (w.alloc (.cells #[.int .i64 f, .slice na ln cn, .slice oa lo co] 25)).heap.size (w.alloc (.cells #[.int .i64 f, .slice na ln cn, .slice oa lo co] 25)) (w.alloc (.cells #[.int .i64 f, .slice na ln cn, .slice oa lo co] 25)) := Below.refl _ _
  obtain ⟨x1, x2, x3, x4⟩ := BX.out _ hb
  have HPL : Hid (allN (fun d => dayB lo (D d).s (D d).n) lp = true) := Lib.hid ((allN_iff lp).2 HDY.out)
  have HLS : Hid (∀ d, d < lp → (D d).n ≤ 1000000 ∧ LsP lo (D d).n (D d).s) := Lib.hid fun d hd => ⟨by have := (dayB_len _ (HDY.out d hd)).1; omega, dayB_ls (HDY.out d hd)⟩
  have hp10 : decide (lp ≤ 10) = true := decide_eq_true hlp
  clear H HP
  go_enter Tryz.func43, Tryz.ntmps43
  go_wp2_with (first
    | (go_at_call 62; refine (isTree_w f na oa ln cn lo co N U _ (by omega) (by omega) (HN.out _ hb).1).mono ?_; rintro e wl ⟨⟨rb, rfl, hrb⟩, hv⟩; obtain rfl : rb = true := hrb.2 HR.out; clear hrb; replace hb := hb.trans (hv.mono hb.size); clear x1 x2 x3 x4; obtain ⟨x1, x2, x3, x4⟩ := BX.out _ hb)
    | (go_at_call 93; refine (isPlan_w f na oa pa ln cn lo co lp cp D _ (by omega) (by omega) (Lib.hid fun d hd => by have := (HLS.out d hd).1; unfold maxLen; omega) (HN.out _ hb).2).mono ?_; rw [hp10, HPL.out]; rintro e wl ⟨rfl, hv⟩; replace hb := hb.trans (hv.mono hb.size); clear x1 x2 x3 x4; obtain ⟨x1, x2, x3, x4⟩ := BX.out _ hb)
    | (go_at_call 94; refine (canBe_w f na oa pa ln cn lo co lp cp N U D _ (by omega) HLS (HN.out _ hb).2 (Lib.hid HR.out.w) (HN.out _ hb).1).mono ?_; rintro e wl ⟨rfl, hv⟩; replace hb := hb.trans (hv.mono hb.size); clear x1 x2 x3 x4; obtain ⟨x1, x2, x3, x4⟩ := BX.out _ hb))
  exact bodyPost_ret (v := .tuple #[.bool _, .int .i64 0]) (by simp [results, Tryz.results43, go_sem]) rfl ⟨rfl, below_al hb⟩

end Go.Kn

namespace Go.Kn
open Go Go.Proofs Go.RowKit

theorem below_go8 {A B C : World} (h : Below A.heap.size A B) (k : Below B.heap.size B C) : Below A.heap.size A C := h.trans (k.mono h.size)
/-- cmp.Compare -/
def cmpI (x y : Int) : Int := if x < y then -1 else if y < x then 1 else 0
set_option maxRecDepth 100000 in
theorem isNan_w (x : Int) (w : World) : Calls Tryz.prog 179 #[.int .i64 x] w fun e w' => e = .returned (.bool false) ∧ w = w' := by
  go_enter Tryz.func179, Tryz.ntmps179
  go_wp2
  go_ret
  simp
set_option maxRecDepth 100000 in
theorem cmp_w (x y : Int) (w : World) : Calls Tryz.prog 161 #[.int .i64 x, .int .i64 y] w fun e w' => e = .returned (.int .i64 (cmpI x y)) ∧ w = w' := by
  unfold cmpI
  by_cases h1 : x < y
  · rw [if_pos h1]
    go_enter Tryz.func161, Tryz.ntmps161
    go_wp2_with (go_at_call 179; refine (isNan_w _ _).mono ?_; rintro e w5 ⟨rfl, rfl⟩)
    go_ret
    exact ⟨rfl, rfl⟩
  · rw [if_neg h1]
    by_cases h2 : y < x
    · rw [if_pos h2]
      go_enter Tryz.func161, Tryz.ntmps161
      go_wp2_with (go_at_call 179; refine (isNan_w _ _).mono ?_; rintro e w5 ⟨rfl, rfl⟩)
      go_ret
      exact ⟨rfl, rfl⟩
    · rw [if_neg h2]
      go_enter Tryz.func161, Tryz.ntmps161
      go_wp2_with (go_at_call 179; refine (isNan_w _ _).mono ?_; rintro e w5 ⟨rfl, rfl⟩)
      go_ret
      exact ⟨rfl, rfl⟩

set_option maxRecDepth 100000 in
set_option maxHeartbeats 1000000 in
theorem or2_w (g : Nat) (x y : Int) (w : World) (h1 : w.cell? ⟨g, 0, none⟩ = some (.int .i64 x)) (h2 : w.cell? ⟨g, 1, none⟩ = some (.int .i64 y)) : Calls Tryz.prog 160 #[.slice (some ⟨g, 0, none⟩) 2 2] w fun e w' => e = .returned (.int .i64 (if x = 0 then y else x)) ∧ w = w' := by
  go_enter Tryz.func160, Tryz.ntmps160
  go_wp2
  go_loopw [8] (fun ii wr => ∃ k : Nat, k ≤ 2 ∧ ii = .int .i64 (k : Int) ∧ (1 ≤ k → x = 0) ∧ (2 ≤ k → y = 0) ∧ w = wr) (fun ii _ => 2 - (Go.RowKit.intOf ii).toNat)
  case atStart => exact ⟨0, by omega, rfl, fun h => by omega, fun h => by omega, rfl⟩
  case round =>
    obtain ⟨k, hk, rfl, hx, hy, rfl⟩ := hrel
    have HX := Lib.hid hx
    have HY := Lib.hid hy
    clear hx hy
    rcases (show k = 0 ∨ k = 1 ∨ k = 2 by omega) with rfl | rfl | rfl
    · by_cases hz : x = 0
      · subst hz
        go_wp2
        go_roundw
        case rel => exact ⟨1, by omega, by go_num, by first | simp | omega, by first | simp | omega, by first | trivial | rfl⟩
        case measure => simp [Go.RowKit.intOf]
      · go_wp2
        go_ret
        exact ⟨by first | rfl | (rw [if_neg hz]; rfl), rfl⟩
    · have hx0 := HX.out (by omega)
      subst hx0
      by_cases hz : y = 0
      · subst hz
        go_wp2
        go_roundw
        case rel => exact ⟨2, by omega, by go_num, by first | simp | omega, by first | simp | omega, by first | trivial | rfl⟩
        case measure => simp [Go.RowKit.intOf]
      · go_wp2
        go_ret
        exact ⟨rfl, rfl⟩
    · have hx0 := HX.out (by omega)
      have hy0 := HY.out (by omega)
      subst hx0 hy0
      go_wp2
      go_ret
      exact ⟨rfl, rfl⟩

/-- whether an outlet comes before another one -/
def befI (U : Nat → O3) (r : Nat → Int) (i j : Nat) : Bool := decide (r i < r j) || (decide (r i = r j) && decide ((U i).k < (U j).k))
theorem befI_eq (U : Nat → O3) (r : Nat → Int) (i j : Nat) : decide ((if cmpI (r i) (r j) = 0 then cmpI (U i).k (U j).k else cmpI (r i) (r j)) < 0) = befI U r i j := by
  unfold befI cmpI
  by_cases h1 : r i < r j
  · simp [h1]
  · by_cases h2 : r j < r i
    · have h3 : ¬ r i = r j := by omega
      simp [h1, h2, h3]
    · have h3 : r i = r j := by omega
      simp only [if_neg h1, if_neg h2, if_pos]
      by_cases h4 : (U i).k < (U j).k
      · simp [h3, h4]
      · by_cases h5 : (U j).k < (U i).k
        · simp [h3, h4, h5]
        · simp [h3, h4, h5]

theorem pairCell (W : World) (x y : Value) : (W.alloc (.cells #[x, y] 3)).cell? ⟨W.heap.size, 0, none⟩ = some x ∧ (W.alloc (.cells #[x, y] 3)).cell? ⟨W.heap.size, 1, none⟩ = some y := by constructor <;> simp
theorem or2d_w (x y q : Int) (w : World) (hq : (if x = 0 then y else x) = q) : Calls Tryz.prog 160 #[.slice (some ⟨w.heap.size, 0, none⟩) 2 2] (w.alloc (.cells #[.int .i64 x, .int .i64 y] 3)).drew fun e w' => e = .returned (.int .i64 q) ∧ w' = (w.alloc (.cells #[.int .i64 x, .int .i64 y] 3)).drew :=
  (or2_w w.heap.size x y (w.alloc (.cells #[.int .i64 x, .int .i64 y] 3)).drew (pairCell w _ _).1 (pairCell w _ _).2).mono fun e w' h => ⟨by rw [h.1, hq], h.2.symm⟩

set_option maxRecDepth 100000 in
set_option maxHeartbeats 2000000 in
/-- the closure isBefore -/
theorem before_w (ra oa : Option Addr) (rb tb nr cr lo co i j : Nat) (U : Nat → O3) (r : Nat → Int) (w : World) (hi : i < lo) (hj : j < lo) (hlo : lo ≤ 8) (hnr : nr = lo) (h1 : w.cell? ⟨rb, 0, none⟩ = some (.slice ra nr cr)) (h2 : w.cell? ⟨tb, 2, none⟩ = some (.slice oa lo co)) (HR : Hid (IntSl w ra lo r)) (HO : Hid (OuSl w oa lo U)) :
    Calls Tryz.prog 159 #[.int .i64 (i : Int), .int .i64 (j : Int), .pointer (some ⟨rb, 0, none⟩), .pointer (some ⟨tb, 0, none⟩)] w fun e w' => e = .returned (.bool (befI U r i j)) ∧ Below w.heap.size w w' := by
  subst hnr
  obtain ⟨A, O, rfl, hA, hN⟩ := HR.out.resolve_left (by omega)
  obtain ⟨C, P, rfl, hC, hM⟩ := HO.out.resolve_left (by omega)
  have y1 := hN i hi
  have y2 := hN j hj
  have y3 := (hM i hi).2.2
  have y4 := (hM j hj).2.2
  have n1 : (0 : Int) ≤ (i : Int) := by omega
  have n2 : (i : Int) < (nr : Int) := by omega
  have n3 : (0 : Int) ≤ (j : Int) := by omega
  have n4 : (j : Int) < (nr : Int) := by omega
  have HBE := Lib.hid (befI_eq U r i j)
  clear hN hM
  obtain ⟨ri, hri⟩ : ∃ v, r i = v := ⟨_, rfl⟩
  obtain ⟨rj, hrj⟩ : ∃ v, r j = v := ⟨_, rfl⟩
  obtain ⟨ki, hki⟩ : ∃ v, (U i).k = v := ⟨_, rfl⟩
  obtain ⟨kj, hkj⟩ : ∃ v, (U j).k = v := ⟨_, rfl⟩
  rw [hri] at y1
  rw [hrj] at y2
  rw [hki] at y3
  rw [hkj] at y4
  rw [hri, hrj, hki, hkj] at HBE
  clear hri hrj hki hkj
  obtain ⟨c1, hc1⟩ : ∃ v, cmpI ri rj = v := ⟨_, rfl⟩
  obtain ⟨c2, hc2⟩ : ∃ v, cmpI ki kj = v := ⟨_, rfl⟩
  obtain ⟨q, hq⟩ : ∃ v, (if c1 = 0 then c2 else c1) = v := ⟨_, rfl⟩
  have HC1 := Lib.hid hc1
  have HC2 := Lib.hid hc2
  have HQ := Lib.hid hq
  rw [hc1, hc2, hq] at HBE
  clear hc1 hc2 hq
  go_enter Tryz.func159, Tryz.ntmps159
  go_wp2
  go_region_held3 (fun w' => w'.cell? ⟨rb, 0, none⟩ = some (.slice (some ⟨A, O, none⟩) nr cr) ∧ w'.cell? ⟨tb, 2, none⟩ = some (.slice (some ⟨C, P, none⟩) nr co) ∧ w'.cell? ⟨A, O + i, none⟩ = some (.int .i64 ri) ∧ w'.cell? ⟨A, O + j, none⟩ = some (.int .i64 rj) ∧ w'.cell? ⟨C, P + i * 3 + 2, none⟩ = some (.int .i64 ki) ∧ w'.cell? ⟨C, P + j * 3 + 2, none⟩ = some (.int .i64 kj)) (first | exact ⟨h1, h2, y1, y2, y3, y4⟩ | go_keep) (first
    | (go_at_call_of 161 ri; refine (cmp_w _ _ _).mono ?_; rw [HC1.out]; rintro e w5 ⟨rfl, rfl⟩)
    | (go_at_call_of 161 ki; refine (cmp_w _ _ _).mono ?_; rw [HC2.out]; rintro e w5 ⟨rfl, rfl⟩)
    | (go_at_call 160; refine (or2d_w c1 c2 q w HQ.out).mono ?_; rintro e w5 ⟨rfl, rfl⟩))
  all_goals
    go_wp2
    go_ret
    exact ⟨by rw [← HBE.out]; rfl, by first | exact (below_drew (Below.refl _ _)).alloc (Nat.le_refl _) _ | exact below_drew ((Below.refl _ _).alloc (Nat.le_refl _) _) | exact below_drew ((below_drew (Below.refl _ _)).alloc (Nat.le_refl _) _)⟩
end Go.Kn

namespace Go.Kn
open Go Go.Proofs Go.RowKit

/-- the numbers of a list -/
def lgI (l : List Nat) : Nat → Int := fun i => ((l.getD i 0 : Nat) : Int)
theorem lgI_app1 {l1 l2 : List Nat} {i : Nat} (h : i < l1.length) : lgI (l1 ++ l2) i = lgI l1 i := by
  simp [lgI, List.getElem?_append_left h]
theorem lgI_app2 {l1 l2 : List Nat} {i : Nat} (h : l1.length ≤ i) : lgI (l1 ++ l2) i = lgI l2 (i - l1.length) := by
  simp [lgI, List.getElem?_append_right h]
theorem lgI_cons0 {x : Nat} {l : List Nat} : lgI (x :: l) 0 = (x : Int) := by simp [lgI]
theorem lgI_consS {x : Nat} {l : List Nat} {i : Nat} : lgI (x :: l) (i + 1) = lgI l i := by simp [lgI]
theorem lgI_get {l : List Nat} {i : Nat} (h : i < l.length) : lgI l i = ((l[i] : Nat) : Int) := by simp [lgI, h]
/-- the first that none is better than -/
def bestL (lt : Nat → Nat → Bool) (x : Nat) (l : List Nat) : Nat := l.foldl (fun b y => if lt y b then y else b) x
theorem bestL_push (lt : Nat → Nat → Bool) (x : Nat) (l : List Nat) (y : Nat) : bestL lt x (l ++ [y]) = if lt y (bestL lt x l) then y else bestL lt x l := by unfold bestL; rw [List.foldl_append]; rfl
theorem bestL_mem (lt : Nat → Nat → Bool) : ∀ (l : List Nat) (x : Nat), bestL lt x l ∈ x :: l
  | [], x => by simp [bestL]
  | y :: l, x => by
    have h := bestL_mem lt l (if lt y x then y else x)
    simp only [bestL, List.foldl_cons] at h ⊢
    split at h
    · rename_i e; rw [if_pos e]
      exact List.mem_cons_of_mem _ h
    · rename_i e; rw [if_neg e]
      rcases List.mem_cons.1 h with h | h
      · rw [h]; exact List.mem_cons_self
      · exact List.mem_cons_of_mem _ (List.mem_cons_of_mem _ h)

set_option maxRecDepth 100000 in
set_option maxHeartbeats 2000000 in
theorem best_w (ta : Option Addr) (m ct rb tb lo : Nat) (l : List Nat) (x : Nat) (lt : Nat → Nat → Bool) (w : World) (hm : Hid (m = l.length + 1)) (hm2 : m ≤ 1000) (hct : m ≤ ct) (hlt : ∀ y ∈ x :: l, y < lo) (HT : Hid (IntSl w ta m (lgI (x :: l))))
    (HB : Hid (∀ (i j : Nat) w2, i < lo → j < lo → Below w.heap.size w w2 → Calls Tryz.prog 159 #[.int .i64 (i : Int), .int .i64 (j : Int), .pointer (some ⟨rb, 0, none⟩), .pointer (some ⟨tb, 0, none⟩)] w2 fun e w' => e = .returned (.bool (lt i j)) ∧ Below w2.heap.size w2 w')) :
    Calls Tryz.prog 162 #[.slice ta m ct, .func (.func 159) #[] #[.pointer (some ⟨rb, 0, none⟩), .pointer (some ⟨tb, 0, none⟩)]] w fun e w' => e = .returned (.int .i64 ((bestL lt x l : Nat) : Int)) ∧ Below w.heap.size w w' := by
  have hm3 : 0 < m := by have := hm.out; omega
  obtain ⟨A, O, rfl, hA, hN⟩ := HT.out.resolve_left (by omega)
  have y0 : w.cell? ⟨A, O, none⟩ = some (.int .i64 (x : Int)) := by have h := hN 0 (by omega); rw [lgI_cons0] at h; exact h
  have HNN := Lib.hid hN
  have HL := Lib.hid hlt
  have n0 : (0 : Int) < (m : Int) := by omega
  have n1 : (1 : Int) ≤ (m : Int) := by omega
  have n2 : (m : Int) ≤ (ct : Int) := by omega
  clear hN hlt HT
  by_cases hc1 : ct = 1
  · have hl0 : l = [] := List.eq_nil_of_length_eq_zero (by have := hm.out; omega)
    subst hl0
    have hm1 : m = 1 := hm.out
    subst hc1
    subst hm1
    clear n0 n1 n2 hct hm hm2 hm3
    have HBL : Hid (bestL lt x [] = x) := Lib.hid rfl
    go_enter Tryz.func162, Tryz.ntmps162
    go_wp2
    go_loopw [5, 14] (fun v ii wr => v = .int .i64 (x : Int) ∧ ii = .int .i64 0 ∧ wr = w) (fun _ ii _ => 0)
    case atStart => exact ⟨rfl, rfl, rfl⟩
    case round =>
      obtain ⟨rfl, rfl, rfl⟩ := hrel
      go_wp2
      go_ret
      exact ⟨by rw [HBL.out]; rfl, Below.refl _ _⟩
  · have HC1 : ct ≠ 1 := hc1
    go_enter Tryz.func162, Tryz.ntmps162
    go_wp2
    clear y0
    go_loopw [5, 14] (fun v ii wr => ∃ k : Nat, k ≤ l.length ∧ ii = .int .i64 (k : Int) ∧ v = .int .i64 ((bestL lt x (l.take k) : Nat) : Int) ∧ Below w.heap.size w wr) (fun _ ii _ => l.length - (Go.RowKit.intOf ii).toNat)
    case atStart => exact ⟨0, Nat.zero_le _, rfl, rfl, Below.refl _ _⟩
    case round =>
      obtain ⟨k, hk, rfl, rfl, hbr⟩ := hrel
      have HBR := Lib.hid hbr
      clear hbr
      have hm4 := hm.out
      by_cases hlt2 : k < l.length
      · obtain ⟨y, hy⟩ : ∃ y, l[k] = y := ⟨_, rfl⟩
        have y1 : wr.cell? ⟨A, O + 1 + k, none⟩ = some (.int .i64 (y : Int)) := by
          have h := (HNN.out.below hA HBR.out) (k + 1) (by omega)
          rw [lgI_consS, lgI_get hlt2, hy] at h
          rw [show O + 1 + k = O + (k + 1) by omega]; exact h
        have hyl : y < lo := HL.out y (by rw [← hy]; exact List.mem_cons_of_mem _ (List.getElem_mem _))
        have hbl : bestL lt x (l.take k) < lo := HL.out _ (by
          rcases List.mem_cons.1 (bestL_mem lt (l.take k) x) with h | h
          · rw [h]; exact List.mem_cons_self
          · exact List.mem_cons_of_mem _ (List.mem_of_mem_take h))
        have hpu : bestL lt x (l.take (k + 1)) = if lt y (bestL lt x (l.take k)) then y else bestL lt x (l.take k) := by
          rw [← bestL_push, List.take_add_one, List.getElem?_eq_getElem hlt2, hy]; rfl
        obtain ⟨b, hb⟩ : ∃ b, bestL lt x (l.take k) = b := ⟨_, rfl⟩
        rw [hb] at hpu hbl ⊢
        have HPU := Lib.hid hpu
        have HBC := Lib.hid (HB.out y b wr hyl hbl HBR.out)
        have n3 : (0 : Int) ≤ (k : Int) := by omega
        have n4 : (k : Int) < (m : Int) - 1 := by omega
        have n5 : (k : Int) < ((m - 1 : Nat) : Int) := by omega
        clear hm4 hpu hb hy hyl hbl
        cases hl : lt y b with
        | true =>
          rw [hl] at HBC HPU
          go_wp2_with (go_at_call 159; refine HBC.out.mono ?_; rintro e w5 ⟨rfl, hv⟩)
          go_roundw
          case rel => exact ⟨k + 1, by omega, by go_num, by rw [HPU.out]; rfl, HBR.out.trans (hv.mono HBR.out.size)⟩
          case measure => simp [Go.RowKit.intOf]; omega
        | false =>
          rw [hl] at HBC HPU
          go_wp2_with (go_at_call 159; refine HBC.out.mono ?_; rintro e w5 ⟨rfl, hv⟩)
          go_roundw
          case rel => exact ⟨k + 1, by omega, by go_num, by rw [HPU.out]; rfl, HBR.out.trans (hv.mono HBR.out.size)⟩
          case measure => simp [Go.RowKit.intOf]; omega
      · obtain rfl : k = l.length := by omega
        have n4 : ¬ ((l.length : Nat) : Int) < ((m - 1 : Nat) : Int) := by omega
        have n5 : ¬ ((l.length : Nat) : Int) < (m : Int) - 1 := by omega
        clear hm4
        have HTK : Hid (bestL lt x (l.take l.length) = bestL lt x l) := Lib.hid (by rw [List.take_length])
        go_wp2
        go_ret
        exact ⟨by rw [← HTK.out]; rfl, HBR.out⟩

set_option maxRecDepth 100000 in
theorem eq164_w (v b : Int) (nb : Nat) (w : World) (h : w.cell? ⟨nb, 0, none⟩ = some (.int .i64 b)) : Calls Tryz.prog 164 #[.int .i64 v, .pointer (some ⟨nb, 0, none⟩)] w fun e w' => e = .returned (.bool (v == b)) ∧ w = w' := by
  go_enter Tryz.func164, Tryz.ntmps164
  go_wp2
  go_ret
  exact ⟨rfl, rfl⟩

set_option maxRecDepth 100000 in
set_option maxHeartbeats 2000000 in
theorem idxf_w (g n c nb b : Nat) (l1 l2 : List Nat) (w : World) (hn : Hid (n = l1.length + (l2.length + 1))) (hn2 : n ≤ 1000) (hb1 : b ∉ l1) (HN : Hid (NumAt w g 0 n (lgI (l1 ++ b :: l2)))) (hnb : w.cell? ⟨nb, 0, none⟩ = some (.int .i64 (b : Int))) :
    Calls Tryz.prog 180 #[.slice (some ⟨g, 0, none⟩) n c, .func (.func 164) #[] #[.pointer (some ⟨nb, 0, none⟩)]] w fun e w' => e = .returned (.int .i64 (l1.length : Int)) ∧ w = w' := by
  have hlen : l1.length < n := by have := hn.out; omega
  go_enter Tryz.func180, Tryz.ntmps180
  go_wp2
  go_loopw [8] (fun ii wr => ∃ k : Nat, k ≤ l1.length ∧ ii = .int .i64 (k : Int) ∧ wr = w) (fun ii _ => n - (Go.RowKit.intOf ii).toNat)
  case atStart => exact ⟨0, Nat.zero_le _, rfl, rfl⟩
  case round =>
    obtain ⟨k, hk, rfl, rfl⟩ := hrel
    have n1 : (0 : Int) ≤ (k : Int) := by omega
    have n2 : (k : Int) < (n : Int) := by omega
    have y1 := HN.out k (by omega)
    rw [Nat.zero_add] at y1
    by_cases hlt : k < l1.length
    · have hv : lgI (l1 ++ b :: l2) k = ((l1[k] : Nat) : Int) := by rw [lgI_app1 hlt, lgI_get hlt]
      have hne : (((l1[k] : Nat) : Int) == (b : Int)) = false := by
        rw [beq_eq_false_iff_ne]; intro e; exact hb1 (by rw [← Int.ofNat.inj e]; exact List.getElem_mem _)
      rw [hv] at y1
      obtain ⟨v, hv2⟩ : ∃ v, l1[k] = v := ⟨_, rfl⟩
      rw [hv2] at y1 hne
      have HE := Lib.hid (eq164_w (v : Int) (b : Int) nb wr hnb)
      rw [hne] at HE
      clear hv hv2 hne
      go_wp2_with (go_at_call 164; refine HE.out.mono ?_; rintro e w5 ⟨rfl, rfl⟩)
      go_roundw
      case rel => exact ⟨k + 1, by omega, by go_num, by first | rfl | trivial⟩
      case measure => simp [Go.RowKit.intOf]; omega
    · obtain rfl : k = l1.length := by omega
      have hv : lgI (l1 ++ b :: l2) l1.length = (b : Int) := by rw [lgI_app2 (Nat.le_refl _), Nat.sub_self, lgI_cons0]
      have hne : ((b : Int) == (b : Int)) = true := by rw [beq_iff_eq]
      rw [hv] at y1
      have HE := Lib.hid (eq164_w (b : Int) (b : Int) nb wr hnb)
      rw [hne] at HE
      clear hv hne
      go_wp2_with (go_at_call 164; refine HE.out.mono ?_; rintro e w5 ⟨rfl, rfl⟩)
      go_ret
      exact ⟨rfl, rfl⟩
end Go.Kn

namespace Go.Kn
open Go Go.Proofs Go.RowKit

/-- what the array holds while an element is taken out -/
def mixI (l1 l2 : List Nat) (b k : Nat) : Nat → Int := fun i => if i < l1.length + k then lgI (l1 ++ l2) i else lgI (l1 ++ b :: l2) i
theorem mixI_0 (l1 l2 : List Nat) (b i : Nat) : mixI l1 l2 b 0 i = lgI (l1 ++ b :: l2) i := by
  unfold mixI
  split
  · rename_i h; rw [lgI_app1 (by omega), lgI_app1 (by omega)]
  · rfl
theorem mixI_next {l1 l2 : List Nat} {b k : Nat} (hk : k < l2.length) : ∀ i, mixI l1 l2 b (k + 1) i = updI (mixI l1 l2 b k) (l1.length + k) (lgI l2 k) i := by
  intro i
  unfold updI mixI
  by_cases e : i = l1.length + k
  · subst e
    rw [if_pos (by omega), if_pos rfl, lgI_app2 (by omega)]
    congr 1; omega
  · rw [if_neg e]
    by_cases h : i < l1.length + k
    · rw [if_pos (by omega), if_pos h]
    · rw [if_neg (by omega), if_neg h]
theorem mixI_at {l1 l2 : List Nat} {b k : Nat} (hk : k < l2.length) : mixI l1 l2 b k (l1.length + 1 + k) = lgI l2 k := by
  unfold mixI
  rw [if_neg (by omega), lgI_app2 (by omega), show l1.length + 1 + k - l1.length = k + 1 by omega, lgI_consS]
theorem IntOwn.congr {w : World} {base g n : Nat} {s s' : Nat → Int} (h : IntOwn w base g n s) (he : ∀ i, i < n → s i = s' i) : IntOwn w base g n s' := ⟨h.lo, h.lt, fun i hi => by rw [← he i hi]; exact h.at_ i hi, h.fr⟩
theorem IntOwn.less {w : World} {base g n m : Nat} {s : Nat → Int} (h : IntOwn w base g n s) (hm : m ≤ n) : IntOwn w base g m s := ⟨h.lo, h.lt, fun i hi => h.at_ i (by omega), fun i hi => h.fr i (by omega)⟩
theorem IntOwn.frx {w w1 : World} {X : List Nat} {base g n : Nat} {s : Nat → Int} (h : IntOwn w base g n s) (hf : Frx X w w1) (hg : g ∉ X) : IntOwn w1 base g n s :=
  ⟨h.lo, Nat.lt_of_lt_of_le h.lt hf.size, fun i hi => (hf.cell h.lt hg).trans (h.at_ i hi), fun i hi => (hf.froz h.lt hg).trans (h.fr i hi)⟩

set_option maxRecDepth 100000 in
set_option maxHeartbeats 4000000 in
/-- slices.DeleteFunc of the one that is equal -/
theorem del_w (g n c nb b base : Nat) (l1 l2 : List Nat) (w : World) (hn : Hid (n = l1.length + (l2.length + 1))) (hn2 : n ≤ 1000) (hnc : n ≤ c) (hb1 : b ∉ l1) (hb2 : b ∉ l2) (HO : Hid (IntOwn w base g n (lgI (l1 ++ b :: l2)))) (hnb : w.cell? ⟨nb, 0, none⟩ = some (.int .i64 (b : Int))) (hng : nb ≠ g) :
    Calls Tryz.prog 163 #[.slice (some ⟨g, 0, none⟩) n c, .func (.func 164) #[] #[.pointer (some ⟨nb, 0, none⟩)]] w fun e w' => e = .returned (.slice (some ⟨g, 0, none⟩) (l1.length + l2.length) c) ∧ IntOwn w' base g (l1.length + l2.length) (lgI (l1 ++ l2)) ∧ Frx [g] w w' := by
  have HIX := Lib.hid (idxf_w g n c nb b l1 l2 w hn hn2 hb1 (Lib.hid HO.out.at_) hnb)
  have HNB : Hid (∀ w1, Frx [g] w w1 → w1.cell? ⟨nb, 0, none⟩ = some (.int .i64 (b : Int))) := Lib.hid fun w1 h => (h.cell (World.block_lt_of_cell? _ _ hnb) (by simp; exact hng)).trans hnb
  have n0 : (((l1.length : Nat) : Int) == -1) = false := by rw [beq_eq_false_iff_ne]; omega
  have wr0 : IntKind.i64.wrap (((l1.length : Nat) : Int) + 1) = ((l1.length : Nat) : Int) + 1 := by have := hn.out; rw [IntKind.wrap_i64]; omega
  clear hnb
  go_enter Tryz.func163, Tryz.ntmps163
  go_wp2_with (go_at_call 180; refine HIX.out.mono ?_; rintro e w5 ⟨rfl, rfl⟩)
  clear n0
  go_loopw [5, 6] (fun u v wr => ∃ k : Nat, k ≤ l2.length ∧ u = .int .i64 ((l1.length + k : Nat) : Int) ∧ v = .int .i64 ((l1.length + 1 + k : Nat) : Int) ∧ IntOwn wr base g n (mixI l1 l2 b k) ∧ Frx [g] w wr) (fun _ v _ => n - (Go.RowKit.intOf v).toNat)
  case atStart => exact ⟨0, Nat.zero_le _, rfl, by simp, HO.out.congr fun i _ => (mixI_0 l1 l2 b i).symm, Frx.refl _ _⟩
  case round =>
    obtain ⟨k, hk, rfl, rfl, ho, hf⟩ := hrel
    have HOR := Lib.hid ho
    have HF := Lib.hid hf
    have x1 := HNB.out _ hf
    obtain ⟨p, hp⟩ : ∃ p, l1.length + k = p := ⟨_, rfl⟩
    obtain ⟨q, hq⟩ : ∃ q, l1.length + 1 + k = q := ⟨_, rfl⟩
    have HPP := Lib.hid hp
    have HQQ := Lib.hid hq
    rw [hp, hq]
    have hnn := hn.out
    clear ho hf
    by_cases hlt : k < l2.length
    · have m1 : (0 : Int) ≤ (q : Int) := by omega
      have m2 : (q : Int) < (n : Int) := by omega
      have m3 : (0 : Int) ≤ (p : Int) := by omega
      have m4 : (p : Int) < (n : Int) := by omega
      have hpn : p < n := by omega
      have y1 := HOR.out.at_ q (by omega)
      rw [show mixI l1 l2 b k q = ((l2[k] : Nat) : Int) by rw [← hq, mixI_at hlt, lgI_get hlt], Nat.zero_add] at y1
      have y2 := HOR.out.fr p hpn
      have y3 := HOR.out.at_ p hpn
      rw [Nat.zero_add] at y3
      have hne : (((l2[k] : Nat) : Int) == (b : Int)) = false := by
        rw [beq_eq_false_iff_ne]; intro e; exact hb2 (by rw [← Int.ofNat.inj e]; exact List.getElem_mem _)
      obtain ⟨v, hv⟩ : ∃ v, l2[k] = v := ⟨_, rfl⟩
      have hlv : lgI l2 k = (v : Int) := by rw [lgI_get hlt, hv]
      have HLV := Lib.hid hlv
      rw [hv] at y1 hne
      obtain ⟨z, hz⟩ : ∃ z, mixI l1 l2 b k p = z := ⟨_, rfl⟩
      rw [hz] at y3
      have HE := Lib.hid (eq164_w (v : Int) (b : Int) nb wr x1)
      rw [hne] at HE
      clear hne hv hlv hz hp hq hnn x1
      go_wp2_with (go_at_call 164; refine HE.out.mono ?_; rintro e w5 ⟨rfl, rfl⟩)
      go_roundw
      case rel =>
        refine ⟨k + 1, by omega, by have := HPP.out; congr 1; omega, by have := HQQ.out; congr 1; omega, ?_, HF.out.trans (Frx.setCell [g] _ g p _ (by simp))⟩
        refine (HOR.out.set hpn (v : Int)).congr fun i _ => ?_
        rw [mixI_next hlt, HPP.out, HLV.out]
      case measure => simp [Go.RowKit.intOf]; omega
    · obtain rfl : k = l2.length := by omega
      have m1 : ¬ (q : Int) < (n : Int) := by omega
      have m3 : (0 : Int) ≤ (p : Int) := by omega
      have m4 : (p : Int) ≤ (n : Int) := by omega
      have m5 : ¬ c = p := by omega
      have m6 : (p : Int) ≤ (c : Int) := by omega
      have m7 : (n : Int) ≤ (c : Int) := by omega
      have m8 : n - p = 1 := by omega
      clear hp hq hnn x1
      have hpn : p < n := by have := hn.out; have := HPP.out; omega
      have y2 := HOR.out.fr p hpn
      have y3 := HOR.out.at_ p hpn
      rw [Nat.zero_add] at y3
      have hcl : ∀ ty, (Builtin.clear_ #[26] ty #[.slice (some ⟨g, p, none⟩) 1 (c - p)]).run Tryz.prog wr = .ok (.tuple #[]) (wr.setCell ⟨g, p, none⟩ (.int .i64 0)) := fun ty => by
        have h := Lib.run_clear_slice wr 26 3 ty (.int .i64 0) Tryz.underlying26 (fun w => by rfl) rfl rfl g p 1 (c - p) (by decide) (fun j hj => by obtain rfl : j = 0 := (by omega); rw [Nat.add_zero, y3]; rfl) (fun j hj => by obtain rfl : j = 0 := (by omega); rw [Nat.add_zero]; exact y2)
        rw [h]; rfl
      have HX := Lib.hid (show IntOwn (wr.setCell ⟨g, p, none⟩ (.int .i64 0)) base g p (lgI (l1 ++ l2)) from by
        refine ((HOR.out.set hpn 0).less (Nat.le_of_lt hpn)).congr fun i hi => ?_
        have := HPP.out
        unfold updI
        rw [if_neg (by omega)]
        unfold mixI
        rw [if_pos (by omega)])
      clear y2 y3
      go_wp2
      go_ret
      refine ⟨?_, ?_, HF.out.trans (Frx.setCell [g] _ g p _ (by simp))⟩
      · rw [HPP.out]; rfl
      · rw [HPP.out]; exact HX.out
end Go.Kn

namespace Go.Kn
open Go Go.Proofs Go.RowKit

/-- always the best one that is left -/
def selL (lt : Nat → Nat → Bool) : Nat → List Nat → List Nat
  | 0, _ => []
  | _ + 1, [] => []
  | k + 1, x :: xs => bestL lt x xs :: selL lt k ((x :: xs).erase (bestL lt x xs))
/-- the outlets in the order of a day -/
def ordL (U : Nat → O3) (r : Nat → Int) (lo : Nat) : List Nat := selL (befI U r) lo (List.range lo)
def iv1 : Nat → Value := fun k => .int .i64 ((k : Nat) : Int)
theorem ownOf {w : World} {base n : Nat} {v : Value} {l : List Nat} (h : w.ownsRow base 3 1 v n (l.map iv1)) (h0 : 0 < n) : ∃ g cap, v = .slice (some ⟨g, 0, none⟩) n cap ∧ n ≤ cap ∧ IntOwn w base g n (lgI l) := by
  rcases h.2 with ⟨h1, h2⟩ | ⟨g, cap, cur, h1, hb, hg, hn, hc, hs, hx⟩
  · omega
  · refine ⟨g, cap, h1, hn, hb, (Array.getElem?_eq_some_iff.1 hg).1, fun i hi => ?_, fun i hi => by simp [World.frozen?, hg]⟩
    have hl : i < l.length := by have := h.1; simp at this; omega
    have e1 : (l.map iv1)[i]? = some (.int .i64 (lgI l i)) := by rw [lgI_get hl]; simp [hl, iv1]
    rw [← hx, List.getElem?_take] at e1
    split at e1
    · simp only [Array.getElem?_toList] at e1
      rw [Nat.zero_add]
      simp [World.cell?, hg, e1]
    · cases e1
theorem grown_own {w w1 : World} {row : Option Nat} {base g n : Nat} {s : Nat → Int} (h : IntOwn w base g n s) (hg : w.grownBy w1 row) (hr : row ≠ some g) : IntOwn w1 base g n s :=
  ⟨h.lo, Nat.lt_of_lt_of_le h.lt hg.size, fun i hi => (hg.cell_far ⟨g, 0 + i, none⟩ h.lt (fun e => hr e.symm)).trans (h.at_ i hi), fun i hi => (hg.frozen_far ⟨g, i, none⟩ h.lt (fun e => hr e.symm)).trans (h.fr i hi)⟩
theorem owns_frx2 {X : List Nat} {A B : World} {base e size n : Nat} {v : Value} {xs : List Value} (h : A.ownsRow base e size v n xs) (hf : Frx X A B) (hx : ∀ x ∈ X, v.ownBlock ≠ some x) : B.ownsRow base e size v n xs := by
  refine ⟨h.1, h.2.imp id ?_⟩
  rintro ⟨g, cap, cur, h1, hb, hg, hn, hc, hs, hxx⟩
  refine ⟨g, cap, cur, h1, hb, ?_, hn, hc, hs, hxx⟩
  rw [hf.block g (Array.getElem?_eq_some_iff.1 hg).1 (fun hm => hx g hm (by rw [h1]; rfl))]
  exact hg
theorem owns_base {A : World} {base b2 e size n : Nat} {v : Value} {xs : List Value} (h : A.ownsRow base e size v n xs) (hb : b2 ≤ base) : A.ownsRow b2 e size v n xs := by
  refine ⟨h.1, h.2.imp id ?_⟩
  rintro ⟨g, cap, cur, h1, h2, h3⟩
  exact ⟨g, cap, cur, h1, Nat.le_trans hb h2, h3⟩
theorem split_nd {l : List Nat} {b : Nat} (hb : b ∈ l) (hn : l.Nodup) : ∃ l1 l2, l = l1 ++ b :: l2 ∧ b ∉ l1 ∧ b ∉ l2 ∧ l.erase b = l1 ++ l2 := by
  obtain ⟨l1, l2, rfl⟩ := List.append_of_mem hb
  have h1 : b ∉ l1 := fun h => by
    have := (List.nodup_append.1 hn).2.2 b h b List.mem_cons_self
    exact this rfl
  have h2 : b ∉ l2 := (List.nodup_cons.1 (List.nodup_append.1 hn).2.1).1
  exact ⟨l1, l2, rfl, h1, h2, by rw [List.erase_append_right _ h1, List.erase_cons_head]⟩
def lenV : Value → Nat
  | .slice _ n _ => n
  | _ => 0
/-- what is left, in an array of one's own -/
def LeftS (w : World) (base : Nat) (v4 v : Value) (n : Nat) (l : List Nat) : Prop := ∃ a c, v = .slice a n c ∧ (n = 0 ∨ ∃ g, a = some ⟨g, 0, none⟩ ∧ n ≤ c ∧ IntOwn w base g n (lgI l) ∧ v4.ownBlock ≠ some g)
/-- a round's state -/
structure InT (U : Nat → O3) (r : Nat → Int) (lo B : Nat) (W0 : World) (l done : List Nat) (m n : Nat) (v4 v5 : Value) (wr : World) : Prop where
  hm : done.length = m
  hn : l.length = n
  ord : done ++ selL (befI U r) n l = ordL U r lo
  nd : l.Nodup
  lt : ∀ y ∈ l, y < lo
  mn : m + n = lo
  own : wr.ownsRow B 3 1 v4 m (done.map iv1)
  left : LeftS wr B v4 v5 n l
  bl : Below W0.heap.size W0 wr

set_option maxRecDepth 100000 in
set_option maxHeartbeats 4000000 in
theorem inTurn_w (f : Int) (na oa ra : Option Addr) (ln cn lo co cr : Nat) (N : Nat → N2) (U : Nat → O3) (r : Nat → Int) (w : World) (hlo : lo ≤ 8) (H : Hid (Tr7 w na oa ln lo N U)) (HR : Hid (IntSl w ra lo r)) :
    Calls Tryz.prog 133 #[.agg #[.int .i64 f, .slice na ln cn, .slice oa lo co], .slice ra lo cr] w fun e w' => (∃ v, e = .returned v ∧ w'.ownsRow w.heap.size 3 1 v (ordL U r lo).length ((ordL U r lo).map iv1)) ∧ Below w.heap.size w w' := by
  have hmf : ∀ (fn : Fn) (first cap : Array Value) (w : World), (Instr.makeFunc fn first cap).run Tryz.prog w = .ok (.func fn first cap) w := fun _ _ _ _ => rfl
  obtain ⟨i0, hi0, hz0, hz1, hz2⟩ := info_parts info3'
  obtain ⟨W0, hW0⟩ : ∃ W0, W0 = (w.alloc (.cells #[.int .i64 f, .slice na ln cn, .slice oa lo co] 25)).alloc (.cells #[.slice ra lo cr] 26) := ⟨_, rfl⟩
  have hA : Below w.heap.size w W0 := by rw [hW0]; exact ((Below.refl _ _).alloc (Nat.le_refl _) _).alloc (by simp) _
  have hz : W0.heap.size = w.heap.size + 2 := by rw [hW0]; simp
  have HX : Hid (∀ w2, Below W0.heap.size W0 w2 → w2.cell? ⟨w.heap.size, 2, none⟩ = some (.slice oa lo co) ∧ w2.cell? ⟨w.heap.size + 1, 0, none⟩ = some (.slice ra lo cr) ∧ Hid (IntSl w2 ra lo r) ∧ Hid (OuSl w2 oa lo U)) := Lib.hid fun w2 h => by
    obtain ⟨c, _⟩ := bcell h
    have hb2 := hA.trans (h.mono hA.size)
    exact ⟨(c _ _ (by omega)).trans (by rw [hW0]; simp), (c _ _ (by omega)).trans (by rw [hW0]; simp), Lib.hid (HR.out.below hb2), Lib.hid (H.out.below hb2).ho⟩
  have HB : Hid (∀ (i j : Nat) w2, i < lo → j < lo → Below W0.heap.size W0 w2 → Calls Tryz.prog 159 #[.int .i64 (i : Int), .int .i64 (j : Int), .pointer (some ⟨w.heap.size + 1, 0, none⟩), .pointer (some ⟨w.heap.size, 0, none⟩)] w2 fun e w' => e = .returned (.bool (befI U r i j)) ∧ Below w2.heap.size w2 w') := Lib.hid fun i j w2 hi hj h => by
    obtain ⟨h1, h2, h3, h4⟩ := HX.out _ h
    exact before_w ra oa (w.heap.size + 1) w.heap.size lo cr lo co i j U r w2 hi hj hlo rfl h2 h1 h3 h4
  have HAA := Lib.hid hA
  have HZ := Lib.hid hz
  have x3 : W0.cell? ⟨w.heap.size, 2, none⟩ = some (.slice oa lo co) := (HX.out _ (Below.refl _ _)).1
  clear hA hz H HR
  go_enter Tryz.func133, Tryz.ntmps133
  go_wp2
  rw [← hW0]
  clear x3
  go_loopw [5, 12] (fun v ii wr => ∃ k : Nat, k ≤ lo ∧ ii = .int .i64 (k : Int) ∧ wr.ownsRow W0.heap.size 3 1 v k ((List.range k).map iv1) ∧ Below W0.heap.size W0 wr) (fun _ ii _ => lo - (Go.RowKit.intOf ii).toNat)
  case atStart => exact ⟨0, Nat.zero_le _, rfl, ⟨rfl, .inl ⟨rfl, rfl⟩⟩, Below.refl _ _⟩
  case round =>
    obtain ⟨k, hk, rfl, hown, hbr⟩ := hrel
    have HOW := Lib.hid hown
    have HBR := Lib.hid hbr
    clear hown
    by_cases hlt : k < lo
    · have n1 : (0 : Int) ≤ (k : Int) := by omega
      have n2 : (k : Int) < (lo : Int) := by omega
      have hsz := hbr.size
      clear hbr
      go_wp2_with (at_builtin; refine wpList_append_own_at _ rfl (.tmp 15) (.tmp 17) 26 rfl W0.heap.size 3 i0 (.int .i64 0) 1 8 Tryz.underlying26 hi0 hz0 hz1 hz2 rfl (by decide) _ k _ rfl (HOW.out.alloc _) ⟨_, 0, none⟩ 1 1 [.int .i64 (k : Int)] rfl rfl (lies_any (by first | exact al_top rfl _ _ | exact al_top (by simp) _ _)) (by intro u hu; simp at hu; subst hu; rfl) (by unfold maxLen; omega) (by omega) (by simp; omega) ?_; intro v7 w7 hown7 hgrow7 _ hloc7)
      go_roundw
      case rel => exact ⟨k + 1, by omega, by go_num, by rw [List.range_succ, List.map_append]; exact hown7, (HBR.out.alloc HBR.out.size _).grown hgrow7 (by have := HBR.out.size; simp; omega) (fun r e => own_ge HOW.out r e)⟩
      case measure => simp [Go.RowKit.intOf]; omega
    · obtain rfl : k = lo := by omega
      clear hbr
      go_wp2
      go_loopw [4, 5] (fun v4 v5 wr => ∃ (l done : List Nat) (m n : Nat), InT U r k W0.heap.size W0 l done m n v4 v5 wr) (fun _ v _ => lenV v)
      case atStart =>
        refine ⟨List.range k, [], 0, k, ⟨rfl, by simp, rfl, List.nodup_range, fun y hy => List.mem_range.1 hy, by omega, ⟨rfl, .inl ⟨rfl, rfl⟩⟩, ?_, HBR.out⟩⟩
        by_cases h0 : 0 < k
        · obtain ⟨g, cap, hv, hc, ho⟩ := ownOf HOW.out h0
          exact ⟨some ⟨g, 0, none⟩, cap, hv, .inr ⟨g, rfl, hc, ho, by intro e; cases e⟩⟩
        · rcases HOW.out.2 with ⟨h1, h2⟩ | ⟨g, cap, cur, h1, _⟩
          · exact ⟨none, 0, by rw [h1, show k = 0 by omega], .inl (by omega)⟩
          · exact ⟨some ⟨g, 0, none⟩, cap, h1, .inl (by omega)⟩
      case round =>
        obtain ⟨l, done, m, n, hI⟩ := hrel
        obtain ⟨a, c, rfl, hcase⟩ := hI.left
        have HI := Lib.hid hI
        clear hI
        by_cases hn0 : n = 0
        · subst hn0
          clear hcase
          have hl0 : l = [] := List.eq_nil_of_length_eq_zero HI.out.hn
          have hmm : m = (ordL U r k).length := by have := HI.out.ord; rw [← this, ← HI.out.hm]; simp [selL]
          have hdd : done = ordL U r k := by have := HI.out.ord; rw [← this]; simp [selL]
          go_wp2
          go_ret
          refine ⟨⟨_, rfl, ?_⟩, HAA.out.trans (HI.out.bl.mono HAA.out.size)⟩
          rw [← hmm, ← hdd]
          exact owns_base HI.out.own (by have := HZ.out; omega)
        · obtain ⟨g, rfl, hnc, hown5, hne5⟩ := hcase.resolve_left hn0
          have HO5 := Lib.hid hown5
          have HNE := Lib.hid hne5
          obtain ⟨x, xs, hl⟩ : ∃ x xs, l = x :: xs := by
            cases l with
            | nil => exact absurd HI.out.hn.symm hn0
            | cons x xs => exact ⟨x, xs, rfl⟩
          subst hl
          have hn1 : n = xs.length + 1 := by have := HI.out.hn; simp at this; omega
          have hmn := HI.out.mn
          obtain ⟨b, hb⟩ : ∃ b, bestL (befI U r) x xs = b := ⟨_, rfl⟩
          have hbm : b ∈ x :: xs := by rw [← hb]; exact bestL_mem _ _ _
          obtain ⟨l1, l2, hs, hb1, hb2, her⟩ := split_nd hbm HI.out.nd
          have hlen : n = l1.length + (l2.length + 1) := by have := HI.out.hn; rw [hs] at this; simp at this; omega
          have HBE := Lib.hid (best_w (some ⟨g, 0, none⟩) n c (w.heap.size + 1) w.heap.size k xs x (befI U r) _ (Lib.hid hn1) (by omega) hnc HI.out.lt (Lib.hid (.inr ⟨g, 0, rfl, HO5.out.lt, HO5.out.at_⟩)) (Lib.hid fun i j w2 hi hj h => HB.out i j w2 hi hj (HI.out.bl.trans (h.mono HI.out.bl.size))))
          rw [hb] at HBE
          have n1 : (0 : Int) < (n : Int) := by omega
          have HLN := Lib.hid hlen
          have HN1 := Lib.hid hn1
          clear hcase hown5 hne5 hlen hn1 hbm
          have HS := Lib.hid hs
          have HER := Lib.hid her
          have HBB := Lib.hid hb
          have hm9 : m ≤ 8 := by omega
          have hn9 : n ≤ 1000 := by omega
          clear hs her hb hmn
          go_wp2_with (first
            | (go_at_call 162; refine HBE.out.mono ?_; rintro e w5 ⟨rfl, hv5⟩; have HV5 := Lib.hid hv5; clear hv5)
            | (at_builtin; refine wpList_append_own_at _ rfl (.tmp 27) (.tmp 29) 26 rfl W0.heap.size 3 i0 (.int .i64 0) 1 8 Tryz.underlying26 hi0 hz0 hz1 hz2 rfl (by decide) _ m _ rfl (((owns_below HI.out.own HV5.out).alloc _).alloc _) ⟨_, 0, none⟩ 1 1 [.int .i64 (b : Int)] rfl rfl (lies_any (by first | exact al_top rfl _ _ | exact al_top (by simp) _ _)) (by intro u hu; simp at hu; subst hu; rfl) (by unfold maxLen; omega) (by omega) (by have := HI.out.bl.size; have := HV5.out.size; simp; omega) ?_; intro v7 w7 hown7 hgrow7 _ hloc7; have HOW7 := Lib.hid hown7; have HGR7 := Lib.hid hgrow7; have HLO7 := Lib.hid hloc7; clear hown7 hgrow7 hloc7; have HDL := Lib.hid (del_w g n c w5.heap.size b W0.heap.size l1 l2 w7 HLN hn9 hnc hb1 hb2 (Lib.hid (by rw [← HS.out]; exact grown_own (((HO5.out.below HV5.out).below ((Below.refl _ _).alloc (Nat.le_refl _) _)).below ((Below.refl _ _).alloc (Nat.le_refl _) _)) HGR7.out HNE.out)) (HGR7.out.cell (a := ⟨w5.heap.size, 0, none⟩) (by simp) (fun e => own_lt HI.out.own HV5.out.size e.symm)) (by have := HO5.out.lt; have := HV5.out.size; omega)))
            | (go_at_call 163; refine HDL.out.mono ?_; rintro e w8 ⟨rfl, hown8, hfr8⟩; have HO8 := Lib.hid hown8; have HF8 := Lib.hid hfr8; clear hown8 hfr8))
          have hg7 : v7.ownBlock ≠ some g := by
            rcases HLO7.out with h | h
            · rw [h]; exact HNE.out
            · rw [h]; intro e; injection e with e; have h1 := HO5.out.lt; have h2 := HV5.out.size; simp at e; omega
          have hb7 : Below W0.heap.size W0 w7 := by
            have h1 := HI.out.bl.trans (HV5.out.mono HI.out.bl.size)
            have h2 := (h1.alloc h1.size (.cells #[.int .i64 (b : Int)] 3))
            exact (h2.alloc h2.size _).grown HGR7.out (by have := h1.size; simp; omega) (fun r e => own_ge HI.out.own r e)
          have hb8 : Below W0.heap.size W0 w8 := hb7.trans (HF8.out.below hb7.size (fun q hq => by simp at hq; subst hq; exact HO5.out.lo))
          go_roundw
          case rel =>
            refine ⟨l1 ++ l2, done ++ [b], m + 1, l1.length + l2.length, ⟨by simp [HI.out.hm], by simp, ?_, ?_, ?_, ?_, ?_, ⟨some ⟨g, 0, none⟩, c, rfl, .inr ⟨g, rfl, by have := HLN.out; omega, HO8.out, hg7⟩⟩, hb8⟩⟩
            · have h1 := HI.out.ord
              rw [show n = l1.length + l2.length + 1 by have := HLN.out; omega] at h1
              simp only [selL] at h1
              rw [HBB.out, HER.out] at h1
              rw [← h1]; simp
            · rw [← HER.out]; exact HI.out.nd.erase b
            · intro y hy
              refine HI.out.lt y ?_
              rw [HS.out]
              rcases List.mem_append.1 hy with h | h
              · exact List.mem_append_left _ h
              · exact List.mem_append_right _ (List.mem_cons_of_mem _ h)
            · have := HI.out.mn; have := HLN.out; omega
            · rw [List.map_append]
              exact owns_frx2 HOW7.out HF8.out (fun q hq => by simp at hq; subst hq; exact hg7)
          case measure => show lenV _ < lenV _; simp [lenV]; have := HLN.out; omega
end Go.Kn
