/- Contracts of functions that the laws of this seat call, or the evaluator of closed calls and its runs. Conditions: as each theorem states them. -/
import Derived.Test.YtamoigfafgfimaaGreatDoorIN
set_option linter.unusedVariables false
set_option linter.unusedSimpArgs false
namespace Go.Kn
open Go Go.Proofs Go.RowKit

theorem sm_cons (g : Nat → Int) : ∀ k, sm g (k + 1) = g 0 + sm (fun i => g (i + 1)) k
  | 0 => by simp [sm]
  | k + 1 => by
    have ih := sm_cons g k
    show sm g (k + 1) + g (k + 1) = g 0 + (sm (fun i => g (i + 1)) k + g (k + 1))
    omega
theorem sm_list : ∀ (xs : List Int), sm (fun i => xs.getD i 0) xs.length = xs.sum
  | [] => rfl
  | x :: xs => by
    rw [List.length_cons, sm_cons, List.sum_cons, ← sm_list xs]
    simp

set_option maxRecDepth 100000 in
set_option maxHeartbeats 1000000 in
theorem vsum_w (sa : Option Addr) (n cs : Nat) (s : Nat → Int) (w : World) (hn : n ≤ 100) (hs : Hid (∀ i, i < n → 0 ≤ s i ∧ s i ≤ 200)) (HS : Hid (IntSl w sa n s)) :
    Calls Tryz.prog 88 #[.slice sa n cs] w fun e w' => e = .returned (.int .i64 (sm s n)) ∧ Below w.heap.size w w' := by
  go_enter Tryz.func88, Tryz.ntmps88
  go_wp2
  go_loopw [3, 8] (fun tv ii wr => ∃ k : Nat, k ≤ n ∧ ii = .int .i64 (k : Int) ∧ tv = .int .i64 (sm s k) ∧ Below w.heap.size w wr) (fun _ ii _ => n - (Go.RowKit.intOf ii).toNat)
  case atStart => exact ⟨0, Nat.zero_le _, rfl, rfl, Below.refl _ _⟩
  case round =>
    obtain ⟨k, hk, rfl, rfl, hbw⟩ := hrel
    have HBW := Lib.hid hbw
    by_cases hlt : k < n
    · obtain ⟨A, O, rfl, hA, h1⟩ := HS.out.resolve_left (by omega)
      have y0 := (h1.below hA hbw) k hlt
      have n1 : (0 : Int) ≤ (k : Int) := by omega
      have n2 : (k : Int) < (n : Int) := by omega
      have b1 : ∀ m, m ≤ n → 0 ≤ sm s m ∧ sm s m ≤ 200 * (m : Int) := by
        intro m
        induction m with
        | zero => intro _; simp [sm]
        | succ m ih => intro hm; have := ih (by omega); have := hs.out m (by omega); simp only [sm]; omega
      have b2 := b1 k hk
      have b3 := hs.out k hlt
      have wr1 : wrap64 (sm s k + s k) = sm s k + s k := by unfold wrap64; omega
      have HT : Hid (sm s (k + 1) = sm s k + s k) := Lib.hid rfl
      generalize sm s k = tk at *
      clear h1 hbw b1 b2 b3
      go_wp2
      go_roundw
      case rel => exact ⟨k + 1, by omega, by go_num, by rw [HT.out, wr1], HBW.out⟩
      case measure => simp [Go.RowKit.intOf]; omega
    · have hkl : n = k := by omega
      subst hkl
      clear hbw
      go_wp2
      go_ret
      exact ⟨rfl, HBW.out⟩

set_option maxRecDepth 100000 in
set_option maxHeartbeats 1000000 in
theorem claims_w (f c : Int) (na oa : Option Addr) (ln cn lo co : Nat) (N : Nat → N2) (U : Nat → O3) (w : World) (HR : Hid (TreeP f ln lo N U)) (H : Hid (Tr7 w na oa ln lo N U)) :
    Calls Tryz.prog 89 #[.agg #[.int .i64 f, .slice na ln cn, .slice oa lo co], .int .i64 c] w fun e w' => (∃ sa n cs s, e = .returned (.slice sa n cs) ∧ IntSl w' sa n s ∧ sm s n = claimT U c lo ∧ n ≤ 8 ∧ ∀ i, i < n → 0 ≤ s i ∧ s i ≤ 200) ∧ Below w.heap.size w w' := by
  have q2 := HR.out.lo2
  have q3 := HR.out.lo1
  obtain ⟨i0, hi0, hz0, hz1, hz2⟩ := info_parts info3'
  obtain ⟨C, P, hoa, hC, hn⟩ := H.out.ho.resolve_left (by omega)
  subst hoa
  obtain ⟨WA, hWA⟩ : ∃ WA, WA = w.alloc (.cells #[.int .i64 f, .slice na ln cn, .slice (some ⟨C, P, none⟩) lo co] 25) := ⟨_, rfl⟩
  have hA : Below w.heap.size w WA := by rw [hWA]; exact (Below.refl _ _).alloc (Nat.le_refl _) _
  have hzA : WA.heap.size = w.heap.size + 1 := by rw [hWA]; simp
  have HX : Hid (∀ w2, Below WA.heap.size WA w2 → w2.cell? ⟨w.heap.size, 2, none⟩ = some (.slice (some ⟨C, P, none⟩) lo co) ∧ ∀ k, k < lo → w2.cell? ⟨C, P + k * 3, none⟩ = some (.int .i64 (U k).n) ∧ w2.cell? ⟨C, P + k * 3 + 1, none⟩ = some (.int .i64 (U k).c) ∧ w2.cell? ⟨C, P + k * 3 + 2, none⟩ = some (.int .i64 (U k).k)) := Lib.hid fun w2 h => by
    obtain ⟨c, _⟩ := bcell h
    have hb := hA.trans (h.mono hA.size)
    exact ⟨(c _ _ (by omega)).trans (by rw [hWA]; simp), fun k hk => ⟨(hb.cell (p := ⟨C, P + k * 3, none⟩) hC).trans (hn k hk).1, (hb.cell (p := ⟨C, P + k * 3 + 1, none⟩) hC).trans (hn k hk).2.1, (hb.cell (p := ⟨C, P + k * 3 + 2, none⟩) hC).trans (hn k hk).2.2⟩⟩
  have HA := Lib.hid hA
  clear hA hn hzA
  obtain ⟨x1, _⟩ := HX.out WA (Below.refl _ _)
  go_enter Tryz.func89, Tryz.ntmps89
  go_wp2
  rw [← hWA]
  clear hWA x1
  go_loopw [4, 10] (fun v ii wr => ∃ (k : Nat) (xs : List Int), k ≤ lo ∧ ii = .int .i64 (k : Int) ∧ wr.ownsRow WA.heap.size 3 1 v xs.length (xs.map (Value.int .i64)) ∧ Below WA.heap.size WA wr ∧ xs.length ≤ k ∧ xs.sum = claimT U c k ∧ ∀ x ∈ xs, 0 ≤ x ∧ x ≤ 200) (fun _ ii _ => lo - (Go.RowKit.intOf ii).toNat)
  case atStart => exact ⟨0, [], Nat.zero_le _, rfl, ⟨rfl, .inl ⟨rfl, rfl⟩⟩, Below.refl _ _, Nat.le_refl _, rfl, by simp⟩
  case round =>
    obtain ⟨k, xs, hk, rfl, hown, hbw, hlen, hsum, hbd⟩ := hrel
    have HOW := Lib.hid hown
    have HBW := Lib.hid hbw
    have HSU := Lib.hid (And.intro hsum hbd)
    obtain ⟨y1, y2⟩ := HX.out _ hbw
    have hsw := hbw.size
    clear hown hbw hsum hbd
    by_cases hlt : k < lo
    · obtain ⟨y3, y4, y5⟩ := y2 k hlt
      have n1 : (0 : Int) ≤ (k : Int) := by omega
      have n2 : (k : Int) < (lo : Int) := by omega
      have hoc := (tree_o HR.out hlt).2.1
      have HOC := Lib.hid hoc
      obtain ⟨m, hm⟩ : ∃ m, xs.length = m := ⟨_, rfl⟩
      rw [hm] at HOW hlen
      have HM := Lib.hid hm
      clear y2 hm hoc
      by_cases hc : (U k).k ≤ c
      · have HC : Hid (claimT U c (k + 1) = claimT U c k + (U k).c) := Lib.hid (by unfold claimT; simp only [sm]; rw [if_pos hc])
        go_wp2_with (at_builtin; refine wpList_append_own_at _ rfl (.tmp 18) (.tmp 21) 26 rfl WA.heap.size 3 i0 (.int .i64 0) 1 8 Tryz.underlying26 hi0 hz0 hz1 hz2 rfl (by decide) _ m _ rfl ((HOW.out.alloc _).alloc _) ⟨_, 0, none⟩ 1 1 [.int .i64 (U k).c] rfl rfl (lies_any (by first | exact al_top rfl _ _ | exact al_top (by simp) _ _)) (by intro u hu; simp at hu; subst hu; rfl) (by unfold maxLen; omega) (by omega) (by simp; omega) ?_; intro v7 w7 hown7 hgrow7 _ hloc7)
        have hb7 : Below WA.heap.size WA w7 := ((HBW.out.alloc hsw _).alloc (by simp; omega) _).grown hgrow7 (by simp; omega) (fun r e => by have := own_ge HOW.out r e; omega)
        go_roundw
        case rel =>
          have hs := HSU.out
          have ho := HOC.out
          refine ⟨k + 1, xs ++ [(U k).c], by omega, by go_num, ?_, hb7, by simp [HM.out]; omega, ?_, ?_⟩
          · rw [List.length_append, List.map_append, HM.out]; exact hown7
          · rw [List.sum_append, List.sum_singleton, HC.out, hs.1]
          · intro x hx
            rcases List.mem_append.1 hx with h | h
            · exact hs.2 x h
            · simp at h; subst h; omega
        case measure => simp [Go.RowKit.intOf]; omega
      · have HC : Hid (claimT U c (k + 1) = claimT U c k) := Lib.hid (by unfold claimT; simp only [sm]; rw [if_neg hc]; omega)
        go_wp2
        go_roundw
        case rel =>
          have hs := HSU.out
          exact ⟨k + 1, xs, by omega, by go_num, by rw [HM.out]; exact HOW.out.alloc _, HBW.out.alloc hsw _, by rw [HM.out]; omega, by rw [HC.out]; exact hs.1, hs.2⟩
        case measure => simp [Go.RowKit.intOf]; omega
    · obtain rfl : k = lo := by omega
      obtain ⟨sa, cap, rfl, hl4, hsl⟩ := intSl_of_owns HOW.out
      have HSL := Lib.hid hsl
      clear hsl hl4 y1 y2
      go_wp2
      go_ret
      have hs := HSU.out
      refine ⟨⟨sa, xs.length, cap, fun i => xs.getD i 0, rfl, HSL.out, by rw [sm_list]; exact hs.1, by omega, fun i hi => ?_⟩, HA.out.trans (HBW.out.mono HA.out.size)⟩
      have : xs.getD i 0 = xs[i]'hi := by simp [List.getD, hi]
      show 0 ≤ xs.getD i 0 ∧ xs.getD i 0 ≤ 200
      rw [this]
      exact hs.2 _ (List.getElem_mem _)

set_option maxRecDepth 100000 in
set_option maxHeartbeats 1000000 in
theorem kept_w (f c : Int) (na oa : Option Addr) (ln cn lo co cs cf sv SH FL : Nat) (N : Nat → N2) (U : Nat → O3) (s : Nat → Int) (w : World) (hlo : lo ≤ 8) (hs : Hid (∀ i, i < lo → s i ≤ (U i).c)) (H : Hid (Tr7 w na oa ln lo N U)) (HS : Hid (SvS w sv SH FL f na oa ln cn lo co cs cf N U s)) :
    Calls Tryz.prog 90 #[.pointer (some ⟨sv, 0, none⟩), .int .i64 c] w fun e w' => (∃ rb : Bool, e = .returned (.bool rb) ∧ (rb = true ↔ FullP lo U s c)) ∧ Below w.heap.size w w' := by
  have x1 := HS.out.at_.c2
  go_enter Tryz.func90, Tryz.ntmps90
  go_wp2
  clear x1
  go_loopw [12] (fun ii wr => ∃ k : Nat, k ≤ lo ∧ ii = .int .i64 (k : Int) ∧ (∀ i, i < k → (U i).k ≤ c → (U i).c ≤ s i) ∧ Below w.heap.size w wr) (fun ii _ => lo - (Go.RowKit.intOf ii).toNat)
  case atStart => exact ⟨0, Nat.zero_le _, rfl, fun i hi => by omega, Below.refl _ _⟩
  case round =>
    obtain ⟨k, hk, rfl, hall, hbw⟩ := hrel
    have HAL := Lib.hid hall
    have HBW := Lib.hid hbw
    by_cases hlt : k < lo
    · obtain ⟨C, P, hoa, hC, hn⟩ := H.out.ho.resolve_left (by omega)
      subst hoa
      have x1 := (HS.out.below hbw).at_.c2
      have x2 := (hbw.cell (p := ⟨C, P + k * 3 + 2, none⟩) hC).trans (hn k hlt).2.2
      have HIS := Lib.hid (isServed_w f na _ ln cn lo co cs cf sv SH FL k N U s wr hlt (Lib.hid (H.out.below hbw)) (Lib.hid (HS.out.below hbw)))
      have n1 : (0 : Int) ≤ (k : Int) := by omega
      have n2 : (k : Int) < (lo : Int) := by omega
      clear hall hbw hn
      by_cases hc : (U k).k ≤ c
      · by_cases he : s k = (U k).c
        · have hd : decide (s k = (U k).c) = true := decide_eq_true he
          rw [hd] at HIS
          have HE := Lib.hid he
          clear he hd
          go_wp2_with (go_at_call 75; refine HIS.out.mono ?_; rintro e w5 ⟨rfl, hb5⟩)
          go_roundw
          case rel => exact ⟨k + 1, by omega, by go_num, fun i hi hik => by
            by_cases e : i = k
            · subst e; rw [HE.out]; exact Int.le_refl _
            · exact HAL.out i (by omega) hik, HBW.out.trans (hb5.mono HBW.out.size)⟩
          case measure => simp [Go.RowKit.intOf]; omega
        · have hd : decide (s k = (U k).c) = false := decide_eq_false he
          rw [hd] at HIS
          have HE := Lib.hid he
          have HC := Lib.hid hc
          clear he hd
          go_wp2_with (go_at_call 75; refine HIS.out.mono ?_; rintro e w5 ⟨rfl, hb5⟩)
          go_ret
          exact ⟨⟨false, rfl, no_iff fun h => HE.out (by have := h k hlt HC.out; have := hs.out k hlt; omega)⟩, HBW.out.trans (hb5.mono HBW.out.size)⟩
      · have HC := Lib.hid hc
        go_wp2
        go_roundw
        case rel => exact ⟨k + 1, by omega, by go_num, fun i hi hik => by
            by_cases e : i = k
            · subst e; exact (HC.out hik).elim
            · exact HAL.out i (by omega) hik, HBW.out⟩
        case measure => simp [Go.RowKit.intOf]; omega
    · obtain rfl : k = lo := by omega
      have x1 := (HS.out.below hbw).at_.c2
      clear hall hbw
      go_wp2
      go_ret
      exact ⟨⟨true, rfl, fun _ => HAL.out, fun _ => rfl⟩, HBW.out⟩
end Go.Kn

namespace Go.Kn
open Go Go.Proofs Go.RowKit

set_option maxRecDepth 100000 in
set_option maxHeartbeats 2000000 in
theorem keeps_bad (f c : Int) (na oa : Option Addr) (ln cn lo co : Nat) (N : Nat → N2) (U : Nat → O3) (w : World) (hls : ln ≤ 1000000) (hlt : lo ≤ 1000000) (H : Hid (Tr7 w na oa ln lo N U)) (HB : Hid (¬ TreeP f ln lo N U ∨ fromB 0 3 c = false)) :
    Calls Tryz.prog 47 #[.agg #[.int .i64 f, .slice na ln cn, .slice oa lo co], .int .i64 c] w fun e w' => e = .returned (.tuple #[.int .i64 0, .int .i64 2]) ∧ Below w.heap.size w w' := by
  have hbW : Below w.heap.size w (w.alloc (.cells #[.int .i64 f, .slice na ln cn, .slice oa lo co] 25)) := (Below.refl _ _).alloc (Nat.le_refl _) _
  have HIT := Lib.hid (isTree_w f na oa ln cn lo co N U (w.alloc (.cells #[.int .i64 f, .slice na ln cn, .slice oa lo co] 25)) hls hlt (Lib.hid (H.out.below hbW)))
  clear hbW
  by_cases hT : TreeP f ln lo N U
  · have h1 : fromB 0 3 c = false := HB.out.resolve_left (fun h => h hT)
    have H1 := Lib.hid h1
    clear h1
    go_enter Tryz.func47, Tryz.ntmps47
    go_wp2_with (first
      | (go_at_call 61; refine HIT.out.mono ?_; rintro e w1 ⟨⟨rb, rfl, hrb⟩, hb1⟩; obtain rfl : rb = true := hrb.2 hT; clear hrb)
      | (go_at_call 87; refine (isClass_w c _).mono ?_; rw [H1.out]; rintro e w2 ⟨rfl, rfl⟩))
    refine bodyPost_ret (v := .tuple #[.int .i64 0, .int .i64 2]) (by simp [results, Tryz.results47, go_sem]) rfl ⟨rfl, below_al hb1⟩
  · go_enter Tryz.func47, Tryz.ntmps47
    go_wp2_with (go_at_call 61; refine HIT.out.mono ?_; rintro e w1 ⟨⟨rb, rfl, hrb⟩, hb1⟩; obtain rfl : rb = false := (by cases rb <;> first | rfl | exact (hT (hrb.1 rfl)).elim); clear hrb)
    refine bodyPost_ret (v := .tuple #[.int .i64 0, .int .i64 2]) (by simp [results, Tryz.results47, go_sem]) rfl ⟨rfl, below_al hb1⟩

set_option maxRecDepth 100000 in
set_option maxHeartbeats 2000000 in
theorem keeps_w (f c : Int) (na oa : Option Addr) (ln cn lo co : Nat) (N : Nat → N2) (U : Nat → O3) (X : Nat → Nat → Int) (w : World) (hc : fromB 0 3 c = true) (HR : Hid (TreeP f ln lo N U)) (H : Hid (Tr7 w na oa ln lo N U)) (HX : Hid (XS lo N U X)) :
    Calls Tryz.prog 47 #[.agg #[.int .i64 f, .slice na ln cn, .slice oa lo co], .int .i64 c] w fun e w' => (∃ rn re, e = .returned (.tuple #[.int .i64 rn, .int .i64 re]) ∧ NeedR (fun n => FullP lo U (X n) c) rn re) ∧ Below w.heap.size w w' := by
  have q1 := HR.out.l6
  have q2 := HR.out.lo2
  have HC := Lib.hid hc
  have BX := Lib.hid (fun (w1 : World) (hb : Below (w.alloc (.cells #[.int .i64 f, .slice na ln cn, .slice oa lo co] 25)).heap.size (w.alloc (.cells #[.int .i64 f, .slice na ln cn, .slice oa lo co] 25)) w1) => box7 hb)
  have HN : Hid (∀ w1, Below (w.alloc (.cells #[.int .i64 f, .slice na ln cn, .slice oa lo co] 25)).heap.size (w.alloc (.cells #[.int .i64 f, .slice na ln cn, .slice oa lo co] 25)) w1 → Hid (Tr7 w1 na oa ln lo N U)) := Lib.hid fun w1 h => Lib.hid (H.out.below (below_al h))
  have hb : Below (w.alloc (.cells #[.int .i64 f, .slice na ln cn, .slice oa lo co] 25)).heap.size (w.alloc (.cells #[.int .i64 f, .slice na ln cn, .slice oa lo co] 25)) (w.alloc (.cells #[.int .i64 f, .slice na ln cn, .slice oa lo co] 25)) := Below.refl _ _
  obtain ⟨x1, x2, x3, x4⟩ := BX.out _ hb
  have hcb : 0 ≤ claimT U c lo := by
    have := sm_le (g := fun _ => 0) (h := fun i => if (U i).k ≤ c then (U i).c else 0) lo (fun i hi => by have := (tree_o HR.out hi).2.1; split <;> omega)
    rw [sm_zero lo (fun _ _ => rfl)] at this
    exact this
  obtain ⟨C, hC⟩ : ∃ C : Nat, claimT U c lo = (C : Int) := ⟨(claimT U c lo).toNat, by omega⟩
  have HCL := Lib.hid hC
  have HNO : Hid (∀ n : Nat, n ≤ 200 → FullP lo U (X n) c → C ≤ 200 ∧ C ≤ n ∧ FullP lo U (X C) c) := Lib.hid fun n hn h => by
    have h1 := keeps_a HR.out HX.out hn h
    have h2 := keeps_b HR.out HX.out hn h hC
    exact ⟨by omega, by omega, h2⟩
  have HTC : Hid (∀ n : Nat, n ≤ 200 → TreeP (n : Int) ln lo N U) := Lib.hid fun n hn => tree_with HR.out (by omega) (by omega)
  have HVD : Hid (∀ n : Nat, n ≤ 200 → ∀ i, i < lo → X n i ≤ (U i).c) := Lib.hid fun n hn i hi => ((xs_vd HR.out HX.out hn).bd i hi).2
  clear H hc hC hcb
  go_enter Tryz.func47, Tryz.ntmps47
  go_wp2_with (first
    | (go_at_call 61; refine (isTree_w f na oa ln cn lo co N U _ (by omega) (by omega) (HN.out _ hb)).mono ?_; rintro e wl ⟨⟨rb, rfl, hrb⟩, hv⟩; obtain rfl : rb = true := hrb.2 HR.out; clear hrb; replace hb := hb.trans (hv.mono hb.size); clear x1 x2 x3 x4; obtain ⟨x1, x2, x3, x4⟩ := BX.out _ hb)
    | (go_at_call 87; refine (isClass_w c _).mono ?_; rw [HC.out]; rintro e w2 ⟨rfl, rfl⟩)
    | (go_at_call 89; refine (claims_w f c na oa ln cn lo co N U _ HR (HN.out _ hb)).mono ?_; rintro e wl ⟨⟨sa, n, cs, s, rfl, hs, hsm, hn8, hbd⟩, hv⟩; replace hb := hb.trans (hv.mono hb.size); clear x1 x2 x3 x4; obtain ⟨x1, x2, x3, x4⟩ := BX.out _ hb; have HS := Lib.hid hs; have HSM := Lib.hid hsm; have HBD := Lib.hid hbd; clear hs hsm hbd)
    | (go_at_call 88; refine (vsum_w sa n cs s _ (by omega) HBD HS).mono ?_; rw [HSM.out, HCL.out]; rintro e wl ⟨rfl, hv⟩; replace hb := hb.trans (hv.mono hb.size); clear x1 x2 x3 x4; obtain ⟨x1, x2, x3, x4⟩ := BX.out _ hb)
    | (go_at_call 82; refine (areCups_w _ _).mono ?_; rintro e w9 ⟨rfl, rfl⟩; cases hfb : fromB 0 200 (C : Int) <;> (have HFB := Lib.hid hfb; clear hfb))
    | (go_at_call 83; refine (wif_w f (C : Int) na oa ln cn lo co _).mono ?_; rintro e wl ⟨rfl, hv⟩; replace hb := hb.trans (hv.mono hb.size); clear x1 x2 x3 x4; obtain ⟨x1, x2, x3, x4⟩ := BX.out _ hb)
    | (go_at_call 68; refine (lawful_w (C : Int) na oa ln cn lo co N U _ (Lib.hid (HTC.out C (by have := HFB.out; simp [fromB] at this; omega))) (HN.out _ hb)).mono ?_; rintro e wl ⟨⟨sv, SH, FL, k1, k2, t, rfl, h1, h2, h3, h4, h5⟩, hv⟩; replace hb := hb.trans (hv.mono hb.size); clear x1 x2 x3 x4; obtain ⟨x1, x2, x3, x4⟩ := BX.out _ hb; obtain rfl : t = X C := h2.det (HX.out C (by have := HFB.out; simp [fromB] at this; omega)); have HSV := Lib.hid h1; clear h1 h2 h3 h4 h5)
    | (go_at_call 90; refine (kept_w (C : Int) c na oa ln cn lo co k1 k2 sv SH FL N U (X C) _ q2 (Lib.hid (HVD.out C (by have := HFB.out; simp [fromB] at this; omega))) (HN.out _ hb) HSV).mono ?_; rintro e wl ⟨⟨rb, rfl, hrb⟩, hv⟩; replace hb := hb.trans (hv.mono hb.size); have HRB := Lib.hid hrb; clear hrb; cases hrv : rb <;> (have HRV := Lib.hid hrv; clear hrv)))
  · refine bodyPost_ret (v := .tuple #[.int .i64 0, .int .i64 5]) (by simp [results, Tryz.results47, go_sem]) rfl ?_
    refine ⟨⟨0, 5, rfl, .inr ⟨rfl, rfl, fun m hm hp => ?_⟩⟩, below_al hb⟩
    have h1 := HNO.out m hm hp
    have h2 := HFB.out
    simp only [fromB, decide_eq_false_iff_not] at h2
    omega
  · refine bodyPost_ret (v := .tuple #[.int .i64 0, .int .i64 5]) (by simp [results, Tryz.results47, go_sem]) rfl ?_
    refine ⟨⟨0, 5, rfl, .inr ⟨rfl, rfl, fun m hm hp => ?_⟩⟩, below_al hb⟩
    have h1 := HRB.out.2 (HNO.out m hm hp).2.2
    rw [HRV.out] at h1
    cases h1
  · refine bodyPost_ret (v := .tuple #[.int .i64 (C : Int), .int .i64 0]) (by simp [results, Tryz.results47, go_sem]) rfl ?_
    have h2 := HFB.out
    simp only [fromB, decide_eq_true_eq] at h2
    exact ⟨⟨(C : Int), 0, rfl, .inl ⟨rfl, C, rfl, by omega, HRB.out.1 HRV.out, fun m hm hp => by have := HNO.out m (by omega) hp; omega⟩⟩, below_al hb⟩
end Go.Kn

namespace Go.Kn
open Go Go.Proofs Go.RowKit

set_option maxRecDepth 100000 in
set_option maxHeartbeats 2000000 in
theorem rneeds_w (f c : Int) (na oa : Option Addr) (ln cn lo co i : Nat) (N : Nat → N2) (U : Nat → O3) (X : Nat → Nat → Int) (w : World) (hi : i < lo) (HR : Hid (TreeP f ln lo N U)) (H : Hid (Tr7 w na oa ln lo N U)) (HX : Hid (XS lo N U X)) :
    Calls Tryz.prog 50 #[.agg #[.int .i64 f, .slice na ln cn, .slice oa lo co], .int .i64 (i : Int), .int .i64 c] w fun e w' => (∃ r, e = .returned (.int .i64 r) ∧ RefR (fun n => c ≤ X n i) r) ∧ Below w.heap.size w w' := by
  have q2 := HR.out.lo2
  obtain ⟨WA, hWA⟩ : ∃ WA, WA = w.alloc (.cells #[.int .i64 f, .slice na ln cn, .slice oa lo co] 25) := ⟨_, rfl⟩
  have hA : Below w.heap.size w WA := by rw [hWA]; exact (Below.refl _ _).alloc (Nat.le_refl _) _
  have hzA : WA.heap.size = w.heap.size + 1 := by rw [hWA]; simp
  have HB : Hid (∀ w2, Below WA.heap.size WA w2 → w2.cell? ⟨w.heap.size, 0, none⟩ = some (.int .i64 f) ∧ w2.cell? ⟨w.heap.size, 1, none⟩ = some (.slice na ln cn) ∧ w2.cell? ⟨w.heap.size, 2, none⟩ = some (.slice oa lo co)) := Lib.hid fun w2 h => by
    obtain ⟨c, _⟩ := bcell h
    exact ⟨(c _ _ (by omega)).trans (by rw [hWA]; simp), (c _ _ (by omega)).trans (by rw [hWA]; simp), (c _ _ (by omega)).trans (by rw [hWA]; simp)⟩
  have HSH : Hid (∀ (n : Nat) w2, n ≤ 200 → Below WA.heap.size WA w2 → Calls Tryz.prog 24 #[.agg #[.int .i64 (n : Int), .slice na ln cn, .slice oa lo co]] w2 fun e w' =>
      (∃ A O cs, e = .returned (.slice (some ⟨A, O, none⟩) lo cs) ∧ w'.cell? ⟨A, O + i, none⟩ = some (.int .i64 (X n i))) ∧ Below WA.heap.size WA w') := Lib.hid fun n w2 hn h => by
    refine (rshares_w (n : Int) na oa ln cn lo co N U w2 (Lib.hid (tree_with HR.out (by omega) (by omega))) (Lib.hid (H.out.below (hA.trans (h.mono hA.size))))).mono ?_
    rintro e w' ⟨⟨sa, cs, t, he, hs, ho⟩, hb⟩
    obtain rfl : t = X n := ho.det (HX.out n hn)
    obtain ⟨A, O, rfl, hA2, hnm⟩ := hs.resolve_left (by omega)
    exact ⟨⟨A, O, cs, he, hnm i hi⟩, h.trans (hb.mono h.size)⟩
  have HA := Lib.hid hA
  have n1 : (0 : Int) ≤ (i : Int) := by omega
  have n2 : (i : Int) < (lo : Int) := by omega
  clear hA hzA
  go_enter Tryz.func50, Tryz.ntmps50
  go_wp2
  rw [← hWA]
  clear hWA
  go_loopw [7] (fun nn wr => ∃ n : Nat, n ≤ 201 ∧ nn = .int .i64 (n : Int) ∧ (∀ m, m < n → X m i < c) ∧ Below WA.heap.size WA wr) (fun nn _ => 201 - (Go.RowKit.intOf nn).toNat)
  case atStart => exact ⟨0, by omega, rfl, fun m hm => by omega, Below.refl _ _⟩
  case round =>
    obtain ⟨n, hn, rfl, hno, hbw⟩ := hrel
    have HNO := Lib.hid hno
    have HBW := Lib.hid hbw
    obtain ⟨x1, x2, x3⟩ := HB.out _ hbw
    clear hno hbw
    by_cases hlt : n ≤ 200
    · have n3 : (n : Int) ≤ 200 := by omega
      by_cases hp : c ≤ X n i
      · have HP := Lib.hid hp
        go_wp2_with (first
          | (go_at_call 43; refine (with_w _ _ _ _ _ _ _ _ _).mono ?_; rintro e w3 ⟨rfl, hv3⟩; have HB3 := Lib.hid (HBW.out.trans (hv3.mono HBW.out.size)); clear hv3)
          | (go_at_call 24; refine (HSH.out n w3 hlt HB3.out).mono ?_; rintro e w4 ⟨⟨A, O, cs, rfl, y1⟩, hb4⟩))
        go_ret
        exact ⟨⟨(n : Int), rfl, .inl ⟨n, rfl, hlt, HP.out, fun m hm => Int.not_le.2 (HNO.out m hm)⟩⟩, HA.out.trans (hb4.mono HA.out.size)⟩
      · have HP := Lib.hid hp
        go_wp2_with (first
          | (go_at_call 43; refine (with_w _ _ _ _ _ _ _ _ _).mono ?_; rintro e w3 ⟨rfl, hv3⟩; have HB3 := Lib.hid (HBW.out.trans (hv3.mono HBW.out.size)); clear hv3)
          | (go_at_call 24; refine (HSH.out n w3 hlt HB3.out).mono ?_; rintro e w4 ⟨⟨A, O, cs, rfl, y1⟩, hb4⟩))
        go_roundw
        case rel => exact ⟨n + 1, by omega, by go_num, fun m hm => by
          by_cases e : m = n
          · subst e; exact HP.out
          · exact HNO.out m (by omega), hb4⟩
        case measure => simp [Go.RowKit.intOf]; omega
    · have n3 : ¬ (n : Int) ≤ 200 := by omega
      go_wp2
      go_ret
      exact ⟨⟨-1, rfl, .inr ⟨rfl, fun m hm => Int.not_le.2 (HNO.out m (by omega))⟩⟩, HA.out.trans (HBW.out.mono HA.out.size)⟩

set_option maxRecDepth 100000 in
set_option maxHeartbeats 2000000 in
theorem rfull_w (f c : Int) (na oa sa : Option Addr) (ln cn lo co cs : Nat) (N : Nat → N2) (U : Nat → O3) (s : Nat → Int) (w : World) (hlo : lo ≤ 8) (H : Hid (Tr7 w na oa ln lo N U)) (HS : Hid (IntSl w sa lo s)) :
    Calls Tryz.prog 51 #[.agg #[.int .i64 f, .slice na ln cn, .slice oa lo co], .slice sa lo cs, .int .i64 c] w fun e w' => (∃ rb : Bool, e = .returned (.bool rb) ∧ (rb = true ↔ FullP lo U s c)) ∧ Below w.heap.size w w' := by
  obtain ⟨WA, hWA⟩ : ∃ WA, WA = w.alloc (.cells #[.int .i64 f, .slice na ln cn, .slice oa lo co] 25) := ⟨_, rfl⟩
  have hA : Below w.heap.size w WA := by rw [hWA]; exact (Below.refl _ _).alloc (Nat.le_refl _) _
  have hzA : WA.heap.size = w.heap.size + 1 := by rw [hWA]; simp
  have HB : Hid (∀ w2, Below WA.heap.size WA w2 → w2.cell? ⟨w.heap.size, 2, none⟩ = some (.slice oa lo co)) := Lib.hid fun w2 h => by
    obtain ⟨c, _⟩ := bcell h
    exact (c _ _ (by omega)).trans (by rw [hWA]; simp)
  have HA := Lib.hid hA
  clear hA hzA
  go_enter Tryz.func51, Tryz.ntmps51
  go_wp2
  rw [← hWA]
  clear hWA
  go_loopw [7] (fun ii wr => ∃ k : Nat, k ≤ lo ∧ ii = .int .i64 (k : Int) ∧ (∀ i, i < k → (U i).k ≤ c → (U i).c ≤ s i) ∧ Below WA.heap.size WA wr) (fun ii _ => lo - (Go.RowKit.intOf ii).toNat)
  case atStart => exact ⟨0, Nat.zero_le _, rfl, fun i hi => by omega, Below.refl _ _⟩
  case round =>
    obtain ⟨k, hk, rfl, hall, hbw⟩ := hrel
    have HAL := Lib.hid hall
    have HBW := Lib.hid hbw
    have x1 := HB.out _ hbw
    have hb0 := HA.out.trans (hbw.mono HA.out.size)
    clear hall hbw
    by_cases hlt : k < lo
    · obtain ⟨C, P, hoa, hC, hn⟩ := H.out.ho.resolve_left (by omega)
      obtain ⟨A, O, hsa, hA, hm⟩ := HS.out.resolve_left (by omega)
      subst hoa hsa
      have x2 := (hb0.cell (p := ⟨C, P + k * 3 + 2, none⟩) hC).trans (hn k hlt).2.2
      have x3 := (hb0.cell (p := ⟨C, P + k * 3 + 1, none⟩) hC).trans (hn k hlt).2.1
      have x4 := (hb0.cell (p := ⟨A, O + k, none⟩) hA).trans (hm k hlt)
      have n1 : (0 : Int) ≤ (k : Int) := by omega
      have n2 : (k : Int) < (lo : Int) := by omega
      clear hn hm hb0
      by_cases hc : (U k).k ≤ c
      · by_cases he : s k < (U k).c
        · have HE := Lib.hid he
          have HC := Lib.hid hc
          go_wp2
          go_quiet (fail)
          go_wp2
          go_ret
          exact ⟨⟨false, rfl, no_iff fun h => by have h1 := h k hlt HC.out; have h2 := HE.out; omega⟩, HA.out.trans (below_drewM (HBW.out.mono HA.out.size) _)⟩
        · have HE := Lib.hid he
          go_wp2
          go_quiet (fail)
          go_wp2
          go_roundw
          case rel => exact ⟨k + 1, by omega, by go_num, fun i hi hik => by
            by_cases e : i = k
            · subst e; have := HE.out; omega
            · exact HAL.out i (by omega) hik, below_drewM HBW.out _⟩
          case measure => simp [Go.RowKit.intOf]; omega
      · have HC := Lib.hid hc
        have hd : decide ((U k).k ≤ c) = false := decide_eq_false hc
        clear hc
        go_wp2
        go_quiet (fail)
        go_wp2
        go_roundw
        case rel => exact ⟨k + 1, by omega, by go_num, fun i hi hik => by
            by_cases e : i = k
            · subst e; have := HC.out; omega
            · exact HAL.out i (by omega) hik, below_drewM HBW.out _⟩
        case measure => simp [Go.RowKit.intOf]; omega
    · obtain rfl : k = lo := by omega
      clear hb0
      go_wp2
      go_ret
      exact ⟨⟨true, rfl, fun _ => HAL.out, fun _ => rfl⟩, HA.out.trans (HBW.out.mono HA.out.size)⟩
end Go.Kn

namespace Go.Kn
open Go Go.Proofs Go.RowKit

set_option maxRecDepth 100000 in
set_option maxHeartbeats 2000000 in
theorem rkeeps_w (f c : Int) (na oa : Option Addr) (ln cn lo co : Nat) (N : Nat → N2) (U : Nat → O3) (X : Nat → Nat → Int) (w : World) (HR : Hid (TreeP f ln lo N U)) (H : Hid (Tr7 w na oa ln lo N U)) (HX : Hid (XS lo N U X)) :
    Calls Tryz.prog 49 #[.agg #[.int .i64 f, .slice na ln cn, .slice oa lo co], .int .i64 c] w fun e w' => (∃ r, e = .returned (.int .i64 r) ∧ RefR (fun n => FullP lo U (X n) c) r) ∧ Below w.heap.size w w' := by
  have q2 := HR.out.lo2
  have hmx : Tryz.prog.follows .mixedOrders = true := by kernel_rfl
  obtain ⟨WA, hWA⟩ : ∃ WA, WA = w.alloc (.cells #[.int .i64 f, .slice na ln cn, .slice oa lo co] 25) := ⟨_, rfl⟩
  have hA : Below w.heap.size w WA := by rw [hWA]; exact (Below.refl _ _).alloc (Nat.le_refl _) _
  have hzA : WA.heap.size = w.heap.size + 1 := by rw [hWA]; simp
  have HB : Hid (∀ w2, Below WA.heap.size WA w2 → w2.cell? ⟨w.heap.size, 0, none⟩ = some (.int .i64 f) ∧ w2.cell? ⟨w.heap.size, 1, none⟩ = some (.slice na ln cn) ∧ w2.cell? ⟨w.heap.size, 2, none⟩ = some (.slice oa lo co)) := Lib.hid fun w2 h => by
    obtain ⟨c, _⟩ := bcell h
    exact ⟨(c _ _ (by omega)).trans (by rw [hWA]; simp), (c _ _ (by omega)).trans (by rw [hWA]; simp), (c _ _ (by omega)).trans (by rw [hWA]; simp)⟩
  have HSH : Hid (∀ (n : Nat) w2, n ≤ 200 → Below WA.heap.size WA w2 → Calls Tryz.prog 24 #[.agg #[.int .i64 (n : Int), .slice na ln cn, .slice oa lo co]] w2 fun e w' =>
      (∃ sa cs, e = .returned (.slice sa lo cs) ∧ IntSl w' sa lo (X n)) ∧ Below w2.heap.size w2 w') := Lib.hid fun n w2 hn h => by
    refine (rshares_w (n : Int) na oa ln cn lo co N U w2 (Lib.hid (tree_with HR.out (by omega) (by omega))) (Lib.hid (H.out.below (hA.trans (h.mono hA.size))))).mono ?_
    rintro e w' ⟨⟨sa, cs, t, he, hs, ho⟩, hb⟩
    obtain rfl : t = X n := ho.det (HX.out n hn)
    exact ⟨⟨sa, cs, he, hs⟩, hb⟩
  have HT : Hid (∀ w2, Below WA.heap.size WA w2 → Hid (Tr7 w2 na oa ln lo N U)) := Lib.hid fun w2 h => Lib.hid (H.out.below (hA.trans (h.mono hA.size)))
  have HA := Lib.hid hA
  clear hA hzA
  go_enter Tryz.func49, Tryz.ntmps49
  go_wp2
  rw [← hWA]
  clear hWA
  go_loopw [5] (fun nn wr => ∃ n : Nat, n ≤ 201 ∧ nn = .int .i64 (n : Int) ∧ (∀ m, m < n → ¬ FullP lo U (X m) c) ∧ Below WA.heap.size WA wr) (fun nn _ => 201 - (Go.RowKit.intOf nn).toNat)
  case atStart => exact ⟨0, by omega, rfl, fun m hm => by omega, Below.refl _ _⟩
  case round =>
    obtain ⟨n, hn, rfl, hno, hbw⟩ := hrel
    have HNO := Lib.hid hno
    have HBW := Lib.hid hbw
    obtain ⟨x1, x2, x3⟩ := HB.out _ hbw
    clear hno hbw
    by_cases hlt : n ≤ 200
    · have n3 : (n : Int) ≤ 200 := by omega
      go_wp2
      go_region_law ((first
        | (go_simp; go_at_call 43; refine (with_w _ _ _ _ _ _ _ _ _).mono ?_; rintro e w3 ⟨rfl, hv3⟩; have hb3 := HBW.out.trans (((below_drew (Below.refl _ _)).trans hv3).mono HBW.out.size); clear x1 x2 x3; obtain ⟨x1, x2, x3⟩ := HB.out _ hb3)
        | (go_simp; go_at_call 24; refine (HSH.out n _ hlt hb3).mono ?_; rintro e w4 ⟨⟨sa, cs, rfl, hs4⟩, hv4⟩; have HS4 := Lib.hid hs4; have hb4 := hb3.trans (hv4.mono hb3.size); clear x1 x2 x3 hs4; obtain ⟨x1, x2, x3⟩ := HB.out _ hb4)
        | (go_simp; go_at_call 51; refine (rfull_w f c na oa sa ln cn lo co cs N U (X n) _ q2 (HT.out _ hb4) HS4).mono ?_; rintro e w5 ⟨⟨rb, rfl, hrb⟩, hv5⟩; have HRB := Lib.hid hrb; clear hrb; have HB5 := Lib.hid (hb4.trans (hv5.mono hb4.size)))))
      all_goals
        cases hrv : rb
        · have HRV := Lib.hid hrv
          clear hrv
          go_wp2
          go_roundw
          case rel => exact ⟨n + 1, by omega, by go_num, fun m hm hp => by
            by_cases e : m = n
            · subst e; have := HRB.out.2 hp; rw [HRV.out] at this; cases this
            · exact HNO.out m (by omega) hp, HB5.out⟩
          case measure => simp [Go.RowKit.intOf]; omega
        · have HRV := Lib.hid hrv
          clear hrv
          go_wp2
          go_ret
          exact ⟨⟨(n : Int), rfl, .inl ⟨n, rfl, hlt, HRB.out.1 HRV.out, HNO.out⟩⟩, HA.out.trans (HB5.out.mono HA.out.size)⟩
    · have n3 : ¬ (n : Int) ≤ 200 := by omega
      go_wp2
      go_ret
      exact ⟨⟨-1, rfl, .inr ⟨rfl, fun m hm => HNO.out m (by omega)⟩⟩, HA.out.trans (HBW.out.mono HA.out.size)⟩
end Go.Kn
