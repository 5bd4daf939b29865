/- Contracts of functions that the laws of this seat call, or the evaluator of closed calls and its runs. Conditions: as each theorem states them. -/
import Derived.Test.YtpfbfdcpibajoaaGreatDoorJF
set_option linter.unusedVariables false
set_option linter.unusedSimpArgs false
namespace Go.Kn
open Go Go.Proofs Go.RowKit

set_option maxRecDepth 100000 in
set_option maxHeartbeats 8000000 in
theorem rswap_g (f zo zt : Int) (na oa pa : Option Addr) (ln cn lo co lp cp i j : Nat) (N : Nat → N2) (U : Nat → O3) (D : Nat → Dy) (w : World) (hlp : lp ≤ 10) (hi : i < lp) (hj : j < lp) (HR : Hid (TreeS f ln lo N U)) (H : Hid (Tr7 w na oa ln lo N U)) (HP : Hid (PlSl w pa lp D)) (HDY : Hid (∀ d, d < lp → dayB lo (D d).s (D d).n = true)) (hij : i ≠ j) (HRU : Hid (allN (fun d => runD f ln lo N U (D d)) lp = true)) (h0 : hasB (D i).s zo (D i).n = true) (h1 : hasB (D i).s zt (D i).n = false) (h2 : hasB (D j).s zt (D j).n = true) (h3 : hasB (D j).s zo (D j).n = false) :
    Calls Tryz.prog 52 #[.agg #[.int .i64 f, .slice na ln cn, .slice oa lo co], .slice pa lp cp, .int .i64 zo, .int .i64 zt, .int .i64 (i : Int), .int .i64 (j : Int)] w fun e w' => (∃ oo cc E, e = .returned (.tuple #[.slice oo lp cc, .bool (runE f ln lo N U (insB (dB (D i)) zo zt) && runE f ln lo N U (insB (dB (D j)) zt zo))]) ∧ PlSl w' oo lp E ∧ SwE lo lp D E zo zt i j) ∧ Below w.heap.size w w' := by
  have q1 := HR.out.l6
  have q2 := HR.out.lo2
  have BX := Lib.hid (fun (w1 : World) (hb : Below (w.alloc (.cells #[.int .i64 f, .slice na ln cn, .slice oa lo co] 25)).heap.size (w.alloc (.cells #[.int .i64 f, .slice na ln cn, .slice oa lo co] 25)) w1) => box7 hb)
  obtain ⟨WA, hWA⟩ : ∃ WA, WA = w.alloc (.cells #[.int .i64 f, .slice na ln cn, .slice oa lo co] 25) := ⟨_, rfl⟩
  have hA : Below w.heap.size w WA := by rw [hWA]; exact (Below.refl _ _).alloc (Nat.le_refl _) _
  rw [← hWA] at BX
  obtain ⟨A, O, rfl, hAl, hPA⟩ := HP.out.resolve_left (by omega)
  have HPB : Hid (∀ w2, Below WA.heap.size WA w2 → PlAt w2 A O lp D) := Lib.hid fun w2 h => hPA.below hAl (hA.trans (h.mono hA.size))
  have HTR : Hid (∀ w2, Below WA.heap.size WA w2 → Tr7 w2 na oa ln lo N U) := Lib.hid fun w2 h => H.out.below (hA.trans (h.mono hA.size))
  have HA := Lib.hid hA
  have hdn : ∀ d, d < lp → (D d).n ≤ 1000000 := fun d hd => by have := (dayB_len _ (HDY.out d hd)).1; omega
  have HDN := Lib.hid hdn
  have m1 : (0 : Int) ≤ (i : Int) := by omega
  have m2 : (i : Int) < (lp : Int) := by omega
  have m3 : (0 : Int) ≤ (j : Int) := by omega
  have m4 : (j : Int) < (lp : Int) := by omega
  have z1 := (HPB.out WA (Below.refl _ _) i hi).1
  have z2 := (HPB.out WA (Below.refl _ _) j hj).1
  have HH : Hid (∀ (d : Nat) (x : Int) w2, d < lp → Below WA.heap.size WA w2 → Calls Tryz.prog 36 #[.slice (D d).a (D d).n (D d).c, .int .i64 x] w2 fun e w' => e = .returned (.bool (hasB (D d).s x (D d).n)) ∧ Below WA.heap.size WA w') := Lib.hid fun d x w2 hd h => (has_w _ _ _ (D d).s x w2 (HDN.out d hd) (Lib.hid (HPB.out w2 h d hd).2)).mono fun e w' ⟨he, hv⟩ => ⟨he, h.trans (hv.mono h.size)⟩
  rw [hWA] at z1 z2
  clear hA hPA H HP hdn
  have hij2 : ((i : Int) == (j : Int)) = false := by rw [beq_eq_false_iff_ne]; omega
  obtain ⟨i0, hi0, hz0, hz1, hz2⟩ := info_parts info26
  obtain ⟨i3, hi3, hy0, hy1, hy2⟩ := info_parts info3'
  have Hi := Lib.hid hi
  have Hj := Lib.hid hj
  have Hij := Lib.hid hij
  have B0 := Lib.hid h0
  have B1 := Lib.hid h1
  have B2 := Lib.hid h2
  have B3 := Lib.hid h3
  have HZ : Hid (w.heap.size ≤ WA.heap.size) := Lib.hid HA.out.size
  clear h0 h1 h2 h3 hi hj hij
  go_enter Tryz.func52, Tryz.ntmps52
  go_wp2_with (first
    | (go_at_call 36; have hB := B0.out; rw [← hWA]; refine (HH.out i zo _ Hi.out (Below.refl _ _)).mono ?_; rw [hB]; rintro e wh1 ⟨rfl, hb1⟩; clear hB B0 z1 z2; have z1 := (HPB.out _ hb1 i Hi.out).1; have z2 := (HPB.out _ hb1 j Hj.out).1)
    | (go_at_call 36; have hB := B1.out; refine (HH.out i zt _ Hi.out hb1).mono ?_; rw [hB]; rintro e wh2 ⟨rfl, hb2⟩; clear hB B1 z1 z2; have z1 := (HPB.out _ hb2 i Hi.out).1; have z2 := (HPB.out _ hb2 j Hj.out).1)
    | (go_at_call 36; have hB := B2.out; refine (HH.out j zt _ Hj.out hb2).mono ?_; rw [hB]; rintro e wh3 ⟨rfl, hb3⟩; clear hB B2 z1 z2; have z1 := (HPB.out _ hb3 i Hi.out).1; have z2 := (HPB.out _ hb3 j Hj.out).1)
    | (go_at_call 36; have hB := B3.out; refine (HH.out j zo _ Hj.out hb3).mono ?_; rw [hB]; rintro e wh4 ⟨rfl, hb4⟩; clear hB B3 z1 z2; have z1 := (HPB.out _ hb4 i Hi.out).1; have z2 := (HPB.out _ hb4 j Hj.out).1))
  have HB4 := Lib.hid hb4
  clear hb1 hb2 hb3 hb4 z1 z2 hWA
  go_loopw [14, 15] (fun v dd wr => ∃ (d : Nat) (E : Nat → Dy), d ≤ lp ∧ dd = .int .i64 (d : Int) ∧ OutSl wr WA.heap.size v d E ∧ SwE lo d D E zo zt i j ∧ Below WA.heap.size WA wr) (fun _ dd _ => lp - (Go.RowKit.intOf dd).toNat)
  case atStart => exact ⟨0, fun _ => ⟨none, 0, 0, fun _ => 0⟩, Nat.zero_le _, rfl, ⟨⟨rfl, .inl ⟨rfl, rfl⟩⟩, fun x h => by omega, fun x h => by omega⟩, ⟨fun d h => by omega, fun d h => by omega⟩, HB4.out⟩
  case round =>
    obtain ⟨d, E, hd, rfl, hout, hswe, hbr⟩ := hrel
    have HOUT := Lib.hid hout
    have HSWE := Lib.hid hswe
    have HBR := Lib.hid hbr
    clear hout hswe hbr
    by_cases hlt : d < lp
    case neg =>
      obtain rfl : d = lp := by omega
      obtain ⟨oo, cc, rfl, hpl⟩ := HOUT.out.plan
      obtain ⟨x1, x2, x3, _⟩ := BX.out _ HBR.out
      have HRN := Lib.hid (rruns_w f na oa oo ln cn lo co d cc N U E wr (by omega) (Lib.hid fun x hx => ⟨by have := (dayB_len _ (HSWE.out.ok x hx)).1; omega, dayB_ls (HSWE.out.ok x hx)⟩) (Lib.hid hpl) (Lib.hid HR.out.w) (Lib.hid (HTR.out _ HBR.out)))
      rw [swE_run HSWE.out Hi.out Hj.out Hij.out HRU.out] at HRN
      have HPL := Lib.hid hpl
      clear hpl
      go_wp2_with (go_at_call 47; refine HRN.out.mono ?_; rintro e w5 ⟨rfl, hv5⟩)
      exact bodyPost_ret (v := .tuple #[.slice oo d cc, .bool _]) (by simp [results, Tryz.results52, go_sem]) rfl ⟨⟨oo, cc, E, rfl, HPL.out.below hv5, HSWE.out⟩, HA.out.trans ((HBR.out.trans (hv5.mono HBR.out.size)).mono HA.out.size)⟩
    case pos =>
    have n1 : (0 : Int) ≤ (d : Int) := by omega
    have n2 : (d : Int) < (lp : Int) := by omega
    have hd10 : d ≤ 10 := by omega
    have z0 := (HPB.out _ HBR.out d hlt).1
    have HCE : Hid (∀ w2, Below wr.heap.size wr w2 → (w2.cell? ⟨w.heap.size, 0, none⟩ = some (.int .i64 f) ∧ w2.cell? ⟨w.heap.size, 1, none⟩ = some (.slice na ln cn) ∧ w2.cell? ⟨w.heap.size, 2, none⟩ = some (.slice oa lo co)) ∧ w2.cell? ⟨A, O + d, none⟩ = some (.slice (D d).a (D d).n (D d).c)) := Lib.hid fun w2 h => by
      have h2 := HBR.out.trans (h.mono HBR.out.size)
      obtain ⟨y1, y2, y3, _⟩ := BX.out _ h2
      exact ⟨⟨y1, y2, y3⟩, (HPB.out _ h2 d hlt).1⟩
    have HIN : Hid (∀ (g c : Int) w2, Below wr.heap.size wr w2 → Calls Tryz.prog 99 #[.agg #[.int .i64 f, .slice na ln cn, .slice oa lo co], .slice (D d).a (D d).n (D d).c, .int .i64 g, .int .i64 c] w2 fun e w' => (∃ sa m cc, e = .returned (.slice sa m cc) ∧ m = (IL (insB (dB (D d)) g c) lo).length ∧ IntSl w' sa m (ils (insB (dB (D d)) g c) lo) ∧ ∀ b o, sa = some ⟨b, o, none⟩ → wr.heap.size ≤ b) ∧ Below w2.heap.size w2 w') := Lib.hid fun g c w2 h => by
      have h2 := HBR.out.trans (h.mono HBR.out.size)
      refine (rinstead_w f g c na oa (D d).a ln cn lo co (D d).n (D d).c (D d).s w2 (by omega) (HDN.out d hlt) (Lib.hid (HPB.out _ h2 d hlt).2)).mono ?_
      rintro e w' ⟨⟨v, m, rfl, hm, how⟩, hv⟩
      obtain ⟨sa, cc, rfl, h3, h4⟩ := dayNew how
      exact ⟨⟨sa, m, cc, rfl, hm, h3, fun b o e => Nat.le_trans h.size (h4 b o e)⟩, hv⟩
    have HNX : Hid (∀ (w2 w7 : World) (v7 : Value) (y : Dy), Below wr.heap.size wr w2 → IntSl w2 y.a y.n y.s → (y.n ≠ 0 → ∀ b o, y.a = some ⟨b, o, none⟩ → wr.heap.size ≤ b) → dayB lo y.s y.n = true → (∀ x : Nat, x < lo → dB y x = (if d = i then insB (dB (D d)) zo zt x else if d = j then insB (dB (D d)) zt zo x else dB (D d) x)) → w7.ownsRow WA.heap.size 26 1 v7 (d + 1) (upto (fun x => Value.slice (E x).a (E x).n (E x).c) d ++ [.slice y.a y.n y.c]) → (w2.alloc (.cells #[.slice y.a y.n y.c] 26)).grownBy w7 u14.ownBlock → (v7.ownBlock = u14.ownBlock ∨ v7.ownBlock = some (w2.alloc (.cells #[.slice y.a y.n y.c] 26)).heap.size) → ∃ E', OutSl w7 WA.heap.size v7 (d + 1) E' ∧ SwE lo (d + 1) D E' zo zt i j ∧ Below WA.heap.size WA w7) := Lib.hid fun w2 w7 v7 y h hI hs h1 h2 ho hg hat => by
      have hb2 : Below w2.heap.size w2 (w2.alloc (.cells #[.slice y.a y.n y.c] 26)) := (Below.refl _ _).alloc (Nat.le_refl _) _
      refine ⟨cons1 E d y, ((HOUT.out.below h).below hb2).push hg ho hat (hI.below hb2) (fun h0 b o e => own_lt HOUT.out.own (hs h0 b o e)), HSWE.out.push h1 h2, ?_⟩
      have h6 := HBR.out.trans (h.mono HBR.out.size)
      exact (h6.alloc h6.size _).grown hg (by have := h6.size; simp; omega) (fun r e => own_ge HOUT.out.own r e)
    by_cases hz : (D d).n = 0
    · obtain ⟨⟨da, dn, dc, ds⟩, hdd⟩ : ∃ dy, D d = dy := ⟨_, rfl⟩
      have HDD := Lib.hid hdd
      rw [hdd] at z0 hz HCE HIN
      dsimp only at z0 hz HCE HIN
      subst hz
      have HDD0 := Lib.hid hdd
      clear hdd
      by_cases hdi : d = i
      · have HDI : Hid (∀ x : Nat, insB (dB (D d)) zo zt x = (if d = i then insB (dB (D d)) zo zt x else if d = j then insB (dB (D d)) zt zo x else dB (D d) x)) := Lib.hid fun x => by rw [if_pos hdi]
        have e3 : ((d : Int) == (i : Int)) = true := by rw [beq_iff_eq]; omega
        have e4 : ((d : Int) == (j : Int)) = false := by rw [beq_eq_false_iff_ne]; have := Hij.out; omega
        clear hdi
        go_wp2_with (first
          | (at_builtin; refine wpList_append_nil0 rfl _ _ 26 rfl 3 i3 Tryz.underlying26 hi3 rfl da dc rfl ?_))
        obtain ⟨x1, x2, x3⟩ := (HCE.out _ (Below.refl wr.heap.size wr)).1
        first | (go_region_law ((first
          | (go_simp; go_at_call 99; refine (HIN.out zo zt _ (below_drew (Below.refl wr.heap.size wr))).mono ?_; rintro e w8 ⟨⟨sa, m, cc, rfl, hm, hI, hs⟩, hv8⟩; have HB8 := Lib.hid ((below_drew (Below.refl wr.heap.size wr)).trans (hv8.mono ((Below.refl wr.heap.size wr)).size)); have HM8 := Lib.hid hm; have HI8 := Lib.hid hI; have HS8 := Lib.hid hs; clear x1 x2 x3 z0 hm hI hs hv8)))) | fail
        all_goals
          go_wp2_with (first
            | (at_builtin; refine wpList_append_own_at _ rfl (.tmp 87) (.tmp 89) 59 rfl WA.heap.size 26 i0 (.slice none 0 0) 1 24 Tryz.underlying59 hi0 hz0 hz1 hz2 rfl (by decide) _ d _ rfl ((HOUT.out.below HB8.out).own.alloc _) ⟨_, 0, none⟩ 1 1 [.slice sa m cc] rfl rfl (lies_any (by first | exact al_top rfl _ _ | exact al_top (by simp) _ _)) (by intro u hu; simp at hu; subst hu; rfl) (by unfold maxLen; omega) (by omega) (by have := HBR.out.size; have := (HB8.out).size; simp; omega) ?_; intro v7 w7 hown7 hgrow7 _ hloc7))
          obtain ⟨E', r1, r2, r3⟩ := HNX.out _ w7 v7 ⟨sa, m, cc, ils (insB (dB (D d)) zo zt) lo⟩ HB8.out (by first | exact HI8.out | (rw [HDD.out]; exact HI8.out)) (fun _ => HS8.out) (by first | (rw [HM8.out]; exact ils_day lo (Nat.le_refl _)) | (rw [HM8.out, HDD.out]; exact ils_day lo (Nat.le_refl _))) (fun x hx => by rw [← HDI.out x]; first | (rw [HM8.out]; exact ils_dB hx) | (rw [HM8.out, HDD.out]; exact ils_dB hx)) hown7 hgrow7 hloc7
          refine ⟨⟨d + 1, E', by omega, by go_num, r1, r2, r3⟩, by simp [Go.RowKit.intOf]; omega⟩
      · by_cases hdj : d = j
        · have HDI : Hid (∀ x : Nat, insB (dB (D d)) zt zo x = (if d = i then insB (dB (D d)) zo zt x else if d = j then insB (dB (D d)) zt zo x else dB (D d) x)) := Lib.hid fun x => by rw [if_neg hdi, if_pos hdj]
          have e3 : ((d : Int) == (i : Int)) = false := by rw [beq_eq_false_iff_ne]; omega
          have e4 : ((d : Int) == (j : Int)) = true := by rw [beq_iff_eq]; omega
          clear hdi hdj
          go_wp2_with (first
            | (at_builtin; refine wpList_append_nil0 rfl _ _ 26 rfl 3 i3 Tryz.underlying26 hi3 rfl da dc rfl ?_))
          obtain ⟨x1, x2, x3⟩ := (HCE.out _ (Below.refl wr.heap.size wr)).1
          first | (go_region_law ((first
            | (go_simp; go_at_call 99; refine (HIN.out zt zo _ (below_drew (Below.refl wr.heap.size wr))).mono ?_; rintro e w8 ⟨⟨sa, m, cc, rfl, hm, hI, hs⟩, hv8⟩; have HB8 := Lib.hid ((below_drew (Below.refl wr.heap.size wr)).trans (hv8.mono ((Below.refl wr.heap.size wr)).size)); have HM8 := Lib.hid hm; have HI8 := Lib.hid hI; have HS8 := Lib.hid hs; clear x1 x2 x3 z0 hm hI hs hv8)))) | fail
          all_goals
            go_wp2_with (first
              | (at_builtin; refine wpList_append_own_at _ rfl (.tmp 87) (.tmp 89) 59 rfl WA.heap.size 26 i0 (.slice none 0 0) 1 24 Tryz.underlying59 hi0 hz0 hz1 hz2 rfl (by decide) _ d _ rfl ((HOUT.out.below HB8.out).own.alloc _) ⟨_, 0, none⟩ 1 1 [.slice sa m cc] rfl rfl (lies_any (by first | exact al_top rfl _ _ | exact al_top (by simp) _ _)) (by intro u hu; simp at hu; subst hu; rfl) (by unfold maxLen; omega) (by omega) (by have := HBR.out.size; have := (HB8.out).size; simp; omega) ?_; intro v7 w7 hown7 hgrow7 _ hloc7))
            obtain ⟨E', r1, r2, r3⟩ := HNX.out _ w7 v7 ⟨sa, m, cc, ils (insB (dB (D d)) zt zo) lo⟩ HB8.out (by first | exact HI8.out | (rw [HDD.out]; exact HI8.out)) (fun _ => HS8.out) (by first | (rw [HM8.out]; exact ils_day lo (Nat.le_refl _)) | (rw [HM8.out, HDD.out]; exact ils_day lo (Nat.le_refl _))) (fun x hx => by rw [← HDI.out x]; first | (rw [HM8.out]; exact ils_dB hx) | (rw [HM8.out, HDD.out]; exact ils_dB hx)) hown7 hgrow7 hloc7
            refine ⟨⟨d + 1, E', by omega, by go_num, r1, r2, r3⟩, by simp [Go.RowKit.intOf]; omega⟩
        · have HDI : Hid (∀ x : Nat, dB (D d) x = (if d = i then insB (dB (D d)) zo zt x else if d = j then insB (dB (D d)) zt zo x else dB (D d) x)) := Lib.hid fun x => by rw [if_neg hdi, if_neg hdj]
          have e3 : ((d : Int) == (i : Int)) = false := by rw [beq_eq_false_iff_ne]; omega
          have e4 : ((d : Int) == (j : Int)) = false := by rw [beq_eq_false_iff_ne]; omega
          clear hdi hdj
          go_wp2_with (first
            | (at_builtin; refine wpList_append_own_at _ rfl (.tmp 87) (.tmp 89) 59 rfl WA.heap.size 26 i0 (.slice none 0 0) 1 24 Tryz.underlying59 hi0 hz0 hz1 hz2 rfl (by decide) _ d _ rfl ((HOUT.out.below (Below.refl wr.heap.size wr)).own.alloc _) ⟨_, 0, none⟩ 1 1 [.slice none 0 0] rfl rfl (lies_any (by first | exact al_top rfl _ _ | exact al_top (by simp) _ _)) (by intro u hu; simp at hu; subst hu; rfl) (by unfold maxLen; omega) (by omega) (by have := HBR.out.size; have := ((Below.refl wr.heap.size wr)).size; simp; omega) ?_; intro v7 w7 hown7 hgrow7 _ hloc7)
            | (at_builtin; refine wpList_append_nil0 rfl _ _ 26 rfl 3 i3 Tryz.underlying26 hi3 rfl da dc rfl ?_))
          obtain ⟨E', r1, r2, r3⟩ := HNX.out _ w7 v7 ⟨none, 0, 0, ds⟩ (Below.refl wr.heap.size wr) (.inl rfl) (fun h => absurd rfl h) (by have h := HDY.out d hlt; rw [HDD.out] at h; exact h) (fun x hx => by rw [← HDI.out x, HDD.out]; rfl) hown7 hgrow7 hloc7
          refine ⟨⟨d + 1, E', by omega, by go_num, r1, r2, r3⟩, by simp [Go.RowKit.intOf]; omega⟩
    · obtain ⟨⟨da, dn, dc, ds⟩, hdd⟩ : ∃ dy, D d = dy := ⟨_, rfl⟩
      have HDD := Lib.hid hdd
      have hna := (HPB.out _ HBR.out d hlt).2
      have hdl := HDN.out d hlt
      rw [hdd] at z0 hz hna HCE HIN hdl
      dsimp only at z0 hz hna HCE HIN hdl
      obtain ⟨G, Q, rfl, hG, hnum⟩ := hna.resolve_left hz
      have HNW : Hid (∀ (j : Nat) (u : Value), ((upto ds dn).map (Value.int .i64))[j]? = some u → wr.cell? ((⟨G, Q, none⟩ : Addr).add j) = some u) := Lib.hid fun j u hu => by
        have hj : j < dn := by have := (List.getElem?_eq_some_iff.1 hu).1; simpa [upto] using this
        have e : u = .int .i64 (ds j) := by simpa [upto, hj] using hu.symm
        rw [addr_add, e]; exact hnum j hj
      have hz1n : 1 ≤ dn := by omega
      clear hdd hnum hna hz hG
      by_cases hdi : d = i
      · have HDI : Hid (∀ x : Nat, insB (dB (D d)) zo zt x = (if d = i then insB (dB (D d)) zo zt x else if d = j then insB (dB (D d)) zt zo x else dB (D d) x)) := Lib.hid fun x => by rw [if_pos hdi]
        have e3 : ((d : Int) == (i : Int)) = true := by rw [beq_iff_eq]; omega
        have e4 : ((d : Int) == (j : Int)) = false := by rw [beq_eq_false_iff_ne]; have := Hij.out; omega
        clear hdi
        go_wp2_with (first
          | (at_builtin; refine wpList_append_own _ rfl _ _ 26 rfl wr.heap.size 3 i3 _ 1 8 Tryz.underlying26 hi3 hy0 hy1 hy2 rfl (by decide) (.slice none 0 0) 0 [] rfl (World.ownsRow_nil _ _ _ _) ⟨G, Q, none⟩ dn dc ((upto ds dn).map (Value.int .i64)) rfl (by simp [upto]) HNW.out (by intro u hu; simp at hu; obtain ⟨x, _, rfl⟩ := hu; rfl) (by unfold maxLen; omega) (by omega) (Nat.le_refl _) ?_; intro v6 w6 hown6 hgrow6 _; rw [Nat.zero_add, List.nil_append] at hown6; obtain ⟨g6, k6, rfl, ho6⟩ := IntOwn.of hown6 (by omega); have hb6 : Below wr.heap.size wr w6 := (Below.refl _ _).grown hgrow6 (Nat.le_refl _) (fun k h => by cases h); have HO6 := Lib.hid ho6; have HB6 := Lib.hid hb6; clear z0 hown6 hgrow6 ho6; have z0 := (HCE.out _ hb6).2; clear hb6))
        obtain ⟨x1, x2, x3⟩ := (HCE.out _ HB6.out).1
        first | (go_region_law ((first
          | (go_simp; go_at_call 99; refine (HIN.out zo zt _ (below_drew HB6.out)).mono ?_; rintro e w8 ⟨⟨sa, m, cc, rfl, hm, hI, hs⟩, hv8⟩; have HB8 := Lib.hid ((below_drew HB6.out).trans (hv8.mono (HB6.out).size)); have HM8 := Lib.hid hm; have HI8 := Lib.hid hI; have HS8 := Lib.hid hs; clear x1 x2 x3 z0 hm hI hs hv8)))) | fail
        all_goals
          go_wp2_with (first
            | (at_builtin; refine wpList_append_own_at _ rfl (.tmp 87) (.tmp 89) 59 rfl WA.heap.size 26 i0 (.slice none 0 0) 1 24 Tryz.underlying59 hi0 hz0 hz1 hz2 rfl (by decide) _ d _ rfl ((HOUT.out.below HB8.out).own.alloc _) ⟨_, 0, none⟩ 1 1 [.slice sa m cc] rfl rfl (lies_any (by first | exact al_top rfl _ _ | exact al_top (by simp) _ _)) (by intro u hu; simp at hu; subst hu; rfl) (by unfold maxLen; omega) (by omega) (by have := HBR.out.size; have := (HB8.out).size; simp; omega) ?_; intro v7 w7 hown7 hgrow7 _ hloc7))
          obtain ⟨E', r1, r2, r3⟩ := HNX.out _ w7 v7 ⟨sa, m, cc, ils (insB (dB (D d)) zo zt) lo⟩ HB8.out (by first | exact HI8.out | (rw [HDD.out]; exact HI8.out)) (fun _ => HS8.out) (by first | (rw [HM8.out]; exact ils_day lo (Nat.le_refl _)) | (rw [HM8.out, HDD.out]; exact ils_day lo (Nat.le_refl _))) (fun x hx => by rw [← HDI.out x]; first | (rw [HM8.out]; exact ils_dB hx) | (rw [HM8.out, HDD.out]; exact ils_dB hx)) hown7 hgrow7 hloc7
          refine ⟨⟨d + 1, E', by omega, by go_num, r1, r2, r3⟩, by simp [Go.RowKit.intOf]; omega⟩
      · by_cases hdj : d = j
        · have HDI : Hid (∀ x : Nat, insB (dB (D d)) zt zo x = (if d = i then insB (dB (D d)) zo zt x else if d = j then insB (dB (D d)) zt zo x else dB (D d) x)) := Lib.hid fun x => by rw [if_neg hdi, if_pos hdj]
          have e3 : ((d : Int) == (i : Int)) = false := by rw [beq_eq_false_iff_ne]; omega
          have e4 : ((d : Int) == (j : Int)) = true := by rw [beq_iff_eq]; omega
          clear hdi hdj
          go_wp2_with (first
            | (at_builtin; refine wpList_append_own _ rfl _ _ 26 rfl wr.heap.size 3 i3 _ 1 8 Tryz.underlying26 hi3 hy0 hy1 hy2 rfl (by decide) (.slice none 0 0) 0 [] rfl (World.ownsRow_nil _ _ _ _) ⟨G, Q, none⟩ dn dc ((upto ds dn).map (Value.int .i64)) rfl (by simp [upto]) HNW.out (by intro u hu; simp at hu; obtain ⟨x, _, rfl⟩ := hu; rfl) (by unfold maxLen; omega) (by omega) (Nat.le_refl _) ?_; intro v6 w6 hown6 hgrow6 _; rw [Nat.zero_add, List.nil_append] at hown6; obtain ⟨g6, k6, rfl, ho6⟩ := IntOwn.of hown6 (by omega); have hb6 : Below wr.heap.size wr w6 := (Below.refl _ _).grown hgrow6 (Nat.le_refl _) (fun k h => by cases h); have HO6 := Lib.hid ho6; have HB6 := Lib.hid hb6; clear z0 hown6 hgrow6 ho6; have z0 := (HCE.out _ hb6).2; clear hb6))
          obtain ⟨x1, x2, x3⟩ := (HCE.out _ HB6.out).1
          first | (go_region_law ((first
            | (go_simp; go_at_call 99; refine (HIN.out zt zo _ (below_drew HB6.out)).mono ?_; rintro e w8 ⟨⟨sa, m, cc, rfl, hm, hI, hs⟩, hv8⟩; have HB8 := Lib.hid ((below_drew HB6.out).trans (hv8.mono (HB6.out).size)); have HM8 := Lib.hid hm; have HI8 := Lib.hid hI; have HS8 := Lib.hid hs; clear x1 x2 x3 z0 hm hI hs hv8)))) | fail
          all_goals
            go_wp2_with (first
              | (at_builtin; refine wpList_append_own_at _ rfl (.tmp 87) (.tmp 89) 59 rfl WA.heap.size 26 i0 (.slice none 0 0) 1 24 Tryz.underlying59 hi0 hz0 hz1 hz2 rfl (by decide) _ d _ rfl ((HOUT.out.below HB8.out).own.alloc _) ⟨_, 0, none⟩ 1 1 [.slice sa m cc] rfl rfl (lies_any (by first | exact al_top rfl _ _ | exact al_top (by simp) _ _)) (by intro u hu; simp at hu; subst hu; rfl) (by unfold maxLen; omega) (by omega) (by have := HBR.out.size; have := (HB8.out).size; simp; omega) ?_; intro v7 w7 hown7 hgrow7 _ hloc7))
            obtain ⟨E', r1, r2, r3⟩ := HNX.out _ w7 v7 ⟨sa, m, cc, ils (insB (dB (D d)) zt zo) lo⟩ HB8.out (by first | exact HI8.out | (rw [HDD.out]; exact HI8.out)) (fun _ => HS8.out) (by first | (rw [HM8.out]; exact ils_day lo (Nat.le_refl _)) | (rw [HM8.out, HDD.out]; exact ils_day lo (Nat.le_refl _))) (fun x hx => by rw [← HDI.out x]; first | (rw [HM8.out]; exact ils_dB hx) | (rw [HM8.out, HDD.out]; exact ils_dB hx)) hown7 hgrow7 hloc7
            refine ⟨⟨d + 1, E', by omega, by go_num, r1, r2, r3⟩, by simp [Go.RowKit.intOf]; omega⟩
        · have HDI : Hid (∀ x : Nat, dB (D d) x = (if d = i then insB (dB (D d)) zo zt x else if d = j then insB (dB (D d)) zt zo x else dB (D d) x)) := Lib.hid fun x => by rw [if_neg hdi, if_neg hdj]
          have e3 : ((d : Int) == (i : Int)) = false := by rw [beq_eq_false_iff_ne]; omega
          have e4 : ((d : Int) == (j : Int)) = false := by rw [beq_eq_false_iff_ne]; omega
          clear hdi hdj
          go_wp2_with (first
            | (at_builtin; refine wpList_append_own_at _ rfl (.tmp 87) (.tmp 89) 59 rfl WA.heap.size 26 i0 (.slice none 0 0) 1 24 Tryz.underlying59 hi0 hz0 hz1 hz2 rfl (by decide) _ d _ rfl ((HOUT.out.below HB6.out).own.alloc _) ⟨_, 0, none⟩ 1 1 [.slice (some ⟨g6, 0, none⟩) dn k6] rfl rfl (lies_any (by first | exact al_top rfl _ _ | exact al_top (by simp) _ _)) (by intro u hu; simp at hu; subst hu; rfl) (by unfold maxLen; omega) (by omega) (by have := HBR.out.size; have := (HB6.out).size; simp; omega) ?_; intro v7 w7 hown7 hgrow7 _ hloc7)
            | (at_builtin; refine wpList_append_own _ rfl _ _ 26 rfl wr.heap.size 3 i3 _ 1 8 Tryz.underlying26 hi3 hy0 hy1 hy2 rfl (by decide) (.slice none 0 0) 0 [] rfl (World.ownsRow_nil _ _ _ _) ⟨G, Q, none⟩ dn dc ((upto ds dn).map (Value.int .i64)) rfl (by simp [upto]) HNW.out (by intro u hu; simp at hu; obtain ⟨x, _, rfl⟩ := hu; rfl) (by unfold maxLen; omega) (by omega) (Nat.le_refl _) ?_; intro v6 w6 hown6 hgrow6 _; rw [Nat.zero_add, List.nil_append] at hown6; obtain ⟨g6, k6, rfl, ho6⟩ := IntOwn.of hown6 (by omega); have hb6 : Below wr.heap.size wr w6 := (Below.refl _ _).grown hgrow6 (Nat.le_refl _) (fun k h => by cases h); have HO6 := Lib.hid ho6; have HB6 := Lib.hid hb6; clear z0 hown6 hgrow6 ho6; have z0 := (HCE.out _ hb6).2; clear hb6))
          obtain ⟨E', r1, r2, r3⟩ := HNX.out _ w7 v7 ⟨some ⟨g6, 0, none⟩, dn, k6, ds⟩ HB6.out (.inr ⟨g6, 0, rfl, HO6.out.lt, HO6.out.at_⟩) (fun _ b o e => by cases e; exact HO6.out.lo) (by have h := HDY.out d hlt; rw [HDD.out] at h; exact h) (fun x hx => by rw [← HDI.out x, HDD.out]; rfl) hown7 hgrow7 hloc7
          refine ⟨⟨d + 1, E', by omega, by go_num, r1, r2, r3⟩, by simp [Go.RowKit.intOf]; omega⟩
end Go.Kn

namespace Go.Kn
open Go Go.Proofs Go.RowKit

theorem rswapped_w (f zo zt : Int) (na oa pa : Option Addr) (ln cn lo co lp cp i j : Nat) (N : Nat → N2) (U : Nat → O3) (D : Nat → Dy) (w : World) (hlp : lp ≤ 10) (hi : i < lp) (hj : j < lp) (HR : Hid (TreeS f ln lo N U)) (H : Hid (Tr7 w na oa ln lo N U)) (HP : Hid (PlSl w pa lp D)) (HDY : Hid (∀ d, d < lp → dayB lo (D d).s (D d).n = true)) (HRU : Hid (allN (fun d => runD f ln lo N U (D d)) lp = true)) :
    Calls Tryz.prog 52 #[.agg #[.int .i64 f, .slice na ln cn, .slice oa lo co], .slice pa lp cp, .int .i64 zo, .int .i64 zt, .int .i64 (i : Int), .int .i64 (j : Int)] w fun e w' => (∃ oo lq cc B, e = .returned (.tuple #[.slice oo lq cc, .bool B]) ∧ B = SwB f ln lo N U D zo zt i j ∧ (B = true → lq = lp ∧ ∃ E, PlSl w' oo lp E ∧ SwE lo lp D E zo zt i j)) ∧ Below w.heap.size w w' := by
  have bad : SwB f ln lo N U D zo zt i j = false → (Calls Tryz.prog 52 #[.agg #[.int .i64 f, .slice na ln cn, .slice oa lo co], .slice pa lp cp, .int .i64 zo, .int .i64 zt, .int .i64 (i : Int), .int .i64 (j : Int)] w fun e w' => e = .returned (.tuple #[.slice none 0 0, .bool false]) ∧ Below w.heap.size w w') → Calls Tryz.prog 52 #[.agg #[.int .i64 f, .slice na ln cn, .slice oa lo co], .slice pa lp cp, .int .i64 zo, .int .i64 zt, .int .i64 (i : Int), .int .i64 (j : Int)] w fun e w' => (∃ oo lq cc B, e = .returned (.tuple #[.slice oo lq cc, .bool B]) ∧ B = SwB f ln lo N U D zo zt i j ∧ (B = true → lq = lp ∧ ∃ E, PlSl w' oo lp E ∧ SwE lo lp D E zo zt i j)) ∧ Below w.heap.size w w' := fun h c =>
    c.mono fun e w' ⟨he, hb⟩ => ⟨⟨none, 0, 0, false, he, h.symm, fun h => by cases h⟩, hb⟩
  by_cases hij : i = j
  · exact bad (by rw [hij]; exact swB_same j) (rswap_0 f zo zt na oa pa ln cn lo co lp cp i j N U D w hlp hi hj HR H HP HDY hij)
  cases h0 : hasB (D i).s zo (D i).n with
  | false => exact bad (by unfold SwB; rw [h0]; rfl) (rswap_1 f zo zt na oa pa ln cn lo co lp cp i j N U D w hlp hi hj HR H HP HDY hij h0)
  | true =>
  cases h1 : hasB (D i).s zt (D i).n with
  | true => exact bad (by unfold SwB; rw [h1]; simp) (rswap_2 f zo zt na oa pa ln cn lo co lp cp i j N U D w hlp hi hj HR H HP HDY hij h0 h1)
  | false =>
  cases h2 : hasB (D j).s zt (D j).n with
  | false => exact bad (by unfold SwB; rw [h2]; simp) (rswap_3 f zo zt na oa pa ln cn lo co lp cp i j N U D w hlp hi hj HR H HP HDY hij h0 h1 h2)
  | true =>
  cases h3 : hasB (D j).s zo (D j).n with
  | true => exact bad (by unfold SwB; rw [h3]; simp) (rswap_4 f zo zt na oa pa ln cn lo co lp cp i j N U D w hlp hi hj HR H HP HDY hij h0 h1 h2 h3)
  | false =>
  refine (rswap_g f zo zt na oa pa ln cn lo co lp cp i j N U D w hlp hi hj HR H HP HDY hij HRU h0 h1 h2 h3).mono ?_
  rintro e w' ⟨⟨oo, cc, E, he, h4, h5⟩, hb⟩
  exact ⟨⟨oo, lp, cc, _, he, by unfold SwB; rw [h0, h1, h2, h3]; rfl, fun _ => ⟨rfl, E, h4, h5⟩⟩, hb⟩

set_option maxRecDepth 100000 in
set_option maxHeartbeats 4000000 in
theorem rswaps_w (f zo zt : Int) (na oa pa : Option Addr) (ln cn lo co lp cp : Nat) (N : Nat → N2) (U : Nat → O3) (D : Nat → Dy) (w : World) (hlp : lp ≤ 10) (HR : Hid (TreeS f ln lo N U)) (H : Hid (Tr7 w na oa ln lo N U)) (HP : Hid (PlSl w pa lp D)) (HDY : Hid (∀ d, d < lp → dayB lo (D d).s (D d).n = true)) (HRU : Hid (allN (fun d => runD f ln lo N U (D d)) lp = true)) :
    Calls Tryz.prog 51 #[.agg #[.int .i64 f, .slice na ln cn, .slice oa lo co], .slice pa lp cp, .int .i64 zo, .int .i64 zt] w fun e w' => (∃ (r1 r2 : Int) (B : Bool), e = .returned (.tuple #[.int .i64 r1, .int .i64 r2, .bool B]) ∧ SwR (SwB f ln lo N U D zo zt) lp r1 r2 (if B then 0 else 1) 1) ∧ Below w.heap.size w w' := by
  have BX := Lib.hid (fun (w1 : World) (hb : Below (w.alloc (.cells #[.int .i64 f, .slice na ln cn, .slice oa lo co] 25)).heap.size (w.alloc (.cells #[.int .i64 f, .slice na ln cn, .slice oa lo co] 25)) w1) => box7 hb)
  obtain ⟨WA, hWA⟩ : ∃ WA, WA = w.alloc (.cells #[.int .i64 f, .slice na ln cn, .slice oa lo co] 25) := ⟨_, rfl⟩
  have hA : Below w.heap.size w WA := by rw [hWA]; exact (Below.refl _ _).alloc (Nat.le_refl _) _
  rw [← hWA] at BX
  have HSW : Hid (∀ (i j : Nat) w2, i < lp → j < lp → Below WA.heap.size WA w2 → Calls Tryz.prog 52 #[.agg #[.int .i64 f, .slice na ln cn, .slice oa lo co], .slice pa lp cp, .int .i64 zo, .int .i64 zt, .int .i64 (i : Int), .int .i64 (j : Int)] w2 fun e w' => (∃ oo lq cc, e = .returned (.tuple #[.slice oo lq cc, .bool (SwB f ln lo N U D zo zt i j)])) ∧ Below w2.heap.size w2 w') := Lib.hid fun i j w2 hi hj h => by
    have hb := hA.trans (h.mono hA.size)
    refine (rswapped_w f zo zt na oa pa ln cn lo co lp cp i j N U D w2 hlp hi hj HR (Lib.hid (H.out.below hb)) (Lib.hid (HP.out.below hb)) HDY HRU).mono ?_
    rintro e w' ⟨⟨oo, lq, cc, B, he, rfl, _⟩, hv⟩
    exact ⟨⟨oo, lq, cc, he⟩, hv⟩
  have HA := Lib.hid hA
  clear hA H HP
  go_enter Tryz.func51, Tryz.ntmps51
  go_wp2
  rw [← hWA]
  clear hWA
  go_loopw [11] (fun ii wr => ∃ i : Nat, i ≤ lp ∧ ii = .int .i64 (i : Int) ∧ (∀ a' b', a' < i → b' < lp → SwB f ln lo N U D zo zt a' b' = false) ∧ Below WA.heap.size WA wr) (fun ii _ => lp - (Go.RowKit.intOf ii).toNat)
  case atStart => exact ⟨0, Nat.zero_le _, rfl, fun _ _ h _ => by omega, Below.refl _ _⟩
  case round =>
    obtain ⟨i, hi, rfl, hno, hbr⟩ := hrel
    have HNO := Lib.hid hno
    have HBR := Lib.hid hbr
    clear hno hbr
    by_cases hlt : i < lp
    case neg =>
      obtain rfl : i = lp := by omega
      go_wp2
      exact bodyPost_ret (v := .tuple #[.int .i64 0, .int .i64 0, .bool false]) (by simp [results, Tryz.results51, go_sem]) rfl ⟨⟨0, 0, false, rfl, .inr ⟨rfl, rfl, rfl, HNO.out⟩⟩, HA.out.trans (HBR.out.mono HA.out.size)⟩
    case pos =>
    obtain ⟨w0, hw0⟩ : ∃ w0, w0 = wr := ⟨_, rfl⟩
    subst hw0
    have n1 : (i : Int) < (lp : Int) := by omega
    go_wp2
    go_loopw [12] (fun jj wr => ∃ j : Nat, j ≤ lp ∧ jj = .int .i64 (j : Int) ∧ (∀ b', b' < j → SwB f ln lo N U D zo zt i b' = false) ∧ Below w0.heap.size w0 wr) (fun jj _ => lp - (Go.RowKit.intOf jj).toNat)
    case atStart => exact ⟨0, Nat.zero_le _, rfl, fun _ h => by omega, Below.refl _ _⟩
    case round =>
      obtain ⟨j, hj, rfl, hnj, hbr2⟩ := hrel
      have HNJ := Lib.hid hnj
      have HB2 := Lib.hid hbr2
      clear hnj hbr2
      have HBW := Lib.hid (HBR.out.trans (HB2.out.mono HBR.out.size))
      by_cases hlj : j < lp
      case neg =>
        obtain rfl : j = lp := by omega
        go_wp2
        refine ⟨⟨i + 1, by omega, by go_num, fun a' b' h1 h2 => ?_, HBW.out⟩, by simp [Go.RowKit.intOf]; omega⟩
        by_cases e : a' = i
        · subst e; exact HNJ.out b' h2
        · exact HNO.out a' b' (by omega) h2
      case pos =>
      have n2 : (j : Int) < (lp : Int) := by omega
      obtain ⟨x1, x2, x3, _⟩ := BX.out _ HBW.out
      have HC := Lib.hid (HSW.out i j wr hlt hlj HBW.out)
      cases hB : SwB f ln lo N U D zo zt i j with
      | true =>
        rw [hB] at HC
        have HB := Lib.hid hB
        clear hB
        go_wp2_with (go_at_call 52; refine HC.out.mono ?_; rintro e w5 ⟨⟨oo, lq, cc, rfl⟩, hv5⟩)
        exact bodyPost_ret (v := .tuple #[.int .i64 (i : Int), .int .i64 (j : Int), .bool true]) (by simp [results, Tryz.results51, go_sem]) rfl ⟨⟨(i : Int), (j : Int), true, rfl, .inl ⟨rfl, i, j, rfl, rfl, hlt, hlj, HB.out, HNJ.out, HNO.out⟩⟩, HA.out.trans ((HBW.out.trans (hv5.mono HBW.out.size)).mono HA.out.size)⟩
      | false =>
        rw [hB] at HC
        have HB := Lib.hid hB
        clear hB
        have HS0 := Lib.hid HBW.out.size
        go_wp2_with (go_at_call 52; refine HC.out.mono ?_; rintro e w5 ⟨⟨oo, lq, cc, rfl⟩, hv5⟩)
        exact ⟨⟨j + 1, by omega, by go_num, fun b' h => by (by_cases e : b' = j; (subst e; exact HB.out); exact HNJ.out b' (by omega)), HB2.out.trans (hv5.mono HB2.out.size)⟩, by simp [Go.RowKit.intOf]; omega⟩
end Go.Kn
