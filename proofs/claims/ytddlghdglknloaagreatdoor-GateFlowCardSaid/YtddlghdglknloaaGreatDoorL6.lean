/- Contracts of functions that the laws of this seat call, or the evaluator of closed calls and its runs. Conditions: as each theorem states them. -/
import Derived.Test.YtddlghdglknloaaGreatDoorL4
set_option linter.unusedVariables false
set_option linter.unusedSimpArgs false
namespace Go.Kn
open Go Go.Proofs Go.RowKit

/-- the greatest need that a point can have, over the first lists -/
def mosF (P : Nat → P8) (lc : Nat) (C : Nat → C8) (op : Nat → Bool) (p : Nat) : List (List Nat) → Int
  | Ls => Ls.foldl (fun a L => if memI L (p : Int) then min a ((P p).nd + spareV P lc C op false L) else a) 10000
theorem mosF_snoc {P : Nat → P8} {lc : Nat} {C : Nat → C8} {op : Nat → Bool} {p : Nat} (Ls : List (List Nat)) (L : List Nat) : mosF P lc C op p (Ls ++ [L]) = if memI L (p : Int) then min (mosF P lc C op p Ls) ((P p).nd + spareV P lc C op false L) else mosF P lc C op p Ls := by simp [mosF]
theorem mosF_le {P : Nat → P8} {lc : Nat} {C : Nat → C8} {op : Nat → Bool} {p : Nat} : ∀ (Ls : List (List Nat)) (v : Int), v ≤ mosF P lc C op p Ls ↔ v ≤ 10000 ∧ ∀ L ∈ Ls, memI L (p : Int) = true → v ≤ (P p).nd + spareV P lc C op false L := by
  intro Ls v
  have key : ∀ (Ls : List (List Nat)) (a : Int), v ≤ Ls.foldl (fun a L => if memI L (p : Int) then min a ((P p).nd + spareV P lc C op false L) else a) a ↔ v ≤ a ∧ ∀ L ∈ Ls, memI L (p : Int) = true → v ≤ (P p).nd + spareV P lc C op false L := by
    intro Ls
    induction Ls with
    | nil => intro a; simp
    | cons L Ls ih =>
      intro a
      rw [List.foldl_cons, ih]
      by_cases h : memI L (p : Int) = true
      · simp only [h, if_true, List.mem_cons, forall_eq_or_imp, true_implies]
        constructor
        · rintro ⟨h1, h2⟩; exact ⟨by omega, by omega, h2⟩
        · rintro ⟨h1, h2, h3⟩; exact ⟨by omega, h3⟩
      · simp only [h, List.mem_cons, forall_eq_or_imp]
        simp
  exact key Ls 10000
theorem mosF_mem {P : Nat → P8} {lc : Nat} {C : Nat → C8} {op : Nat → Bool} {p : Nat} {Ls Ms : List (List Nat)} (h : ∀ L, L ∈ Ls ↔ L ∈ Ms) : mosF P lc C op p Ls = mosF P lc C op p Ms := by
  have h1 := (mosF_le (P := P) (lc := lc) (C := C) (op := op) (p := p) Ls (mosF P lc C op p Ls)).1 (Int.le_refl _)
  have h2 := (mosF_le (P := P) (lc := lc) (C := C) (op := op) (p := p) Ms (mosF P lc C op p Ms)).1 (Int.le_refl _)
  have a := (mosF_le (P := P) (lc := lc) (C := C) (op := op) (p := p) Ms (mosF P lc C op p Ls)).2 ⟨h1.1, fun L hL => h1.2 L ((h L).2 hL)⟩
  have b := (mosF_le (P := P) (lc := lc) (C := C) (op := op) (p := p) Ls (mosF P lc C op p Ms)).2 ⟨h2.1, fun L hL => h2.2 L ((h L).1 hL)⟩
  omega
theorem spareV_bd {lp : Nat} {P : Nat → P8} {lc : Nat} {C : Nat → C8} {op : Nat → Bool} {e : Bool} (h : NetP lp P lc C) {L : List Nat} (hl : L.length ≤ 7) (hL : ∀ y ∈ L, y < lp) : -10000000 ≤ spareV P lc C op e L ∧ spareV P lc C op e L ≤ 10000000 := by
  have h1 := sumL_bd (g := leftV P e) (m := 1000000) (by decide) L (fun x hx => leftV_bd h.b (hL x hx))
  have h2 := sumN_bd (g := fun k => if inV C L k then carV C op k else 0) (m := 10000) lc (fun i hi => by
    have := h.c hi
    simp only [carV]
    split <;> (try split) <;> omega)
  have h3 := h.c10
  unfold spareV
  omega
theorem mosF_bd {lp : Nat} {P : Nat → P8} {lc : Nat} {C : Nat → C8} {op : Nat → Bool} {p : Nat} (h : NetP lp P lc C) (hp : p < lp) {Ls : List (List Nat)} (hL : ∀ L ∈ Ls, L.length ≤ 7 ∧ ∀ y ∈ L, y < lp) : -20000000 ≤ mosF P lc C op p Ls ∧ mosF P lc C op p Ls ≤ 10000 := by
  constructor
  · refine (mosF_le Ls _).2 ⟨by omega, fun L hl _ => ?_⟩
    have := spareV_bd (op := op) (e := false) h (hL L hl).1 (hL L hl).2
    have := h.p hp
    omega
  · exact ((mosF_le Ls _).1 (Int.le_refl _)).1

set_option maxRecDepth 100000 in
set_option maxHeartbeats 8000000 in
theorem rmost_w (pa ca sa : Option Addr) (lp cp lc cc m sc p : Nat) (P : Nat → P8) (C : Nat → C8) (s : Nat → Int) (w : World) (HP : Hid (NetP lp P lc C)) (HG : Hid (gatsB lc C s m = true)) (hm : m ≤ 1000) (hp : p < lp) (H : Hid (Ne8 w pa ca lp lc P C)) (HO : Hid (IntSl w sa m s)) :
    Calls Tryz.prog 36 #[.agg #[.slice pa lp cp, .slice ca lc cc], .slice sa m sc, .int .i64 (p : Int)] w fun e w' => e = .returned (.int .i64 (mosF P lc C (opnF s m) p (shL (List.range lp)))) ∧ Below w.heap.size w w' := by
  have hl1 := HP.out.l1
  have hl7 := HP.out.l7
  obtain ⟨W0, hW0⟩ : ∃ W0, W0 = w.alloc (.cells #[.slice pa lp cp, .slice ca lc cc] 25) := ⟨_, rfl⟩
  have hA : Below w.heap.size w W0 := by rw [hW0]; exact (Below.refl _ _).alloc (Nat.le_refl _) _
  have HF : Hid (∀ w2, Below W0.heap.size W0 w2 → w2.cell? ⟨w.heap.size, 0, none⟩ = some (.slice pa lp cp) ∧ w2.cell? ⟨w.heap.size, 1, none⟩ = some (.slice ca lc cc)) := Lib.hid fun w2 h => by
    rw [hW0] at h
    exact ⟨(box_cells h).1, (box_cells h).2.1⟩
  have HNP : Hid (∀ w2, Below W0.heap.size W0 w2 → PtSl w2 pa lp P) := Lib.hid fun w2 h => H.out.hp.below (hA.trans (h.mono hA.size))
  have HSH : Hid (∀ (L : List Nat) la qc w2, L.length ≤ 7 → (∀ y ∈ L, y < lp) → Below W0.heap.size W0 w2 → IntSl w2 la L.length (lgI L) → Calls Tryz.prog 26 #[.agg #[.slice pa lp cp, .slice ca lc cc], .slice sa m sc, .slice la L.length qc, .bool false] w2 fun e w' => e = .returned (.int .i64 (-(spareV P lc C (opnF s m) false L))) ∧ Below w2.heap.size w2 w') :=
    Lib.hid fun L la qc w2 hL hy h hs => rshort_w pa ca sa la lp cp lc cc m sc L.length qc P C s L false w2 HP HG hm rfl hL (Lib.hid hy) (Lib.hid (H.out.below (hA.trans (h.mono hA.size)))) (Lib.hid (HO.out.below (hA.trans (h.mono hA.size)))) (Lib.hid hs)
  have HNU : Hid (Calls Tryz.prog 76 #[.int .i64 (lp : Int)] W0 fun e w' => (∃ sa sc, e = .returned (.slice sa lp sc) ∧ lp ≤ sc ∧ IntSl w' sa lp (lgI (List.range lp))) ∧ Below W0.heap.size W0 w') := Lib.hid (numbers_w lp W0 (by omega) hl1)
  have HSO : Hid (∀ na nc w2, lp ≤ nc → IntSl w2 na lp (lgI (List.range lp)) → Calls Tryz.prog 75 #[.slice na lp nc] w2 fun e w' => (∃ oo cc E, e = .returned (.slice oo (shL (List.range lp)).length cc) ∧ PlSl w' oo (shL (List.range lp)).length E ∧ LsE E (shL (List.range lp))) ∧ Below w2.heap.size w2 w') :=
    Lib.hid fun na nc w2 h1 h2 => shortest_w na lp nc (List.range lp) w2 (by simp) hl7 h1 (Lib.hid h2)
  have HA := Lib.hid hA
  have HMEM : Hid (∀ L ∈ shL (List.range lp), L.length ≤ 7 ∧ ∀ y ∈ L, y < lp) := Lib.hid fun L hL => by
    have h1 := shL_iff.1 hL
    exact ⟨by have := h1.length_le; simp at this; omega, fun y hy => List.mem_range.1 (h1.subset hy)⟩
  have HSZ : Hid ((shL (List.range lp)).length ≤ 2000) := Lib.hid (by
    have h1 := shP_len (l := List.range lp) (by simpa using hl7) (lp + 1) (by omega)
    have h2 : shP (List.range lp) (lp + 1) = shL (List.range lp) := by unfold shP shL; simp
    rw [h2] at h1; omega)
  obtain ⟨Ls, hLs⟩ : ∃ Ls, shL (List.range lp) = Ls := ⟨_, rfl⟩
  rw [hLs] at HSO HMEM HSZ ⊢
  have HBD : Hid (∀ k, -20000000 ≤ mosF P lc C (opnF s m) p (Ls.take k) ∧ mosF P lc C (opnF s m) p (Ls.take k) ≤ 10000) := Lib.hid fun k => mosF_bd HP.out hp (fun L hL => HMEM.out L (List.mem_of_mem_take hL))
  have HV : Hid (mosF P lc C (opnF s m) p (Ls.take Ls.length) = mosF P lc C (opnF s m) p Ls) := Lib.hid (by rw [List.take_length])
  obtain ⟨V, hV⟩ : ∃ V, mosF P lc C (opnF s m) p Ls = V := ⟨_, rfl⟩
  rw [hV] at HV ⊢
  obtain ⟨f0, f1⟩ := HF.out _ (Below.refl _ _)
  rw [hW0] at f0 f1
  have hmx : Tryz.prog.follows .mixedOrders = true := by kernel_rfl
  clear hA H HO hLs hV
  go_enter Tryz.func36, Tryz.ntmps36
  go_wp2_with (first
    | (go_at_call 76; rw [← hW0]; refine HNU.out.mono ?_; rintro e w5 ⟨⟨na, nc, rfl, hnc, hns⟩, hv⟩; have HSO1 := Lib.hid (HSO.out na nc w5 hnc hns); have HV5 := Lib.hid hv; clear hv hns hW0 f0 f1)
    | (go_at_call 75; refine HSO1.out.mono ?_; rintro e w6 ⟨⟨oo, oc, E, rfl, hpl, hls⟩, hv⟩; have HPL := Lib.hid hpl; have HLS := Lib.hid hls; have HV6 := Lib.hid (HV5.out.trans (hv.mono HV5.out.size)); clear hv hpl hls))
  go_loopw [7, 9] (fun v ii wr => ∃ k : Nat, k ≤ Ls.length ∧ ii = .int .i64 (k : Int) ∧ v = .int .i64 (mosF P lc C (opnF s m) p (Ls.take k)) ∧ Below w6.heap.size w6 wr) (fun _ ii _ => Ls.length - (Go.RowKit.intOf ii).toNat)
  case atStart => exact ⟨0, Nat.zero_le _, rfl, by simp [mosF], Below.refl _ _⟩
  case round =>
    obtain ⟨k, hk, rfl, rfl, hbr⟩ := hrel
    have HBR := Lib.hid hbr
    have hsz := HSZ.out
    clear hbr
    by_cases hlt : k < Ls.length
    case pos =>
      obtain ⟨A, O, rfl, hA, hpp⟩ := (HPL.out.below HBR.out).resolve_left (by omega)
      obtain ⟨z1, z2⟩ := hpp k hlt
      obtain ⟨hE1, hE2⟩ := HLS.out k hlt
      have hKm : Ls.getD k [] ∈ Ls := by simp [hlt]
      obtain ⟨hK1, hK2⟩ := HMEM.out _ hKm
      have hsb := spareV_bd (op := opnF s m) (e := false) HP.out hK1 hK2
      have hmb := HBD.out k
      have HNX : Hid (mosF P lc C (opnF s m) p (Ls.take (k + 1)) = if memI (Ls.getD k []) (p : Int) then min (mosF P lc C (opnF s m) p (Ls.take k)) ((P p).nd + spareV P lc C (opnF s m) false (Ls.getD k [])) else mosF P lc C (opnF s m) p (Ls.take k)) := Lib.hid (by
        have hg : Ls.getD k [] = Ls[k] := by simp [hlt]
        rw [List.take_add_one, List.getElem?_eq_getElem hlt, hg]
        exact mosF_snoc _ _)
      obtain ⟨K, hK⟩ : ∃ K, Ls.getD k [] = K := ⟨_, rfl⟩
      rw [hK] at hE1 hE2 hK1 hK2 HNX hsb
      obtain ⟨ka, hka⟩ : ∃ v, (E k).a = v := ⟨_, rfl⟩
      obtain ⟨kc, hkc⟩ : ∃ v, (E k).c = v := ⟨_, rfl⟩
      rw [hE1, hka, hkc] at z1
      rw [hE1, hE2, hka] at z2
      have HB0 : Hid (∀ w2, Below wr.heap.size wr w2 → Below W0.heap.size W0 w2) := Lib.hid fun w2 h => HV6.out.trans ((HBR.out.trans (h.mono HBR.out.size)).mono HV6.out.size)
      have HSC : Hid (∀ w2, Below wr.heap.size wr w2 → Calls Tryz.prog 26 #[.agg #[.slice pa lp cp, .slice ca lc cc], .slice sa m sc, .slice ka K.length kc, .bool false] w2 fun e w' => e = .returned (.int .i64 (-(spareV P lc C (opnF s m) false K))) ∧ Below wr.heap.size wr w') :=
        Lib.hid fun w2 h => (HSH.out K ka kc w2 hK1 hK2 (HB0.out w2 h) (z2.below h)).mono fun e w' ⟨he, hv⟩ => ⟨he, h.trans (hv.mono h.size)⟩
      have HLI : Hid (Calls Tryz.prog 40 #[.slice ka K.length kc, .int .i64 (p : Int)] wr fun e w' => e = .returned (.bool (memI K (p : Int))) ∧ wr = w') := Lib.hid (by rw [memI_any]; exact rlisted_w ka K.length kc (lgI K) (p : Int) wr (by omega) (Lib.hid z2))
      obtain ⟨PA, PO, rfl, hPA, hPN⟩ := (HNP.out _ (HB0.out _ (Below.refl _ _))).resolve_left (by omega)
      have y2 := (hPN p hp).2.2
      have hpb := HP.out.p hp
      obtain ⟨nd, hnd⟩ : ∃ v, (P p).nd = v := ⟨_, rfl⟩
      rw [hnd] at y2 HNX hpb
      have HX : Hid (∀ w2, Below wr.heap.size wr w2 → w2.cell? ⟨w.heap.size, 0, none⟩ = some (.slice (some ⟨PA, PO, none⟩) lp cp) ∧ w2.cell? ⟨w.heap.size, 1, none⟩ = some (.slice ca lc cc) ∧ w2.cell? ⟨A, O + k, none⟩ = some (.slice ka K.length kc) ∧ w2.cell? ⟨PA, PO + p * 3 + 2, none⟩ = some (.int .i64 nd)) := Lib.hid fun w2 h => ⟨(HF.out _ (HB0.out w2 h)).1, (HF.out _ (HB0.out w2 h)).2, ((bcell h).1 _ _ hA).trans z1, ((bcell h).1 _ _ hPA).trans y2⟩
      obtain ⟨S, hS⟩ : ∃ S, spareV P lc C (opnF s m) false K = S := ⟨_, rfl⟩
      obtain ⟨q, hq⟩ : ∃ q, K.length = q := ⟨_, rfl⟩
      obtain ⟨M, hM⟩ : ∃ M, mosF P lc C (opnF s m) p (Ls.take k) = M := ⟨_, rfl⟩
      rw [hS] at HSC HNX hsb
      rw [hq] at HSC HX HLI z1
      rw [hM] at HNX hmb ⊢
      have n1 : (0 : Int) ≤ (k : Int) := by omega
      have n2 : (k : Int) < (Ls.length : Int) := by omega
      have n3 : (0 : Int) ≤ (p : Int) := by omega
      have n4 : (p : Int) < (lp : Int) := by omega
      have hw0 : IntKind.i64.wrap S = S := by rw [IntKind.wrap_i64]; omega
      have hmin : (if S + nd < M then S + nd else M) = min M (nd + S) := by omega
      have hw2 : IntKind.i64.wrap (S + nd) = S + nd := by rw [IntKind.wrap_i64]; omega
      clear hpp hK hka hkc hE1 hE2 z2 hA hKm hS hq hPN hnd hPA y2 hM
      cases hmm : memI K (p : Int) with
      | false =>
        rw [hmm] at HLI HNX
        simp only [Bool.false_eq_true, if_false] at HNX
        clear hmm
        go_wp2_with (go_at_call 40; refine HLI.out.mono ?_; rintro e w7 ⟨rfl, rfl⟩)
        go_roundw
        case rel => exact ⟨k + 1, by omega, by go_num, by rw [HNX.out], HBR.out⟩
        case measure => simp [Go.RowKit.intOf]; omega
      | true =>
        rw [hmm] at HLI HNX
        simp only [if_true] at HNX
        clear hmm
        go_wp2_with (go_at_call 40; refine HLI.out.mono ?_; rintro e w7 ⟨rfl, rfl⟩)
        refine wp_region_calm (W := wr) hmx (by kernel_rfl) (Below.refl _ _) ?_
        repeat (first
          | (refine calm_no (by rfl) ?_
             (try simp only [Act.put, List.setIfInBounds_toArray, List.set_cons_zero, List.set_cons_succ]))
          | (apply calm_yes
             focus rfl
             focus
               intro w' hw'
               obtain ⟨z1, z2, z3, z4⟩ := HX.out w' hw'
               go_simp
               first
                 | done
                 | with_reducible rfl
                 | (go_at_call 26; exact HSC.out w' hw')
                 | fail
             (try simp only [Act.put, List.setIfInBounds_toArray, List.set_cons_zero, List.set_cons_succ])))
        refine calm_nil ?_
        intro w7 hqw7
        have HQ7 := Lib.hid hqw7
        clear hqw7

        obtain ⟨R, hR⟩ : ∃ R, min M (nd + S) = R := ⟨_, rfl⟩
        rw [hR] at HNX ⊢
        clear hR
        go_wp2
        go_roundw
        case rel => exact ⟨k + 1, by omega, by go_num, by rw [HNX.out], HBR.out.trans (HQ7.out.mono HBR.out.size)⟩
        case measure => simp [Go.RowKit.intOf]; omega
    case neg =>
      obtain rfl : k = Ls.length := by omega
      have n2 : ¬ ((Ls.length : Int) < (Ls.length : Int)) := by omega
      rw [HV.out]
      go_wp2
      go_ret
      exact ⟨rfl, HA.out.trans ((HV6.out.trans (HBR.out.mono HV6.out.size)).mono HA.out.size)⟩
end Go.Kn

namespace Go.Kn
open Go Go.Proofs Go.RowKit

set_option maxRecDepth 100000 in
set_option maxHeartbeats 1000000 in
theorem s69_w (pa ca : Option Addr) (lp cp lc cc ob : Nat) (P : Nat → P8) (C : Nat → C8) (op : Nat → Bool) (w : World) (HB : Hid (NetB lp P lc C)) (H : Hid (Ne8 w pa ca lp lc P C)) (HO : Hid (B12 w ob pa ca lp cp lc cc op)) :
    Calls Tryz.prog 69 #[.pointer (some ⟨ob, 0, none⟩)] w fun r w' => Below w.heap.size w w' ∧
      ((r = .returned (.tuple #[]) ∧ fedV lp P lc C op false = true) ∨ (r = .panicked dryC ∧ fedV lp P lc C op false = false)) := by
  have HG := Lib.hid (feed_w pa ca lp cp lc cc P C op false w HB H)
  simp only [Bool.false_eq_true, if_false] at HG
  simp only [opC] at HG
  obtain ⟨x0, x1, x2, x3, x4, x5, x6, x7, x8, x9, x10, x11, _⟩ := HO.out
  go_enter Tryz.func69, Tryz.ntmps69
  go_wp2_with (go_at_call 70; refine HG.out.mono ?_; rintro r w2 ⟨hb, hor⟩; rcases hor.symm with ⟨rfl, L, h1, h2⟩ | ⟨rfl, h1⟩)
  · refine ⟨rfl, hb, .inr ⟨rfl, ?_⟩⟩
    cases hf : fedV lp P lc C op false with
    | false => rfl
    | true => have := fed_iff.1 hf L h1; omega
  · have HB2 := Lib.hid hb
    have H1 := Lib.hid h1
    clear hb h1
    go_end0
    exact ⟨HB2.out, .inl ⟨rfl, fed_iff.2 H1.out⟩⟩

set_option maxRecDepth 100000 in
set_option maxHeartbeats 1000000 in
theorem att69_w (pa ca : Option Addr) (lp cp lc cc ob : Nat) (P : Nat → P8) (C : Nat → C8) (op : Nat → Bool) (w : World) (HB : Hid (NetB lp P lc C)) (H : Hid (Ne8 w pa ca lp lc P C)) (HO : Hid (B12 w ob pa ca lp cp lc cc op)) :
    Calls Tryz.prog 68 #[.func (.func 69) #[] #[.pointer (some ⟨ob, 0, none⟩)]] w fun r w' => Below w.heap.size w w' ∧
      r = .returned (.int .i64 (if fedV lp P lc C op false then 0 else 7)) := by
  have hmf : ∀ (fn : Fn) (first cap : Array Value) (w : World), (Instr.makeFunc fn first cap).run Tryz.prog w = .ok (.func fn first cap) w := fun _ _ _ _ => rfl
  have hA : Below w.heap.size w (w.alloc (.cells #[.int .i64 0] 29)) := (Below.refl _ _).alloc (Nat.le_refl _) _
  have HG := Lib.hid (s69_w pa ca lp cp lc cc ob P C op (w.alloc (.cells #[.int .i64 0] 29)) HB (Lib.hid (H.out.below hA)) (Lib.hid (HO.out.below hA)))
  have HC : Hid (∀ w1, Below (w.alloc (.cells #[.int .i64 0] 29)).heap.size (w.alloc (.cells #[.int .i64 0] 29)) w1 → w1.cell? ⟨w.heap.size, 0, none⟩ = some (.int .i64 0) ∧ w1.frozen? ⟨w.heap.size, 0, none⟩ = false) := Lib.hid fun w1 h =>
    ⟨(h.cell (p := ⟨w.heap.size, 0, none⟩) (by simp)).trans (by simp), (h.frozen (p := ⟨w.heap.size, 0, none⟩) (by simp)).trans (by simp)⟩
  have HA := Lib.hid hA
  clear hA
  cases hf : fedV lp P lc C op false with
  | true =>
    rw [hf] at HG
    clear hf
    simp only [if_true]
    go_enter_defers Tryz.func68, Tryz.ntmps68
    go_wp2_with (go_at_call 69; refine HG.out.mono ?_; rintro r w2 ⟨hb, hor⟩; obtain ⟨y1, y2⟩ := HC.out _ hb; have HF := Lib.hid hb; clear hb; obtain ⟨rfl, -⟩ := hor.resolve_right (fun h => by cases h.2))
    refine leaves_cons (f := 117) (args := #[.pointer (some ⟨w.heap.size, 0, none⟩)]) (by simp) (by simp [go_sem]) ?_
    refine (catch_none ⟨w.heap.size, 0, none⟩ _).mono ?_
    rintro e u' w'' ⟨rfl, rfl, rfl⟩
    have z1 : (w2.setCell ⟨w.heap.size, 0, none⟩ (.int .i64 0)).cell? ⟨w.heap.size, 0, none⟩ = some (.int .i64 0) := World.cell?_setCell_same' _ _ _ (by rw [y1]; rfl)
    simp [Leaves, settle, results, Tryz.results68, go_sem, z1]
    exact (HA.out.trans (HF.out.mono HA.out.size)).setCell (p := ⟨w.heap.size, 0, none⟩) (Nat.le_refl _) _
  | false =>
    rw [hf] at HG
    clear hf
    simp only [Bool.false_eq_true, if_false]
    go_enter_defers Tryz.func68, Tryz.ntmps68
    go_wp2_with (go_at_call 69; refine HG.out.mono ?_; rintro r w2 ⟨hb, hor⟩; obtain ⟨y1, y2⟩ := HC.out _ hb; have HF := Lib.hid hb; clear hb; obtain ⟨rfl, -⟩ := hor.resolve_left (fun h => by cases h.2))
    refine leaves_cons (f := 117) (args := #[.pointer (some ⟨w.heap.size, 0, none⟩)]) (by simp) (by simp [go_sem]) ?_
    refine (catch_rate ⟨w.heap.size, 0, none⟩ 0 [] _ y1 y2).mono ?_
    rintro e u' w'' ⟨rfl, rfl, rfl⟩
    have z1 : (w2.setCell ⟨w.heap.size, 0, none⟩ (.int .i64 7)).cell? ⟨w.heap.size, 0, none⟩ = some (.int .i64 7) := World.cell?_setCell_same' _ _ _ (by rw [y1]; rfl)
    simp [Leaves, settle, results, Tryz.results68, go_sem, z1]
    exact (HA.out.trans (HF.out.mono HA.out.size)).setCell (p := ⟨w.heap.size, 0, none⟩) (Nat.le_refl _) _

/-- what Most asks of its arguments -/
def moQ (lp : Nat) (P : Nat → P8) (lc : Nat) (C : Nat → C8) (s : Nat → Int) (m : Nat) (x : Int) : Bool := netV lp P lc C && gatsB lc C s m && fromB 0 ((lp : Int) - 1) x

set_option maxRecDepth 100000 in
set_option maxHeartbeats 8000000 in
/-- Most where something is not as defined, or the network is not surely fed -/
theorem most_bad (pa ca sa : Option Addr) (lp cp lc cc m sc : Nat) (P : Nat → P8) (C : Nat → C8) (s : Nat → Int) (x : Int) (w : World) (hlp : lp ≤ 1000000) (hlc : lc ≤ 1000000) (hm : m ≤ 1000000) (H : Hid (Ne8 w pa ca lp lc P C)) (HO : Hid (IntSl w sa m s)) (hq : (moQ lp P lc C s m x && fedV lp P lc C (opnF s m) false) = false) :
    Calls Tryz.prog 29 #[.agg #[.slice pa lp cp, .slice ca lc cc], .slice sa m sc, .int .i64 x] w fun e w' => e = .returned (.tuple #[.int .i64 0, .int .i64 (if moQ lp P lc C s m x then 7 else 2)]) ∧ Below w.heap.size w w' := by
  have hmf : ∀ (fn : Fn) (first cap : Array Value) (w : World), (Instr.makeFunc fn first cap).run Tryz.prog w = .ok (.func fn first cap) w := fun _ _ _ _ => rfl
  obtain ⟨W0, hW0⟩ : ∃ W0, W0 = (w.alloc (.cells #[.slice pa lp cp, .slice ca lc cc] 25)).alloc (.cells #[.int .i64 x] 3) := ⟨_, rfl⟩
  have hA : Below w.heap.size w W0 := by rw [hW0]; exact ((Below.refl _ _).alloc (Nat.le_refl _) _).alloc (by simp) _
  have HF : Hid (∀ w2, Below W0.heap.size W0 w2 → w2.cell? ⟨w.heap.size, 0, none⟩ = some (.slice pa lp cp) ∧ w2.cell? ⟨w.heap.size, 1, none⟩ = some (.slice ca lc cc) ∧ w2.cell? ⟨w.heap.size + 1, 0, none⟩ = some (.int .i64 x)) := Lib.hid fun w2 h => by
    have h1 : Below (w.alloc (.cells #[.slice pa lp cp, .slice ca lc cc] 25)).heap.size (w.alloc (.cells #[.slice pa lp cp, .slice ca lc cc] 25)) w2 := by rw [hW0] at h; exact below_al h
    refine ⟨(box_cells h1).1, (box_cells h1).2.1, ((bcell h).1 _ _ (by rw [hW0]; simp)).trans ?_⟩
    rw [hW0]; exact al_top (by simp) _ _
  have HN : Hid (∀ w2, Below W0.heap.size W0 w2 → Ne8 w2 pa ca lp lc P C) := Lib.hid fun w2 h => H.out.below (hA.trans (h.mono hA.size))
  have HOS : Hid (∀ w2, Below W0.heap.size W0 w2 → IntSl w2 sa m s) := Lib.hid fun w2 h => HO.out.below (hA.trans (h.mono hA.size))
  have H1 : Hid (Calls Tryz.prog 56 #[.agg #[.slice pa lp cp, .slice ca lc cc]] W0 fun e w' => e = .returned (.bool (netV lp P lc C)) ∧ Below W0.heap.size W0 w') := Lib.hid (isNet_w pa ca lp cp lc cc P C W0 hlp hlc (Lib.hid (HN.out _ (Below.refl _ _))))
  have H2 : Hid (∀ w2, Below W0.heap.size W0 w2 → Calls Tryz.prog 57 #[.agg #[.slice pa lp cp, .slice ca lc cc], .slice sa m sc] w2 fun e w' => e = .returned (.bool (gatsB lc C s m)) ∧ Below w2.heap.size w2 w') := Lib.hid fun w2 h => areGates_w pa ca sa lp cp lc cc m sc P C s w2 hlc hm (Lib.hid (HN.out _ h)) (Lib.hid (HOS.out _ h))
  have H3 : Hid (∀ w2, Below W0.heap.size W0 w2 → Calls Tryz.prog 67 #[.agg #[.slice pa lp cp, .slice ca lc cc], .int .i64 x] w2 fun e w' => e = .returned (.bool (fromB 0 ((lp : Int) - 1) x)) ∧ Below w2.heap.size w2 w') := Lib.hid fun w2 h => isPoint_w pa ca lp cp lc cc x w2 hlp
  have HA := Lib.hid hA
  obtain ⟨f0, f1, f2⟩ := HF.out _ (Below.refl _ _)
  rw [hW0] at f0 f1 f2
  clear hA H HO
  obtain ⟨q1, hq1⟩ : ∃ q, netV lp P lc C = q := ⟨_, rfl⟩
  obtain ⟨q2, hq2⟩ : ∃ q, gatsB lc C s m = q := ⟨_, rfl⟩
  obtain ⟨q3, hq3⟩ : ∃ q, fromB 0 ((lp : Int) - 1) x = q := ⟨_, rfl⟩
  have HQ1 := Lib.hid hq1
  have HQ2 := Lib.hid hq2
  have HQ : Hid (moQ lp P lc C s m x = (q1 && q2 && q3)) := Lib.hid (by rw [← hq1, ← hq2, ← hq3]; rfl)
  rw [HQ.out] at hq ⊢
  rw [hq1] at H1
  rw [hq2] at H2
  rw [hq3] at H3
  have A1 := Lib.hid trivial
  clear hq1 hq2 hq3 HQ
  cases q1 with
  | false =>
    go_enter Tryz.func29, Tryz.ntmps29
    go_wp2_with (first
      | (go_at_call 56; rw [← hW0]; refine H1.out.mono ?_; rintro e w5 ⟨rfl, hv⟩; clear hW0 f0 f1 f2; have HV5 := Lib.hid hv; obtain ⟨g0, g1, g2⟩ := HF.out _ hv; clear hv))
    exact bodyPost_ret (v := .tuple #[.int .i64 0, .int .i64 2]) (by simp [results, Tryz.results29, go_sem]) rfl ⟨by simp, HA.out.trans (HV5.out.mono HA.out.size)⟩
  | true =>
    cases q2 with
    | false =>
      go_enter Tryz.func29, Tryz.ntmps29
      go_wp2_with (first
        | (go_at_call 56; rw [← hW0]; refine H1.out.mono ?_; rintro e w5 ⟨rfl, hv⟩; clear hW0 f0 f1 f2; have HV5 := Lib.hid hv; obtain ⟨g0, g1, g2⟩ := HF.out _ hv; clear hv)
        | (go_at_call 57; refine (H2.out _ HV5.out).mono ?_; rintro e w6 ⟨rfl, hv⟩; have HV6 := Lib.hid (HV5.out.trans (hv.mono HV5.out.size)); clear hv g0 g1 g2; obtain ⟨g0, g1, g2⟩ := HF.out _ HV6.out))
      exact bodyPost_ret (v := .tuple #[.int .i64 0, .int .i64 2]) (by simp [results, Tryz.results29, go_sem]) rfl ⟨by simp, HA.out.trans (HV6.out.mono HA.out.size)⟩
    | true =>
      cases q3 with
      | false =>
        go_enter Tryz.func29, Tryz.ntmps29
        go_wp2_with (first
          | (go_at_call 56; rw [← hW0]; refine H1.out.mono ?_; rintro e w5 ⟨rfl, hv⟩; clear hW0 f0 f1 f2; have HV5 := Lib.hid hv; obtain ⟨g0, g1, g2⟩ := HF.out _ hv; clear hv)
          | (go_at_call 57; refine (H2.out _ HV5.out).mono ?_; rintro e w6 ⟨rfl, hv⟩; have HV6 := Lib.hid (HV5.out.trans (hv.mono HV5.out.size)); clear hv g0 g1 g2; obtain ⟨g0, g1, g2⟩ := HF.out _ HV6.out)
          | (go_at_call 67; refine (H3.out _ HV6.out).mono ?_; rintro e w7 ⟨rfl, hv⟩; have HV7 := Lib.hid (HV6.out.trans (hv.mono HV6.out.size)); clear hv g0 g1 g2; obtain ⟨g0, g1, g2⟩ := HF.out _ HV7.out))
        exact bodyPost_ret (v := .tuple #[.int .i64 0, .int .i64 2]) (by simp [results, Tryz.results29, go_sem]) rfl ⟨by simp, HA.out.trans (HV7.out.mono HA.out.size)⟩
      | true =>
        simp only [Bool.and_true, Bool.true_and] at hq
        have HP := Lib.hid (netV_iff.1 HQ1.out)
        have hc10 := HP.out.c10
        have HOB : Hid (∀ i, i < m → 0 ≤ s i ∧ s i < 10) := Lib.hid fun i hi => by have := gatsB_inc HQ2.out i hi; omega
        have H4 : Hid (∀ w2, Below W0.heap.size W0 w2 → Calls Tryz.prog 59 #[.agg #[.slice pa lp cp, .slice ca lc cc], .slice sa m sc] w2 fun e w' => e = .returned (.agg (opC pa ca lp cp lc cc (opnF s m))) ∧ Below w2.heap.size w2 w') := Lib.hid fun w2 h => withOpen_w pa ca sa lp cp lc cc m sc s w2 hm HOB (Lib.hid (HOS.out _ h))
        obtain ⟨op, hop⟩ : ∃ op, opnF s m = op := ⟨_, rfl⟩
        rw [hop] at hq H4
        have H5 : Hid (∀ w8, Below W0.heap.size W0 w8 → Calls Tryz.prog 68 #[.func (.func 69) #[] #[.pointer (some ⟨w8.heap.size, 0, none⟩)]] (w8.alloc (.cells (opC pa ca lp cp lc cc op) 81)) fun r w' => Below (w8.alloc (.cells (opC pa ca lp cp lc cc op) 81)).heap.size (w8.alloc (.cells (opC pa ca lp cp lc cc op) 81)) w' ∧ r = .returned (.int .i64 7)) := Lib.hid fun w8 h => by
          have h1 := att69_w pa ca lp cp lc cc w8.heap.size P C op (w8.alloc (.cells (opC pa ca lp cp lc cc op) 81)) (Lib.hid HP.out.b) (Lib.hid (HN.out _ (h.alloc h.size _))) (Lib.hid (B12.new w8 pa ca lp cp lc cc op))
          rw [hq] at h1
          simpa using h1
        simp only [opC] at H4 H5
        clear hop hq
        go_enter Tryz.func29, Tryz.ntmps29
        go_wp2_with (first
          | (go_at_call 56; rw [← hW0]; refine H1.out.mono ?_; rintro e w5 ⟨rfl, hv⟩; clear hW0 f0 f1 f2; have HV5 := Lib.hid hv; obtain ⟨g0, g1, g2⟩ := HF.out _ hv; clear hv)
          | (go_at_call 57; refine (H2.out _ HV5.out).mono ?_; rintro e w6 ⟨rfl, hv⟩; have HV6 := Lib.hid (HV5.out.trans (hv.mono HV5.out.size)); clear hv g0 g1 g2; obtain ⟨g0, g1, g2⟩ := HF.out _ HV6.out)
          | (go_at_call 67; refine (H3.out _ HV6.out).mono ?_; rintro e w7 ⟨rfl, hv⟩; have HV7 := Lib.hid (HV6.out.trans (hv.mono HV6.out.size)); clear hv g0 g1 g2; obtain ⟨g0, g1, g2⟩ := HF.out _ HV7.out)
          | (go_at_call 59; refine (H4.out _ HV7.out).mono ?_; rintro e w8 ⟨rfl, hv⟩; have HV8 := Lib.hid (HV7.out.trans (hv.mono HV7.out.size)); clear hv g0 g1 g2; obtain ⟨g0, g1, g2⟩ := HF.out _ HV8.out)
          | (go_at_call 68; refine (H5.out _ HV8.out).mono ?_; rintro e w9 ⟨hv, rfl⟩; have HV9 := Lib.hid ((HV8.out.alloc HV8.out.size _).trans (hv.mono (HV8.out.alloc HV8.out.size _).size)); clear hv))
        exact bodyPost_ret (v := .tuple #[.int .i64 0, .int .i64 7]) (by simp [results, Tryz.results29, go_sem]) rfl ⟨by simp, HA.out.trans (HV9.out.mono HA.out.size)⟩
end Go.Kn
