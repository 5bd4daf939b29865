/- Contracts of functions that the laws of this seat call, or the evaluator of closed calls and its runs. Conditions: as each theorem states them. -/
import Derived.Test.YtddlghdglknloaaGreatDoorL1
import Derived.Test.YtddlghdglknloaaGreatDoorJ0
set_option linter.unusedVariables false
set_option linter.unusedSimpArgs false
namespace Go.Kn
open Go Go.Proofs Go.RowKit

set_option maxRecDepth 100000 in
set_option maxHeartbeats 4000000 in
theorem numbers_w (n : Nat) (w : World) (hn : n ≤ 1000) (hn1 : 1 ≤ n) :
    Calls Tryz.prog 76 #[.int .i64 (n : Int)] w fun e w' => (∃ sa sc, e = .returned (.slice sa n sc) ∧ n ≤ sc ∧ IntSl w' sa n (lgI (List.range n))) ∧ Below w.heap.size w w' := by
  obtain ⟨i0, hi0, hz0, hz1, hz2⟩ := info_parts info3'
  go_enter Tryz.func76, Tryz.ntmps76
  go_wp2
  go_loopw [3, 4] (fun v ii wr => ∃ k : Nat, k ≤ n ∧ ii = .int .i64 (k : Int) ∧ wr.ownsRow w.heap.size 3 1 v k ((List.range k).map iv1) ∧ Below w.heap.size w wr) (fun _ ii _ => n - (Go.RowKit.intOf ii).toNat)
  case atStart => exact ⟨0, Nat.zero_le _, rfl, ⟨rfl, .inl ⟨rfl, rfl⟩⟩, Below.refl _ _⟩
  case round =>
    obtain ⟨k, hk, rfl, hown, hbr⟩ := hrel
    have HOW := Lib.hid hown
    have HBR := Lib.hid hbr
    clear hown hbr
    by_cases hlt : k < n
    case pos =>
      have n1 : (0 : Int) ≤ (k : Int) := by omega
      have n2 : (k : Int) < (n : Int) := by omega
      go_wp2_with (first
        | (at_builtin; refine wpList_append_own_at _ rfl (.tmp 10) (.tmp 12) 26 rfl w.heap.size 3 i0 (.int .i64 0) 1 8 Tryz.underlying26 hi0 hz0 hz1 hz2 rfl (by decide) _ k _ rfl (HOW.out.alloc _) ⟨_, 0, none⟩ 1 1 [.int .i64 (k : Int)] rfl rfl (lies_any (by first | exact al_top rfl _ _ | exact al_top (by simp) _ _)) (by intro u hu; simp at hu; subst hu; rfl) (by unfold maxLen; omega) (by omega) (by have := HBR.out.size; simp; omega) ?_; intro v7 w7' hown7 hgrow7 _ hloc7))
      go_roundw
      case rel => exact ⟨k + 1, by omega, by go_num, by rw [List.range_succ, List.map_append]; exact hown7, (HBR.out.alloc HBR.out.size _).grown hgrow7 (by have := HBR.out.size; simp; omega) (fun r e => own_ge HOW.out r e)⟩
      case measure => simp [Go.RowKit.intOf]; omega
    case neg =>
      obtain rfl : k = n := by omega
      obtain ⟨g, cap, rfl, hcap, hio⟩ := ownOf HOW.out (by omega)
      have HI := Lib.hid hio
      clear hio
      go_wp2
      go_ret
      exact ⟨⟨_, cap, rfl, hcap, .inr ⟨g, 0, rfl, HI.out.lt, HI.out.at_⟩⟩, HBR.out⟩

theorem lsL_pos {m : Nat} {l : List Nat} (h : m ≤ l.length) : 1 ≤ (lsL m l).length :=
  List.length_pos_of_mem ((lsL_iff m l (l.take m)).2 ⟨List.take_sublist _ _, by simp [h]⟩)

/-- lists behind lists -/
def appE (E : Nat → Dy) (d : Nat) (E2 : Nat → Dy) : Nat → Dy := fun x => if x < d then E x else E2 (x - d)
theorem LsE.app {E E2 : Nat → Dy} {Ls Ms : List (List Nat)} (h : LsE E Ls) (h2 : LsE E2 Ms) : LsE (appE E Ls.length E2) (Ls ++ Ms) := by
  intro x hx
  unfold appE
  by_cases e : x < Ls.length
  · rw [if_pos e]
    have := h x e
    simp only [List.getD, List.getElem?_append_left e] at this ⊢
    exact this
  · rw [if_neg e]
    have := h2 (x - Ls.length) (by rw [List.length_append] at hx; omega)
    simp only [List.getD, List.getElem?_append_right (show Ls.length ≤ x by omega)] at this ⊢
    exact this

theorem rest_lies {w : World} {A O R : Nat} {E2 : Nat → Dy} (hp : PlAt w A O R E2) : ∀ (j : Nat) (u : Value), (upto (fun x => Value.slice (E2 x).a (E2 x).n (E2 x).c) R)[j]? = some u → w.cell? ((⟨A, O, none⟩ : Addr).add j) = some u := fun j u hu => by
  have hj : j < R := by
    rcases Nat.lt_or_ge j R with h | h
    · exact h
    · rw [List.getElem?_eq_none (by simpa [upto] using h)] at hu; cases hu
  have e : u = .slice (E2 j).a (E2 j).n (E2 j).c := by simpa [upto, hj] using hu.symm
  have hc := (hp j hj).1
  rw [e]
  by_cases hj0 : j = 0
  · subst hj0; simpa [Addr.add] using hc
  · simpa [Addr.add, hj0] using hc
theorem PlSl.day2 {w : World} {pa : Option Addr} {lp : Nat} {D : Nat → Dy} (h : PlSl w pa lp D) {d : Nat} (hd : d < lp) : IntSl w (D d).a (D d).n (D d).s := by
  rcases h with h | ⟨A, O, _, _, h3⟩
  · omega
  · exact (h3 d hd).2

theorem out_app {w2 w' : World} {base d R : Nat} {v v' : Value} {E E2 : Nat → Dy} {oo : Option Addr} (h : OutSl w2 base v d E) (hr : RestOk w2 v oo R E2) (h3 : w2.grownBy w' v.ownBlock)
    (h2 : w'.ownsRow base 26 1 v' (d + R) (upto (fun x => Value.slice (E x).a (E x).n (E x).c) d ++ upto (fun x => Value.slice (E2 x).a (E2 x).n (E2 x).c) R)) (h5 : v'.ownBlock = v.ownBlock ∨ v'.ownBlock = some w2.heap.size) : OutSl w' base v' (d + R) (appE E d E2) := by
  have hin : ∀ x, x < R → IntSl w2 (E2 x).a (E2 x).n (E2 x).s := fun x hx => hr.pl.day2 hx
  refine ⟨?_, fun x hx => ?_, fun x hx h0 b o e => ?_⟩
  · have e : upto (fun x => Value.slice (appE E d E2 x).a (appE E d E2 x).n (appE E d E2 x).c) (d + R) = upto (fun x => Value.slice (E x).a (E x).n (E x).c) d ++ upto (fun x => Value.slice (E2 x).a (E2 x).n (E2 x).c) R := by
      unfold upto
      rw [List.range_add, List.map_append, List.map_map]
      congr 1
      · exact List.map_congr_left fun i hi => by unfold appE; rw [if_pos (List.mem_range.1 hi)]
      · exact List.map_congr_left fun i hi => by
          have : ¬ d + i < d := by omega
          simp [appE, this]
    rw [e]; exact h2
  · unfold appE
    by_cases e : x < d
    · rw [if_pos e]; exact (h.day x e).grown h3 (h.sep x e)
    · rw [if_neg e]; exact (hin _ (by omega)).grown h3 (hr.s2 _ (by omega))
  · have key : v.ownBlock ≠ some b ∧ b < w2.heap.size := by
      unfold appE at h0 e
      by_cases e2 : x < d
      · rw [if_pos e2] at h0 e
        obtain ⟨A2, O2, e3, hA2, _⟩ := (h.day x e2).resolve_left h0
        rw [e] at e3; cases e3
        exact ⟨h.sep x e2 h0 b o e, hA2⟩
      · rw [if_neg e2] at h0 e
        obtain ⟨A2, O2, e3, hA2, _⟩ := (hin _ (show x - d < R by omega)).resolve_left h0
        rw [e] at e3; cases e3
        exact ⟨hr.s2 _ (by omega) h0 b o e, hA2⟩
    rcases h5 with h6 | h6
    · rw [h6]; exact key.1
    · rw [h6]; intro e; injection e with e; have := key.2; omega

/-- the lists with fewer numbers -/
def shP (l : List Nat) (k : Nat) : List (List Nat) := (List.range k).flatMap fun m => lsL m l
theorem shP_succ (l : List Nat) (k : Nat) : shP l (k + 1) = shP l k ++ lsL k l := by simp [shP, List.range_succ, List.flatMap_append]
theorem shP_len {l : List Nat} (hl : l.length ≤ 7) : ∀ k, k ≤ 8 → (shP l k).length ≤ 128 * k
  | 0, _ => by simp [shP]
  | k + 1, h => by
    have h1 := shP_len hl k (by omega)
    have h2 := lsL_len k l
    have h3 : 2 ^ l.length ≤ 2 ^ 7 := Nat.pow_le_pow_right (by decide) hl
    rw [shP_succ, List.length_append]
    omega

set_option maxRecDepth 100000 in
set_option maxHeartbeats 4000000 in
theorem shortest_w (sa : Option Addr) (n sc : Nat) (l : List Nat) (w : World) (hl : l.length = n) (hn : n ≤ 7) (hc : n ≤ sc) (HS : Hid (IntSl w sa n (lgI l))) :
    Calls Tryz.prog 75 #[.slice sa n sc] w fun e w' => (∃ oo cc E, e = .returned (.slice oo (shL l).length cc) ∧ PlSl w' oo (shL l).length E ∧ LsE E (shL l)) ∧ Below w.heap.size w w' := by
  have HL := Lib.hid hl
  have HSL : Hid (∀ w2, Below w.heap.size w w2 → Hid (IntSl w2 sa n (lgI l))) := Lib.hid fun w2 h => Lib.hid (HS.out.below h)
  have HSP : Hid (∀ k, k ≤ 8 → (shP l k).length ≤ 1024) := Lib.hid fun k hk => by have := shP_len (l := l) (by omega) k hk; omega
  have HNX : Hid (∀ k, shP l (k + 1) = shP l k ++ lsL k l) := Lib.hid (shP_succ l)
  have HE : Hid (shP l (n + 1) = shL l) := Lib.hid (by unfold shL shP; rw [hl])
  clear hl HS
  go_enter Tryz.func75, Tryz.ntmps75
  go_wp2
  go_loopw [3, 4] (fun v ii wr => ∃ (k : Nat) (E : Nat → Dy), k ≤ n + 1 ∧ ii = .int .i64 (k : Int) ∧ OutSl wr w.heap.size v (shP l k).length E ∧ LsE E (shP l k) ∧ Below w.heap.size w wr) (fun _ ii _ => n + 1 - (Go.RowKit.intOf ii).toNat)
  case atStart => exact ⟨0, fun _ => ⟨none, 0, 0, fun _ => 0⟩, Nat.zero_le _, rfl, ⟨⟨rfl, .inl ⟨rfl, rfl⟩⟩, fun x hx => by simp [shP] at hx, fun x hx => by simp [shP] at hx⟩, fun x hx => by simp [shP] at hx, Below.refl _ _⟩
  case round =>
    obtain ⟨k, E, hk, rfl, hout, hls, hbr⟩ := hrel
    have HOUT := Lib.hid hout
    have HLS := Lib.hid hls
    have HBR := Lib.hid hbr
    clear hout hls hbr
    by_cases hlt : k ≤ n
    case pos =>
      have n2 : (k : Int) ≤ (n : Int) := by omega
      have HLI := Lib.hid (lists_all k (by omega) sa n sc l wr HL.out hn hc (HSL.out _ HBR.out))
      have HP1 : Hid (1 ≤ (lsL k l).length) := Lib.hid (lsL_pos (by rw [HL.out]; exact hlt))
      have HD : Hid ((shP l k).length ≤ 1024) := Lib.hid (HSP.out k (by omega))
      have HD2 : Hid ((shP l k).length + (lsL k l).length ≤ 1024) := Lib.hid (by have := HSP.out (k + 1) (by omega); rw [HNX.out, List.length_append] at this; exact this)
      have HNK := Lib.hid (HNX.out k)
      obtain ⟨M, hM⟩ : ∃ M, lsL k l = M := ⟨_, rfl⟩
      rw [hM] at HLI HP1 HD2 HNK
      obtain ⟨w9, hw9⟩ : ∃ w9, w9 = wr := ⟨_, rfl⟩
      subst hw9
      clear hM
      obtain ⟨i0, hi0, hz0, hz1, hz2⟩ := info_parts info26
      have hm1 := HP1.out
      have hm2 := HD2.out
      obtain ⟨d, hd⟩ : ∃ d, (shP l k).length = d := ⟨_, rfl⟩
      rw [hd] at HOUT hm2
      have HDD := Lib.hid hd
      clear hd
      go_wp2_with (first
        | (go_at_call 124; refine HLI.out.mono ?_; rintro e w5 ⟨⟨oo, cc, E2, rfl, hpl, hls2, hfar2, hoo⟩, hv⟩; obtain ⟨A, O, rfl, hA, hp⟩ := hpl.resolve_left (by omega); have HV := Lib.hid hv; have HL2 := Lib.hid hls2; have HRK : Hid (RestOk w5 u3 (some ⟨A, O, none⟩) M.length E2) := Lib.hid ⟨.inr ⟨A, O, rfl, hA, hp⟩, fun h0 b o e => own_lt HOUT.out.own (hoo b o e), fun x hx h0 b o e => own_lt HOUT.out.own (hfar2 x hx h0 b o e)⟩; have HPP := Lib.hid hp; have HO5 := Lib.hid (HOUT.out.below HV.out); clear hv hpl hls2 hfar2 hoo hp hA)
        | (at_builtin; refine wpList_append_own_at _ rfl (.tmp 11) (.tmp 14) 71 rfl w.heap.size 26 i0 (.slice none 0 0) 1 24 Tryz.underlying71 hi0 hz0 hz1 hz2 rfl (by decide) _ d _ rfl HO5.out.own ⟨A, O, none⟩ M.length cc (upto (fun x => Value.slice (E2 x).a (E2 x).n (E2 x).c) M.length) rfl (by simp [upto]) (rest_lies HPP.out) (by intro u hu; simp [upto] at hu; obtain ⟨a, _, rfl⟩ := hu; rfl) (by unfold maxLen; omega) (by omega) (by have := HBR.out.size; have := HV.out.size; omega) ?_; intro v7 w7' hown7 hgrow7 _ hloc7; have HO7 := Lib.hid (out_app HO5.out HRK.out hgrow7 hown7 hloc7); have HB7 := Lib.hid ((HBR.out.trans (HV.out.mono HBR.out.size)).grown hgrow7 (by have := HBR.out.size; have := HV.out.size; omega) (fun r e => own_ge HO5.out.own r e)); clear hown7 hgrow7 hloc7))
      go_roundw
      case rel =>
        refine ⟨k + 1, appE E d E2, by omega, by go_num, ?_, ?_, HB7.out⟩
        · rw [HNK.out, List.length_append, HDD.out]; exact HO7.out
        · rw [HNK.out, ← HDD.out]; exact HLS.out.app HL2.out
      case measure => simp [Go.RowKit.intOf]; omega
    case neg =>
      obtain rfl : k = n + 1 := by omega
      have n2 : ¬ (((n + 1 : Nat) : Int) ≤ (n : Int)) := by omega
      rw [HE.out] at HOUT HLS
      obtain ⟨oo, cc, rfl, hpl⟩ := HOUT.out.plan
      have HPL := Lib.hid hpl
      clear hpl
      go_wp2
      go_ret
      exact ⟨⟨oo, ⟨cc, rfl⟩, E, HPL.out, HLS.out⟩, HBR.out⟩
end Go.Kn
