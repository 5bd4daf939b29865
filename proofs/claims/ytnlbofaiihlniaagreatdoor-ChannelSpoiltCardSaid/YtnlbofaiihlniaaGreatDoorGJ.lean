/- Walks of functions of layer 2 (contracts that the laws of this seat use). Conditions: as each theorem states them. -/
import Derived.Test.YtnlbofaiihlniaaGreatDoorGF
import Derived.Test.YtnlbofaiihlniaaGreatDoorGE
import Derived.Test.YtnlbofaiihlniaaGreatDoorGH
set_option linter.unusedVariables false
set_option linter.unusedSimpArgs false
namespace Go.Kn
open Go Go.Proofs Go.RowKit

def unl (ys : List (List UInt8)) : List UInt8 := ys.flatMap (fun l => l ++ [10])
theorem unl_cons (l : List UInt8) (r : List (List UInt8)) : unl (l :: r) = l ++ 10 :: unl r := by simp [unl]
theorem unl_join : ∀ (ys : List (List UInt8)), ys ≠ [] → Lib.join ys [10] ++ [10] = unl ys
  | [], h => (h rfl).elim
  | [y], _ => by simp [join_one, unl]
  | y :: z :: r, _ => by
    rw [join_cons2, unl_cons, ← unl_join (z :: r) (by simp)]
    simp

theorem set_unl : ∀ (all : List (List UInt8)) (p : Nat) (c : UInt8), (unl all)[p]? = some c → c ≠ 10 →
    ∃ pre l post k, all = pre ++ l :: post ∧ l[k]? = some c ∧ ∀ d, (unl all).set p d = unl (pre ++ l.set k d :: post)
  | [], p, c, h, _ => by simp [unl] at h
  | l :: r, p, c, h, hc => by
    rw [unl_cons] at h ⊢
    by_cases h1 : p < l.length
    · refine ⟨[], l, r, p, rfl, ?_, fun d => ?_⟩
      · rwa [List.getElem?_append_left h1] at h
      · rw [List.nil_append, unl_cons, List.set_append_left _ _ h1]
    · rw [List.getElem?_append_right (by omega)] at h
      by_cases h2 : p = l.length
      · subst h2
        simp at h
        exact (hc h.symm).elim
      · obtain ⟨q, hq⟩ : ∃ q, p - l.length = q + 1 := ⟨p - l.length - 1, by omega⟩
        rw [hq, List.getElem?_cons_succ] at h
        obtain ⟨pre, l', post, k, e1, e2, e3⟩ := set_unl r q c h hc
        refine ⟨l :: pre, l', post, k, by rw [e1]; rfl, e2, fun d => ?_⟩
        rw [List.set_append_right _ _ (by omega), hq, List.set_cons_succ, e3 d, List.cons_append, unl_cons]

theorem sumRow_set (i : Nat) (l : List UInt8) (k : Nat) (c d : UInt8) (hk : l[k]? = some c) : ∀ m,
    (m ≤ k → sumRow i (l.set k d) m = sumRow i l m) ∧ (k < m → sumRow i (l.set k d) m + c.toNat * (k + 1) * (i + 1) = sumRow i l m + d.toNat * (k + 1) * (i + 1))
  | 0 => ⟨fun _ => rfl, fun h => by omega⟩
  | m + 1 => by
    obtain ⟨h1, h2⟩ := sumRow_set i l k c d hk m
    have hkl : k < l.length := (List.getElem?_eq_some_iff.1 hk).1
    refine ⟨fun h => ?_, fun h => ?_⟩
    · have e : (l.set k d).getD m 0 = l.getD m 0 := by simp [List.getD, List.getElem?_set_ne (by omega : k ≠ m)]
      rw [sumRow, sumRow, h1 (by omega), e]
    · by_cases e : k = m
      · subst e
        have e1 : (l.set k d).getD k 0 = d := by simp [List.getD, hkl]
        have e2 : l.getD k 0 = c := by simp [List.getD, hk]
        rw [sumRow, sumRow, h1 (Nat.le_refl _), e1, e2]
        omega
      · have e' : (l.set k d).getD m 0 = l.getD m 0 := by simp [List.getD, List.getElem?_set_ne e]
        have h3 := h2 (by omega)
        rw [sumRow, sumRow, e']
        omega

theorem sumAll_set (pre : List (List UInt8)) (l : List UInt8) (post : List (List UInt8)) (k : Nat) (c d : UInt8) (hk : l[k]? = some c) : ∀ m,
    (m ≤ pre.length → sumAll (pre ++ l.set k d :: post) m = sumAll (pre ++ l :: post) m) ∧
    (pre.length < m → sumAll (pre ++ l.set k d :: post) m + c.toNat * (k + 1) * (pre.length + 1) = sumAll (pre ++ l :: post) m + d.toNat * (k + 1) * (pre.length + 1))
  | 0 => ⟨fun _ => rfl, fun h => by omega⟩
  | m + 1 => by
    obtain ⟨h1, h2⟩ := sumAll_set pre l post k c d hk m
    have hkl : k < l.length := (List.getElem?_eq_some_iff.1 hk).1
    refine ⟨fun h => ?_, fun h => ?_⟩
    · have e : (pre ++ l.set k d :: post).getD m [] = (pre ++ l :: post).getD m [] := by
        simp [List.getD, List.getElem?_append_left (by omega : m < pre.length)]
      rw [sumAll, sumAll, h1 (by omega), e]
    · by_cases e : pre.length = m
      · subst e
        have e1 : (pre ++ l.set k d :: post).getD pre.length [] = l.set k d := by simp [List.getD]
        have e2 : (pre ++ l :: post).getD pre.length [] = l := by simp [List.getD]
        have h3 := (sumRow_set pre.length l k c d hk l.length).2 hkl
        rw [sumAll, sumAll, h1 (Nat.le_refl _), e1, e2, List.length_set]
        omega
      · have e' : (pre ++ l.set k d :: post).getD m [] = (pre ++ l :: post).getD m [] := by
          obtain ⟨q, hq⟩ : ∃ q, m - pre.length = q + 1 := ⟨m - pre.length - 1, by omega⟩
          simp [List.getD, List.getElem?_append_right (by omega : pre.length ≤ m), hq]
        have h3 := h2 (by omega)
        rw [sumAll, sumAll, e']
        omega

theorem cop139 : ∀ x : Nat, 0 < x → x < 139 → Nat.Coprime 139 x := by
  have h : ∀ x : Fin 139, 0 < x.val → Nat.gcd 139 x.val = 1 := by decide +kernel
  intro x h1 h2
  exact h ⟨x, h2⟩ h1

theorem not_dvd139 {a b c : Nat} (ha : 0 < a ∧ a < 139) (hb : 0 < b ∧ b < 139) (hc : 0 < c ∧ c < 139) : ¬ 139 ∣ a * b * c := by
  intro h
  have h1 : 139 ∣ a * b := (cop139 c hc.1 hc.2).dvd_of_dvd_mul_right h
  have h2 : 139 ∣ a := (cop139 b hb.1 hb.2).dvd_of_dvd_mul_right h1
  have := Nat.le_of_dvd ha.1 h2
  omega

theorem rest_ne {A B c d k i : Nat} (h : A + c * (k + 1) * (i + 1) = B + d * (k + 1) * (i + 1)) (hcd : c ≠ d) (h1 : c < d + 139) (h2 : d < c + 139) (hk : k < 138) (hi : i < 138) : A % 139 ≠ B % 139 := by
  intro he
  rcases Nat.lt_or_gt_of_ne hcd with hlt | hgt
  · obtain ⟨x, rfl⟩ : ∃ x, d = c + x := ⟨d - c, by omega⟩
    have e : (c + x) * (k + 1) * (i + 1) = c * (k + 1) * (i + 1) + x * (k + 1) * (i + 1) := by rw [Nat.add_mul, Nat.add_mul]
    rw [e] at h
    refine not_dvd139 (a := x) (b := k + 1) (c := i + 1) ⟨by omega, by omega⟩ ⟨by omega, by omega⟩ ⟨by omega, by omega⟩ ?_
    generalize x * (k + 1) * (i + 1) = Y at h
    exact Nat.dvd_of_mod_eq_zero (by omega)
  · obtain ⟨x, rfl⟩ : ∃ x, c = d + x := ⟨c - d, by omega⟩
    have e : (d + x) * (k + 1) * (i + 1) = d * (k + 1) * (i + 1) + x * (k + 1) * (i + 1) := by rw [Nat.add_mul, Nat.add_mul]
    rw [e] at h
    refine not_dvd139 (a := x) (b := k + 1) (c := i + 1) ⟨by omega, by omega⟩ ⟨by omega, by omega⟩ ⟨by omega, by omega⟩ ?_
    generalize x * (k + 1) * (i + 1) = Y at h
    exact Nat.dvd_of_mod_eq_zero (by omega)
end Go.Kn

namespace Go.Kn
open Go Go.Proofs Go.RowKit

theorem itoa_nat (n : Nat) : Lib.itoa (n : Int) = Lib.decDigits n := by
  unfold Lib.itoa; rw [if_neg (by omega)]; rfl
theorem itoa_pos {x : Int} (h : 0 ≤ x) : Lib.itoa x = Lib.decDigits x.toNat := by
  unfold Lib.itoa; rw [if_neg (by omega)]

theorem dec_len : ∀ (u : Nat), u < 10000 → (Lib.decDigits u).length ≤ 4 ∧ (u < 1000 → (Lib.decDigits u).length ≤ 3) := by
  intro u hu
  rw [Lib.decDigits_length]
  by_cases h1 : u < 10
  · rw [Lib.nDigits_small h1]; omega
  rw [Lib.nDigits_big h1]
  by_cases h2 : u / 10 < 10
  · rw [Lib.nDigits_small h2]; omega
  rw [Lib.nDigits_big h2]
  by_cases h3 : u / 10 / 10 < 10
  · rw [Lib.nDigits_small h3]; omega
  rw [Lib.nDigits_big h3, Lib.nDigits_small (by omega)]
  omega

theorem dec_mem (u : Nat) : ∀ b ∈ Lib.decDigits u, 48 ≤ b.toNat ∧ b.toNat ≤ 57 := by
  induction u using Nat.strongRecOn with
  | ind u ih =>
    intro b hb
    have hd : ∀ r, r < 10 → (UInt8.ofNat (48 + r)).toNat = 48 + r := fun r hr => by
      rw [UInt8.toNat_ofNat']; omega
    rw [Lib.decDigits] at hb
    split at hb
    · rename_i h
      rw [List.mem_singleton] at hb
      rw [hb, hd u h]; omega
    · rename_i h
      rw [List.mem_append, List.mem_singleton] at hb
      rcases hb with hb | hb
      · exact ih (u / 10) (by omega) b hb
      · rw [hb, hd _ (Nat.mod_lt _ (by decide))]; omega

theorem no10_dec (u : Nat) : (10 : UInt8) ∉ Lib.decDigits u := fun h => by
  have := dec_mem u _ h
  simp at this

theorem dec_val (u : Nat) : (Lib.decDigits u).foldl (fun n (b : UInt8) => 10 * n + (b.toNat - 48)) 0 = u := by
  induction u using Nat.strongRecOn with
  | ind u ih =>
    have hd : ∀ r, r < 10 → (UInt8.ofNat (48 + r)).toNat = 48 + r := fun r hr => by
      rw [UInt8.toNat_ofNat']; omega
    rw [Lib.decDigits]
    split
    · rename_i h
      simp only [List.foldl_cons, List.foldl_nil, hd u h]; omega
    · rename_i h
      rw [List.foldl_append, ih (u / 10) (by omega)]
      simp only [List.foldl_cons, List.foldl_nil, hd _ (Nat.mod_lt u (by decide : 0 < 10))]
      omega

theorem rep_val : ∀ c, (Lib.repeatL [48] c).foldl (fun n (b : UInt8) => 10 * n + (b.toNat - 48)) 0 = 0
  | 0 => by simp [Lib.repeatL]
  | c + 1 => by simp [Lib.repeatL, rep_val c]

theorem rep_mem : ∀ c, ∀ b ∈ Lib.repeatL [48] c, b = 48
  | 0, b, h => by simp [Lib.repeatL] at h
  | c + 1, b, h => by
    simp only [Lib.repeatL, List.mem_append, List.mem_singleton] at h
    rcases h with h | h
    · exact h
    · exact rep_mem c b h

theorem endL_inj {xs ys : List (List UInt8)} (h : endL xs = endL ys) : sumAll xs xs.length % 139 = sumAll ys ys.length % 139 := by
  have h1 := List.append_cancel_left h
  have h2 := congrArg (fun l => l.foldl (fun n (b : UInt8) => 10 * n + (b.toNat - 48)) 0) h1
  simp only [List.foldl_append, rep_val, itoa_nat, dec_val] at h2
  exact h2

theorem endL_len (xs : List (List UInt8)) : (endL xs).length = 7 := by
  have h := digits_le3 (sumAll xs xs.length % 139) (Nat.mod_lt _ (by decide))
  simp only [endL, List.length_append, List.length_cons, List.length_nil, repeat_len]
  omega

theorem endL_no10 (xs : List (List UInt8)) : (10 : UInt8) ∉ endL xs := by
  intro h
  simp only [endL, List.mem_append] at h
  rcases h with h | h | h
  · simp at h
  · have := rep_mem _ _ h; simp at this
  · rw [itoa_nat] at h; exact no10_dec _ h

theorem rowL_no10 {wd : List UInt8} (hw : (10 : UInt8) ∉ wd) {l : List Int} (hl : ∀ x ∈ l, 0 ≤ x) : (10 : UInt8) ∉ rowL wd l := by
  intro h
  simp only [rowL, List.mem_append, List.mem_flatMap, List.mem_cons] at h
  rcases h with h | ⟨x, hx, h | h⟩
  · exact hw h
  · simp at h
  · rw [itoa_pos (hl x hx)] at h; exact no10_dec _ h

theorem rowL_len' (wd : List UInt8) (B : Nat) : ∀ (l : List Int), (∀ x ∈ l, (Lib.itoa x).length ≤ B) → (rowL wd l).length ≤ wd.length + (B + 1) * l.length
  | [], _ => by simp [rowL]
  | x :: l, h => by
    have h1 := rowL_len' wd B l (fun y hy => h y (List.mem_cons_of_mem _ hy))
    have h2 := h x List.mem_cons_self
    simp only [rowL, List.flatMap_cons, List.length_append, List.length_cons] at h1 ⊢
    rw [Nat.mul_add]
    omega

theorem unl_len (B : Nat) : ∀ (rs : List (List UInt8)), (∀ x ∈ rs, x.length ≤ B) → (unl rs).length ≤ (B + 1) * rs.length
  | [], _ => by simp [unl]
  | x :: rs, h => by
    have h1 := unl_len B rs (fun y hy => h y (List.mem_cons_of_mem _ hy))
    have h2 := h x List.mem_cons_self
    rw [unl_cons, List.length_append, List.length_cons, List.length_cons, Nat.mul_add]
    omega

section
variable {A O C P ls lt : Nat} {s : Nat → Int} {t : Nat → St5} {w : World}

theorem speeds_row (H : LineAt w A O C P ls lt s t) : (rowL speedsW (upto s ls)).length ≤ 56 ∧ (10 : UInt8) ∉ rowL speedsW (upto s ls) := by
  have h2 := H.ls2
  have hs : ∀ y ∈ upto s ls, 0 ≤ y ∧ y ≤ 1000 := fun y hy => by
    obtain ⟨i, hi, rfl⟩ := mem_upto hy
    have := H.sok i hi
    simp only [fromB, decide_eq_true_eq] at this
    omega
  refine ⟨?_, rowL_no10 (by decide) fun x hx => (hs x hx).1⟩
  have h := rowL_len' speedsW 4 (upto s ls) (fun x hx => by rw [itoa_pos (hs x hx).1]; have := hs x hx; exact (dec_len _ (by omega)).1)
  rw [upto_length] at h
  have : speedsW.length = 6 := rfl
  omega

theorem stretch_row (H : LineAt w A O C P ls lt s t) {i : Nat} (hi : i < lt) : (rowL stretchW (stL (t i))).length ≤ 27 ∧ (10 : UInt8) ∉ rowL stretchW (stL (t i)) := by
  obtain ⟨b1, b2, b3, b4, b5⟩ := H.bds hi
  have hls := H.ls2
  have hb : ∀ z ∈ stL (t i), 0 ≤ z ∧ z ≤ 100 := fun z hz => by
    simp only [stL, List.mem_cons, List.not_mem_nil, or_false] at hz
    rcases hz with rfl | rfl | rfl | rfl | rfl <;> omega
  refine ⟨?_, rowL_no10 (by decide) fun x hx => (hb x hx).1⟩
  have h := rowL_len' stretchW 3 (stL (t i)) (fun x hx => by rw [itoa_pos (hb x hx).1]; have := hb x hx; exact (dec_len _ (by omega)).2 (by omega))
  have e1 : (stL (t i)).length = 5 := rfl
  have e2 : stretchW.length = 7 := rfl
  rw [e1, e2] at h
  omega

theorem rows_ok (H : LineAt w A O C P ls lt s t) : ∀ x ∈ rowsL ls s t lt, x.length ≤ 56 ∧ (10 : UInt8) ∉ x := by
  intro x hx
  simp only [rowsL, List.mem_cons, List.mem_map] at hx
  rcases hx with rfl | ⟨y, hy, rfl⟩
  · exact speeds_row H
  · obtain ⟨i, hi, rfl⟩ : ∃ i, i < lt ∧ t i = y := by simpa [upto] using hy
    have h := stretch_row H hi
    exact ⟨by omega, h.2⟩

theorem rows_len (ls : Nat) (s : Nat → Int) (t : Nat → St5) (lt : Nat) : (rowsL ls s t lt).length = lt + 1 := by simp [rowsL, upto_length]

theorem text_unl (xs : List (List UInt8)) : textL xs = unl (xs ++ [endL xs]) := unl_join _ (by simp)

theorem text_len (H : LineAt w A O C P ls lt s t) : (textL (rowsL ls s t lt)).length ≤ 300 := by
  have h1 := (speeds_row H).1
  have h2 := unl_len 27 ((upto t lt).map (fun x => rowL stretchW (stL x))) (fun x hx => by
    rw [List.mem_map] at hx
    obtain ⟨y, hy, rfl⟩ := hx
    obtain ⟨i, hi, rfl⟩ : ∃ i, i < lt ∧ t i = y := by simpa [upto] using hy
    exact (stretch_row H hi).1)
  have h3 := H.lt2
  rw [List.length_map, upto_length] at h2
  rw [text_unl]
  have e : unl (rowsL ls s t lt ++ [endL (rowsL ls s t lt)]) = rowL speedsW (upto s ls) ++ 10 :: (unl ((upto t lt).map (fun x => rowL stretchW (stL x))) ++ (endL (rowsL ls s t lt) ++ [10])) := by
    simp [rowsL, unl]
  rw [e]
  simp only [List.length_append, List.length_cons, List.length_nil, endL_len]
  omega

theorem bad_of_change (H : LineAt w A O C P ls lt s t) {p : Nat} {c d : UInt8} (hp : (textL (rowsL ls s t lt))[p]? = some c) (hc : c ≠ 10) (hd : d ≠ 10) (hcd : c ≠ d) (h1 : c.toNat < d.toNat + 139) (h2 : d.toNat < c.toNat + 139) :
    ∃ ys z, BadT ys z ∧ (textL (rowsL ls s t lt)).set p d = Lib.join (ys ++ [z]) [10] ++ [10] := by
  have hT := text_len H
  have hok := rows_ok H
  have hrl := rows_len ls s t lt
  have hlt := H.lt2
  obtain ⟨xs, hxs⟩ : ∃ xs, rowsL ls s t lt = xs := ⟨_, rfl⟩
  rw [hxs] at hp hT hok hrl ⊢
  rw [text_unl] at hp hT ⊢
  obtain ⟨pre, l, post, k, e1, e2, e3⟩ := set_unl _ p c hp hc
  have hlen : (unl (pre ++ l.set k d :: post)).length ≤ 300 := by rw [← e3 d, List.length_set]; exact hT
  rcases List.eq_nil_or_concat post with rfl | ⟨post', y, rfl⟩
  · obtain ⟨ea, eb⟩ := List.append_inj' e1 rfl
    have eb' : endL xs = l := by simpa using eb
    subst ea
    refine ⟨xs, l.set k d, ⟨by omega, by omega, fun x hx => by have := (hok x hx).1; omega, fun y hy => ?_, ?_, ?_⟩, ?_⟩
    · rw [List.mem_append, List.mem_singleton] at hy
      rcases hy with hy | rfl
      · exact (hok y hy).2
      · intro hm
        rcases List.mem_or_eq_of_mem_set hm with hm | hm
        · rw [← eb'] at hm; exact endL_no10 _ hm
        · exact hd hm.symm
    · have h5 := unl_join (xs ++ [l.set k d]) (by simp)
      rw [← h5, List.length_append] at hlen
      simp at hlen ⊢
      omega
    · rw [eb']
      intro h
      have : (l.set k d)[k]? = some d := by
        have := (List.getElem?_eq_some_iff.1 e2).1
        simp [this]
      rw [h, e2] at this
      exact hcd (by simpa using this)
    · rw [e3 d, unl_join _ (by simp)]
  · have e1' : xs ++ [endL xs] = (pre ++ l :: post') ++ [y] := by rw [e1]; simp
    obtain ⟨ea, eb⟩ := List.append_inj' e1' rfl
    have eb' : endL xs = y := by simpa using eb
    have el : xs.length = pre.length + 1 + post'.length := by rw [ea]; simp; omega
    have hkl : k < l.length := (List.getElem?_eq_some_iff.1 e2).1
    have hl := hok l (by rw [ea]; simp)
    refine ⟨pre ++ l.set k d :: post', y, ⟨by simp; omega, by simp; omega, fun x hx => ?_, fun x hx => ?_, ?_, ?_⟩, ?_⟩
    · rw [List.mem_append, List.mem_cons] at hx
      rcases hx with hx | rfl | hx
      · have := (hok x (by rw [ea]; simp [hx])).1; omega
      · rw [List.length_set]; omega
      · have := (hok x (by rw [ea]; simp [hx])).1; omega
    · rw [List.mem_append, List.mem_append, List.mem_cons, List.mem_singleton] at hx
      rcases hx with (hx | rfl | hx) | rfl
      · exact (hok x (by rw [ea]; simp [hx])).2
      · intro hm
        rcases List.mem_or_eq_of_mem_set hm with hm | hm
        · exact hl.2 hm
        · exact hd hm.symm
      · exact (hok x (by rw [ea]; simp [hx])).2
      · rw [← eb']; exact endL_no10 _
    · have h5 := unl_join ((pre ++ l.set k d :: post') ++ [y]) (by simp)
      have hlen' : (unl ((pre ++ l.set k d :: post') ++ [y])).length ≤ 300 := by simpa using hlen
      rw [← h5, List.length_append] at hlen'
      simp at hlen' ⊢
      omega
    · rw [← eb', ea]
      intro h
      have hr := endL_inj h
      have hs := (sumAll_set pre l post' k c d e2 (pre ++ l :: post').length).2 (by simp)
      have hlen2 : (pre ++ l.set k d :: post').length = (pre ++ l :: post').length := by simp
      rw [hlen2] at hr
      exact rest_ne hs (fun e => hcd (UInt8.toNat_inj.1 e)) h1 h2 (by omega) (by omega) hr.symm
    · rw [e3 d, unl_join _ (by simp)]
      simp
end
end Go.Kn
