/- Contracts of functions that the laws of this seat call, or the evaluator of closed calls and its runs. Conditions: as each theorem states them. -/
import Derived.Test.YtpbhpgebaopdoaaGreatDoorT2
import Derived.Test.YtpbhpgebaopdoaaGreatDoorT5
import Derived.Laws.RangeString
set_option linter.unusedVariables false
set_option linter.unusedSimpArgs false
namespace Go.Kn
open Go Go.Proofs Go.RowKit

set_option maxRecDepth 100000 in
set_option maxHeartbeats 2000000 in
theorem linesN_ok (ys : List (List UInt8)) (w : World) (hn1 : 1 ≤ ys.length) (hn : ys.length ≤ 1000) (hl : Hid (∀ x ∈ ys, x.length ≤ 1000)) (hy : Hid (∀ y ∈ ys ++ [endL ys], (10 : UInt8) ∉ y)) (hT : (Lib.join (ys ++ [endL ys]) [10]).length ≤ 1000000) (hp : Hid (Pow w)) (hm : Hid (ML w)) :
    Calls Tryz.prog 126 #[.string (bs (Lib.join (ys ++ [endL ys]) [10] ++ [10])), .int .i64 149] w fun e w' => (∃ G, e = .returned (.tuple #[.slice (some ⟨G, 0, none⟩) ys.length (ys.length + 1), .bool true]) ∧ G < w'.heap.size ∧ StrAt w' G 0 ys ∧ w.heap.size ≤ G) ∧ Below w.heap.size w w' := by
  have HS1 : Hid (Calls Tryz.prog 162 #[.string (bs (Lib.join (ys ++ [endL ys]) [10] ++ [10])), .string ⟨#[10]⟩] w fun e w' => e = .returned (.tuple #[.string (bs (Lib.join (ys ++ [endL ys]) [10])), .bool true]) ∧ w' = w) := Lib.hid (suffix_w _ w hT)
  have HS2 : Hid (Calls Tryz.prog 163 #[.string (bs (Lib.join (ys ++ [endL ys]) [10])), .string ⟨#[10]⟩] w fun e w' => e = .returned (.slice (some ⟨w.heap.size, 0, none⟩) (ys.length + 1) (ys.length + 1)) ∧ w' = w.alloc (.cells ((ys ++ [endL ys]).map strV).toArray 9)) := Lib.hid (by
    have h := split_w (ys ++ [endL ys]) (by simp) hy.out w hT hm.out
    rw [List.length_append] at h
    exact h)
  obtain ⟨J, hJ⟩ : ∃ J, Lib.join (ys ++ [endL ys]) [10] = J := ⟨_, rfl⟩
  rw [hJ] at HS1 HS2 ⊢
  clear hJ hT
  obtain ⟨W1, hW1⟩ : ∃ W1, W1 = w.alloc (.cells ((ys ++ [endL ys]).map strV).toArray 9) := ⟨_, rfl⟩
  rw [← hW1] at HS2
  have hb1 : Below w.heap.size w W1 := by rw [hW1]; exact (Below.refl _ _).alloc (Nat.le_refl _) _
  have hz1 : W1.heap.size = w.heap.size + 1 := by rw [hW1]; simp
  have hat : Hid (StrAt W1 w.heap.size 0 (ys ++ [endL ys])) := Lib.hid (by rw [hW1]; exact strAt_alloc _ _ _)
  have hat1 : StrAt W1 w.heap.size 0 ys := fun j hj => by
    have := hat.out j (by rw [List.length_append]; omega)
    rw [this]
    simp [List.getD, List.getElem?_append_left hj]
  have hlast : W1.cell? ⟨w.heap.size, ys.length, none⟩ = some (.string (bs (endL ys))) := by
    have := hat.out ys.length (by simp)
    rw [Nat.zero_add] at this
    rw [this]
    simp [List.getD]
  have HEN : Hid (∀ w1, Below W1.heap.size W1 w1 → Calls Tryz.prog 124 #[.slice (some ⟨w.heap.size, 0, none⟩) ys.length (ys.length + 1), .int .i64 149] w1 fun e w' => e = .returned (.string (bs (endL ys))) ∧ Below w1.heap.size w1 w') := Lib.hid fun w1 h => endOf_w _ _ ys w1 hn hl (Lib.hid (.inr ⟨w.heap.size, 0, rfl, Nat.lt_of_lt_of_le (by omega) h.size, hat1.below (by omega) h⟩)) (Lib.hid (hp.out.on (hb1.trans (h.mono hb1.size))))
  have FZ : Hid (∀ w', Below W1.heap.size W1 w' → w'.cell? ⟨w.heap.size, ys.length, none⟩ = some (.string (bs (endL ys)))) := Lib.hid fun w' h => by
    rw [(bcell h).1 _ _ (by omega)]; exact hlast
  have HAT := Lib.hid hat1
  have HLT := Lib.hid (show w.heap.size < W1.heap.size by omega)
  obtain ⟨n, hnn⟩ : ∃ n, ys.length = n := ⟨_, rfl⟩
  rw [hnn] at hn1 hn HS2 HEN FZ ⊢
  have HB1 := Lib.hid hb1
  obtain ⟨E, hE⟩ : ∃ E, endL ys = E := ⟨_, rfl⟩
  rw [hE] at HEN FZ
  clear hW1 hlast hat1 hb1 hnn hE hz1 hat
  go_enter Tryz.func126, Tryz.ntmps126
  go_wp2_with (first
    | (go_at_call 162; refine HS1.out.mono ?_; rintro e w2 ⟨rfl, hw⟩; obtain rfl := hw.symm)
    | (go_at_call 163; refine HS2.out.mono ?_; rintro e w2 ⟨rfl, hw⟩; obtain rfl := hw.symm))
  have hn0 : ((n : Int) == 0) = false := by simp; omega
  have hn00 : (n : Int) ≠ 0 := by omega
  have hnn0 : (0 : Int) ≤ (n : Int) := by omega
  have hA1 : (n : Int) < ((n + 1 : Nat) : Int) := by omega
  have hB1 : (n : Int) < (n : Int) + 1 := by omega
  have hsl : ∀ w' : World, (Instr.slice 107 (.slice (some ⟨w.heap.size, 0, none⟩) (n + 1) (n + 1)) none (some (.int .i64 (n : Int))) none).run Tryz.prog w' = .ok (.slice (some ⟨w.heap.size, 0, none⟩) n (n + 1)) w' := slice_to w.heap.size n
  refine wp_region_calm (W := W1) (by kernel_rfl) (by kernel_rfl) (Below.refl _ _) ?_
  repeat (first
    | (refine calm_no (by rfl) ?_
       (try simp only [Act.put, List.setIfInBounds_toArray, List.set_cons_zero, List.set_cons_succ]))
    | (apply calm_yes
       focus rfl
       focus
         intro w' hw'
         have z1 := FZ.out w' hw'
         go_simp
         first
           | done
           | with_reducible rfl
           | (go_at_call 124; refine (HEN.out w' hw').mono ?_; rintro e w8 ⟨rfl, hb8⟩; exact ⟨rfl, hw'.trans (hb8.mono hw'.size)⟩)
           | fail
       (try simp only [Act.put, List.setIfInBounds_toArray, List.set_cons_zero, List.set_cons_succ])))
  refine calm_nil ?_
  intro w20 hb20
  have HB20 := Lib.hid hb20
  clear hb20
  go_wp2
  refine bodyPost_ret (v := .tuple #[.slice (some ⟨w.heap.size, 0, none⟩) n (n + 1), .bool true]) (by simp [results, Tryz.results126, go_sem]) rfl ⟨⟨_, rfl, Nat.lt_of_lt_of_le HLT.out HB20.out.size, HAT.out.below HLT.out HB20.out, Nat.le_refl _⟩, ?_⟩
  exact HB1.out.trans (HB20.out.mono HB1.out.size)

def valL (l : List UInt8) : Nat := l.foldl (fun n (b : UInt8) => 10 * n + (b.toNat - 48)) 0
theorem valL_snoc (l : List UInt8) (b : UInt8) : valL (l ++ [b]) = 10 * valL l + (b.toNat - 48) := by simp [valL]
theorem valL_lt : ∀ (l r : List UInt8), (∀ b ∈ l, b.toNat ≤ 57) → l.length ≤ 5 → valL l < 10 ^ l.length := by
  intro l _ h _
  suffices H : ∀ (l : List UInt8) (a : Nat), (∀ b ∈ l, b.toNat ≤ 57) → l.foldl (fun n (b : UInt8) => 10 * n + (b.toNat - 48)) a < (a + 1) * 10 ^ l.length by
    have := H l 0 h
    simpa [valL] using this
  intro l
  induction l with
  | nil => intro a _; simp
  | cons b l ih =>
    intro a h
    have h1 := ih (10 * a + (b.toNat - 48)) (fun x hx => h x (List.mem_cons_of_mem _ hx))
    have h2 := h b List.mem_cons_self
    rw [List.foldl_cons, List.length_cons, Nat.pow_succ]
    refine Nat.lt_of_lt_of_le h1 ?_
    rw [Nat.mul_comm (10 ^ l.length) 10, ← Nat.mul_assoc]
    exact Nat.mul_le_mul_right _ (by omega)

theorem lead_ne (u : Nat) : 0 < u → (Lib.decDigits u).getD 0 0 ≠ 48 := by
  induction u using Nat.strongRecOn with
  | ind u ih =>
    intro h
    by_cases h1 : u < 10
    · rw [Lib.decDigits, dif_pos h1]
      intro e
      have : (UInt8.ofNat (48 + u)).toNat = 48 := by
        have e' : UInt8.ofNat (48 + u) = 48 := by simpa using e
        rw [e']; rfl
      rw [UInt8.toNat_ofNat'] at this
      omega
    · rw [Lib.decDigits, dif_neg h1]
      have hl : 1 ≤ (Lib.decDigits (u / 10)).length := by rw [Lib.decDigits_length]; exact Lib.nDigits_pos _
      have := ih (u / 10) (by omega) (by omega)
      rw [List.getD_eq_getElem?_getD] at this ⊢
      rwa [List.getElem?_append_left (by omega)]

/-- where an iterator stands -/
def posOf (wr w : World) : Nat := match wr.heap[w.heap.size]? with
  | some (.stringIter _ p) => p
  | _ => 0
theorem posOf_iter (w : World) (s : ByteArray) (p : Nat) : posOf (w.iter s p) w = p := by
  unfold posOf
  rw [World.iter_heap]

set_option maxRecDepth 100000 in
set_option maxHeartbeats 2000000 in
theorem wnumber_w (x : Nat) (hx : x ≤ 10000) (w : World) :
    Calls Tryz.prog 184 #[.string (bs (Lib.decDigits x)), .int .i64 5] w fun e w' => e = .returned (.tuple #[.int .i64 (x : Int), .bool true]) ∧ Below w.heap.size w w' := by
  have hval : valL (Lib.decDigits x) = x := dec_val x
  have hmem := dec_mem x
  have hl := dec_len5 x hx
  have hl1 : 1 ≤ (Lib.decDigits x).length := by rw [Lib.decDigits_length]; exact Lib.nDigits_pos x
  have hz : (Lib.decDigits x).getD 0 0 = 48 → Lib.decDigits x = [48] := fun h => by
    rcases Nat.eq_zero_or_pos x with rfl | h0
    · rw [Lib.decDigits, dif_pos (by decide)]; rfl
    · exact (lead_ne x h0 h).elim
  obtain ⟨D, hD⟩ : ∃ D, Lib.decDigits x = D := ⟨_, rfl⟩
  rw [hD] at hval hmem hl hl1 hz ⊢
  have hds : (bs D).size = D.length := bs_size D
  have HM := Lib.hid hmem
  have HV := Lib.hid hval
  have HZ := Lib.hid hz
  clear hD hmem hval hz
  have l1 : ¬ (D.length : Int) < 1 := by omega
  have l4 : ¬ (5 : Int) < (D.length : Int) := by omega
  have l0 : (0 : Int) < (D.length : Int) := by omega
  have LOOP : Hid (∀ k, k < D.length → ((48 ≤ (D.getD k 0).toNat ∧ (D.getD k 0).toNat ≤ 57) ∧ valL (D.take k) ≤ 9999 ∧ valL (D.take (k + 1)) = 10 * valL (D.take k) + ((D.getD k 0).toNat - 48)) ∧ ∀ ty, (Instr.next (.pointer (some ⟨w.heap.size, 0, none⟩)) true ty).run Tryz.prog (w.iter (bs D) k) = .ok (.tuple #[.bool true, .int .i64 k, .int .i32 ((D.getD k 0).toNat : Int)]) (w.iter (bs D) (k + 1))) := Lib.hid fun k hk => by
    have hg : D.getD k 0 = D[k] := by simp [List.getD, hk]
    have hd := HM.out _ (by rw [hg]; exact List.getElem_mem hk : D.getD k 0 ∈ D)
    refine ⟨⟨hd, ?_, ?_⟩, fun ty => ?_⟩
    · have h1 := valL_lt (D.take k) [] (fun b hb => (HM.out b (List.mem_of_mem_take hb)).2) (by simp; omega)
      have h2 : (D.take k).length = k := by simp; omega
      rw [h2] at h1
      have h3 : 10 ^ k ≤ 10 ^ 4 := Nat.pow_le_pow_right (by decide) (by omega)
      have h4 : (10 : Nat) ^ 4 = 10000 := rfl
      omega
    · rw [List.take_add_one, List.getElem?_eq_getElem hk]
      simp only [Option.toList_some]
      rw [valL_snoc, hg]
    · have h := run_next_ascii (P := Tryz.prog) w (bs D) k ty (by rw [hds]; exact hk) (by rw [bs_byte]; omega)
      rw [bs_byte] at h
      exact h
  have END : Hid (∀ ty, (Instr.next (.pointer (some ⟨w.heap.size, 0, none⟩)) true ty).run Tryz.prog (w.iter (bs D) D.length) = .ok (.tuple #[.bool false]) (w.iter (bs D) D.length)) := Lib.hid fun ty => run_next_end w (bs D) D.length ty (by rw [hds]; omega)
  have hby : ∀ h : 0 < (bs D).size, (bs D)[0]'h = D.getD 0 0 := fun h => bs_byte h
  obtain ⟨c0, hc0⟩ : ∃ c, D.getD 0 0 = c := ⟨_, rfl⟩
  have hcc : (c0.toNat = 48 ∧ ((bs D).toList == [48]) = true) ∨ c0.toNat ≠ 48 := by
    by_cases e : c0.toNat = 48
    · have hc : c0 = 48 := UInt8.toNat_inj.1 e
      rw [hc] at hc0
      refine .inl ⟨e, ?_⟩
      rw [HZ.out hc0]
      simp [bs]
    · exact .inr e
  rw [hc0] at hby
  have HC0 := Lib.hid hc0
  clear hc0
  have finish : Hid (∀ (Q : Prop), Q → Q) := Lib.hid fun _ h => h
  rcases hcc with ⟨e1, e2⟩ | e1
  · have e1' : ((c0.toNat : Int) == 48) = true := by simp [e1]
    go_enter Tryz.func184, Tryz.ntmps184
    go_wp2
    go_loopw [4] (fun nv wr => ∃ k : Nat, k ≤ D.length ∧ nv = .int .i64 ((valL (D.take k) : Nat) : Int) ∧ wr = w.iter (bs D) k) (fun _ wr => D.length - posOf wr w)
    case atStart => exact ⟨0, Nat.zero_le _, rfl, rfl⟩
    case round =>
      obtain ⟨k, hk, rfl, rfl⟩ := hrel
      by_cases hkl : k < D.length
      · obtain ⟨⟨⟨d1, d2⟩, d3, d4⟩, hnx⟩ := LOOP.out k hkl
        have HD4 := Lib.hid d4
        obtain ⟨c, hc⟩ : ∃ c, D.getD k 0 = c := ⟨_, rfl⟩
        rw [hc] at d1 d2 hnx HD4
        obtain ⟨V, hV⟩ : ∃ V, valL (D.take k) = V := ⟨_, rfl⟩
        rw [hV] at d3 HD4 ⊢
        have i1 : ¬ (c.toNat : Int) < 48 := by omega
        have i2 : ¬ (57 : Int) < (c.toNat : Int) := by omega
        clear d4 hc hV
        go_wp2
        go_roundw
        case rel => exact ⟨k + 1, by omega, by rw [HD4.out]; congr 1; omega, rfl⟩
        case measure => rw [posOf_iter, posOf_iter]; omega
      · obtain rfl : k = D.length := by omega
        have hnx := END.out
        have hv : valL (D.take D.length) = x := by rw [List.take_length]; exact HV.out
        rw [hv]
        clear hv
        go_wp2
        refine bodyPost_ret (v := .tuple #[.int .i64 (x : Int), .bool true]) (by simp [results, Tryz.results184, go_sem]) rfl ⟨rfl, ?_⟩
        exact (Below.refl _ _).alloc (Nat.le_refl _) _
  · have e1' : ((c0.toNat : Int) == 48) = false := by simp; omega
    have e1'' : ¬ (c0.toNat : Int) = 48 := by omega
    go_enter Tryz.func184, Tryz.ntmps184
    go_wp2
    go_loopw [4] (fun nv wr => ∃ k : Nat, k ≤ D.length ∧ nv = .int .i64 ((valL (D.take k) : Nat) : Int) ∧ wr = w.iter (bs D) k) (fun _ wr => D.length - posOf wr w)
    case atStart => exact ⟨0, Nat.zero_le _, rfl, rfl⟩
    case round =>
      obtain ⟨k, hk, rfl, rfl⟩ := hrel
      by_cases hkl : k < D.length
      · obtain ⟨⟨⟨d1, d2⟩, d3, d4⟩, hnx⟩ := LOOP.out k hkl
        have HD4 := Lib.hid d4
        obtain ⟨c, hc⟩ : ∃ c, D.getD k 0 = c := ⟨_, rfl⟩
        rw [hc] at d1 d2 hnx HD4
        obtain ⟨V, hV⟩ : ∃ V, valL (D.take k) = V := ⟨_, rfl⟩
        rw [hV] at d3 HD4 ⊢
        have i1 : ¬ (c.toNat : Int) < 48 := by omega
        have i2 : ¬ (57 : Int) < (c.toNat : Int) := by omega
        clear d4 hc hV
        go_wp2
        go_roundw
        case rel => exact ⟨k + 1, by omega, by rw [HD4.out]; congr 1; omega, rfl⟩
        case measure => rw [posOf_iter, posOf_iter]; omega
      · obtain rfl : k = D.length := by omega
        have hnx := END.out
        have hv : valL (D.take D.length) = x := by rw [List.take_length]; exact HV.out
        rw [hv]
        clear hv
        go_wp2
        refine bodyPost_ret (v := .tuple #[.int .i64 (x : Int), .bool true]) (by simp [results, Tryz.results184, go_sem]) rfl ⟨rfl, ?_⟩
        exact (Below.refl _ _).alloc (Nat.le_refl _) _


theorem jn_cons2 (y z : List UInt8) (r : List (List UInt8)) : Lib.join (y :: z :: r) [32] = y ++ 32 :: Lib.join (z :: r) [32] := by
  simp [Lib.join, List.intercalate_cons_cons]
theorem jn_one (y : List UInt8) : Lib.join [y] [32] = y := by simp [Lib.join]

theorem index_word : ∀ (y r : List UInt8), (32 : UInt8) ∉ y → Lib.index (y ++ 32 :: r) [32] = (y.length : Int)
  | [], r, _ => by simp [Lib.index]
  | b :: y, r, h => by
    have hb : b ≠ 32 := fun e => h (by simp [e])
    have ih := index_word y r (fun e => h (by simp [e]))
    rw [List.cons_append, Lib.index, ih]
    rw [if_neg (by simp; exact fun e => hb e.symm), if_neg (by first | (simp; done) | (simp; omega))]
    simp

theorem count_word (y r : List UInt8) (h : (32 : UInt8) ∉ y) : (y ++ 32 :: r).count 32 = r.count 32 + 1 := by
  rw [List.count_append, List.count_cons_self, List.count_eq_zero_of_not_mem h]; omega

theorem split_words : ∀ (ys : List (List UInt8)), ys ≠ [] → (∀ y ∈ ys, (32 : UInt8) ∉ y) →
    (Lib.join ys [32]).count 32 + 1 = ys.length ∧ Lib.splitK [32] 0 ((Lib.join ys [32]).count 32) (Lib.join ys [32]) = ys
  | [], h, _ => (h rfl).elim
  | [y], _, h => by
    have h0 : y.count 32 = 0 := List.count_eq_zero_of_not_mem (h y (by simp))
    rw [jn_one, h0]
    exact ⟨rfl, rfl⟩
  | y :: z :: r, _, h => by
    obtain ⟨h1, h2⟩ := split_words (z :: r) (by simp) (fun x hx => h x (List.mem_cons_of_mem _ hx))
    have hy := h y (by simp)
    rw [jn_cons2, count_word y _ hy]
    refine ⟨by rw [List.length_cons]; omega, ?_⟩
    rw [Lib.splitK, index_word y _ hy, if_neg (by first | (simp; done) | (simp; omega))]
    simp only [Int.toNat_natCast, Nat.add_zero]
    rw [List.take_left, show y.length + [(32 : UInt8)].length = (y ++ [32]).length by simp, show y ++ 32 :: Lib.join (z :: r) [32] = (y ++ [32]) ++ Lib.join (z :: r) [32] by simp, List.drop_left, h2]

theorem splitB_words (ys : List (List UInt8)) (hne : ys ≠ []) (h : ∀ y ∈ ys, (32 : UInt8) ∉ y) :
    Lib.countB (bs (Lib.join ys [32])) ⟨#[32]⟩ + 1 = ys.length ∧ Lib.splitB ⟨#[32]⟩ 0 (Lib.countB (bs (Lib.join ys [32])) ⟨#[32]⟩) (bs (Lib.join ys [32])) = ys.map bs := by
  obtain ⟨h1, h2⟩ := split_words ys hne h
  have hc : Lib.countB (bs (Lib.join ys [32])) ⟨#[32]⟩ = (Lib.join ys [32]).count 32 := by
    unfold Lib.countB
    rw [bs_list]
    exact Lib.count_one 32 _
  rw [hc]
  refine ⟨h1, ?_⟩
  have h3 := Lib.splitB_data ⟨#[32]⟩ 0 ((Lib.join ys [32]).count 32) (bs (Lib.join ys [32]))
  rw [bs_list] at h3
  have h4 : (Lib.splitB ⟨#[32]⟩ 0 ((Lib.join ys [32]).count 32) (bs (Lib.join ys [32]))).map (·.data.toList) = ys := h3.trans h2
  have h5 := congrArg (List.map bs) h4
  rw [List.map_map] at h5
  have e : bs ∘ (fun x : ByteArray => x.data.toList) = id := by
    funext x
    exact (bs_of x).symm
  rw [e, List.map_id] at h5
  exact h5

/-- the words of a row -/
def wordsL (wd : List UInt8) (l : List Nat) : List (List UInt8) := wd :: l.map Lib.decDigits
theorem join_cons_flat (wd : List UInt8) : ∀ (r : List (List UInt8)), Lib.join (wd :: r) [32] = wd ++ r.flatMap (fun y => 32 :: y)
  | [] => by simp [jn_one]
  | z :: r => by
    rw [jn_cons2, join_cons_flat z r]; simp
theorem row_words (wd : List UInt8) (l : List Nat) : rowL wd (l.map fun n : Nat => (n : Int)) = Lib.join (wordsL wd l) [32] := by
  rw [wordsL, join_cons_flat, rowL]
  congr 1
  simp [List.flatMap_map, itoa_nat]
theorem words_no32 {wd : List UInt8} (h : (32 : UInt8) ∉ wd) (l : List Nat) : ∀ y ∈ wordsL wd l, (32 : UInt8) ∉ y := by
  intro y hy
  simp only [wordsL, List.mem_cons, List.mem_map] at hy
  rcases hy with rfl | ⟨n, _, rfl⟩
  · exact h
  · intro hm
    have := dec_mem n _ hm
    simp at this

theorem splitw_w (wd : List UInt8) (l : List Nat) (hw : (32 : UInt8) ∉ wd) (w : World) (hT : (rowL wd (l.map fun n : Nat => (n : Int))).length ≤ 1000000) (hm : ML w) :
    Calls Tryz.prog 163 #[.string (bs (rowL wd (l.map fun n : Nat => (n : Int)))), .string ⟨#[32]⟩] w fun e w' =>
      e = .returned (.slice (some ⟨w.heap.size, 0, none⟩) (l.length + 1) (l.length + 1)) ∧ w' = w.alloc (.cells ((wordsL wd l).map strV).toArray 9) := by
  obtain ⟨m, hm⟩ := hm
  rw [row_words] at hT ⊢
  obtain ⟨h1, h2⟩ := splitB_words (wordsL wd l) (by simp [wordsL]) (words_no32 hw l)
  have h := Tryz.strings_Split (bs (Lib.join (wordsL wd l) [32])) ⟨#[32]⟩ m w (by rw [bs_size]; omega) hm (by decide)
  rw [h1, h2] at h
  have e : ((wordsL wd l).map bs).map Value.string = (wordsL wd l).map strV := by simp [strV]
  have e2 : (wordsL wd l).length = l.length + 1 := by simp [wordsL]
  rw [e, e2] at h
  exact h

theorem slice_from1 (B n : Nat) (hn : 1 ≤ n) (w' : World) : (Instr.slice 107 (.slice (some ⟨B, 0, none⟩) (n + 1) (n + 1)) (some (.int .i64 1)) none none).run Tryz.prog w' = .ok (.slice (some ⟨B, 1, none⟩) n n) w' := by
  have hs : ∀ w : World, (sizeOf 9).run Tryz.prog w = .ok 1 w := fun w => by kernel_rfl
  have h1 : (1 : Int) ≤ (n : Int) + 1 := by omega
  have h2 : ¬ n + 1 = 1 := by omega
  have h3 : ¬ n = 0 := by omega
  simp [Instr.slice, run_underlying Tryz.underlying107, Instr.sliceBounds, Instr.sliceBound, asIntOf, hs, h1, h2, h3, Result.andThen, Addr.add]


def intV (n : Nat) : Value := .int .i64 (n : Int)

set_option maxRecDepth 100000 in
set_option maxHeartbeats 4000000 in
theorem numbers_w (wd : List UInt8) (l : List Nat) (hw : (32 : UInt8) ∉ wd) (hl1 : 1 ≤ l.length) (hl : l.length ≤ 100) (hx : Hid (∀ x ∈ l, x ≤ 10000)) (w : World) (hT : (rowL wd (l.map fun n : Nat => (n : Int))).length ≤ 1000000) (hm : Hid (ML w)) :
    Calls Tryz.prog 164 #[.string (bs (rowL wd (l.map fun n : Nat => (n : Int)))), .string (bs wd), .int .i64 5] w fun e w' =>
      (∃ v, e = .returned (.tuple #[v, .bool true]) ∧ w'.ownsRow (w.heap.size + 1) 3 1 v l.length (l.map intV)) ∧ Below w.heap.size w w' := by
  have HS := Lib.hid (splitw_w wd l hw w hT hm.out)
  obtain ⟨R, hR⟩ : ∃ R, bs (rowL wd (l.map fun n : Nat => (n : Int))) = R := ⟨_, rfl⟩
  rw [hR] at HS ⊢
  clear hR hT
  obtain ⟨W1, hW1⟩ : ∃ W1, W1 = w.alloc (.cells ((wordsL wd l).map strV).toArray 9) := ⟨_, rfl⟩
  rw [← hW1] at HS
  have hb1 : Below w.heap.size w W1 := by rw [hW1]; exact (Below.refl _ _).alloc (Nat.le_refl _) _
  have hz1 : W1.heap.size = w.heap.size + 1 := by rw [hW1]; simp
  have hat : StrAt W1 w.heap.size 0 (wordsL wd l) := by rw [hW1]; exact strAt_alloc _ _ _
  have FZ : Hid (∀ w', Below W1.heap.size W1 w' → w'.cell? ⟨w.heap.size, 0, none⟩ = some (.string (bs wd)) ∧ ∀ k, k < l.length → w'.cell? ⟨w.heap.size, 1 + k, none⟩ = some (.string (bs (Lib.decDigits (l.getD k 0))))) := Lib.hid fun w' h => by
    have h2 := hat.below (by omega) h
    refine ⟨?_, fun k hk => ?_⟩
    · have := h2 0 (by simp [wordsL])
      simpa [wordsL] using this
    · have := h2 (1 + k) (by simp [wordsL]; omega)
      rw [Nat.zero_add] at this
      rw [this, Nat.add_comm 1 k]
      simp [wordsL, List.getD, hk]
  obtain ⟨n, hn⟩ : ∃ n, l.length = n := ⟨_, rfl⟩
  rw [hn] at hl1 hl HS FZ ⊢
  have HN := Lib.hid hn
  have HB1 := Lib.hid hb1
  have hq : ((bs wd).toList == (bs wd).toList) = true := by simp
  have hsl := slice_from1 w.heap.size n hl1
  obtain ⟨i0, hi, hz0, hzz1, hz22⟩ := info_parts info3'
  have HZ1 := Lib.hid hz1
  obtain ⟨y1, _⟩ := FZ.out _ (Below.refl _ _)
  clear hW1 hb1 hat hn hz1
  go_enter Tryz.func164, Tryz.ntmps164
  go_wp2_with (go_at_call 163; refine HS.out.mono ?_; rintro e w2 ⟨rfl, hw⟩; obtain rfl := hw.symm)
  have HW1 := Lib.hid (Below.refl W1.heap.size W1)
  clear y1
  go_loopw [6, 23] (fun v ii wr => ∃ k : Nat, k ≤ n ∧ ii = .int .i64 (k : Int) ∧ wr.ownsRow W1.heap.size 3 1 v k ((l.take k).map intV) ∧ Below W1.heap.size W1 wr) (fun _ ii _ => n - (intOf ii).toNat)
  case atStart => exact ⟨0, Nat.zero_le _, rfl, World.ownsRow_nil _ _ _ _, Below.refl _ _⟩
  case round =>
    obtain ⟨k, hk, rfl, hown, hbw⟩ := hrel
    have HO := Lib.hid hown
    have HBW := Lib.hid hbw
    have hzw := hbw.size
    clear hown
    by_cases hlt : k < n
    · obtain ⟨_, hc⟩ := FZ.out _ hbw
      have y1 := hc k hlt
      have hj : k < l.length := by have := HN.out; omega
      have hxk := hx.out (l.getD k 0) (by rw [List.getD_eq_getElem?_getD, List.getElem?_eq_getElem hj]; exact List.getElem_mem _)
      have htk : l.take (k + 1) = l.take k ++ [l.getD k 0] := by
        rw [List.take_add_one, List.getElem?_eq_getElem hj]; simp [List.getD, hj]
      obtain ⟨x, hxx⟩ : ∃ x, l.getD k 0 = x := ⟨_, rfl⟩
      rw [hxx] at y1 hxk htk
      have HTK := Lib.hid htk
      have HNU := Lib.hid (wnumber_w x hxk)
      obtain ⟨D, hD⟩ : ∃ D, bs (Lib.decDigits x) = D := ⟨_, rfl⟩
      rw [hD] at y1 HNU
      have n1 : (0 : Int) ≤ (k : Int) := by omega
      have n2 : (k : Int) < (n : Int) := by omega
      clear hc hj htk hxx hD hbw
      go_wp2_with (first
        | (go_at_call 184; refine (HNU.out _).mono ?_; rintro e w5 ⟨rfl, hb5⟩; have hz5 := hb5.size)
        | (at_builtin; refine wpList_append_own_at _ rfl (.tmp 35) (.tmp 37) 26 rfl W1.heap.size 3 i0 (.int .i64 0) 1 8 Tryz.underlying26 hi hz0 hzz1 hz22 rfl (by decide) _ k _ rfl ((owns_below HO.out hb5).alloc _) ⟨_, 0, none⟩ 1 1 [.int .i64 (x : Int)] rfl rfl (lies_any (by first | exact al_top rfl _ _ | exact al_top (by simp) _ _)) (by intro u hu; simp at hu; subst hu; rfl) (by unfold maxLen; omega) (by omega) (by simp; omega) ?_; intro v7 w7 hown7 hgrow7 _ hloc7))
      have HB7 : Hid (Below W1.heap.size W1 w7) := Lib.hid (((HBW.out.trans (hb5.mono hzw)).alloc (by omega) _).grown hgrow7 (by simp; omega) (fun r e => by have := own_ge HO.out r e; omega))
      have HO7 := Lib.hid hown7
      clear hown7 hgrow7 hloc7
      go_roundw
      case rel => exact ⟨k + 1, by omega, by go_num, by rw [HTK.out, List.map_append]; exact HO7.out, HB7.out⟩
      case measure => simp [intOf]; omega
    · obtain rfl : n = k := by omega
      clear hbw
      go_wp2
      refine bodyPost_ret (by simp [results, Tryz.results164, go_sem]; rfl) rfl ⟨⟨_, rfl, ?_⟩, HB1.out.trans (HBW.out.mono HB1.out.size)⟩
      have hO := HO.out
      rw [List.take_of_length_le (by rw [HN.out]; exact Nat.le_refl _), HZ1.out] at hO
      exact hO

set_option maxRecDepth 100000 in
set_option maxHeartbeats 4000000 in
/-- another word stands first -/
theorem numbers_no (wd wx : List UInt8) (l : List Nat) (hne : wd ≠ wx) (hw : (32 : UInt8) ∉ wd) (w : World) (hT : (rowL wd (l.map fun n : Nat => (n : Int))).length ≤ 1000000) (hm : Hid (ML w)) :
    Calls Tryz.prog 164 #[.string (bs (rowL wd (l.map fun n : Nat => (n : Int)))), .string (bs wx), .int .i64 5] w fun e w' =>
      e = .returned (.tuple #[.slice none 0 0, .bool false]) ∧ Below w.heap.size w w' := by
  have HS := Lib.hid (splitw_w wd l hw w hT hm.out)
  obtain ⟨R, hR⟩ : ∃ R, bs (rowL wd (l.map fun n : Nat => (n : Int))) = R := ⟨_, rfl⟩
  rw [hR] at HS ⊢
  clear hR hT
  obtain ⟨W1, hW1⟩ : ∃ W1, W1 = w.alloc (.cells ((wordsL wd l).map strV).toArray 9) := ⟨_, rfl⟩
  rw [← hW1] at HS
  have hb1 : Below w.heap.size w W1 := by rw [hW1]; exact (Below.refl _ _).alloc (Nat.le_refl _) _
  have hat : StrAt W1 w.heap.size 0 (wordsL wd l) := by rw [hW1]; exact strAt_alloc _ _ _
  have y1 : W1.cell? ⟨w.heap.size, 0, none⟩ = some (.string (bs wd)) := by
    have := hat 0 (by simp [wordsL])
    simpa [wordsL] using this
  obtain ⟨n, hn⟩ : ∃ n, l.length = n := ⟨_, rfl⟩
  rw [hn] at HS
  have HB1 := Lib.hid hb1
  have hne2 : ((bs wd).toList == (bs wx).toList) = false := by simp only [bs, ByteArray.toList_mk]; simpa using hne
  have hneq : ¬ (bs wd).toList = (bs wx).toList := by simp only [bs, ByteArray.toList_mk]; exact hne
  have n1 : (0 : Int) < (n : Int) + 1 := by omega
  clear hW1 hb1 hat hn
  go_enter Tryz.func164, Tryz.ntmps164
  go_wp2_with (go_at_call 163; refine HS.out.mono ?_; rintro e w2 ⟨rfl, hw⟩; obtain rfl := hw.symm)
  refine bodyPost_ret (v := .tuple #[.slice none 0 0, .bool false]) (by simp [results, Tryz.results164, go_sem]) rfl ⟨rfl, HB1.out⟩
end Go.Kn

namespace Go.Kn
open Go Go.Proofs Go.RowKit

/-- the word of a kind, and the line of a kind with its numbers -/
def kW (k : Nat) : List UInt8 := if k = 0 then pointW else if k = 1 then channelW else gateW
def lnV (k : Nat) (a b c : Int) : Value := if k = 0 then .iface 142 (.agg #[.int .i64 a, .int .i64 b, .int .i64 c]) else .iface 143 (.agg #[.int .i64 a, .int .i64 b, .int .i64 c, .bool (k == 2)])
theorem kW_ne {j k : Nat} (h : j < k) (hk : k ≤ 2) : kW k ≠ kW j := by
  have : (j = 0 ∧ k = 1) ∨ (j = 0 ∧ k = 2) ∨ (j = 1 ∧ k = 2) := by omega
  rcases this with ⟨rfl, rfl⟩ | ⟨rfl, rfl⟩ | ⟨rfl, rfl⟩ <;> decide
theorem kW_no32 (k : Nat) : (32 : UInt8) ∉ kW k := by unfold kW; split; decide; split <;> decide
theorem kW_len (k : Nat) : (kW k).length ≤ 7 := by unfold kW; split; decide; split <;> decide
theorem kword_w (k : Nat) (hk : k ≤ 2) (w : World) : Calls Tryz.prog 165 #[.int .i64 (k : Int)] w fun e w' => e = .returned (.string (bs (kW k))) ∧ w = w' := by
  have : k = 0 ∨ k = 1 ∨ k = 2 := by omega
  rcases this with rfl | rfl | rfl
  · exact (word0_w w).mono fun e w' h => ⟨h.1, h.2.symm⟩
  · exact (word1_w w).mono fun e w' h => ⟨h.1, h.2.symm⟩
  · exact (word2_w w).mono fun e w' h => ⟨h.1, h.2.symm⟩
theorem kline_w (k : Nat) (hk : k ≤ 2) (a b c : Int) (w : World) : Calls Tryz.prog 166 #[.int .i64 (k : Int), .int .i64 a, .int .i64 b, .int .i64 c] w fun e w' => e = .returned (lnV k a b c) ∧ w = w' := by
  have : k = 0 ∨ k = 1 ∨ k = 2 := by omega
  rcases this with rfl | rfl | rfl
  all_goals
    go_enter Tryz.func166, Tryz.ntmps166
    go_wp2
    go_ret
    exact ⟨rfl, rfl⟩

set_option maxRecDepth 100000 in
set_option maxHeartbeats 4000000 in
theorem lineOf_w (K a b c : Nat) (hK : K ≤ 2) (ha : a ≤ 10000) (hb : b ≤ 10000) (hc : c ≤ 10000) (w : World) (hm : Hid (ML w)) :
    Calls Tryz.prog 128 #[.string (bs (rowL (kW K) [(a : Int), (b : Int), (c : Int)]))] w fun e w' => e = .returned (lnV K a b c) ∧ Below w.heap.size w w' := by
  have hmx : Tryz.prog.follows .mixedOrders = true := by kernel_rfl
  have hT : (rowL (kW K) ([a, b, c].map fun n : Nat => (n : Int))).length ≤ 1000000 := by
    have h1 := rowL_len (kW K) ([a, b, c].map fun n : Nat => (n : Int)) (by intro x hx; simp at hx; rcases hx with rfl | rfl | rfl <;> omega)
    have h2 := kW_len K
    simp at h1 ⊢
    omega
  have HW : Hid (∀ k : Nat, k ≤ 2 → ∀ w', Calls Tryz.prog 165 #[.int .i64 (k : Int)] w' fun e w'' => e = .returned (.string (bs (kW k))) ∧ w' = w'') := Lib.hid kword_w
  have HN : Hid (∀ k, k < K → ∀ w', Below w.heap.size w w' → Calls Tryz.prog 164 #[.string (bs (rowL (kW K) [(a : Int), (b : Int), (c : Int)])), .string (bs (kW k)), .int .i64 5] w' fun e w'' => e = .returned (.tuple #[.slice none 0 0, .bool false]) ∧ Below w'.heap.size w' w'') := Lib.hid fun k hk w' h =>
    numbers_no (kW K) (kW k) [a, b, c] (kW_ne hk hK) (kW_no32 K) w' hT (Lib.hid (hm.out.on h))
  have HY : Hid (∀ w', Below w.heap.size w w' → Calls Tryz.prog 164 #[.string (bs (rowL (kW K) [(a : Int), (b : Int), (c : Int)])), .string (bs (kW K)), .int .i64 5] w' fun e w'' => (∃ G cap, e = .returned (.tuple #[.slice (some ⟨G, 0, none⟩) 3 cap, .bool true]) ∧ G < w''.heap.size ∧ w''.cell? ⟨G, 0, none⟩ = some (.int .i64 (a : Int)) ∧ w''.cell? ⟨G, 1, none⟩ = some (.int .i64 (b : Int)) ∧ w''.cell? ⟨G, 2, none⟩ = some (.int .i64 (c : Int))) ∧ Below w'.heap.size w' w'') := Lib.hid fun w' h =>
    (numbers_w (kW K) [a, b, c] (kW_no32 K) (by simp) (by simp) (Lib.hid (by intro x hx; simp at hx; rcases hx with rfl | rfl | rfl <;> assumption)) w' hT (Lib.hid (hm.out.on h))).mono fun e w'' ⟨⟨v, he, ho⟩, hb⟩ => by
      obtain ⟨G, cap, rfl, g1, g2, g3, hcell⟩ := vals_of_owns ho (by simp)
      exact ⟨⟨G, cap, he, g3, hcell 0 _ rfl, hcell 1 _ rfl, hcell 2 _ rfl⟩, hb⟩
  have HKL : Hid (∀ w' : World, Calls Tryz.prog 166 #[.int .i64 (K : Int), .int .i64 (a : Int), .int .i64 (b : Int), .int .i64 (c : Int)] w' fun e w'' => e = .returned (lnV K a b c) ∧ w' = w'') := Lib.hid (kline_w K hK a b c)
  obtain ⟨R, hR⟩ : ∃ R, bs (rowL (kW K) [(a : Int), (b : Int), (c : Int)]) = R := ⟨_, rfl⟩
  rw [hR] at HN HY ⊢
  obtain ⟨LV, hLV⟩ : ∃ v, lnV K a b c = v := ⟨_, rfl⟩
  rw [hLV] at HKL ⊢
  clear hR hLV hT ha hb hc hm
  go_enter Tryz.func128, Tryz.ntmps128
  go_wp2
  go_loopw [6] (fun kv wr => ∃ k : Nat, k ≤ K ∧ kv = .int .i64 (k : Int) ∧ Below w.heap.size w wr) (fun kv _ => K - (intOf kv).toNat)
  case atStart => exact ⟨0, Nat.zero_le _, rfl, Below.refl _ _⟩
  case round =>
    obtain ⟨k, hk, rfl, hbw⟩ := hrel
    have HB := Lib.hid hbw
    clear hbw
    have n3 : (k : Int) < 3 := by omega
    have HWK := Lib.hid (HW.out k (by omega))
    by_cases hlt : k < K
    · have HNK := Lib.hid (HN.out k hlt _ HB.out)
      go_wp2_with (first
        | (go_at_call 165; refine (HWK.out _).mono ?_; rintro e w1 ⟨rfl, rfl⟩)
        | (go_at_call 164; refine HNK.out.mono ?_; rintro e w2 ⟨rfl, hb2⟩; have HB2 := Lib.hid hb2; clear hb2))
      go_roundw
      case rel => exact ⟨k + 1, by omega, by go_num, HB.out.trans (HB2.out.mono HB.out.size)⟩
      case measure => simp [intOf]; omega
    · obtain rfl : k = K := by omega
      have HYK := Lib.hid (HY.out _ HB.out)
      go_wp2_with (first
        | (go_at_call 165; refine (HWK.out _).mono ?_; rintro e w1 ⟨rfl, rfl⟩)
        | (go_at_call 164; refine HYK.out.mono ?_; rintro e w2 ⟨⟨G, cap, rfl, g1, g2, g3, g4⟩, hb2⟩; have HB2 := Lib.hid hb2; clear hb2))
      have HC : Hid (∀ w', Below w2.heap.size w2 w' → w'.cell? ⟨G, 0, none⟩ = some (.int .i64 (a : Int)) ∧ w'.cell? ⟨G, 1, none⟩ = some (.int .i64 (b : Int)) ∧ w'.cell? ⟨G, 2, none⟩ = some (.int .i64 (c : Int))) := Lib.hid fun w' h => by
        have q := (bcell h).1
        exact ⟨(q _ _ g1).trans g2, (q _ _ g1).trans g3, (q _ _ g1).trans g4⟩
      refine wp_region_calm (W := w2) hmx (by kernel_rfl) (Below.refl _ _) ?_
      repeat (first
        | (refine calm_no (by rfl) ?_
           (try simp only [Act.put, List.setIfInBounds_toArray, List.set_cons_zero, List.set_cons_succ]))
        | (apply calm_yes
           focus rfl
           focus
             intro w' hw'
             obtain ⟨z1, z2, z3⟩ := HC.out w' hw'
             go_simp
             first
               | done
               | with_reducible rfl
               | (go_at_call 166; refine (HKL.out w').mono ?_; rintro e w8 ⟨rfl, rfl⟩; exact ⟨rfl, hw'⟩)
               | fail
           (try simp only [Act.put, List.setIfInBounds_toArray, List.set_cons_zero, List.set_cons_succ])))
      refine calm_nil ?_
      intro w20 hb20
      have HB20 := Lib.hid hb20
      clear hb20
      go_wp2
      refine bodyPost_ret (v := LV) (by simp [results, Tryz.results128, go_sem]) rfl ⟨rfl, ?_⟩
      exact HB.out.trans ((HB2.out.trans (HB20.out.mono HB2.out.size)).mono HB.out.size)
end Go.Kn
