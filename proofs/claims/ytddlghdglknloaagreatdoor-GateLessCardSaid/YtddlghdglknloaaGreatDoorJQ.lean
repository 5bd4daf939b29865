/- Contracts of functions that the laws of this seat call, or the evaluator of closed calls and its runs. Conditions: as each theorem states them. -/
import Derived.Test.YtddlghdglknloaaGreatDoorG1
import Derived.Test.YtddlghdglknloaaGreatDoorKN
import GoSem.Claims
import Derived.Deep.Slices
import Derived.Deep.Fields
import Derived.ChangeSame
import Derived.Lib.SmallJoins
import Derived.Handed
import Derived.HandedShaped
import Derived.Stop.LaidErr
import Derived.Lib.LaidTab
set_option linter.unusedVariables false
set_option linter.unusedSimpArgs false
set_option linter.unusedVariables false
set_option linter.unusedSimpArgs false
namespace Go.Kn
open Go Go.Proofs Go.RowKit Go.ChangeShapes Go.WideShapes Go.Deep

def numOf : Value → Int
  | .int _ k => k
  | _ => 0

theorem cells3 : Tryz.prog.cellsOf 3 = 1 := by kernel_rfl
theorem cells4 : Tryz.prog.cellsOf 4 = 1 := by kernel_rfl
theorem cells22 : Tryz.prog.cellsOf 22 = 1 := by kernel_rfl
theorem cells23 : Tryz.prog.cellsOf 23 = 1 := by kernel_rfl
theorem cells25 : Tryz.prog.cellsOf 25 = 2 := by kernel_rfl
theorem cells26 : Tryz.prog.cellsOf 26 = 1 := by kernel_rfl
theorem cells35 : Tryz.prog.cellsOf 35 = 2 := by kernel_rfl
theorem cells37 : Tryz.prog.cellsOf 37 = 3 := by kernel_rfl
theorem cells68 : Tryz.prog.cellsOf 68 = 4 := by kernel_rfl

section
variable {H : Type} {enc : TypeId × Value → H} {w : World} {base : Nat} {spare : Nat → Bool} {held : Bool}

theorem addr_mk {a : Addr} {v : Value} (h : w.cell? a = some v) : a = ⟨a.block, a.off, none⟩ := by
  have := World.cell?_spot h
  obtain ⟨b, o, s⟩ := a
  simp at this
  subst this; rfl

theorem add_mk (b o i : Nat) : (⟨b, o, none⟩ : Addr).add i = ⟨b, o + i, none⟩ := by
  unfold Addr.add
  split
  · rename_i h; subst h; rfl
  · rfl

theorem int_open {n : Nat} {v : Value} {y : DataW H × List MemPlace} (h : DataW.trod enc Tryz.prog w base spare held n 26 [v] = some y) :
    ∃ (sa : Option Addr) (ls cs : Nat) (s : Nat → Int), v = .slice sa ls cs ∧ ls ≤ maxLen ∧ IntSl w sa ls s := by
  rcases open_slice1 Tryz.underlying26 cells3 h with ⟨h1, _⟩ | ⟨a, len, cap, m, n', V, D, Pl, h1, _, hl, hm, hmm, _, hi⟩
  · exact ⟨none, 0, 0, fun _ => 0, by simpa using h1, by decide, .inl rfl⟩
  · refine ⟨some a, len, cap, fun i => numOf (V i), by simpa using h1, by omega, ?_⟩
    by_cases h0 : len = 0
    · exact .inl h0
    · have hml : len ≤ m := by rw [hmm]; split <;> omega
      have hc0 := (hi 0 (by omega)).1
      have ea : a.add 0 = a := rfl
      rw [ea] at hc0
      have e := addr_mk hc0
      refine .inr ⟨a.block, a.off, by rw [← e], World.block_lt_of_cell? w a hc0, fun i hil => ?_⟩
      obtain ⟨hc, ht⟩ := hi i (by omega)
      obtain ⟨k, hk, _⟩ := DataW.trod_int Tryz.underlying3 ht
      have hv : V i = .int .i64 k := by simpa using hk
      have q : a.add i = ⟨a.block, a.off + i, none⟩ := (congrArg (fun x => Addr.add x i) e).trans (add_mk _ _ _)
      rw [q] at hc
      show w.cell? _ = some (.int .i64 (numOf (V i)))
      rw [hc, hv]; rfl

theorem list2 {α : Type} {l : List α} (h : l.length = 2) : ∃ a b, l = [a, b] := by
  match l, h with
  | [a, b], _ => exact ⟨a, b, rfl⟩
theorem list3 {α : Type} {l : List α} (h : l.length = 3) : ∃ a b c, l = [a, b, c] := by
  match l, h with
  | [a, b, c], _ => exact ⟨a, b, c, rfl⟩

theorem list4 {α : Type} {l : List α} (h : l.length = 4) : ∃ a b c d, l = [a, b, c, d] := by
  match l, h with
  | [a, b, c, d], _ => exact ⟨a, b, c, d, rfl⟩

theorem sp_cells {n : Nat} {cs : List Value} {y : DataW H × List MemPlace} (h : DataW.trod enc Tryz.prog w base spare held n 35 cs = some y) :
    ∃ a b : Int, cs = [.int .i64 a, .int .i64 b] := by
  obtain ⟨xs, n', _, _, hlen, hxl, hf⟩ := DataW.trod_struct Tryz.underlying35 h
  rw [cells35] at hlen
  obtain ⟨c0, c1, rfl⟩ := list2 hlen
  obtain ⟨x0, x1, rfl⟩ := list2 hxl
  have f0 : DataW.trod enc Tryz.prog w base spare held n' 3 (([c0, c1].drop 0).take (Tryz.prog.cellsOf 3)) = some x0 := hf 0 _ rfl
  rw [cells3] at f0
  have f1 : DataW.trod enc Tryz.prog w base spare held n' 3 (([c0, c1].drop 1).take (Tryz.prog.cellsOf 3)) = some x1 := hf 1 _ rfl
  rw [cells3] at f1
  obtain ⟨k0, e0, _⟩ := DataW.trod_int Tryz.underlying3 f0
  obtain ⟨k1, e1, _⟩ := DataW.trod_int Tryz.underlying3 f1
  simp at e0 e1
  exact ⟨k0, k1, by rw [e0, e1]⟩

theorem pt_cells {n : Nat} {cs : List Value} {y : DataW H × List MemPlace} (h : DataW.trod enc Tryz.prog w base spare held n 37 cs = some y) :
    ∃ a b c : Int, cs = [.int .i64 a, .int .i64 b, .int .i64 c] := by
  obtain ⟨xs, n', _, _, hlen, hxl, hf⟩ := DataW.trod_struct Tryz.underlying37 h
  rw [cells37] at hlen
  obtain ⟨c0, c1, c2, rfl⟩ := list3 hlen
  obtain ⟨x0, x1, rfl⟩ := list2 hxl
  have f0 : DataW.trod enc Tryz.prog w base spare held n' 35 (([c0, c1, c2].drop 0).take (Tryz.prog.cellsOf 35)) = some x0 := hf 0 _ rfl
  rw [cells35] at f0
  have f1 : DataW.trod enc Tryz.prog w base spare held n' 3 (([c0, c1, c2].drop 2).take (Tryz.prog.cellsOf 3)) = some x1 := hf 1 _ rfl
  rw [cells3] at f1
  obtain ⟨k0, k1, e0⟩ := sp_cells f0
  obtain ⟨k2, e2, _⟩ := DataW.trod_int Tryz.underlying3 f1
  simp at e0 e2
  exact ⟨k0, k1, k2, by rw [e0.1, e0.2, e2]⟩

theorem ch_cells {n : Nat} {cs : List Value} {y : DataW H × List MemPlace} (h : DataW.trod enc Tryz.prog w base spare held n 68 cs = some y) :
    ∃ (a b c : Int) (d : Bool), cs = [.int .i64 a, .int .i64 b, .int .i64 c, .bool d] := by
  obtain ⟨xs, n', _, _, hlen, hxl, hf⟩ := DataW.trod_struct Tryz.underlying68 h
  rw [cells68] at hlen
  obtain ⟨c0, c1, c2, c3, rfl⟩ := list4 hlen
  obtain ⟨x0, x1, x2, x3, rfl⟩ := list4 hxl
  have f0 : DataW.trod enc Tryz.prog w base spare held n' 3 (([c0, c1, c2, c3].drop 0).take (Tryz.prog.cellsOf 3)) = some x0 := hf 0 _ rfl
  rw [cells3] at f0
  have f1 : DataW.trod enc Tryz.prog w base spare held n' 3 (([c0, c1, c2, c3].drop 1).take (Tryz.prog.cellsOf 3)) = some x1 := hf 1 _ rfl
  rw [cells3] at f1
  have f2 : DataW.trod enc Tryz.prog w base spare held n' 3 (([c0, c1, c2, c3].drop 2).take (Tryz.prog.cellsOf 3)) = some x2 := hf 2 _ rfl
  rw [cells3] at f2
  have f3 : DataW.trod enc Tryz.prog w base spare held n' 4 (([c0, c1, c2, c3].drop 3).take (Tryz.prog.cellsOf 4)) = some x3 := hf 3 _ rfl
  rw [cells4] at f3
  obtain ⟨k0, e0, _⟩ := DataW.trod_int Tryz.underlying3 f0
  obtain ⟨k1, e1, _⟩ := DataW.trod_int Tryz.underlying3 f1
  obtain ⟨k2, e2, _⟩ := DataW.trod_int Tryz.underlying3 f2
  obtain ⟨k3, e3, _⟩ := DataW.trod_bool Tryz.underlying4 f3
  simp at e0 e1 e2 e3
  exact ⟨k0, k1, k2, k3, by rw [e0, e1, e2, e3]⟩

theorem pts_open {n : Nat} {v : Value} {y : DataW H × List MemPlace} (h : DataW.trod enc Tryz.prog w base spare held n 22 [v] = some y) :
    ∃ (ta : Option Addr) (lt ct : Nat) (t : Nat → P8), v = .slice ta lt ct ∧ lt ≤ maxLen ∧ PtSl w ta lt t := by
  rcases open_slice Tryz.underlying22 h with ⟨h1, _⟩ | ⟨a, len, cap, m, n', D, Pl, h1, _, hl, hm, hmm, _, hi⟩
  · exact ⟨none, 0, 0, fun _ => ⟨0, 0, 0⟩, by simpa using h1, by decide, .inl rfl⟩
  · have hml : len ≤ m := by rw [hmm]; split <;> omega
    have key : ∀ i, i < len → ∃ x : P8, ∀ j c, ([.int .i64 x.lo, .int .i64 x.hi, .int .i64 x.nd] : List Value)[j]? = some c → w.cell? (a.add (i * 3 + j)) = some c := by
      intro i hil
      obtain ⟨cs', hc, ht⟩ := hi i (by omega)
      rw [cells37] at hc
      obtain ⟨_, hcl, hat⟩ := World.cells?_some hc
      obtain ⟨k0, k1, k2, rfl⟩ := pt_cells ht
      refine ⟨⟨k0, k1, k2⟩, fun j c hj => ?_⟩
      have hj5 : j < 3 := by
        have := (List.getElem?_eq_some_iff.1 hj).1
        simpa using this
      have h1 := hat j hj5
      rw [← Go.Deep.add_add] at *
      rw [h1]
      match j, hj5, hj with
      | 0, _, hj => simpa using hj
      | 1, _, hj => simpa using hj
      | 2, _, hj => simpa using hj
    by_cases h0 : len = 0
    · exact ⟨some a, len, cap, fun _ => ⟨0, 0, 0⟩, by simpa using h1, by omega, .inl h0⟩
    · obtain ⟨x0, hx0⟩ := key 0 (by omega)
      have hc0 := hx0 0 _ rfl
      have ea : a.add (0 * 3 + 0) = a := rfl
      rw [ea] at hc0
      have e := addr_mk hc0
      refine ⟨some a, len, cap, fun i => if h : i < len then Classical.choose (key i h) else ⟨0, 0, 0⟩, by simpa using h1, by omega, .inr ⟨a.block, a.off, by rw [← e], World.block_lt_of_cell? w a hc0, fun i hil => ?_⟩⟩
      simp only [hil, dif_pos]
      have hk := Classical.choose_spec (key i hil)
      have q : ∀ j, a.add (i * 3 + j) = ⟨a.block, a.off + (i * 3 + j), none⟩ := fun j => (congrArg (fun x => Addr.add x (i * 3 + j)) e).trans (add_mk _ _ _)
      have c0 := hk 0 _ rfl
      have c1 := hk 1 _ rfl
      have c2 := hk 2 _ rfl
      rw [q] at c0 c1 c2
      exact ⟨c0, c1, c2⟩

theorem chs_open {n : Nat} {v : Value} {y : DataW H × List MemPlace} (h : DataW.trod enc Tryz.prog w base spare held n 23 [v] = some y) :
    ∃ (ta : Option Addr) (lt ct : Nat) (t : Nat → C8), v = .slice ta lt ct ∧ lt ≤ maxLen ∧ ChSl w ta lt t := by
  rcases open_slice Tryz.underlying23 h with ⟨h1, _⟩ | ⟨a, len, cap, m, n', D, Pl, h1, _, hl, hm, hmm, _, hi⟩
  · exact ⟨none, 0, 0, fun _ => ⟨0, 0, 0, false⟩, by simpa using h1, by decide, .inl rfl⟩
  · have hml : len ≤ m := by rw [hmm]; split <;> omega
    have key : ∀ i, i < len → ∃ x : C8, ∀ j c, ([.int .i64 x.fr, .int .i64 x.to, .int .i64 x.cu, .bool x.ga] : List Value)[j]? = some c → w.cell? (a.add (i * 4 + j)) = some c := by
      intro i hil
      obtain ⟨cs', hc, ht⟩ := hi i (by omega)
      rw [cells68] at hc
      obtain ⟨_, hcl, hat⟩ := World.cells?_some hc
      obtain ⟨k0, k1, k2, k3, rfl⟩ := ch_cells ht
      refine ⟨⟨k0, k1, k2, k3⟩, fun j c hj => ?_⟩
      have hj5 : j < 4 := by
        have := (List.getElem?_eq_some_iff.1 hj).1
        simpa using this
      have h1 := hat j hj5
      rw [← Go.Deep.add_add] at *
      rw [h1]
      match j, hj5, hj with
      | 0, _, hj => simpa using hj
      | 1, _, hj => simpa using hj
      | 2, _, hj => simpa using hj
      | 3, _, hj => simpa using hj
    by_cases h0 : len = 0
    · exact ⟨some a, len, cap, fun _ => ⟨0, 0, 0, false⟩, by simpa using h1, by omega, .inl h0⟩
    · obtain ⟨x0, hx0⟩ := key 0 (by omega)
      have hc0 := hx0 0 _ rfl
      have ea : a.add (0 * 4 + 0) = a := rfl
      rw [ea] at hc0
      have e := addr_mk hc0
      refine ⟨some a, len, cap, fun i => if h : i < len then Classical.choose (key i h) else ⟨0, 0, 0, false⟩, by simpa using h1, by omega, .inr ⟨a.block, a.off, by rw [← e], World.block_lt_of_cell? w a hc0, fun i hil => ?_⟩⟩
      simp only [hil, dif_pos]
      have hk := Classical.choose_spec (key i hil)
      have q : ∀ j, a.add (i * 4 + j) = ⟨a.block, a.off + (i * 4 + j), none⟩ := fun j => (congrArg (fun x => Addr.add x (i * 4 + j)) e).trans (add_mk _ _ _)
      have c0 := hk 0 _ rfl
      have c1 := hk 1 _ rfl
      have c2 := hk 2 _ rfl
      have c3 := hk 3 _ rfl
      rw [q] at c0 c1 c2 c3
      exact ⟨c0, c1, c2, c3⟩

set_option maxRecDepth 100000 in
theorem net_open {r : Reach} {b0 : Nat} {v : Value} {d : DataW H} {p : List MemPlace} {t : TypeId} (ht : t = 25) (hv : Value.okWide Tryz.prog w r b0 t v) (h : DataW.Trod enc Tryz.prog w base spare held t v d p) :
    ∃ (pa ca : Option Addr) (lp cp lc cc : Nat) (P : Nat → P8) (C : Nat → C8), v = .agg #[.slice pa lp cp, .slice ca lc cc] ∧ lp ≤ maxLen ∧ lc ≤ maxLen ∧ PtSl w pa lp P ∧ ChSl w ca lc C := by
  obtain ⟨cs, rfl, hsz⟩ := okWide_struct (by rw [ht]; exact Tryz.underlying25) hv
  subst ht
  obtain ⟨l⟩ := cs
  obtain ⟨fuel, hf⟩ := h
  obtain ⟨xs, n, _, _, hlen, hxl, hg⟩ := DataW.trod_struct Tryz.underlying25 hf
  have hl2 : l.length = 2 := by
    exact hsz.trans cells25
  obtain ⟨c0, c1, rfl⟩ := list2 hl2
  obtain ⟨x0, x1, rfl⟩ := list2 hxl
  have f0 : DataW.trod enc Tryz.prog w base spare held n 22 (([c0, c1].drop 0).take (Tryz.prog.cellsOf 22)) = some x0 := hg 0 _ rfl
  rw [cells22] at f0
  have f1 : DataW.trod enc Tryz.prog w base spare held n 23 (([c0, c1].drop 1).take (Tryz.prog.cellsOf 23)) = some x1 := hg 1 _ rfl
  rw [cells23] at f1
  obtain ⟨pa, lp, cp, P, rfl, hlp, HP⟩ := pts_open f0
  obtain ⟨ca, lc, cc, C, rfl, hlc, HC⟩ := chs_open f1
  exact ⟨pa, ca, lp, cp, lc, cc, P, C, rfl, hlp, hlc, HP, HC⟩
end

theorem row3 : ((begin Tryz.prog (fun _ _ => 0) default).world.heap[3]?).bind Obj.row? = some (#[.int .u64 0, .int .u64 0, .int .u64 0, .int .u64 0, .int .u64 0, .int .u64 0, .int .u64 0, .int .u64 0, .int .u64 0, .int .u64 0, .int .u64 0, .int .u64 0, .int .u64 0, .int .u64 0, .int .u64 0, .int .u64 0, .int .u64 0, .int .u64 0, .int .u64 0, .int .u64 0], 221) := by kernel_rfl
theorem pw_of {x y : String × DataW Unit} {rest : List (String × DataW Unit)} {W : World} (h : laidMet Tryz.prog (x :: y :: ("internal/strconv.uint64pow10", Lib.tabData .u64 Lib.pow10Tab) :: rest) W) (hsh : W.ShapedOpen Tryz.prog) : Pw W := by
  have ht : Lib.TabIs Tryz.prog W "internal/strconv.uint64pow10" .u64 Lib.pow10Tab := Lib.tabIs_of_head (g := 3) (t := 221) (e := 186) (n := 20) (by kernel_rfl) (by kernel_rfl) Tryz.underlying221 Tryz.underlying186 (by kernel_rfl) (by kernel_rfl) (laidMet.tail (laidMet.tail h))
  obtain ⟨cs, hh, _, _⟩ := hsh.1 3 _ 221 (of_decide_eq_true (by kernel_rfl)) row3
  have hg : Tryz.prog.globalNamed "internal/strconv.uint64pow10" = some 3 := by kernel_rfl
  have he : cs = (Lib.pow10Tab.map fun z => Value.int .u64 z).toArray := by
    have h2 : World.var? Tryz.prog W "internal/strconv.uint64pow10" = some (Lib.pow10Tab.map fun z => Value.int .u64 z).toArray := ht
    unfold World.var? at h2
    rw [hg] at h2
    simp only [Option.bind_some, hh] at h2
    exact Option.some.inj h2
  exact ⟨cs, hh, by rw [he]; rfl, by rw [he]; rfl, by rw [he]; rfl⟩
end Go.Kn
namespace Go
variable {H : Type} {enc : TypeId × Value → H}

/-- a row with a condition on the package variables, and the world's shape for the contract -/
theorem retShaped {a : Assume} {C : Checked} {os : Os} {f : FuncId} {fn : Func} {s : ChangeSpec} {conds : List PathCond} {apart fresh handsOn again : Bool} {X : World → Array Value → Prop}
    (hX : ∀ (w w' : World) (args : Array Value), w.heap = w'.heap → X w args → X w' args)
    (own : ownKnob C.prog.godebug = none) (started : os.Started) (noInit : C.prog.inits.idxOf? f = none) (hfn : C.prog.funcs[f]? = some fn)
    (witness : ∃ (w : World) (tape : Tape) (i : Input), w.os = os ∧ (w.forCall tape i).Shaped C.prog ∧ i.vars = [] ∧ Input.okWide C.prog (w.forCall tape i) .any w.heap.size f i ∧
      ((s.pre enc C.prog fn conds apart (w.forCall tape i).memory i.args ∧ X (w.forCall tape i).memory i.args) ∧ sizedMet enc C.prog fn (OpenSpec.ofChange s) apart (w.forCall tape i).memory i.args) ∧ a.holds C.prog (lone (Frame.enter C.prog f i.args .normal) [] (w.forCall tape i)))
    (body : ∀ (W : World) (base : Nat) (args : Array Value) (ds gs : List (DataW H)) (before : List MemPlace),
      (∀ (j : Nat) t v, fn.params[j]? = some t → args[j]? = some v → Value.okWide C.prog W .any base t v) →
      DataW.Whole enc C.prog fn.params.toList s.vars apart W args.toList ds gs before → X W args → W.ShapedOpen C.prog →
      Calls C.prog f args W fun e W' => ∃ v, e = .returned v ∧ s.post enc C.prog fn apart fresh handsOn again W args v W') :
    ReturnsInHanded a C os f .any (fun w args => (s.pre enc C.prog fn conds apart w args ∧ X w args) ∧ sizedMet enc C.prog fn (OpenSpec.ofChange s) apart w args) (s.post enc C.prog fn apart fresh handsOn again) := by
  refine returnsInHanded_of_calls own started noInit witness fun w tape i _ shape _ hok hpre _ => ?_
  obtain ⟨_, _, _, fn1, hf1, _, _, _, _, hval⟩ := hok
  obtain rfl : fn1 = fn := Option.some.inj (hf1.symm.trans hfn)
  obtain ⟨⟨⟨ds, gs, before, hw, _⟩, hx⟩, _⟩ := hpre
  refine (body (w.forCall tape i) w.heap.size i.args ds gs before hval (hw.of_heap (by rfl)) (hX _ _ _ (by rfl) hx) shape).mono fun e W' ⟨v, he, hp⟩ => ?_
  subst he
  exact ChangeSpec.post_blind hp
end Go
