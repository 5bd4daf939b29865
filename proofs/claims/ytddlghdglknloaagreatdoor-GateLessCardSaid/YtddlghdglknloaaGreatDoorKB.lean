/- Contracts of functions that the laws of this seat call, or the evaluator of closed calls and its runs. Conditions: as each theorem states them. -/
import Derived.Test.YtddlghdglknloaaGreatDoorKR0
import Derived.Test.YtddlghdglknloaaGreatDoorKR1
import Derived.Test.YtddlghdglknloaaGreatDoorKR2
import Derived.Test.YtddlghdglknloaaGreatDoorKR3
import Derived.Test.YtddlghdglknloaaGreatDoorKK
set_option linter.unusedVariables false
set_option linter.unusedSimpArgs false
namespace Go.Kn
set_option maxRecDepth 1000000
open Go Go.Clo Go.Proofs

theorem T_ok : TbOK T0 ∧ StrOK T0 := tables_ok (by
  intro t i h
  have hs : Tryz.types.size = 239 := by kernel_rfl
  have hlt : t < Tryz.types.size := by
    have := (List.getElem?_eq_some_iff.1 h).1; simpa using this
  show Tryz.prog.toTables.info? t = some i
  unfold Tables.info?
  have e : Tryz.prog.toTables.types = Tryz.types := by kernel_rfl
  rw [e, if_pos hlt]
  simpa using h) (by kernel_rfl) (by
  intro f e h
  unfold Text at h
  rw [Tr.get_set] at h
  split at h
  · rename_i hf; cases h; subst hf
    exact ⟨_, Tryz.func203, by decide, rfl, by kernel_rfl, by kernel_rfl⟩
  · rw [Tr.get_set] at h
    split at h
    · rename_i hf; cases h; subst hf
      exact ⟨_, Tryz.func186, by decide, rfl, by kernel_rfl, by kernel_rfl⟩
    · cases h) (by
  intro f u h
  have h' : (Tr.e : Tr Unit).get f = some u := h
  cases h') kq_ok

theorem mixed : Tryz.prog.follows .mixedOrders = true := by kernel_rfl

theorem T1_ok : TbOK T1 ∧ StrOK T1 := ⟨T_ok.1.withSp _, StrOK.withSp T_ok.2 _⟩
theorem D1 : DrawOK T1 := draw_ok T1_ok.1 T1_ok.2 mixed
theorem P1 : SpOK T1 := by
  intro f' g hg args um h r um' h' e σ w args' m cs hA hU H hlo
  have hg' : (Tr.set Tr.e 64 fedG).get f' = some g := hg
  rw [Tr.get_set] at hg'
  split at hg'
  · rename_i hf
    cases hg'; subst hf
    exact fed_ok (T := T1) rfl e hA hU H
  · cases hg'
theorem PG : SpOK TG := by
  intro f' g hg args um h r um' h' e σ w args' m cs hA hU H hlo
  have hg' : (Tr.set T1.sp 198 digG).get f' = some g := hg
  rw [Tr.get_set] at hg'
  split at hg'
  · rename_i hf
    cases hg'; subst hf
    exact dig_ok (T := TG) rfl rfl e hA hU H
  · have hg2 : (Tr.set Tr.e 64 fedG).get f' = some g := hg'
    rw [Tr.get_set] at hg2
    split at hg2
    · rename_i hf
      cases hg2; subst hf
      exact fed_ok (T := TG) rfl e hA hU H
    · cases hg2
theorem PFed : SpOK TFed := by
  refine SpOK.add T1_ok.1 T1_ok.2 D1 P1 PG rfl rfl (fun _ => rfl) ?_
  intro R hR
  simp only [rowsFed, List.mem_cons, List.not_mem_nil, or_false] at hR
  rcases hR with rfl | rfl
  · exact ⟨400, rFed0⟩
  · exact ⟨400, rFed1⟩
theorem PFeeds : SpOK TFeeds := by
  refine SpOK.add T1_ok.1 T1_ok.2 D1 P1 PFed rfl rfl (fun _ => rfl) ?_
  intro R hR
  simp only [rowsFeeds, List.mem_cons, List.not_mem_nil, or_false] at hR
  subst hR
  exact ⟨400, rFeeds0⟩
theorem PCut : SpOK TCut := by
  refine SpOK.add T1_ok.1 T1_ok.2 D1 P1 PFeeds rfl rfl (fun _ => rfl) ?_
  intro R hR
  simp only [rowsCut, List.mem_cons, List.not_mem_nil, or_false] at hR
  subst hR
  exact ⟨400, rCut0⟩
theorem PMost : SpOK TMost := by
  refine SpOK.add T1_ok.1 T1_ok.2 D1 P1 PCut rfl rfl (fun _ => rfl) ?_
  intro R hR
  simp only [rowsMost, List.mem_cons, List.not_mem_nil, or_false] at hR
  subst hR
  exact ⟨400, rMost0⟩
theorem PFewest : SpOK TFewest := by
  refine SpOK.add T1_ok.1 T1_ok.2 D1 P1 PMost rfl rfl (fun _ => rfl) ?_
  intro R hR
  simp only [rowsFewest, List.mem_cons, List.not_mem_nil, or_false] at hR
  subst hR
  exact ⟨400, rFewest0⟩
theorem PVital : SpOK TVital := by
  refine SpOK.add T1_ok.1 T1_ok.2 D1 P1 PFewest rfl rfl (fun _ => rfl) ?_
  intro R hR
  simp only [rowsVital, List.mem_cons, List.not_mem_nil, or_false] at hR
  subst hR
  exact ⟨400, rVital0⟩
theorem PMoves : SpOK TMoves := by
  refine SpOK.add T1_ok.1 T1_ok.2 D1 P1 PVital rfl rfl (fun _ => rfl) ?_
  intro R hR
  simp only [rowsMoves, List.mem_cons, List.not_mem_nil, or_false] at hR
  subst hR
  exact ⟨400, rMoves0⟩
theorem PProof : SpOK TProof := by
  refine SpOK.add T1_ok.1 T1_ok.2 D1 P1 PMoves rfl rfl (fun _ => rfl) ?_
  intro R hR
  simp only [rowsProof, List.mem_cons, List.not_mem_nil, or_false] at hR
  subst hR
  exact ⟨400, rProof0⟩
theorem PPlan : SpOK TPlan := by
  refine SpOK.add T1_ok.1 T1_ok.2 D1 P1 PProof rfl rfl (fun _ => rfl) ?_
  intro R hR
  simp only [rowsPlan, List.mem_cons, List.not_mem_nil, or_false] at hR
  subst hR
  exact ⟨400, rPlan0⟩
theorem PTogether : SpOK TTogether := by
  refine SpOK.add T1_ok.1 T1_ok.2 D1 P1 PPlan rfl rfl (fun _ => rfl) ?_
  intro R hR
  simp only [rowsTogether, List.mem_cons, List.not_mem_nil, or_false] at hR
  subst hR
  exact ⟨400, rTogether0⟩
theorem PRounds : SpOK TRounds := by
  refine SpOK.add T1_ok.1 T1_ok.2 D1 P1 PTogether rfl rfl (fun _ => rfl) ?_
  intro R hR
  simp only [rowsRounds, List.mem_cons, List.not_mem_nil, or_false] at hR
  subst hR
  exact ⟨400, rRounds0⟩

theorem TL_ok : TbOK TRounds ∧ StrOK TRounds := by
  obtain ⟨h1, h2⟩ := T_ok
  exact ⟨⟨h1.info, h1.und, h1.fn, h1.ext, h1.cl, h1.kq, h1.zero⟩, h2⟩
theorem HR.tens {w : World} (h : Pw w) : HR TRounds (fun b => if b = 0 then some (3, 0) else none) hG w := by
  obtain ⟨c, h1, h2, h3, h4⟩ := h
  have hget : ∀ b y, hG.get b = some y → b = 0 ∧ y = .cells [.int .u64 1, .int .u64 10, .int .u64 100] 221 true := by
    intro b y e
    unfold hG Hp.get at e
    simp only at e
    rw [Tr.get_set] at e
    split at e
    · cases e; exact ⟨by assumption, rfl⟩
    · cases e
  refine ⟨?_, ?_, ?_, ?_, ?_, fun b y e => e⟩
  · intro b y e
    show b < 1
    split at e
    · omega
    · cases e
  · intro b c x e
    split at e
    · cases e; exact (Array.getElem?_eq_some_iff.1 h1).1
    · cases e
  · intro b y e
    show b < 1
    have := (hget b y e).1; omega
  · intro b y c' x e r
    obtain ⟨rfl, rfl⟩ := hget b y e
    simp only [if_true, Option.some.injEq, Prod.mk.injEq] at r
    obtain ⟨rfl, rfl⟩ := r
    refine ⟨c, h1, fun i v hv => ?_, fun _ => rfl, fun hx => by cases hx⟩
    match i, hv with
    | 0, hv => cases hv; exact ⟨_, h2, .int _ _⟩
    | 1, hv => cases hv; exact ⟨_, h3, .int _ _⟩
    | 2, hv => cases hv; exact ⟨_, h4, .int _ _⟩
  · intro b b' y y' c c' x e e' _ _ _ _
    rw [(hget b y e).1, (hget b' y' e').1]
/-- the chapter's examples hold, whatever the world and the order, where the package's table lies -/
theorem known_calls (w : World) (hw : Pw w) : Calls Tryz.prog 16 #[] w fun e w' => e = .returned (.bool true) ∧ RowKit.Below w.heap.size w w' := by
  obtain ⟨um, h', hh⟩ := ret_of k9
  refine (calls_of_ev (T := TRounds) TL_ok.1 TL_ok.2 (draw_ok TL_ok.1 TL_ok.2 mixed) PRounds 400 (args := []) hh (args' := #[]) .nil (HR.tens hw) (Nat.le_refl _)).mono ?_
  rintro e w' ⟨σ', u, rfl, hu, H', K⟩
  have := hu.gr_eq rfl
  subst this
  exact ⟨rfl, K.os, K.tape, K.output, K.size, fun k hk => K.mem k hk fun b y x hb hy => by
    have hb' : 1 ≤ b := hb
    have : b < 1 := (HR.tens hw).bnd b y hy
    omega⟩
end Go.Kn
