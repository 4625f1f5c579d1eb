/- Contracts of the functions that SKnuthM comes to. -/
import Derived.Test.YticmdpcahpimhaaSIsPlan
import Derived.Test.YticmdpcahpimhaaSIs
set_option maxRecDepth 100000
set_option maxHeartbeats 1000000
set_option linter.unusedVariables false
set_option linter.unusedSectionVars false
set_option linter.unusedSimpArgs false
namespace Go.Proofs.Yticmdpcahpimhaa
open Go.Rx Go.RowKit
attribute [local irreducible] E idxN cellAt cellsAt storeAt callable helems hmoved lookIn findKey keyOk hentries Hp.at Hp.set Hp.lay arBits hupdated setAt CallP YieldP BoolOf IsWrap Rnd LoopP AppP CutP Int.tmod Int.tdiv Int.fdiv
section
variable [Unknowns]
theorem isplan_spec (n : Nat) (hn : n ≤ 12) (q : List Int) (v : Value) (h : Hp) (hv : View h v q) (hp : Pl 0 n q) : CallP E 56 [int n, v] h (fun r h' => r = .bool true ∧ Grows h h') := by
  refine enter56 (by simp) ?_
  conv => whnf
  refine ⟨rfl, _, storeAt_lay (by simp) rfl, ?_⟩
  conv => whnf
  refine ⟨.func (.func 76) ⟨[]⟩ ⟨[ptr h.next 0]⟩, cellAt_lay rfl, ?_⟩
  conv => whnf
  refine ⟨can76, ?_⟩
  refine CallP.mono (is_spec n 0 n q v h.next _ (by omega) (by omega) hn (hv.ext (Grows.lay _ _)) hp ⟨_, _, Hp.at_lay_self _ _⟩) ?_
  rintro v1 h1 ⟨rfl, hg⟩
  conv => whnf
  exact ⟨rfl, (Grows.lay _ _).trans hg⟩
theorem checkplan_spec (cs q : List Int) (v w : Value) (h : Hp) (hv : Ints h v cs) (hw : View h w q) (hl : cs.length ≤ 12) (hc : ∀ x ∈ cs, 1 ≤ x ∧ x ≤ 1000) (hp : Pl 0 cs.length q) : CallP E 62 [v, w] h (fun r h' => r = int 0 ∧ Grows h h') := by
  obtain ⟨a, cap, rfl, hcell⟩ := id hv
  refine enter62 (by simp) ?_
  conv => whnf
  refine CallP.mono (check_spec _ cs h hv (by omega)) ?_
  rintro v1 h1 ⟨rfl, e, rfl, ok, -⟩
  have he := ok ⟨hl, hc⟩
  subst he
  conv => whnf
  refine cmpF (by omega) ?_
  conv => whnf
  refine CallP.mono (isplan_spec cs.length hl q w _ hw hp) ?_
  rintro v2 h2 ⟨rfl, hg⟩
  conv => whnf
  exact ⟨rfl, hg⟩
end
end Go.Proofs.Yticmdpcahpimhaa
