/- Contracts of the functions that SKnuthM comes to. -/
import Derived.Test.YticmdpcahpimhaaSLamps
import Derived.Test.YticmdpcahpimhaaSPlan
set_option maxRecDepth 100000
set_option maxHeartbeats 1000000
set_option linter.unusedVariables false
set_option linter.unusedSectionVars false
set_option linter.unusedSimpArgs false
namespace Go.Proofs.Yticmdpcahpimhaa
open Go.Rx Go.RowKit
attribute [local irreducible] E idxN cellAt cellsAt storeAt callable helems hmoved lookIn findKey keyOk hentries Hp.at Hp.set Hp.lay arBits hupdated setAt CallP YieldP BoolOf IsWrap Rnd LoopP AppP CutP Int.tmod Int.tdiv Int.fdiv
section
variable [Unknowns]
theorem check_spec (v : Value) (l : List Int) (h : Hp) (hv : Ints h v l) (hl : l.length ≤ 1000000) : CallP E 18 [v] h (fun r h' => h' = h ∧ ∃ e : Int, r = int e ∧ ((l.length ≤ 12 ∧ ∀ x ∈ l, 1 ≤ x ∧ x ≤ 1000) → e = 0) ∧ (¬ (l.length ≤ 12 ∧ ∀ x ∈ l, 1 ≤ x ∧ x ≤ 1000) → e = 80)) := by
  obtain ⟨a, cap, rfl, hc⟩ := id hv
  refine enter18 (by simp) ?_
  conv => whnf
  refine cmpB (fun hb => ?_) (fun hb => ?_)
  · conv => whnf
    exact ⟨rfl, 80, rfl, fun h => by omega, fun _ => rfl⟩
  conv => whnf
  refine CallP.mono (within_spec 1 1000 _ l _ hv hl) ?_
  rintro v h' ⟨rfl, rfl⟩
  by_cases hin : ∀ x ∈ l, 1 ≤ x ∧ x ≤ 1000
  · rw [decide_eq_true hin]
    conv => whnf
    exact ⟨rfl, 0, rfl, fun _ => rfl, fun h => absurd ⟨by omega, hin⟩ h⟩
  · rw [decide_eq_false hin]
    conv => whnf
    exact ⟨rfl, 80, rfl, fun h => absurd h.2 hin, fun _ => rfl⟩

end
end Go.Proofs.Yticmdpcahpimhaa
