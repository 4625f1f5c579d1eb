/- Contracts of the functions that LLogs comes to. -/
import Derived.Test.YtlcnmneildefmaaLUn2
set_option maxRecDepth 100000
set_option maxHeartbeats 1000000
set_option linter.unusedVariables false
set_option linter.unusedSectionVars false
set_option linter.unusedSimpArgs false
namespace Go.Proofs.Ytlcnmneildefmaa
open Go.Rx Go.RowKit
theorem sameV_pair (x y : Int) : sameV 4 (.agg ⟨[int x, int y]⟩) (.agg ⟨[int x, int y]⟩) = true := by
  have q : ∀ n : Int, eqI n n = true := fun n => by unfold eqI; cases n <;> simp
  simp [sameV, sameL, q]
attribute [local irreducible] E idxN cellAt cellsAt storeAt callable helems hmoved lookIn findKey keyOk hentries Hp.at Hp.set Hp.lay arBits hupdated setAt CallP YieldP BoolOf IsWrap Rnd LoopP AppP CutP Int.tmod Int.tdiv Int.fdiv
section
variable [Unknowns]
attribute [local irreducible] sameAt
theorem inverse_spec (n a : Nat) (hn : 1 ≤ n ∧ n ≤ 1000000) (ha : a < 9223372036854775808) (h : Hp) : CallP E 68 [.agg ⟨[int n, int a]⟩] h (fun r h' => r = int (a ^ (Un n - 1) % n : Nat) ∧ Grows h h') := by
  have hu := Un_bd hn.1
  have hp : (h.lay (.row 65 true [int n, int a])).at h.next = some (.row 65 true [int n, int a]) := Hp.at_lay_self _ _
  refine enter68 (by simp) ?_
  conv => whnf
  refine ⟨[int n, int a], cellsAt_row hp (by simp), ?_⟩
  conv => whnf
  refine ⟨int n, cellAt_row hp rfl, ?_⟩
  conv => whnf
  refine CallP.mono (units_spec n hn _) ?_
  rintro r h1 ⟨rfl, hg1⟩
  have hp1 := hg1.at_ _ _ hp
  conv => whnf
  refine ⟨((Un n - 1 : Nat) : Int), wie (by omega) (by omega), ?_⟩
  conv => whnf
  refine CallP.mono (power_spec n a (Un n - 1) hn ha (by omega) _) ?_
  rintro r h2 ⟨rfl, hg2⟩
  have hp2 := hg2.at_ _ _ hp1
  conv => whnf
  refine ⟨?_, ?_⟩
  · repeat' (first | exact True.intro | (refine And.intro ?_ ?_ <;> (conv => whnf)))
    all_goals first
      | exact sameAt_val (h2 := h.lay (.row 65 true [int n, int a])) (show hval _ (aggOf (cellsAt (h.lay (.row 65 true [int n, int a])) h.next 0 2)) = _ by rw [cellsAt_row hp (by simp)]; rfl) (sameV_pair _ _)
      | exact sameAt_val (h2 := h1) (show hval _ (aggOf (cellsAt h1 h.next 0 2)) = _ by rw [cellsAt_row hp1 (by simp)]; rfl) (sameV_pair _ _)
      | exact sameAt_val (h2 := h2) (show hval _ (aggOf (cellsAt h2 h.next 0 2)) = _ by rw [cellsAt_row hp2 (by simp)]; rfl) (sameV_pair _ _)
  conv => whnf
  exact ⟨rfl, ((Grows.lay _ _).trans hg1).trans hg2⟩
end
end Go.Proofs.Ytlcnmneildefmaa
