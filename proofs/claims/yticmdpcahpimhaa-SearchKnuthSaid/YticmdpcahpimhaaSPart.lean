/- Contracts of the functions that SKnuthM comes to. -/
import Derived.Test.YticmdpcahpimhaaSLamps
import Derived.Test.YticmdpcahpimhaaSPlan
import Derived.Test.YticmdpcahpimhaaSEq
set_option maxRecDepth 100000
set_option maxHeartbeats 1000000
set_option linter.unusedVariables false
set_option linter.unusedSectionVars false
set_option linter.unusedSimpArgs false
namespace Go.Proofs.Yticmdpcahpimhaa
open Go.Rx Go.RowKit
theorem part_ty : ∃ i, E.ty 115 = some i ∧ i.agg = true ∧ i.size = 2 := by
  have hs : (tiOf Try.prog 115).isSome = true := by kernel_rfl
  refine ⟨(tiOf Try.prog 115).get hs, ty_get (by kernel_rfl) (Option.some_get hs).symm, ?_, ?_⟩
  · kernel_rfl
  · kernel_rfl
attribute [local irreducible] E idxN cellAt cellsAt storeAt callable helems hmoved lookIn findKey keyOk hentries Hp.at Hp.set Hp.lay arBits hupdated setAt CallP YieldP BoolOf IsWrap Rnd LoopP AppP CutP Int.tmod Int.tdiv Int.fdiv
section
variable [Unknowns]
attribute [local irreducible] finP
theorem before_spec (a b g : Int) (h : Hp) : CallP E 78 [.agg ⟨[int a, int b]⟩, int g] h (fun r h' => r = .agg ⟨[int a, int g]⟩ ∧ Grows h h') := by
  obtain ⟨i, hi, ha, hs⟩ := part_ty
  refine enter78 (by simp) ?_
  conv => whnf
  refine ⟨int a, cellAt_congr (fun _ e => Hp.at_lay_old _ e) (cellAt_lay rfl), ?_⟩
  conv => whnf
  refine ⟨rfl, _, storeAt_all rfl rfl rfl, ?_⟩
  conv => whnf
  refine leave_cell (cs := [int a, int g]) rfl hi ha ?_ ⟨rfl, (Grows.lay _ _).then_lay _⟩
  rw [hs]
  exact cellsAt_all rfl
theorem behind_spec (a b g : Int) (hg : -9223372036854775808 ≤ g + 1 ∧ g + 1 < 9223372036854775808) (h : Hp) : CallP E 79 [.agg ⟨[int a, int b]⟩, int g] h (fun r h' => r = .agg ⟨[int (g + 1), int b]⟩ ∧ Grows h h') := by
  obtain ⟨i, hi, ha, hs⟩ := part_ty
  refine enter79 (by simp) ?_
  conv => whnf
  refine ⟨_, wid hg, ?_⟩
  conv => whnf
  refine ⟨int b, cellAt_congr (fun _ e => Hp.at_lay_old _ e) (cellAt_lay rfl), ?_⟩
  conv => whnf
  refine ⟨rfl, _, storeAt_all rfl rfl rfl, ?_⟩
  conv => whnf
  refine leave_cell (cs := [int (g + 1), int b]) rfl hi ha ?_ ⟨rfl, (Grows.lay _ _).then_lay _⟩
  rw [hs]
  exact cellsAt_all rfl
end
section
variable [Unknowns]
attribute [local irreducible] ResP
theorem piece_spec (a b : Int) (h : Hp) : CallP E 77 [.agg ⟨[int a, int b]⟩] h (fun r h' => r = .bool (bif (a == a) then (b == a) else false) ∧ Grows h h') := by
  refine enter77 (by simp) ?_
  conv => whnf
  refine ⟨[int a, int b], cellsAt_all rfl, ?_⟩
  conv => whnf
  refine ⟨int a, cellAt_lay rfl, ?_⟩
  conv => whnf
  refine ⟨int a, cellAt_lay rfl, ?_⟩
  conv => whnf
  refine resP_val (v := .bool (bif (a == a) then (b == a) else false)) (h := h.lay (.row 115 true [int a, int b])) ?_ ?_
  · show hval _ (aBin E .eql 115 _ _ (.agg ⟨[int a, int b]⟩) (.agg ⟨[int a, int a]⟩)) = _
    rw [part_eq]
    rfl
  conv => whnf
  exact ⟨rfl, Grows.lay _ _⟩
end
end Go.Proofs.Yticmdpcahpimhaa
