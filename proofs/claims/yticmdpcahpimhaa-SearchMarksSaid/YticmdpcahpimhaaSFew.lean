/- Contracts of the functions that SMarksZ comes to. -/
import Derived.Test.YticmdpcahpimhaaCodeSMarksZ
import Derived.Test.YticmdpcahpimhaaWx12
set_option maxRecDepth 100000
set_option maxHeartbeats 1000000
set_option linter.unusedVariables false
set_option linter.unusedSectionVars false
set_option linter.unusedSimpArgs false
namespace Go.Proofs.Yticmdpcahpimhaa
open Go.Rx Go.RowKit
attribute [local irreducible] E idxN cellAt cellsAt storeAt callable helems hmoved lookIn findKey keyOk hentries Hp.at Hp.set Hp.lay arBits hupdated setAt CallP YieldP BoolOf IsWrap Rnd LoopP AppP CutP Int.tmod Int.tdiv Int.fdiv
section
variable [Unknowns]
theorem few_spec (v : Value) (l : List Int) (h : Hp) (hv : View h v l) (hl : l.length < 9223372036854775808) (most : Nat) (hm : most ≤ 100000) : CallP E 16 [v, int most] h (fun r h' => Built h h' 3 r (l.take most) ∧ Grows h h') := by
  obtain ⟨a, c, rfl⟩ := hv.known
  refine enter16 (by simp) ?_
  ((conv => whnf); repeat (refine SeqP.go ?_; conv => whnf))
  refine CutP.ints (i := 0) (j := min l.length most) hv ⟨.inl ⟨rfl, rfl⟩, .inr ?_⟩ (by omega) (by omega) ?_
  · conv => lhs; arg 1; whnf
    refine congrArg (fun n => some (Value.int .i64 n)) ?_
    split <;> omega
  intro v' hv' _ _
  ((conv => whnf); repeat (refine SeqP.go ?_; conv => whnf))
  refine AppP.ints (h0 := h) (.inl ⟨rfl, rfl⟩) (.refl _) hv'.elems (by simp; omega) ?_
  intro v2 h2 hb hg _
  have e : [] ++ ((l.drop 0).take (min l.length most - 0)) = l.take most := by
    rw [List.nil_append, List.drop_zero, Nat.sub_zero]
    by_cases hml : most ≤ l.length
    · rw [Nat.min_eq_right hml]
    · rw [Nat.min_eq_left (by omega), List.take_of_length_le (Nat.le_refl _), List.take_of_length_le (by omega)]
  rw [e] at hb
  have hb' := hb
  rcases hb' with ⟨rfl, _⟩ | ⟨r, rfl, _, _⟩ <;> ((((conv => whnf); repeat (refine SeqP.go ?_; conv => whnf))); exact ⟨hb, hg⟩)
end
end Go.Proofs.Yticmdpcahpimhaa
