/- Contracts of the functions that SJorZ comes to. -/
import Derived.Test.YticmdpcahpimhaaSMarks3
set_option maxRecDepth 100000
set_option maxHeartbeats 1000000
set_option linter.unusedVariables false
set_option linter.unusedSectionVars false
set_option linter.unusedSimpArgs false
namespace Go.Proofs.Yticmdpcahpimhaa
open Go.Rx Go.RowKit Go.Comp
attribute [local irreducible] E idxN cellAt cellsAt storeAt callable helems hmoved lookIn findKey keyOk hentries Hp.at Hp.set Hp.lay arBits hupdated setAt CallP YieldP BoolOf IsWrap Rnd LoopP AppP CutP Int.tmod Int.tdiv Int.fdiv
section
variable [Unknowns]
attribute [local irreducible] ResP sameAt natI tv Z
theorem arem_spec (n : Nat) (P : List (Int × Int)) (hPl : P.length ≤ 1000) (hT : TreeP n P) (l : List Int) (ev v : Value) (h : Hp) (he : PairsV h ev P) (hv : Ints h v l) (hl : l.length ≤ 1000000) : CallP E 43 [int n, ev, v] h (fun r h' => (∃ b, r = .tuple ⟨[.bool b, int 0]⟩ ∧ BoolOf b (MOk P n l)) ∧ Grows h h') := by
  refine enter43 (by simp) ?_
  conv => whnf
  repeat (refine SeqP.go ?_; conv => whnf)
  refine CallP.mono (checked_spec n P hPl ev h he) ?_
  rintro r h1 ⟨⟨cs, e, rfl, hcl, hco, hch, hnear⟩, hg1⟩
  have e0 := hch.2.2 hT
  subst e0
  have hnr := hnear hT
  obtain ⟨near, rfl, hok⟩ := hnr
  rw [Int.toNat_natCast] at hok hcl hco
  conv => whnf
  refine ⟨hcl, _, storeAt_all hcl hco (over_all rfl hcl), ?_⟩
  conv => whnf
  repeat (refine SeqP.go ?_; conv => whnf)
  refine cmpF (by omega) ?_
  conv => whnf
  repeat (refine SeqP.go ?_; conv => whnf)
  refine ⟨tv n near, by rw [cellsAt_row (Hp.at_lay_self _ _) (by rw [Int.toNat_natCast, tv_length]; omega), List.drop_zero, List.take_of_length_le (by rw [Int.toNat_natCast, tv_length]; omega), Int.toNat_natCast], ?_⟩
  conv => whnf
  have hv1 : Ints (h1.lay (.row 102 true (tv (n : Int).toNat near))) v l := hv.ext (hg1.then_lay _)
  refine CallP.mono (aremarks_spec hok l v _ hv1 hl) ?_
  rintro r h2 ⟨⟨b, rfl, hb⟩, hg2⟩
  have hg2' : Grows (h1.lay (.row 102 true (tv (n : Int).toNat near))) h2 := hg2
  conv => whnf
  repeat (refine SeqP.go ?_; conv => whnf)
  exact ⟨⟨b, rfl, hb⟩, (hg1.then_lay _).trans hg2'⟩
end
end Go.Proofs.Yticmdpcahpimhaa
