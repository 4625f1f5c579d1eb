/- Contracts of the functions that SKnuthM comes to. -/
import Derived.Test.YticmdpcahpimhaaCodeSKnuthM
import Derived.Test.YticmdpcahpimhaaWx12
set_option maxRecDepth 100000
set_option maxHeartbeats 1000000
set_option linter.unusedVariables false
set_option linter.unusedSectionVars false
set_option linter.unusedSimpArgs false
namespace Go.Proofs.Yticmdpcahpimhaa
open Go.Rx Go.RowKit
attribute [local irreducible] E idxN cellAt cellsAt storeAt callable helems hmoved lookIn findKey keyOk hentries Hp.at Hp.set Hp.lay arBits hupdated setAt CallP YieldP BoolOf IsWrap Rnd LoopP AppP CutP Int.tmod Int.tdiv Int.fdiv
section
variable [Unknowns]
theorem costs_spec (v : Value) (l : List Int) (h : Hp) (hv : Ints h v l) (hl : l.length < 9223372036854775808) : CallP E 28 [v] h (fun r h' => ∃ cs, Built h h' 3 r cs ∧ cs.length = min l.length 12 ∧ (∀ c ∈ cs, 1 ≤ c ∧ c ≤ 1000) ∧ Grows h h') := by
  obtain ⟨a, cap, rfl, hc⟩ := id hv
  refine enter28 (by simp) ?_
  conv => whnf
  refine loop_inv (α := Nat × Hp × Value × List Int) (fun x => [(4, int x.1), (3, x.2.2.1), (0, .slice a l.length cap)]) (fun x => x.2.1) (fun x => x.1 ≤ l.length ∧ x.1 ≤ 12 ∧ Built h x.2.1 3 x.2.2.1 x.2.2.2 ∧ Grows h x.2.1 ∧ x.2.2.2.length = x.1 ∧ ∀ c ∈ x.2.2.2, 1 ≤ c ∧ c ≤ 1000) (fun x => 12 - x.1) (0, h, .slice none 0 0, []) ⟨by omega, by omega, .inl ⟨rfl, rfl⟩, .refl _, rfl, by simp⟩ ⟨rfl, rfl, rfl, trivial⟩ (Hp.Le.refl _) ?_
  rintro ⟨i, h1, s, cs⟩ φ ⟨hi1, hi2, ho, hg, hlen, hin⟩
  dsimp only at hi1 hi2 ho hg hlen hin ⊢
  conv => whnf
  refine cmpB (fun hb => ?_) (fun hb => ?_)
  rotate_left
  · have ho' := ho
    rcases ho' with ⟨rfl, rfl⟩ | ⟨r, rfl, _, _⟩ <;> ((conv => whnf); exact ⟨_, ho, by omega, hin, hg⟩)
  conv => whnf
  refine cmpB (fun hb2 => ?_) (fun hb2 => ?_)
  rotate_left
  · have ho' := ho
    rcases ho' with ⟨rfl, rfl⟩ | ⟨r, rfl, _, _⟩ <;> ((conv => whnf); exact ⟨_, ho, by omega, hin, hg⟩)
  have hk : i < l.length := by omega
  obtain ⟨r, o, sp, rfl, hsp, hcell⟩ := hc i hk
  conv => whnf
  refine ⟨hsp, ⟨by omega, by omega⟩, ?_⟩
  conv => whnf
  refine ⟨_, hg.cell hcell, ?_⟩
  conv => whnf
  obtain ⟨u, u0, u1, hu⟩ := u64_of l[i]
  refine ⟨u, hu, ?_⟩
  conv => whnf
  refine ⟨by omega, ?_⟩
  have b1 := tmod_bd u0 (show (0 : Int) < 1000 by omega)
  conv => whnf
  refine ⟨_, wid (by omega), ?_⟩
  conv => whnf
  obtain ⟨c, hc1⟩ : ∃ c : Int, 1 + u.tmod 1000 = c := ⟨_, rfl⟩
  refine ⟨c, wie hc1 (by omega), ?_⟩
  conv => whnf
  refine AppP.ints (ho.ext (Grows.lay _ _)) (hg.then_lay _) Elems.lay1 (by simp; omega) ?_
  intro v' h' ho' hg' _
  conv => whnf
  refine ⟨_, wid (by omega), ?_⟩
  conv => whnf
  refine Rnd.mk (i + 1, h', v', cs ++ [c]) ⟨by show i + 1 ≤ l.length; omega, by show i + 1 ≤ 12; omega, ho', hg', by simp [hlen], ?_⟩ (by show 12 - (i + 1) < 12 - i; omega) ⟨rfl, rfl, rfl, trivial⟩ (Hp.Le.refl _) rfl
  intro x hx
  rcases List.mem_append.1 hx with hx | hx
  · exact hin x hx
  · obtain rfl : x = c := by simpa using hx
    omega
end
end Go.Proofs.Yticmdpcahpimhaa
