/- Contracts of the functions that SJorZ comes to. -/
import Derived.Test.YticmdpcahpimhaaCodeSJorZ
import Derived.Test.YticmdpcahpimhaaWx16
set_option maxRecDepth 100000
set_option maxHeartbeats 1000000
set_option linter.unusedVariables false
set_option linter.unusedSectionVars false
set_option linter.unusedSimpArgs false
namespace Go.Proofs.Yticmdpcahpimhaa
open Go.Rx Go.RowKit
attribute [local irreducible] E idxN cellAt cellsAt storeAt callable helems hmoved lookIn findKey keyOk hentries Hp.at Hp.set Hp.lay arBits hupdated setAt CallP YieldP BoolOf IsWrap Rnd LoopP AppP CutP Int.tmod Int.tdiv Int.fdiv
section
variable [Unknowns]
theorem isnan_spec (a : Int) (h : Hp) : CallP E 99 [int a] h (fun r h' => r = .bool false ∧ h' = h) := by
  refine enter99 (by simp) ?_
  ((conv => whnf); repeat (refine SeqP.go ?_; conv => whnf))
  refine cmpF (by omega) ?_
  ((conv => whnf); repeat (refine SeqP.go ?_; conv => whnf))
  exact ⟨rfl, rfl⟩
def cmpI (a b : Int) : Int := if a < b then -1 else if b < a then 1 else 0
theorem cmp_spec (a b : Int) (h : Hp) : CallP E 96 [int a, int b] h (fun r h' => r = int (cmpI a b) ∧ h' = h) := by
  refine enter96 (by simp) ?_
  ((conv => whnf); repeat (refine SeqP.go ?_; conv => whnf))
  refine CallP.mono (isnan_spec a h) ?_
  rintro r h1 ⟨rfl, rfl⟩
  ((conv => whnf); repeat (refine SeqP.go ?_; conv => whnf))
  refine CallP.mono (isnan_spec b h1) ?_
  rintro r h2 ⟨rfl, rfl⟩
  ((conv => whnf); repeat (refine SeqP.go ?_; conv => whnf))
  by_cases h3 : a < b
  · refine cmpT h3 ?_
    ((conv => whnf); repeat (refine SeqP.go ?_; conv => whnf))
    exact ⟨by unfold cmpI; rw [if_pos h3]; rfl, rfl⟩
  refine cmpF h3 ?_
  ((conv => whnf); repeat (refine SeqP.go ?_; conv => whnf))
  by_cases h4 : b < a
  · refine cmpT h4 ?_
    ((conv => whnf); repeat (refine SeqP.go ?_; conv => whnf))
    exact ⟨by unfold cmpI; rw [if_neg h3, if_pos h4]; rfl, rfl⟩
  refine cmpF h4 ?_
  ((conv => whnf); repeat (refine SeqP.go ?_; conv => whnf))
  exact ⟨by unfold cmpI; rw [if_neg h3, if_neg h4]; rfl, rfl⟩
/-- One pair is less than another one. -/
def PLess (x y : Int × Int) : Prop := x.1 < y.1 ∨ x.1 = y.1 ∧ x.2 < y.2
theorem compare_spec (v w : Value) (x y : Int × Int) (h : Hp) (hv : Ints h v [x.1, x.2]) (hw : Ints h w [y.1, y.2]) : CallP E 93 [v, w] h (fun r h' => (∃ c : Int, r = int c ∧ (c < 0 ↔ PLess x y) ∧ (c = 0 ↔ x = y)) ∧ h' = h) := by
  obtain ⟨a, b⟩ := x
  obtain ⟨c, d⟩ := y
  obtain ⟨av, cap, rfl, hc⟩ := id hv
  obtain ⟨aw, cap', rfl, hd⟩ := id hw
  obtain ⟨r, o, sp, e, hsp, hc0⟩ := hc 0 (by simp)
  subst e
  obtain ⟨r', o', sp', e, hsp', hd0⟩ := hd 0 (by simp)
  subst e
  have hc1 : cellAt h r (1 + o) = some (int b) := by
    obtain ⟨_, _, _, e, _, h1⟩ := hc 1 (by simp)
    cases e
    exact h1
  have hd1 : cellAt h r' (1 + o') = some (int d) := by
    obtain ⟨_, _, _, e, _, h1⟩ := hd 1 (by simp)
    cases e
    exact h1
  refine enter93 (by simp) ?_
  ((conv => whnf); repeat (refine SeqP.go ?_; conv => whnf))
  refine loop_inv (α := Nat) (fun k => [(11, int k), (10, int 2), (9, .slice (some ⟨r, o, sp⟩) 2 cap), (0, .slice (some ⟨r, o, sp⟩) 2 cap), (1, .slice (some ⟨r', o', sp'⟩) 2 cap')]) (fun _ => h) (fun k => k ≤ 2 ∧ (1 ≤ k → a = c) ∧ (2 ≤ k → b = d)) (fun k => 2 - k) 0 ⟨by omega, by omega, by omega⟩ ⟨rfl, rfl, rfl, rfl, rfl, trivial⟩ (Hp.Le.refl _) ?_
  rintro k φ ⟨hk, h1, h2⟩
  have hk3 : k = 0 ∨ k = 1 ∨ k = 2 := by omega
  ((conv => whnf); repeat (refine SeqP.go ?_; conv => whnf))
  refine cmpB (fun hb => ?_) (fun hb => ?_)
  rotate_left
  · have : k = 2 := by omega
    subst this
    ((conv => whnf); repeat (refine SeqP.go ?_; conv => whnf))
    refine cmpF (by omega) ?_
    ((conv => whnf); repeat (refine SeqP.go ?_; conv => whnf))
    refine ⟨⟨0, rfl, ?_, ?_⟩, rfl⟩
    · unfold PLess; dsimp only; omega
    · rw [Prod.mk.injEq]; omega
  have hx : ∃ x : Int, cellAt h r (k + o) = some (int x) ∧ (k = 0 ∧ x = a ∨ k = 1 ∧ x = b) := by
    rcases hk3 with rfl | rfl | rfl
    · exact ⟨a, hc0, .inl ⟨rfl, rfl⟩⟩
    · exact ⟨b, hc1, .inr ⟨rfl, rfl⟩⟩
    · omega
  have hy : ∃ y : Int, cellAt h r' (k + o') = some (int y) ∧ (k = 0 ∧ y = c ∨ k = 1 ∧ y = d) := by
    rcases hk3 with rfl | rfl | rfl
    · exact ⟨c, hd0, .inl ⟨rfl, rfl⟩⟩
    · exact ⟨d, hd1, .inr ⟨rfl, rfl⟩⟩
    · omega
  obtain ⟨x, hx1, hx2⟩ := hx
  obtain ⟨y, hy1, hy2⟩ := hy
  ((conv => whnf); repeat (refine SeqP.go ?_; conv => whnf))
  refine ⟨hsp, ⟨by omega, by omega⟩, ?_⟩
  ((conv => whnf); repeat (refine SeqP.go ?_; conv => whnf))
  refine ⟨_, hx1, ?_⟩
  ((conv => whnf); repeat (refine SeqP.go ?_; conv => whnf))
  refine cmpF (by omega) ?_
  ((conv => whnf); repeat (refine SeqP.go ?_; conv => whnf))
  refine ⟨hsp', ⟨by omega, by omega⟩, ?_⟩
  ((conv => whnf); repeat (refine SeqP.go ?_; conv => whnf))
  refine ⟨_, hy1, ?_⟩
  ((conv => whnf); repeat (refine SeqP.go ?_; conv => whnf))
  refine CallP.mono (cmp_spec x y h) ?_
  rintro rr h3 ⟨rfl, rfl⟩
  ((conv => whnf); repeat (refine SeqP.go ?_; conv => whnf))
  by_cases hxy : x = y
  · refine cmpF (fun hn => hn (by unfold cmpI; rw [if_neg (by omega), if_neg (by omega)])) ?_
    ((conv => whnf); repeat (refine SeqP.go ?_; conv => whnf))
    refine ⟨_, wid (by omega), ?_⟩
    ((conv => whnf); repeat (refine SeqP.go ?_; conv => whnf))
    exact Rnd.mk (k + 1) ⟨by omega, by omega, by omega⟩ (by omega) ⟨rfl, rfl, rfl, rfl, rfl, trivial⟩ (Hp.Le.refl _) rfl
  · refine cmpT (fun hn => by
      unfold cmpI at hn
      split at hn
      · omega
      · split at hn <;> omega) ?_
    ((conv => whnf); repeat (refine SeqP.go ?_; conv => whnf))
    refine ⟨⟨cmpI x y, rfl, ?_, ?_⟩, rfl⟩
    · unfold PLess cmpI; dsimp only
      constructor
      · intro h
        split at h
        · omega
        · split at h <;> omega
      · intro h
        rw [if_pos (by omega)]
        omega
    · rw [Prod.mk.injEq]
      constructor
      · intro h
        unfold cmpI at h
        split at h
        · omega
        · split at h <;> omega
      · intro h; exfalso; omega
end
end Go.Proofs.Yticmdpcahpimhaa
