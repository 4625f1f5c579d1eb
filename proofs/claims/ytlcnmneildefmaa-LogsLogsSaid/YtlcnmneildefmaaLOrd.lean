/- Contracts of the functions that LLogs comes to. -/
import Derived.Test.YtlcnmneildefmaaLSign
import Derived.Test.YtlcnmneildefmaaEuler
set_option maxRecDepth 100000
set_option maxHeartbeats 1000000
set_option linter.unusedVariables false
set_option linter.unusedSectionVars false
set_option linter.unusedSimpArgs false
namespace Go.Proofs.Ytlcnmneildefmaa
open Go.Rx Go.RowKit
attribute [local irreducible] E idxN cellAt cellsAt storeAt callable helems hmoved lookIn findKey keyOk hentries Hp.at Hp.set Hp.lay arBits hupdated setAt CallP YieldP BoolOf IsWrap Rnd LoopP AppP CutP Int.tmod Int.tdiv Int.fdiv
section
variable [Unknowns]
/-- The reference's order of a unit: the least exponent that gives one. -/
theorem reforder_spec (n a o : Nat) (hn : 1 ≤ n ∧ n ≤ 1000000) (ha : a < n) (ho : 0 < o ∧ o ≤ 1000000) (h1 : a ^ o % n = 1 % n) (hl : ∀ j, 0 < j → j < o → a ^ j % n ≠ 1 % n) (h : Hp) : CallP E 37 [int n, int a] h (fun r h' => r = int o ∧ h' = h) := by
  refine enter37 (by simp) ?_
  have e1 := tmod_nat 1 n
  conv => whnf
  refine loop_inv (α := Nat) (fun k => [(5, int (a ^ k % n : Nat)), (6, int k), (0, int n), (1, int a)]) (fun _ => h) (fun k => 1 ≤ k ∧ k ≤ o) (fun k => o - k) 1 ⟨by omega, by omega⟩ ⟨by show int _ = int _; rw [Nat.pow_one, Nat.mod_eq_of_lt ha], rfl, rfl, rfl, trivial⟩ (Hp.Le.refl _) ?_
  rintro k φ ⟨hk1, hk2⟩
  have hx : a ^ k % n < n := Nat.mod_lt _ (by omega)
  have b1 := mod_bound hn.2 hx ha
  have m1 : ((a ^ k % n : Nat) : Int) * (a : Int) = ((a ^ k % n * a : Nat) : Int) := by rw [Int.natCast_mul]
  have t1 := tmod_nat (a ^ k % n * a) n
  have s1 : a ^ k % n * a % n = a ^ (k + 1) % n := by rw [Nat.pow_succ, Nat.mod_mul_mod]
  obtain ⟨x, hxe⟩ : ∃ x, x = a ^ k % n := ⟨_, rfl⟩
  rw [← hxe] at m1 t1 s1 b1 hx
  by_cases hko : k < o
  · have hne := hl k (by omega) hko
    rw [← hxe] at hne
    have hne' : ¬ ((x : Int) = (1 : Int).tmod n) := fun e => hne (by
      have : (1 : Int).tmod n = ((1 % n : Nat) : Int) := e1
      rw [this] at e
      exact Int.ofNat.inj e)
    rw [← hxe]
    conv => whnf
    refine ⟨by omega, ?_⟩
    conv => whnf
    refine cmpT hne' ?_
    conv => whnf
    refine ⟨((x * a : Nat) : Int), wie m1 (by omega), ?_⟩
    conv => whnf
    refine ⟨by omega, ?_⟩
    conv => whnf
    refine ⟨_, wid (by omega), ?_⟩
    conv => whnf
    exact Rnd.mk (k + 1) ⟨by omega, by omega⟩ (by omega) ⟨by show int _ = int _; rw [t1, s1], rfl, rfl, rfl, trivial⟩ (Hp.Le.refl _) rfl
  · have hk : k = o := by omega
    subst hk
    have he : (x : Int) = (1 : Int).tmod n := by
      have : (1 : Int).tmod n = ((1 % n : Nat) : Int) := e1
      rw [this, hxe, h1]
    rw [← hxe]
    conv => whnf
    refine ⟨by omega, ?_⟩
    conv => whnf
    refine cmpF (fun e => e he) ?_
    conv => whnf
    exact ⟨rfl, rfl⟩
end
end Go.Proofs.Ytlcnmneildefmaa
