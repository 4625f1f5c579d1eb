/- Contracts of the functions that LLogs comes to. -/
import Derived.Test.YtlcnmneildefmaaLOrder
set_option maxRecDepth 100000
set_option maxHeartbeats 1000000
set_option linter.unusedVariables false
set_option linter.unusedSectionVars false
set_option linter.unusedSimpArgs false
namespace Go.Proofs.Ytlcnmneildefmaa
open Go.Rx Go.RowKit
attribute [local irreducible] E idxN cellAt cellsAt storeAt callable helems hmoved lookIn findKey keyOk hentries Hp.at Hp.set Hp.lay arBits hupdated setAt CallP YieldP BoolOf IsWrap Rnd LoopP AppP CutP Int.tmod Int.tdiv Int.fdiv
section
variable [Unknowns]
theorem Order_spec (n a : Nat) (hn : 1 ≤ n ∧ n ≤ 1000000) (ha : a < n) (hc : Nat.gcd a n = 1) (h : Hp) : CallP E 29 [int n, int a] h (fun r h' => (∃ o : Nat, r = .tuple ⟨[int o, int 0]⟩ ∧ 1 ≤ o ∧ o ≤ n ∧ a ^ o % n = 1 % n ∧ ∀ j, 0 < j → j < o → a ^ j % n ≠ 1 % n) ∧ Grows h h') := by
  refine enter29 (by simp) ?_
  conv => whnf
  refine CallP.mono (check_spec n a h) ?_
  rintro r h1 ⟨⟨e, rfl, hchk⟩, hg1⟩
  have he : e = 0 := hchk.2.2 (by unfold IsMod; omega) ⟨by omega, by omega, by rw [Int.toNat_natCast, Int.toNat_natCast, Nat.gcd_comm]; exact hc⟩
  subst he
  conv => whnf
  refine cmpF (by omega) ?_
  conv => whnf
  refine CallP.mono (order_spec n a hn (by omega) hc h1) ?_
  rintro r h2 ⟨⟨o, rfl, ho⟩, hg2⟩
  conv => whnf
  exact ⟨⟨o, rfl, ho⟩, hg1.trans hg2⟩
theorem Inverse_spec (n a : Nat) (hn : 1 ≤ n ∧ n ≤ 1000000) (ha : a < n) (hc : Nat.gcd a n = 1) (h : Hp) : CallP E 32 [int n, int a] h (fun r h' => (∃ v : Nat, r = .tuple ⟨[int v, int 0]⟩ ∧ v < n ∧ v * a % n = 1 % n) ∧ Grows h h') := by
  refine enter32 (by simp) ?_
  conv => whnf
  refine CallP.mono (check_spec n a h) ?_
  rintro r h1 ⟨⟨e, rfl, hchk⟩, hg1⟩
  have he : e = 0 := hchk.2.2 (by unfold IsMod; omega) ⟨by omega, by omega, by rw [Int.toNat_natCast, Int.toNat_natCast, Nat.gcd_comm]; exact hc⟩
  subst he
  conv => whnf
  refine cmpF (by omega) ?_
  conv => whnf
  refine CallP.mono (inverse_spec n a hn (by omega) h1) ?_
  rintro r h2 ⟨rfl, hg2⟩
  conv => whnf
  exact ⟨⟨_, rfl, Nat.mod_lt _ (by omega), Go.Num.inverse_pow (Un_bd hn.1).1 (un_one hn.1 hc)⟩, hg1.trans hg2⟩
theorem Power_spec (n a : Nat) (k : Int) (hn : 1 ≤ n ∧ n ≤ 1000000) (ha : a < n) (hc : Nat.gcd a n = 1) (h : Hp) : CallP E 31 [int n, int a, int k] h (fun r h' => (((k < 0 ∨ 1000000000 < k) ∧ r = .tuple ⟨[int 0, int 1]⟩) ∨ (0 ≤ k ∧ k ≤ 1000000000 ∧ r = .tuple ⟨[int (a ^ k.toNat % n : Nat), int 0]⟩)) ∧ Grows h h') := by
  refine enter31 (by simp) ?_
  conv => whnf
  refine CallP.mono (check_spec n a h) ?_
  rintro r h1 ⟨⟨e, rfl, hchk⟩, hg1⟩
  have he : e = 0 := hchk.2.2 (by unfold IsMod; omega) ⟨by omega, by omega, by rw [Int.toNat_natCast, Int.toNat_natCast, Nat.gcd_comm]; exact hc⟩
  subst he
  conv => whnf
  refine cmpF (by omega) ?_
  conv => whnf
  refine cmpB (fun hb => ?_) (fun hb => ?_)
  · conv => whnf
    exact ⟨.inl ⟨.inl hb, rfl⟩, hg1⟩
  conv => whnf
  refine cmpB (fun hb2 => ?_) (fun hb2 => ?_)
  · conv => whnf
    exact ⟨.inl ⟨.inr hb2, rfl⟩, hg1⟩
  obtain ⟨j, rfl⟩ : ∃ j : Nat, k = j := ⟨k.toNat, by omega⟩
  conv => whnf
  refine CallP.mono (power_spec n a j hn (by omega) (by omega) h1) ?_
  rintro r h2 ⟨rfl, hg2⟩
  conv => whnf
  exact ⟨.inr ⟨by omega, by omega, rfl⟩, hg1.trans hg2⟩
end
end Go.Proofs.Ytlcnmneildefmaa
