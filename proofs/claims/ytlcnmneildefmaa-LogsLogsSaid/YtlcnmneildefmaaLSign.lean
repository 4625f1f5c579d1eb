/- Contracts of the functions that LLogs comes to. -/
import Derived.Test.YtlcnmneildefmaaLFac
set_option maxRecDepth 100000
set_option maxHeartbeats 1000000
set_option linter.unusedVariables false
set_option linter.unusedSectionVars false
set_option linter.unusedSimpArgs false
namespace Go.Proofs.Ytlcnmneildefmaa
open Go.Rx Go.RowKit
attribute [local irreducible] E idxN cellAt cellsAt storeAt callable helems hmoved lookIn findKey keyOk hentries Hp.at Hp.set Hp.lay arBits hupdated setAt CallP YieldP BoolOf IsWrap Rnd LoopP AppP CutP Int.tmod Int.tdiv Int.fdiv
theorem mod_bound {a b n : Nat} (hn : n ≤ 1000000) (ha : a < n) (hb : b < n) : a * b ≤ 1000000000000 := by
  have := Nat.mul_le_mul (show a ≤ 1000000 by omega) (show b ≤ 1000000 by omega)
  omega
/-- What a power comes to, half by half. -/
theorem pow_half (n o a k : Nat) : ((if k % 2 = 1 then o * a % n else o) * (a * a % n) ^ (k / 2)) % n = (o * a ^ k) % n := by
  have h1 : a ^ k = a ^ (k % 2) * (a * a) ^ (k / 2) := by
    rw [← Nat.pow_two, ← Nat.pow_mul, ← Nat.pow_add, Nat.mod_add_div]
  rw [h1]
  rcases Nat.mod_two_eq_zero_or_one k with h | h
  · rw [h, if_neg (by omega), Nat.pow_zero, Nat.one_mul, Nat.mul_mod, ← Nat.pow_mod, ← Nat.mul_mod]
  · rw [h, if_pos rfl, Nat.pow_one, ← Nat.mul_assoc, Nat.mul_mod, Nat.mod_mod, ← Nat.pow_mod, ← Nat.mul_mod]
section
variable [Unknowns]
theorem refpower_spec (n a k : Nat) (hn : 1 ≤ n ∧ n ≤ 1000000) (ha : a < 9223372036854775808) (hk : k < 9223372036854775808) (h : Hp) : CallP E 38 [int n, int a, int k] h (fun r h' => r = int (a ^ k % n : Nat) ∧ h' = h) := by
  refine enter38 (by simp) ?_
  have e1 := tmod_nat 1 n
  have e2 := tmod_nat a n
  conv => whnf
  refine ⟨by omega, ?_⟩
  conv => whnf
  refine ⟨by omega, ?_⟩
  conv => whnf
  refine loop_inv (α := Nat × Nat × Nat) (fun s => [(7, int s.1), (1, int s.2.1), (2, int s.2.2), (0, int n)]) (fun _ => h) (fun s => s.1 < n ∧ s.2.1 < n ∧ s.2.2 ≤ k ∧ s.1 * s.2.1 ^ s.2.2 % n = a ^ k % n ∨ n = 1 ∧ s.1 = 0 ∧ s.2.1 = 0 ∧ s.2.2 ≤ k) (fun s => s.2.2) (1 % n, a % n, k) ?_ ⟨by show int _ = int _; rw [← e1]; rfl, by show int _ = int _; rw [← e2], rfl, rfl, trivial⟩ (Hp.Le.refl _) ?_
  · by_cases h1 : n = 1
    · exact .inr ⟨h1, by subst h1; rfl, by subst h1; show a % 1 = 0; omega, Nat.le_refl _⟩
    · refine .inl ⟨Nat.mod_lt _ (by omega), Nat.mod_lt _ (by omega), Nat.le_refl _, ?_⟩
      show 1 % n * (a % n) ^ k % n = _
      rw [Nat.mod_eq_of_lt (show 1 < n by omega), Nat.one_mul, ← Nat.pow_mod]
  rintro ⟨o, b, j⟩ φ hP
  dsimp only at hP ⊢
  have hol : o < n := by rcases hP with h1 | h1 <;> omega
  have hbl : b < n := by rcases hP with h1 | h1 <;> omega
  have hjl : j ≤ k := by rcases hP with h1 | h1 <;> omega
  have b1 := mod_bound hn.2 hol hbl
  have b2 := mod_bound hn.2 hbl hbl
  have m1 : (o : Int) * (b : Int) = ((o * b : Nat) : Int) := by rw [Int.natCast_mul]
  have m2 : (b : Int) * (b : Int) = ((b * b : Nat) : Int) := by rw [Int.natCast_mul]
  have t1 := tmod_nat (o * b) n
  have t2 := tmod_nat (b * b) n
  have t3 : (j : Int).tmod 2 = ((j % 2 : Nat) : Int) := tmod_nat j 2
  have d1 := tdiv_nat j 2
  have next : ∀ o', o' = (if j % 2 = 1 then o * b % n else o) → o' < n → (o' < n ∧ b * b % n < n ∧ j / 2 ≤ k ∧ o' * (b * b % n) ^ (j / 2) % n = a ^ k % n ∨ n = 1 ∧ o' = 0 ∧ b * b % n = 0 ∧ j / 2 ≤ k) := by
    intro o' e hl
    rcases hP with h1 | h1
    · refine .inl ⟨hl, Nat.mod_lt _ (by omega), by omega, ?_⟩
      rw [e, pow_half, h1.2.2.2]
    · obtain ⟨h1, h2, h3, h4⟩ := h1
      subst h1
      exact .inr ⟨rfl, by omega, by omega, by omega⟩
  conv => whnf
  refine cmpB (fun hb => ?_) (fun hb => ?_)
  rotate_left
  · have : j = 0 := by omega
    subst this
    conv => whnf
    refine ⟨?_, rfl⟩
    show int (o : Int) = int ((a ^ k % n : Nat) : Int)
    rcases hP with h1 | h1
    · have := h1.2.2.2
      rw [Nat.pow_zero, Nat.mul_one, Nat.mod_eq_of_lt hol] at this
      rw [this]
    · obtain ⟨h1, h2, h3, h4⟩ := h1
      subst h1 h2
      rw [Nat.mod_one]
  conv => whnf
  refine ⟨by omega, ?_⟩
  conv => whnf
  refine cmpB (fun hb2 => ?_) (fun hb2 => ?_)
  · conv => whnf
    refine ⟨((o * b : Nat) : Int), wie m1 (by omega), ?_⟩
    conv => whnf
    refine ⟨by omega, ?_⟩
    conv => whnf
    refine ⟨((b * b : Nat) : Int), wie m2 (by omega), ?_⟩
    conv => whnf
    refine ⟨by omega, ?_⟩
    conv => whnf
    refine ⟨by omega, ((j / 2 : Nat) : Int), wie d1 (by omega), ?_⟩
    conv => whnf
    exact Rnd.mk (o * b % n, b * b % n, j / 2) (next _ (by rw [if_pos (by omega)]) (Nat.mod_lt _ (by omega))) (by show j / 2 < j; omega) ⟨by show int _ = int _; rw [t1], by show int _ = int _; rw [t2], rfl, rfl, trivial⟩ (Hp.Le.refl _) rfl
  · conv => whnf
    refine ⟨((b * b : Nat) : Int), wie m2 (by omega), ?_⟩
    conv => whnf
    refine ⟨by omega, ?_⟩
    conv => whnf
    refine ⟨by omega, ((j / 2 : Nat) : Int), wie d1 (by omega), ?_⟩
    conv => whnf
    exact Rnd.mk (o, b * b % n, j / 2) (next _ (by rw [if_neg (by omega)]) hol) (by show j / 2 < j; omega) ⟨rfl, by show int _ = int _; rw [t2], rfl, rfl, trivial⟩ (Hp.Le.refl _) rfl
theorem power_spec (n a k : Nat) (hn : 1 ≤ n ∧ n ≤ 1000000) (ha : a < 9223372036854775808) (hk : k < 9223372036854775808) (h : Hp) : CallP E 67 [.agg ⟨[int n, int a]⟩, int k] h (fun r h' => r = int (a ^ k % n : Nat) ∧ Grows h h') := by
  refine enter67 (by simp) ?_
  have e1 := tmod_nat 1 n
  have e2 := tmod_nat a n
  conv => whnf
  refine ⟨int n, cellAt_lay rfl, ?_⟩
  conv => whnf
  refine ⟨by omega, ?_⟩
  conv => whnf
  refine ⟨int a, cellAt_lay rfl, ?_⟩
  conv => whnf
  refine ⟨int n, cellAt_lay rfl, ?_⟩
  conv => whnf
  refine ⟨by omega, ?_⟩
  conv => whnf
  refine loop_inv (α := Nat × Nat × Nat) (fun s => [(5, int s.1), (6, int s.2.1), (1, int s.2.2), (2, ptr0 h.next)]) (fun _ => h.lay (.row 65 true [int n, int a])) (fun s => s.1 < n ∧ s.2.1 < n ∧ s.2.2 ≤ k ∧ s.1 * s.2.1 ^ s.2.2 % n = a ^ k % n ∨ n = 1 ∧ s.1 = 0 ∧ s.2.1 = 0 ∧ s.2.2 ≤ k) (fun s => s.2.2) (1 % n, a % n, k) ?_ ⟨by show int _ = int _; rw [← e1]; rfl, by show int _ = int _; rw [← e2], rfl, rfl, trivial⟩ (Hp.Le.refl _) ?_
  · by_cases h1 : n = 1
    · exact .inr ⟨h1, by subst h1; rfl, by subst h1; show a % 1 = 0; omega, Nat.le_refl _⟩
    · refine .inl ⟨Nat.mod_lt _ (by omega), Nat.mod_lt _ (by omega), Nat.le_refl _, ?_⟩
      show 1 % n * (a % n) ^ k % n = _
      rw [Nat.mod_eq_of_lt (show 1 < n by omega), Nat.one_mul, ← Nat.pow_mod]
  rintro ⟨o, b, j⟩ φ hP
  dsimp only at hP ⊢
  have hol : o < n := by rcases hP with h1 | h1 <;> omega
  have hbl : b < n := by rcases hP with h1 | h1 <;> omega
  have hjl : j ≤ k := by rcases hP with h1 | h1 <;> omega
  have b1 := mod_bound hn.2 hol hbl
  have b2 := mod_bound hn.2 hbl hbl
  have m1 : (o : Int) * (b : Int) = ((o * b : Nat) : Int) := by rw [Int.natCast_mul]
  have m2 : (b : Int) * (b : Int) = ((b * b : Nat) : Int) := by rw [Int.natCast_mul]
  have t1 := tmod_nat (o * b) n
  have t2 := tmod_nat (b * b) n
  have t3 : (j : Int).tmod 2 = ((j % 2 : Nat) : Int) := tmod_nat j 2
  have d1 := tdiv_nat j 2
  have next : ∀ o', o' = (if j % 2 = 1 then o * b % n else o) → o' < n → (o' < n ∧ b * b % n < n ∧ j / 2 ≤ k ∧ o' * (b * b % n) ^ (j / 2) % n = a ^ k % n ∨ n = 1 ∧ o' = 0 ∧ b * b % n = 0 ∧ j / 2 ≤ k) := by
    intro o' e hl
    rcases hP with h1 | h1
    · refine .inl ⟨hl, Nat.mod_lt _ (by omega), by omega, ?_⟩
      rw [e, pow_half, h1.2.2.2]
    · obtain ⟨h1, h2, h3, h4⟩ := h1
      subst h1
      exact .inr ⟨rfl, by omega, by omega, by omega⟩
  conv => whnf
  refine cmpB (fun hb => ?_) (fun hb => ?_)
  rotate_left
  · have : j = 0 := by omega
    subst this
    conv => whnf
    refine ⟨?_, Grows.lay _ _⟩
    show int (o : Int) = int ((a ^ k % n : Nat) : Int)
    rcases hP with h1 | h1
    · have := h1.2.2.2
      rw [Nat.pow_zero, Nat.mul_one, Nat.mod_eq_of_lt hol] at this
      rw [this]
    · obtain ⟨h1, h2, h3, h4⟩ := h1
      subst h1 h2
      rw [Nat.mod_one]
  conv => whnf
  refine ⟨by omega, ?_⟩
  conv => whnf
  refine cmpB (fun hb2 => ?_) (fun hb2 => ?_)
  · conv => whnf
    refine ⟨((o * b : Nat) : Int), wie m1 (by omega), ?_⟩
    conv => whnf
    refine ⟨int n, cellAt_lay rfl, ?_⟩
    conv => whnf
    refine ⟨by omega, ?_⟩
    conv => whnf
    refine ⟨((b * b : Nat) : Int), wie m2 (by omega), ?_⟩
    conv => whnf
    refine ⟨int n, cellAt_lay rfl, ?_⟩
    conv => whnf
    refine ⟨by omega, ?_⟩
    conv => whnf
    refine ⟨by omega, ((j / 2 : Nat) : Int), wie d1 (by omega), ?_⟩
    conv => whnf
    exact Rnd.mk (o * b % n, b * b % n, j / 2) (next _ (by rw [if_pos (by omega)]) (Nat.mod_lt _ (by omega))) (by show j / 2 < j; omega) ⟨by show int _ = int _; rw [t1], by show int _ = int _; rw [t2], rfl, rfl, trivial⟩ (Hp.Le.refl _) rfl
  · conv => whnf
    refine ⟨((b * b : Nat) : Int), wie m2 (by omega), ?_⟩
    conv => whnf
    refine ⟨int n, cellAt_lay rfl, ?_⟩
    conv => whnf
    refine ⟨by omega, ?_⟩
    conv => whnf
    refine ⟨by omega, ((j / 2 : Nat) : Int), wie d1 (by omega), ?_⟩
    conv => whnf
    exact Rnd.mk (o, b * b % n, j / 2) (next _ (by rw [if_neg (by omega)]) hol) (by show j / 2 < j; omega) ⟨rfl, by show int _ = int _; rw [t2], rfl, rfl, trivial⟩ (Hp.Le.refl _) rfl
end
/-- What a number leaves by another one, from 0 on. -/
def rest (a : Int) (p : Nat) : Nat := ((a.tmod p + p).tmod p).toNat
theorem rest_ok (a : Int) (p : Nat) (hp : 1 ≤ p) : -(p : Int) < a.tmod p ∧ a.tmod p < p ∧ (a.tmod p + p).tmod p = rest a p ∧ rest a p < p := by
  have h1 := Int.tmod_lt_of_pos a (show (0 : Int) < p by omega)
  have h2 : -(p : Int) < a.tmod p := by
    rcases Int.le_total 0 a with h | h
    · have := Int.tmod_nonneg (p : Int) h; omega
    · have e : a.tmod p = -((-a).tmod p) := by rw [Int.neg_tmod]; omega
      have := Int.tmod_lt_of_pos (-a) (show (0 : Int) < p by omega)
      omega
  have h3 := tmod_bd (show 0 ≤ a.tmod p + p by omega) (show (0 : Int) < p by omega)
  unfold rest
  exact ⟨h2, h1, by omega, by omega⟩
/-- The sign for a prime number. -/
def leg (a : Int) (p : Nat) : Int := if rest a p = 0 then 0 else if rest a p ^ ((p - 1) / 2) % p = 1 then 1 else -1
theorem leg_bd (a : Int) (p : Nat) : -1 ≤ leg a p ∧ leg a p ≤ 1 := by unfold leg; repeat' split <;> omega
theorem mul_unit {x y : Int} (hx : -1 ≤ x ∧ x ≤ 1) (hy : -1 ≤ y ∧ y ≤ 1) : -1 ≤ x * y ∧ x * y ≤ 1 := by
  have h : x = -1 ∨ x = 0 ∨ x = 1 := by omega
  rcases h with rfl | rfl | rfl <;> omega
def rep : Nat → Int → Int → Int
  | 0, _, o => o
  | t + 1, s, o => rep t s (o * s)
theorem rep_bd : ∀ (t : Nat) (s o : Int), (-1 ≤ s ∧ s ≤ 1) → (-1 ≤ o ∧ o ≤ 1) → -1 ≤ rep t s o ∧ rep t s o ≤ 1
  | 0, _, _, _, h => h
  | t + 1, s, o, h1, h2 => rep_bd t s (o * s) h1 (mul_unit h2 h1)
def sgnL (a : Int) : List (Nat × Nat) → Int → Int
  | [], o => o
  | x :: l, o => sgnL a l (rep x.2 (leg a x.1) o)
theorem sgnL_bd (a : Int) : ∀ (l : List (Nat × Nat)) (o : Int), (-1 ≤ o ∧ o ≤ 1) → -1 ≤ sgnL a l o ∧ sgnL a l o ≤ 1
  | [], _, h => h
  | x :: l, o, h => sgnL_bd a l _ (rep_bd _ _ _ (leg_bd _ _) h)
theorem sgnL_snoc (a : Int) : ∀ (l : List (Nat × Nat)) (x : Nat × Nat) (o : Int), sgnL a (l ++ [x]) o = rep x.2 (leg a x.1) (sgnL a l o)
  | [], x, o => rfl
  | y :: l, x, o => sgnL_snoc a l x _
def sgn (a : Int) (m : Nat) : Int := sgnL a (FL m) 1
section
variable [Unknowns]
theorem legendre_spec (a : Int) (p : Nat) (ha : -1000000000 ≤ a ∧ a ≤ 1000000000) (hp : IsPrime p) (hp3 : 3 ≤ p) (hpl : p ≤ 1000000) (h : Hp) : CallP E 82 [int a, int p] h (fun r h' => r = int (leg a p) ∧ Grows h h') := by
  have hr := rest_ok a p (by omega)
  have hd := tdiv_nat (p - 1) 2
  refine enter82 (by simp) ?_
  conv => whnf
  refine ⟨by omega, ?_⟩
  conv => whnf
  refine ⟨_, wid (by omega), ?_⟩
  conv => whnf
  refine ⟨by omega, ?_⟩
  conv => whnf
  refine ⟨((p - 1 : Nat) : Int), wie (by omega) (by omega), ?_⟩
  conv => whnf
  refine ⟨by omega, (((p - 1) / 2 : Nat) : Int), wie hd (by omega), ?_⟩
  conv => whnf
  have hpow := power_spec p (rest a p) ((p - 1) / 2) ⟨by omega, hpl⟩ (by omega) (by omega) h
  rw [← hr.2.2.1] at hpow
  refine CallP.mono hpow ?_
  rintro r h1 ⟨rfl, hg⟩
  have hx : rest a p ^ ((p - 1) / 2) % p = 0 ↔ rest a p = 0 := by
    constructor
    · intro e
      rcases Nat.eq_zero_or_pos (rest a p) with h0 | h0
      · exact h0
      · exact absurd e (pow_ne _ hp h0 hr.2.2.2)
    · intro e
      rw [e, Nat.zero_pow (by omega)]
      exact Nat.zero_mod _
  conv => whnf
  refine cmpB (fun hb => ?_) (fun hb => ?_)
  · conv => whnf
    refine ⟨?_, hg⟩
    show int 0 = int (leg a p)
    unfold leg
    rw [if_pos (hx.1 (by omega))]
  · have h0 : ¬ rest a p = 0 := fun e => hb (by rw [hx.2 e]; rfl)
    conv => whnf
    refine cmpB (fun hb2 => ?_) (fun hb2 => ?_)
    · conv => whnf
      refine ⟨?_, hg⟩
      show int 1 = int (leg a p)
      unfold leg
      rw [if_neg h0, if_pos (by omega)]
    · conv => whnf
      refine ⟨?_, hg⟩
      show int (-1) = int (leg a p)
      unfold leg
      rw [if_neg h0, if_neg (by omega)]
end
end Go.Proofs.Ytlcnmneildefmaa
