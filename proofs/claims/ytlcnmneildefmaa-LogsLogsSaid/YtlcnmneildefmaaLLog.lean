/- Contracts of the functions that LLogs comes to. -/
import Derived.Test.YtlcnmneildefmaaLTop
import Derived.Test.YtlcnmneildefmaaWx21
set_option maxRecDepth 100000
set_option maxHeartbeats 1000000
set_option linter.unusedVariables false
set_option linter.unusedSectionVars false
set_option linter.unusedSimpArgs false
namespace Go.Proofs.Ytlcnmneildefmaa
open Go.Rx Go.RowKit
/-- The first of some powers that is x. -/
def small (n a : Nat) : Nat → Int → Option Value
  | 0, _ => none
  | j + 1, x => match small n a j x with
    | some v => some v
    | none => if x = ((a ^ j % n : Nat) : Int) then some (int j) else none
theorem small_succ (n a j : Nat) (x : Int) : small n a (j + 1) x = match small n a j x with
    | some v => some v
    | none => if x = ((a ^ j % n : Nat) : Int) then some (int j) else none := rfl
theorem small_zero (n a : Nat) (x : Int) : small n a 0 x = none := rfl
theorem small_some {n a : Nat} : ∀ {j : Nat} {x : Int} {v : Value}, small n a j x = some v → ∃ t : Nat, t < j ∧ v = int t ∧ x = ((a ^ t % n : Nat) : Int) ∧ ∀ s, s < t → ((a ^ s % n : Nat) : Int) ≠ x
  | 0, x, v, h => by cases h
  | j + 1, x, v, h => by
    unfold small at h
    cases hs : small n a j x with
    | some w =>
      rw [hs] at h
      cases h
      obtain ⟨t, h1, h2⟩ := small_some hs
      exact ⟨t, by omega, h2⟩
    | none =>
      rw [hs] at h
      dsimp only at h
      by_cases e : x = ((a ^ j % n : Nat) : Int)
      · rw [if_pos e] at h
        cases h
        refine ⟨j, by omega, rfl, e, ?_⟩
        have key : ∀ i, i ≤ j → small n a i x = none := by
          intro i hi
          cases hi2 : small n a i x with
          | none => rfl
          | some w =>
            exfalso
            have up : ∀ d, small n a (i + d) x = some w := by
              intro d
              induction d with
              | zero => exact hi2
              | succ d ih => show (match small n a (i + d) x with | some v => some v | none => _) = _; rw [ih]
            have := up (j - i)
            rw [show i + (j - i) = j by omega, hs] at this
            cases this
        intro s hs2 e2
        have := key (s + 1) (by omega)
        unfold small at this
        rw [key s (by omega)] at this
        dsimp only at this
        rw [if_pos e2.symm] at this
        cases this
      · rw [if_neg e] at h; cases h
theorem small_none {n a : Nat} : ∀ {j : Nat} {x : Int}, small n a j x = none → ∀ t, t < j → ((a ^ t % n : Nat) : Int) ≠ x
  | 0, x, h, t, ht => by omega
  | j + 1, x, h, t, ht => by
    unfold small at h
    cases hs : small n a j x with
    | some w => rw [hs] at h; cases h
    | none =>
      rw [hs] at h
      dsimp only at h
      by_cases e : x = ((a ^ j % n : Nat) : Int)
      · rw [if_pos e] at h; cases h
      · by_cases h2 : t = j
        · subst h2; exact fun e2 => e e2.symm
        · exact small_none hs t (by omega)
theorem pow_split {a n i s y : Nat} (hc : Nat.gcd a n = 1) (e : a ^ (i + s) % n = a ^ i * y % n) : a ^ s % n = y % n := by
  rw [Nat.pow_add] at e
  exact Go.Num.cancel (Nat.Coprime.pow_left i hc) e
theorem pow_wrap {a n o : Nat} (h : a ^ o % n = 1 % n) (k : Nat) : a ^ (k % o) % n = a ^ k % n := by
  have e : a ^ k = a ^ (o * (k / o)) * a ^ (k % o) := by rw [← Nat.pow_add, Nat.div_add_mod]
  have i := Go.Num.one_pow_mod (k / o) h
  rw [e, Nat.mul_mod, i, ← Nat.mul_mod, Nat.one_mul]
/-- What a logarithm is. -/
def IsLog (n a h k : Nat) : Prop := a ^ k % n = h ∧ ∀ j, j < k → a ^ j % n ≠ h
theorem IsLog.uniq {n a h k l : Nat} (x : IsLog n a h k) (y : IsLog n a h l) : k = l := by
  rcases Nat.lt_trichotomy k l with h1 | h1 | h1
  · exact absurd x.1 (y.2 k h1)
  · exact h1
  · exact absurd y.1 (x.2 l h1)
theorem IsLog.lt {n a h k o : Nat} (x : IsLog n a h k) (h1 : a ^ o % n = 1 % n) (ho : 0 < o) : k < o := by
  rcases Nat.lt_or_ge k o with h2 | h2
  · exact h2
  · have h3 := Nat.mod_lt k ho
    exact absurd ((pow_wrap h1 k).trans x.1) (x.2 _ (by omega))
attribute [local irreducible] E idxN cellAt cellsAt storeAt callable helems hmoved lookIn findKey keyOk hentries Hp.at Hp.set Hp.lay arBits hupdated setAt CallP YieldP BoolOf IsWrap Rnd LoopP AppP CutP Int.tmod Int.tdiv Int.fdiv
structure BSt where
  j : Nat
  H : Hp
  c : Nat
structure GSt where
  i : Nat
  x : Nat
theorem ty78 : ∃ i, E.ty 78 = some i ∧ i.desc = .map 3 3 := by
  have hs : (tiOf Try.prog 78).isSome = true := by kernel_rfl
  exact ⟨(tiOf Try.prog 78).get hs, ty_get (by kernel_rfl) (Option.some_get hs).symm, by kernel_rfl⟩
theorem ty3 : ∃ i, E.ty 3 = some i ∧ isI64 i.desc = true ∧ i.zero = some (int 0) := by
  have hs : (tiOf Try.prog 3).isSome = true := by kernel_rfl
  exact ⟨(tiOf Try.prog 3).get hs, ty_get (by kernel_rfl) (Option.some_get hs).symm, by kernel_rfl, by kernel_rfl⟩
theorem key3 : KeyTy E 3 (fun n : Int => int n) := by
  obtain ⟨i, h1, h2, h3⟩ := ty3
  exact keyInt h1 h2
section
variable [Unknowns]
attribute [local irreducible] SeqP ResP sameAt
theorem reflog_spec (n a x o : Nat) (hn : 1 ≤ n ∧ n ≤ 1000000) (ha : a < n) (ho : 0 < o ∧ o ≤ n) (h1 : a ^ o % n = 1 % n) (hl : ∀ j, 0 < j → j < o → a ^ j % n ≠ 1 % n) (h : Hp) : CallP E 46 [int n, int a, int x] h (fun r h' => ((∃ k : Nat, r = int k ∧ IsLog n a x k) ∨ (r = int (-1) ∧ ∀ k, k < o → a ^ k % n ≠ x)) ∧ h' = h) := by
  refine enter46 (by simp) ?_
  have e1 := tmod_nat 1 n
  conv => whnf
  repeat (refine SeqP.go ?_; conv => whnf)
  refine ⟨by omega, ?_⟩
  conv => whnf
  repeat (refine SeqP.go ?_; conv => whnf)
  refine loop_inv (α := Nat) (fun k => [(8, int k), (7, int (a ^ k % n : Nat)), (0, int n), (1, int a), (2, int x)]) (fun _ => h) (fun k => k < o ∧ ∀ j, j < k → a ^ j % n ≠ x) (fun k => o - k) 0 ⟨ho.1, fun j hj => by omega⟩ ⟨rfl, ?_, rfl, rfl, rfl, trivial⟩ (Hp.Le.refl _) ?_
  · show int ((1 : Int).tmod n) = int ((a ^ 0 % n : Nat) : Int)
    rw [Nat.pow_zero]; exact congrArg int e1
  rintro k φ ⟨hk, hj⟩
  dsimp only at hk hj ⊢
  have b1 : a ^ k % n < n := Nat.mod_lt _ (by omega)
  have m1 : ((a ^ k % n : Nat) : Int) * (a : Int) = ((a ^ k % n * a : Nat) : Int) := by rw [Int.natCast_mul]
  have b2 := mod_bound hn.2 b1 ha
  have t1 := tmod_nat (a ^ k % n * a) n
  have p1 : a ^ k % n * a % n = a ^ (k + 1) % n := by rw [Nat.mod_mul_mod, ← Nat.pow_succ]
  conv => whnf
  repeat (refine SeqP.go ?_; conv => whnf)
  refine cmpT (by omega) ?_
  conv => whnf
  repeat (refine SeqP.go ?_; conv => whnf)
  refine cmpB (fun hb => ?_) (fun hb => ?_)
  · conv => whnf
    repeat (refine SeqP.go ?_; conv => whnf)
    exact ⟨.inl ⟨k, rfl, by omega, hj⟩, rfl⟩
  conv => whnf
  repeat (refine SeqP.go ?_; conv => whnf)
  refine ⟨((a ^ k % n * a : Nat) : Int), wie m1 (by omega), ?_⟩
  conv => whnf
  refine ⟨by omega, ?_⟩
  conv => whnf
  repeat (refine SeqP.go ?_; conv => whnf)
  refine ⟨by omega, ?_⟩
  conv => whnf
  refine cmpB (fun hb2 => ?_) (fun hb2 => ?_)
  · conv => whnf
    repeat (refine SeqP.go ?_; conv => whnf)
    refine ⟨.inr ⟨rfl, ?_⟩, rfl⟩
    have hb2 : ((a ^ k % n * a : Nat) : Int).tmod n = (1 : Int).tmod n := hb2
    rw [t1, p1] at hb2
    have hb3 : a ^ (k + 1) % n = 1 % n := Int.ofNat_inj.1 (hb2.trans e1)
    have : ¬ k + 1 < o := fun hlt => hl (k + 1) (by omega) hlt hb3
    intro j hjo
    by_cases hjk : j = k
    · subst hjk; omega
    · exact hj j (by omega)
  conv => whnf
  repeat (refine SeqP.go ?_; conv => whnf)
  refine ⟨((k + 1 : Nat) : Int), wie (by omega) (by omega), ?_⟩
  conv => whnf
  have hb2 : ¬ ((a ^ k % n * a : Nat) : Int).tmod n = (1 : Int).tmod n := hb2
  rw [t1, p1] at hb2
  have hb3 : ¬ a ^ (k + 1) % n = 1 % n := fun e => hb2 ((congrArg Int.ofNat e).trans e1.symm)
  refine Rnd.mk (k + 1) ⟨?_, ?_⟩ (by show o - (k + 1) < o - k; omega) ⟨rfl, ?_, rfl, rfl, rfl, trivial⟩ (Hp.Le.refl _) rfl
  · have : k + 1 ≠ o := fun e => hb3 (by rw [e]; exact h1)
    omega
  · intro j hjk
    by_cases hjk2 : j = k
    · subst hjk2; omega
    · exact hj j (by omega)
  · show int (((a ^ k % n * a : Nat) : Int).tmod n) = int ((a ^ (k + 1) % n : Nat) : Int)
    rw [t1, p1]
end
end Go.Proofs.Ytlcnmneildefmaa
