/- Contracts of the functions that Bin comes to. -/
import Derived.Test.YticmdpcahpimhaaSLamps
import Derived.Test.YticmdpcahpimhaaSAwake
set_option maxRecDepth 100000
set_option maxHeartbeats 1000000
set_option linter.unusedVariables false
set_option linter.unusedSectionVars false
set_option linter.unusedSimpArgs false
namespace Go.Proofs.Yticmdpcahpimhaa
open Go.Rx Go.RowKit
attribute [local irreducible] E idxN cellAt cellsAt storeAt callable helems hmoved lookIn findKey keyOk hentries Hp.at Hp.set Hp.lay arBits hupdated setAt CallP YieldP BoolOf IsWrap Rnd LoopP Int.tmod Int.tdiv Int.fdiv

/-- So many of so many. -/
def B : Nat → Nat → Int
  | _, 0 => 1
  | 0, _ + 1 => 0
  | t + 1, i + 1 => B t i + B t (i + 1)
theorem B_zero (t : Nat) : B t 0 = 1 := by cases t <;> rfl
theorem B_bd : ∀ t i, 0 ≤ B t i ∧ B t i ≤ 2 ^ t
  | 0, 0 => by simp [B]
  | 0, i + 1 => by simp [B]
  | t + 1, 0 => by
    have := B_bd t 0
    simp only [B_zero] at *
    rw [Int.pow_succ]; omega
  | t + 1, i + 1 => by
    have h1 := B_bd t i
    have h2 := B_bd t (i + 1)
    simp only [B]
    rw [Int.pow_succ]; omega
theorem B_lt {t i : Nat} (ht : t ≤ 40) : 0 ≤ B t i ∧ B t i ≤ 1099511627776 := by
  have h := B_bd t i
  have : (2 : Int) ^ t ≤ 2 ^ 40 := by exact_mod_cast Nat.pow_le_pow_right (by omega) ht
  have e : (2 : Int) ^ 40 = 1099511627776 := rfl
  omega
theorem B_next : ∀ t i : Nat, B t i * ((t : Int) - i) = ((i + 1 : Nat) : Int) * B t (i + 1)
  | 0, 0 => by simp [B]
  | 0, i + 1 => by simp [B]
  | t + 1, 0 => by
    have h := B_next t 0
    rw [B_zero] at h ⊢
    simp only [B, B_zero]
    simp at h ⊢
    omega
  | t + 1, i + 1 => by
    have h1 := B_next t i
    have h2 := B_next t (i + 1)
    simp only [B]
    have e1 : ((t + 1 : Nat) : Int) - ((i + 1 : Nat) : Int) = (t : Int) - i := by omega
    have e2 : (t : Int) - ((i + 1 : Nat) : Int) = (t : Int) - i - 1 := by omega
    rw [e2, Int.mul_sub, Int.mul_one] at h2
    rw [e1, Int.add_mul, h1, Int.mul_add]
    have e3 : ((i + 1 + 1 : Nat) : Int) * B t (i + 1) = ((i + 1 : Nat) : Int) * B t (i + 1) + B t (i + 1) := by
      rw [show ((i + 1 + 1 : Nat) : Int) = ((i + 1 : Nat) : Int) + 1 from rfl, Int.add_mul, Int.one_mul]
    rw [e3]
    omega
def S (t : Nat) : Nat → Int
  | 0 => 0
  | c + 1 => S t c + B t (c + 1)
theorem S_next (t : Nat) : ∀ c, S (t + 1) (c + 1) = S t (c + 1) + S t c + 1
  | 0 => by simp [S, B, B_zero]; omega
  | c + 1 => by
    have h := S_next t c
    have e : S (t + 1) (c + 1 + 1) = S (t + 1) (c + 1) + (B t (c + 1) + B t (c + 1 + 1)) := rfl
    have e2 : S t (c + 1 + 1) = S t (c + 1) + B t (c + 1 + 1) := rfl
    have e3 : S t (c + 1) = S t c + B t (c + 1) := rfl
    omega
theorem S_eq : ∀ t c, S t c = R t c
  | 0, 0 => rfl
  | 0, c + 1 => by
    have h := S_eq 0 c
    have e : S 0 (c + 1) = S 0 c + 0 := rfl
    rw [e, h]; rfl
  | t + 1, 0 => rfl
  | t + 1, c + 1 => by rw [S_next, S_eq t (c + 1), S_eq t c]; rfl

section
variable [Unknowns]
attribute [local irreducible] SeqP
theorem binom_spec (hA : ∀ h, CallP E 27 [] h fun v h' => v = .bool true) (c t n : Int) (h : Hp) : CallP E 13 [int c, int t, int n] h (fun r h' => r = .bool true) := by
  refine enter13 (by simp) ?_
  conv => whnf
  repeat (refine SeqP.go ?_; conv => whnf)
  obtain ⟨u, u0, u1, hu⟩ := u64_of c
  refine ⟨u, hu, ?_⟩
  conv => whnf
  refine ⟨by omega, ?_⟩
  have b1 := tmod_bd u0 (show (0 : Int) < 20 by omega)
  obtain ⟨c, hc⟩ : ∃ c' : Nat, u.tmod 20 = c' := ⟨(u.tmod 20).toNat, by omega⟩
  conv => whnf
  refine ⟨(c : Int), wie (by omega) (by omega), ?_⟩
  conv => whnf
  refine ⟨((c + 1 : Nat) : Int), wie (by omega) (by omega), ?_⟩
  conv => whnf
  obtain ⟨u', u0', u1', hu'⟩ := u64_of t
  refine ⟨u', hu', ?_⟩
  conv => whnf
  refine ⟨by omega, ?_⟩
  have b2 := tmod_bd u0' (show (0 : Int) < 40 by omega)
  obtain ⟨t, ht⟩ : ∃ t' : Nat, u'.tmod 40 = t' := ⟨(u'.tmod 40).toNat, by omega⟩
  conv => whnf
  refine ⟨(t : Int), wie (by omega) (by omega), ?_⟩
  conv => whnf
  repeat (refine SeqP.go ?_; conv => whnf)
  refine CallP.mono (steps_spec _ _ _) ?_
  rintro v h2 ⟨s, e, rfl, good, -, -⟩
  have hz := good (by omega)
  obtain ⟨rfl, rfl⟩ := hz
  conv => whnf
  repeat (refine SeqP.go ?_; conv => whnf)
  refine loop_inv (α := Nat) (fun k => [(11, int (k + 1 : Nat)), (9, int (S t k)), (10, int (B t k)), (0, int (c + 1 : Nat)), (1, int t), (2, int n), (7, int (R t (c + 1))), (8, int 0)]) (fun k => h2) (fun k => k ≤ c + 1) (fun k => c + 1 - k) 0 (by omega) ⟨rfl, rfl, by rw [B_zero]; rfl, rfl, rfl, rfl, rfl, rfl, trivial⟩ (Hp.Le.refl _) ?_
  intro k φ hk
  conv => whnf
  repeat (refine SeqP.go ?_; conv => whnf)
  refine cmpB (fun hb => ?_) (fun hb => ?_)
  · have bl := B_lt (t := t) (i := k) (by omega)
    have bl1 := B_lt (t := t) (i := k + 1) (by omega)
    have nx := B_next t k
    have m1 : 0 ≤ ((k + 1 : Nat) : Int) * B t (k + 1) := Int.mul_nonneg (by omega) bl1.1
    have m2 : ((k + 1 : Nat) : Int) * B t (k + 1) ≤ 20 * 1099511627776 := Int.mul_le_mul (by omega) bl1.2 bl1.1 (by omega)
    have sl : S t k = R t k := S_eq t k
    have rl := R_lt (t := t) (j := k) (by omega)
    conv => whnf
    repeat (refine SeqP.go ?_; conv => whnf)
    refine ⟨(t : Int) - (k + 1 : Nat), wie rfl (by omega), ?_⟩
    conv => whnf
    refine ⟨(t : Int) - k, wie (by omega) (by omega), ?_⟩
    conv => whnf
    refine ⟨((k + 1 : Nat) : Int) * B t (k + 1), wie nx (by omega), ?_⟩
    conv => whnf
    refine ⟨by omega, B t (k + 1), wie (Int.mul_tdiv_cancel_left _ (by omega)) (by omega), ?_⟩
    conv => whnf
    refine ⟨S t (k + 1), wie rfl (by have e : S t (k + 1) = S t k + B t (k + 1) := rfl; omega), ?_⟩
    conv => whnf
    refine ⟨((k + 1 + 1 : Nat) : Int), wie (by omega) (by omega), ?_⟩
    conv => whnf
    exact Rnd.mk (k + 1) (by omega) (by omega) ⟨rfl, rfl, rfl, rfl, rfl, rfl, rfl, rfl, trivial⟩ (Hp.Le.refl _) rfl
  · obtain rfl : k = c + 1 := by omega
    conv => whnf
    repeat (refine SeqP.go ?_; conv => whnf)
    refine cmpF (by omega) ?_
    conv => whnf
    refine cmpF (by rw [S_eq]; omega) ?_
    conv => whnf
    repeat (refine SeqP.go ?_; conv => whnf)
    obtain ⟨u2, u02, u12, hu2⟩ := u64_of n
    refine ⟨u2, hu2, ?_⟩
    conv => whnf
    refine ⟨by omega, ?_⟩
    have b3 := tmod_bd u02 (show (0 : Int) < 1000000000000 by omega)
    obtain ⟨m, hm⟩ : ∃ m : Int, u2.tmod 1000000000000 + 1 = m := ⟨_, rfl⟩
    conv => whnf
    refine ⟨m - 1, wie (by omega) (by omega), ?_⟩
    conv => whnf
    refine ⟨m, wie (by omega) (by omega), ?_⟩
    conv => whnf
    repeat (refine SeqP.go ?_; conv => whnf)
    refine CallP.mono (tries_spec _ _ _) ?_
    rintro v h3 ⟨s1, e1, rfl, -, good1, -⟩
    have ec : ((c + 1 : Nat) : Int).toNat = c + 1 := rfl
    have good1 := good1 (by omega)
    rw [ec] at good1
    rcases good1 with ⟨rfl, t1, rfl, l1⟩ | ⟨rfl, rfl, l1⟩
    · have z0 : R 0 (c + 1) = 0 := rfl
      obtain ⟨t1, rfl⟩ : ∃ t2, t1 = t2 + 1 := by
        cases t1 with
        | zero => have := l1.2.1; omega
        | succ t2 => exact ⟨t2, rfl⟩
      have a1 := l1.2.2 t1 (by omega)
      have a2 := l1.2.1
      have a3 := l1.1
      have a4 := R_lt (t := t1) (j := c + 1) (by omega)
      have a5 := R_lt (t := t1) (j := c) (by omega)
      have a6 : R (t1 + 1) (c + 1) = R t1 (c + 1) + R t1 c + 1 := rfl
      conv => whnf
      repeat (refine SeqP.go ?_; conv => whnf)
      refine cmpF (by omega) ?_
      conv => whnf
      repeat (refine SeqP.go ?_; conv => whnf)
      refine cmpF (by omega) ?_
      conv => whnf
      refine cmpF (by omega) ?_
      conv => whnf
      repeat (refine SeqP.go ?_; conv => whnf)
      refine CallP.mono (steps_spec _ _ _) ?_
      rintro v h4 ⟨s2, e2, rfl, good2, -, -⟩
      have hz := good2 (by omega)
      obtain ⟨rfl, rfl⟩ := hz
      conv => whnf
      repeat (refine SeqP.go ?_; conv => whnf)
      refine ⟨(t1 : Int), wie (by omega) (by omega), ?_⟩
      conv => whnf
      refine CallP.mono (steps_spec _ _ _) ?_
      rintro v h5 ⟨s3, e3, rfl, good3, -, -⟩
      have hz := good3 (by omega)
      obtain ⟨rfl, rfl⟩ := hz
      conv => whnf
      repeat (refine SeqP.go ?_; conv => whnf)
      refine ⟨(c : Int), wie (by omega) (by omega), ?_⟩
      conv => whnf
      refine ⟨(t1 : Int), wie (by omega) (by omega), ?_⟩
      conv => whnf
      refine CallP.mono (steps_spec _ _ _) ?_
      rintro v h6 ⟨s4, e4, rfl, good4, -, -⟩
      have hz := good4 (by omega)
      obtain ⟨rfl, rfl⟩ := hz
      conv => whnf
      repeat (refine SeqP.go ?_; conv => whnf)
      refine CallP.mono (drop_spec _ _ _) ?_
      rintro v h7 ⟨s5, e5, rfl, -, good5, -⟩
      have good5 := good5 (by omega)
      rw [ec] at good5
      rcases good5 with ⟨rfl, t3, hs, l3⟩ | ⟨rfl, rfl, l3⟩
      rotate_left
      · have := l3 (t1 + 1) l1.1
        omega
      have he : t1 + 1 = t3 + 1 := l1.uniq l3
      have he : t3 = t1 := by omega
      subst he
      subst hs
      conv => whnf
      repeat (refine SeqP.go ?_; conv => whnf)
      refine cmpT (by omega) ?_
      conv => whnf
      refine cmpT (by omega) ?_
      conv => whnf
      refine cmpT (by omega) ?_
      conv => whnf
      refine cmpT (by omega) ?_
      conv => whnf
      refine cmpT a2 ?_
      conv => whnf
      refine cmpT a1 ?_
      conv => whnf
      refine cmpT (by omega) ?_
      conv => whnf
      refine cmpT (by omega) ?_
      conv => whnf
      refine ⟨_, wid (by omega), ?_⟩
      conv => whnf
      refine cmpT (show m - R t3 (c + 1) - 1 ≤ R t3 c by omega) ?_
      conv => whnf
      refine ⟨_, wid (by omega), ?_⟩
      conv => whnf
      refine cmpT (show m - (m - R t3 (c + 1)) ≤ R t3 (c + 1) by omega) ?_
      conv => whnf
      refine CallP.mono (hA _) ?_
      rintro v h8 rfl
      conv => whnf
      rfl
    · conv => whnf
      repeat (refine SeqP.go ?_; conv => whnf)
      refine cmpT (by omega) ?_
      conv => whnf
      repeat (refine SeqP.go ?_; conv => whnf)
      refine CallP.mono (steps_spec _ _ _) ?_
      rintro v h4 ⟨s2, e2, rfl, good2, -, -⟩
      have hz := good2 (by omega)
      obtain ⟨rfl, rfl⟩ := hz
      have l60 := l1 60 (by omega)
      conv => whnf
      repeat (refine SeqP.go ?_; conv => whnf)
      refine cmpT (by omega) ?_
      conv => whnf
      refine cmpT (by omega) ?_
      conv => whnf
      refine cmpT l60 ?_
      conv => whnf
      refine CallP.mono (hA _) ?_
      rintro v h5 rfl
      conv => whnf
      rfl
end
theorem binom_any (a1 a2 a3 : Int) (w : World) : Calls Try.prog 13 #[.int .i64 a1, .int .i64 a2, .int .i64 a3] w fun e w' => e = .returned (.bool true) ∧ Below w.heap.size w w' :=
  law_true (fun h => @binom_spec (intsUnk fun _ => 0) (fun h => @memo27 (intsUnk fun _ => 0) _ _ rfl) a1 a2 a3 h) (@LRel.cons (intsUnk fun _ => 0) _ _ _ _ _ (@VRel.int (intsUnk fun _ => 0) _ _ _) (@LRel.cons (intsUnk fun _ => 0) _ _ _ _ _ (@VRel.int (intsUnk fun _ => 0) _ _ _) (@LRel.cons (intsUnk fun _ => 0) _ _ _ _ _ (@VRel.int (intsUnk fun _ => 0) _ _ _) (@LRel.nil (intsUnk fun _ => 0) _)))) w
end Go.Proofs.Yticmdpcahpimhaa
