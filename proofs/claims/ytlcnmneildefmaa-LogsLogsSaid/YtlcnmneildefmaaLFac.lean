/- Contracts of the functions that LLogs comes to. -/
import Derived.Test.YtlcnmneildefmaaLChecks
import Derived.Test.YtlcnmneildefmaaWx14
set_option maxRecDepth 100000
set_option maxHeartbeats 1000000
set_option linter.unusedVariables false
set_option linter.unusedSectionVars false
set_option linter.unusedSimpArgs false
namespace Go.Proofs.Ytlcnmneildefmaa
open Go.Rx Go.RowKit
def strip : Nat → Nat → Nat → Nat × Nat
  | 0, _, n => (n, 0)
  | f + 1, p, n => if n % p = 0 then ((strip f p (n / p)).1, (strip f p (n / p)).2 + 1) else (n, 0)
theorem strip_ok : ∀ (f p n : Nat), 2 ≤ p → 1 ≤ n → n ≤ f → (strip f p n).1 * p ^ (strip f p n).2 = n ∧ (strip f p n).1 % p ≠ 0 ∧ 1 ≤ (strip f p n).1 := by
  intro f
  induction f with
  | zero => intro p n hp hn hf; omega
  | succ f ih =>
    intro p n hp hn hf
    by_cases h : n % p = 0
    · have hd : p * (n / p) = n := Nat.mul_div_cancel' (Nat.dvd_of_mod_eq_zero h)
      have h1 : n / p < n := Nat.div_lt_self hn (by omega)
      have h2 : 1 ≤ n / p := by
        rcases Nat.eq_zero_or_pos (n / p) with e | e
        · rw [e] at hd; omega
        · exact e
      have i := ih p (n / p) hp h2 (by omega)
      simp only [strip, if_pos h]
      refine ⟨?_, i.2⟩
      rw [Nat.pow_succ, ← Nat.mul_assoc, i.1, Nat.mul_comm]; exact hd
    · simp only [strip, if_neg h]
      exact ⟨by simp, h, hn⟩
theorem strip_no (f p n : Nat) (h : n % p ≠ 0) : strip f p n = (n, 0) := by
  cases f with
  | zero => rfl
  | succ f => simp only [strip, if_neg h]
theorem strip_yes {f p n : Nat} (h : n % p = 0) : strip (f + 1) p n = ((strip f p (n / p)).1, (strip f p (n / p)).2 + 1) := by simp only [strip, if_pos h]
def facs : Nat → Nat → Nat → List (Nat × Nat)
  | 0, _, _ => []
  | f + 1, p, n => if p * p ≤ n then (if (strip n p n).2 = 0 then facs f (p + 1) (strip n p n).1 else (p, (strip n p n).2) :: facs f (p + 1) (strip n p n).1) else if 1 < n then [(n, 1)] else []
def IsPrime (p : Nat) : Prop := 2 ≤ p ∧ ∀ d, 2 ≤ d → d < p → ¬ d ∣ p
theorem facs_ok : ∀ (f p n : Nat), 2 ≤ p → 1 ≤ n → (∀ d, 2 ≤ d → d < p → ¬ d ∣ n) → ∀ x ∈ facs f p n, IsPrime x.1 ∧ x.1 ∣ n ∧ 1 ≤ x.2 ∧ x.2 ≤ n := by
  intro f
  induction f with
  | zero => intro p n _ _ _ x hx; simp [facs] at hx
  | succ f ih =>
    intro p n hp hn hd x hx
    unfold facs at hx
    by_cases h : p * p ≤ n
    · rw [if_pos h] at hx
      have so := strip_ok n p n hp hn (Nat.le_refl _)
      have hdv : (strip n p n).1 ∣ n := ⟨_, so.1.symm⟩
      have hd' : ∀ d, 2 ≤ d → d < p + 1 → ¬ d ∣ (strip n p n).1 := by
        intro d h1 h2 h3
        by_cases e : d = p
        · subst e; exact so.2.1 (Nat.mod_eq_zero_of_dvd h3)
        · exact hd d h1 (by omega) (Nat.dvd_trans h3 hdv)
      have i := ih (p + 1) _ (by omega) so.2.2 hd'
      have lift : ∀ x ∈ facs f (p + 1) (strip n p n).1, IsPrime x.1 ∧ x.1 ∣ n ∧ 1 ≤ x.2 ∧ x.2 ≤ n := fun x hx => by
        have := i x hx
        have hle := Nat.le_of_dvd hn hdv
        exact ⟨this.1, Nat.dvd_trans this.2.1 hdv, this.2.2.1, by omega⟩
      by_cases ht : (strip n p n).2 = 0
      · rw [if_pos ht] at hx; exact lift x hx
      · rw [if_neg ht] at hx
        rcases List.mem_cons.1 hx with rfl | hx
        · have hpn : p ∣ n := by
            rw [← so.1]
            exact Nat.dvd_trans (Nat.dvd_refl p) (Nat.dvd_trans (by
              have : (strip n p n).2 = ((strip n p n).2 - 1) + 1 := by omega
              rw [this, Nat.pow_succ]
              exact Nat.dvd_mul_left _ _) (Nat.dvd_mul_left _ _))
          refine ⟨⟨hp, fun d h1 h2 h3 => hd d h1 h2 (Nat.dvd_trans h3 hpn)⟩, hpn, by show 1 ≤ (strip n p n).2; omega, ?_⟩
          show (strip n p n).2 ≤ n
          have h2 : (strip n p n).2 < p ^ (strip n p n).2 := Nat.lt_pow_self (by omega)
          have h3 : p ^ (strip n p n).2 ≤ n := Nat.le_of_dvd hn ⟨(strip n p n).1, by rw [Nat.mul_comm]; exact so.1.symm⟩
          omega
        · exact lift x hx
    · rw [if_neg h] at hx
      by_cases h1 : 1 < n
      · rw [if_pos h1] at hx
        obtain rfl : x = (n, 1) := by simpa using hx
        refine ⟨⟨by omega, fun d h2 h3 h4 => ?_⟩, Nat.dvd_refl _, Nat.le_refl _, hn⟩
        obtain ⟨e, he⟩ := h4
        have he2 : 2 ≤ e := by
          rcases Nat.lt_or_ge e 2 with h5 | h5
          · have : e = 0 ∨ e = 1 := by omega
            rcases this with rfl | rfl
            · simp at he; omega
            · simp at he; omega
          · exact h5
        have hdp : p ≤ d := by
          rcases Nat.lt_or_ge d p with h5 | h5
          · exact absurd ⟨e, he⟩ (hd d h2 h5)
          · exact h5
        have hep : p ≤ e := by
          rcases Nat.lt_or_ge e p with h5 | h5
          · exact absurd ⟨d, by rw [Nat.mul_comm]; exact he⟩ (hd e he2 h5)
          · exact h5
        have := Nat.mul_le_mul hdp hep
        omega
      · rw [if_neg h1] at hx; simp at hx
theorem prime_cop {p x : Nat} (hp : IsPrime p) (h0 : 0 < x) (h1 : x < p) : Nat.Coprime x p := by
  have hg := Nat.gcd_dvd_right x p
  have hl := Nat.gcd_le_left p h0
  by_cases h : 2 ≤ Nat.gcd x p
  · exact absurd hg (hp.2 _ h (by omega))
  · have : 0 < Nat.gcd x p := Nat.gcd_pos_of_pos_left _ h0
    show Nat.gcd x p = 1
    omega
theorem pow_ne {p x : Nat} (k : Nat) (hp : IsPrime p) (h0 : 0 < x) (h1 : x < p) : x ^ k % p ≠ 0 := by
  intro e
  have hc := Nat.Coprime.pow_left k (prime_cop hp h0 h1)
  have hd := Nat.dvd_of_mod_eq_zero e
  have : p ∣ Nat.gcd (x ^ k) p := Nat.dvd_gcd hd (Nat.dvd_refl _)
  rw [hc] at this
  have := Nat.le_of_dvd (by omega) this
  have := hp.1
  omega

theorem sq_lt {p : Nat} (h : p * p ≤ 1000000) : p ≤ 1000 := by
  rcases Nat.lt_or_ge 1000 p with h1 | h1
  · have := Nat.mul_le_mul (show 1001 ≤ p from h1) (show 1001 ≤ p from h1); omega
  · exact h1
theorem tdiv_nat (a b : Nat) : (a : Int).tdiv (b : Int) = ((a / b : Nat) : Int) := by
  rw [Int.tdiv_eq_ediv_of_nonneg (by omega)]; rfl
/-- The prime factors of a number with their exponents. -/
def FL (n : Nat) : List (Nat × Nat) := facs (n + 1) 2 n
def fv (x : Nat × Nat) : List Value := [.agg ⟨[int x.1, int x.2]⟩]
theorem FL_ok {n : Nat} (hn : 1 ≤ n) : ∀ x ∈ FL n, IsPrime x.1 ∧ x.1 ∣ n ∧ 1 ≤ x.2 ∧ x.2 ≤ n := facs_ok (n + 1) 2 n (by omega) hn (fun d h1 h2 => by omega)
theorem drop_cons {α : Type} {l r : List α} {x : α} {k : Nat} (h : l.drop k = x :: r) : ∃ hk : k < l.length, l[k] = x ∧ l.drop (k + 1) = r := by
  have hk : k < l.length := by
    rcases Nat.lt_or_ge k l.length with h1 | h1
    · exact h1
    · rw [List.drop_of_length_le h1] at h; cases h
  rw [List.drop_eq_getElem_cons hk] at h
  injection h with h1 h2
  exact ⟨hk, h1, h2⟩
attribute [local irreducible] E idxN cellAt cellsAt storeAt callable helems hmoved lookIn findKey keyOk hentries Hp.at Hp.set Hp.lay arBits hupdated setAt CallP YieldP BoolOf IsWrap Rnd LoopP AppP CutP Int.tmod Int.tdiv Int.fdiv
section
variable [Unknowns]
theorem factors_spec (n : Nat) (h : Hp) : CallP E 62 [int n] h (fun r h' => r = .func (.func 79) ⟨[]⟩ ⟨[ptr h.next 0]⟩ ∧ h' = h.lay (.row 3 true [int n])) := by
  refine enter62 (by simp) ?_
  conv => whnf
  exact ⟨rfl, rfl⟩
structure FSt where
  k : Nat
  f : Nat
  p : Nat
  left : Nat
  h : Hp
theorem facs_iter (n : Nat) (hn : n ≤ 1000000) (c l : Nat) (I : Nat → Hp → Prop) (S : Hp → Prop) (h : Hp) (hc : cellAt h c 0 = some (int n)) (h0 : I 0 h) (hit : IterP E l ((FL n).map fv) I S) : CallP E 79 [yieldVal l, ptr c 0] h (fun _ h' => I ((FL n).map fv).length h' ∨ S h') := by
  have hlen : ((FL n).map fv).length = (FL n).length := by simp
  rw [hlen]
  have yld : ∀ (k : Nat) (x : Nat × Nat) (r : List (Nat × Nat)) (h : Hp), (FL n).drop k = x :: r → I k h → YieldP E l (fv x) h fun v h' => (v = .bool true ∧ I (k + 1) h') ∨ (v = .bool false ∧ S h') := by
    intro k x r h hd hI
    obtain ⟨hk, e, -⟩ := drop_cons hd
    have := hit k (by rw [hlen]; exact hk) h hI
    rw [List.getElem_map, e] at this
    exact this
  refine enter79 (by simp) ?_
  conv => whnf
  refine ⟨_, hc, ?_⟩
  conv => whnf
  refine loop_inv (α := FSt) (fun s => [(0, yieldVal l), (3, int s.left), (4, int s.p)]) (fun s => s.h) (fun s => s.k ≤ (FL n).length ∧ facs s.f s.p s.left = (FL n).drop s.k ∧ I s.k s.h ∧ 2 ≤ s.p ∧ s.p ≤ 1001 ∧ s.left ≤ n ∧ s.f + s.p = n + 3 ∧ s.p ≤ n + 2) (fun s => s.f) ⟨0, n + 1, 2, n, h⟩ ⟨Nat.zero_le _, rfl, h0, by show 2 ≤ 2; omega, by show 2 ≤ 1001; omega, Nat.le_refl _, by show n + 1 + 2 = n + 3; omega, by show 2 ≤ n + 2; omega⟩ ⟨rfl, rfl, rfl, trivial⟩ (Hp.Le.refl _) ?_
  rintro ⟨k, f, p, left, h1⟩ φ ⟨hkl, hd, hI, hp2, hp3, hln, hf, hpn⟩
  dsimp only at hkl hd hI hp2 hp3 hln hf hpn ⊢
  have hpp : p * p ≤ 1001 * 1001 := Nat.mul_le_mul hp3 hp3
  have epp : (p : Int) * (p : Int) = ((p * p : Nat) : Int) := by rw [Int.natCast_mul]
  conv => whnf
  refine ⟨((p * p : Nat) : Int), wie epp (by omega), ?_⟩
  conv => whnf
  refine cmpB (fun hb => ?_) (fun hb => ?_)
  rotate_left
  · -- what is left
    have hb' : ¬ p * p ≤ left := by omega
    conv => whnf
    refine cmpB (fun hb2 => ?_) (fun hb2 => ?_)
    · have hd1 : (FL n).drop k = [(left, 1)] := by
        rw [← hd]
        cases f with
        | zero => omega
        | succ f => unfold facs; rw [if_neg hb', if_pos (by omega)]
      have hdc := drop_cons hd1
      obtain ⟨hk, -, hr⟩ := hdc
      have hk1 : k + 1 = (FL n).length := by
        have := congrArg List.length hr
        rw [List.length_drop] at this
        simp at this
        omega
      conv => whnf
      refine YieldP.mono (yld k _ _ h1 hd1 hI) ?_
      rintro v h2 (⟨rfl, hI2⟩ | ⟨rfl, hS⟩)
      · conv => whnf
        exact .inl (by rw [← hk1]; exact hI2)
      · conv => whnf
        exact .inr hS
    · have hd1 : (FL n).drop k = [] := by
        rw [← hd]
        cases f with
        | zero => rfl
        | succ f => unfold facs; rw [if_neg hb', if_neg (by omega)]
      have hk1 : k = (FL n).length := by
        have := List.drop_eq_nil_iff.1 hd1
        omega
      conv => whnf
      exact .inl (by rw [← hk1]; exact hI)
  have hb' : p * p ≤ left := by omega
  have hp4 : p ≤ 1000 := sq_lt (by omega)
  have hle : p ≤ p * p := Nat.le_mul_of_pos_left p (by omega)
  have hexf : ∃ f', f = f' + 1 := ⟨f - 1, by omega⟩
  obtain ⟨f, rfl⟩ := hexf
  have so := strip_ok left p left hp2 (by omega) (Nat.le_refl _)
  have hsl : (strip left p left).1 ≤ left := Nat.le_of_dvd (by omega) ⟨_, so.1.symm⟩
  unfold facs at hd
  rw [if_pos hb'] at hd
  conv => whnf
  refine loop_inv (α := Nat × Nat × Nat) (fun s => [(3, int s.2.1), (5, int s.2.2), (0, yieldVal l), (4, int p)]) (fun _ => h1) (fun s => strip left p left = ((strip s.1 p s.2.1).1, (strip s.1 p s.2.1).2 + s.2.2) ∧ 1 ≤ s.2.1 ∧ s.2.1 ≤ s.1 ∧ s.2.2 + s.2.1 ≤ left) (fun s => s.1) (left, left, 0) ⟨by simp, by show 1 ≤ left; omega, Nat.le_refl _, by simp⟩ ⟨rfl, rfl, rfl, rfl, trivial⟩ (Hp.Le.refl _) ?_
  rintro ⟨g, cur, t⟩ φ2 ⟨hst, hc1, hcg, htl⟩
  dsimp only at hst hc1 hcg htl ⊢
  have em := tmod_nat cur p
  conv => whnf
  refine ⟨by omega, ?_⟩
  conv => whnf
  refine cmpB (fun hb2 => ?_) (fun hb2 => ?_)
  · have hm : cur % p = 0 := by omega
    have hexg : ∃ g', g = g' + 1 := ⟨g - 1, by omega⟩
    obtain ⟨g, rfl⟩ := hexg
    rw [strip_yes hm] at hst
    have hdv : cur / p < cur := Nat.div_lt_self hc1 (by omega)
    have hmul : p * (cur / p) = cur := Nat.mul_div_cancel' (Nat.dvd_of_mod_eq_zero hm)
    have h1d : 1 ≤ cur / p := by
      rcases Nat.eq_zero_or_pos (cur / p) with e | e
      · rw [e] at hmul; omega
      · exact e
    have ed := tdiv_nat cur p
    conv => whnf
    refine ⟨by omega, ((cur / p : Nat) : Int), wie ed (by omega), ?_⟩
    conv => whnf
    refine ⟨((t + 1 : Nat) : Int), wie (by omega) (by omega), ?_⟩
    conv => whnf
    refine Rnd.mk (g, cur / p, t + 1) ⟨?_, h1d, by show cur / p ≤ g; omega, by show t + 1 + cur / p ≤ left; omega⟩ (by show g < g + 1; omega) ⟨rfl, rfl, rfl, rfl, trivial⟩ (Hp.Le.refl _) rfl
    show strip left p left = ((strip g p (cur / p)).1, (strip g p (cur / p)).2 + (t + 1))
    rw [hst]
    simp only [Prod.mk.injEq, true_and]
    omega
  have hm : cur % p ≠ 0 := by omega
  rw [strip_no g p cur hm] at hst
  have hs1 : (strip left p left).1 = cur := by rw [hst]
  have hs2 : (strip left p left).2 = t := by rw [hst]; simp
  rw [hs1, hs2] at hd
  conv => whnf
  refine cmpB (fun hb3 => ?_) (fun hb3 => ?_)
  · rw [if_neg (by omega)] at hd
    have hd1 := hd.symm
    have hdc := drop_cons hd1
    obtain ⟨hk, -, hr⟩ := hdc
    conv => whnf
    refine YieldP.mono (yld k _ _ h1 hd1 hI) ?_
    rintro v h2 (⟨rfl, hI2⟩ | ⟨rfl, hS⟩)
    · conv => whnf
      refine ⟨((p + 1 : Nat) : Int), wie (by omega) (by omega), ?_⟩
      conv => whnf
      exact Rnd.mk (⟨k + 1, f, p + 1, cur, h2⟩ : FSt) ⟨by show k + 1 ≤ _; omega, hr.symm, hI2, by show 2 ≤ p + 1; omega, by show p + 1 ≤ 1001; omega, by show cur ≤ n; omega, by show f + (p + 1) = n + 3; omega, by show p + 1 ≤ n + 2; omega⟩ (by show f < f + 1; omega) ⟨rfl, rfl, rfl, trivial⟩ (Hp.Le.refl _) rfl
    · conv => whnf
      exact .inr hS
  · rw [if_pos (by omega)] at hd
    conv => whnf
    refine ⟨((p + 1 : Nat) : Int), wie (by omega) (by omega), ?_⟩
    conv => whnf
    exact Rnd.mk (⟨k, f, p + 1, cur, h1⟩ : FSt) ⟨hkl, hd, hI, by show 2 ≤ p + 1; omega, by show p + 1 ≤ 1001; omega, by show cur ≤ n; omega, by show f + (p + 1) = n + 3; omega, by show p + 1 ≤ n + 2; omega⟩ (by show f < f + 1; omega) ⟨rfl, rfl, rfl, trivial⟩ (Hp.Le.refl _) rfl
end
end Go.Proofs.Ytlcnmneildefmaa
