/- Contracts of the functions that LLogs comes to. -/
import Derived.Test.YtlcnmneildefmaaLSign2
import Derived.Test.YtlcnmneildefmaaEuler
set_option maxRecDepth 100000
set_option maxHeartbeats 1000000
set_option linter.unusedVariables false
set_option linter.unusedSectionVars false
set_option linter.unusedSimpArgs false
namespace Go.Proofs.Ytlcnmneildefmaa
open Go.Rx Go.RowKit
theorem isPr_of {p : Nat} (h : IsPrime p) : Go.Num.IsPr p := by
  refine ⟨h.1, fun d hd => ?_⟩
  have hle := Nat.le_of_dvd (by have := h.1; omega) hd
  have h0 : d ≠ 0 := fun e => by subst e; have := Nat.eq_zero_of_zero_dvd hd; have := h.1; omega
  by_cases h1 : d = 1
  · exact .inl h1
  · by_cases h2 : d = p
    · exact .inr h2
    · exact absurd hd (h.2 d (by omega) (by omega))
theorem strip_dvd {n p : Nat} (hp : 2 ≤ p) (hn : 1 ≤ n) (hd : ∀ d, 2 ≤ d → d < p → ¬ d ∣ n) : (strip n p n).1 ∣ n ∧ 1 ≤ (strip n p n).1 ∧ ¬ p ∣ (strip n p n).1 ∧ (∀ d, 2 ≤ d → d < p + 1 → ¬ d ∣ (strip n p n).1) ∧ (strip n p n).1 ≤ n := by
  have so := strip_ok n p n hp hn (Nat.le_refl _)
  have hdv : (strip n p n).1 ∣ n := ⟨_, so.1.symm⟩
  have hnp : ¬ p ∣ (strip n p n).1 := fun h => so.2.1 (Nat.mod_eq_zero_of_dvd h)
  refine ⟨hdv, so.2.2, hnp, ?_, Nat.le_of_dvd hn hdv⟩
  intro d h1 h2 h3
  by_cases e : d = p
  · subst e; exact hnp h3
  · exact hd d h1 (by omega) (Nat.dvd_trans h3 hdv)
theorem facs_mk : ∀ (f p n : Nat), 2 ≤ p → 1 ≤ n → n + 2 ≤ f + p → (∀ d, 2 ≤ d → d < p → ¬ d ∣ n) → Go.Num.mk (facs f p n) = n
  | 0, p, n, hp, hn, hf, hd => by
    rcases Nat.lt_or_ge n 2 with h | h
    · show 1 = n; omega
    · exact absurd (Nat.dvd_refl n) (hd n h (by omega))
  | f + 1, p, n, hp, hn, hf, hd => by
    have so := strip_ok n p n hp hn (Nat.le_refl _)
    obtain ⟨h1, h2, h3, h4, h5⟩ := strip_dvd hp hn hd
    unfold facs
    by_cases h : p * p ≤ n
    · rw [if_pos h]
      have ih := facs_mk f (p + 1) _ (by omega) h2 (by omega) h4
      by_cases ht : (strip n p n).2 = 0
      · rw [if_pos ht, ih]
        have := so.1
        rw [ht, Nat.pow_zero, Nat.mul_one] at this
        exact this
      · rw [if_neg ht]
        show p ^ (strip n p n).2 * Go.Num.mk (facs f (p + 1) (strip n p n).1) = n
        rw [ih, Nat.mul_comm]
        exact so.1
    · rw [if_neg h]
      by_cases hn1 : 1 < n
      · rw [if_pos hn1]
        show n ^ 1 * 1 = n
        rw [Nat.pow_one, Nat.mul_one]
      · rw [if_neg hn1]
        show 1 = n
        omega
theorem facs_apart : ∀ (f p n : Nat), 2 ≤ p → 1 ≤ n → (∀ d, 2 ≤ d → d < p → ¬ d ∣ n) → (facs f p n).Pairwise fun x y => x.1 ≠ y.1
  | 0, p, n, hp, hn, hd => List.Pairwise.nil
  | f + 1, p, n, hp, hn, hd => by
    obtain ⟨h1, h2, h3, h4, h5⟩ := strip_dvd hp hn hd
    unfold facs
    by_cases h : p * p ≤ n
    · rw [if_pos h]
      have ih := facs_apart f (p + 1) _ (by omega) h2 h4
      by_cases ht : (strip n p n).2 = 0
      · rw [if_pos ht]; exact ih
      · rw [if_neg ht]
        refine List.pairwise_cons.2 ⟨fun y hy e => ?_, ih⟩
        have := (facs_ok f (p + 1) _ (by omega) h2 h4 y hy).2.1
        rw [show y.1 = p from e.symm] at this
        exact h3 this
    · rw [if_neg h]
      by_cases hn1 : 1 < n
      · rw [if_pos hn1]; simp
      · rw [if_neg hn1]; exact List.Pairwise.nil
theorem FL_mk {n : Nat} (hn : 1 ≤ n) : Go.Num.mk (FL n) = n := facs_mk (n + 1) 2 n (by omega) hn (by omega) (fun d h1 h2 => by omega)
theorem FL_apart {n : Nat} (hn : 1 ≤ n) : (FL n).Pairwise fun x y => x.1 ≠ y.1 := facs_apart (n + 1) 2 n (by omega) hn (fun d h1 h2 => by omega)
/-- How many units n has, by its prime factors. -/
def Un (n : Nat) : Nat := Go.Num.mkPhi (FL n)
/-- **The power of a unit by their number is one.** -/
theorem un_one {n a : Nat} (hn : 1 ≤ n) (h : Nat.gcd a n = 1) : a ^ Un n % n = 1 % n := by
  have := Go.Num.euler_mk (a := a) (l := FL n) (fun x hx => ⟨isPr_of (FL_ok hn x hx).1, (FL_ok hn x hx).2.2.1⟩) (FL_apart hn) (by rw [FL_mk hn]; exact h)
  rw [FL_mk hn] at this
  exact this
theorem mkPhi_le : ∀ l : List (Nat × Nat), (∀ x ∈ l, 1 ≤ x.2 ∧ 2 ≤ x.1) → 1 ≤ Go.Num.mkPhi l ∧ Go.Num.mkPhi l ≤ Go.Num.mk l
  | [], _ => ⟨Nat.le_refl _, Nat.le_refl _⟩
  | (p, e) :: l, h => by
    obtain ⟨h1, h2⟩ := mkPhi_le l fun x hx => h x (by simp [hx])
    obtain ⟨he, hp⟩ := h (p, e) (by simp)
    dsimp only at he hp
    obtain ⟨k, rfl⟩ : ∃ k, e = k + 1 := ⟨e - 1, by omega⟩
    have hpk : 1 ≤ p ^ k := Nat.pow_pos (by omega)
    show 1 ≤ p ^ (k + 1 - 1) * (p - 1) * _ ∧ p ^ (k + 1 - 1) * (p - 1) * _ ≤ p ^ (k + 1) * _
    rw [Nat.add_sub_cancel, Nat.pow_succ]
    refine ⟨Nat.mul_pos (Nat.mul_pos hpk (by omega)) h1, Nat.mul_le_mul (Nat.mul_le_mul (Nat.le_refl _) (by omega)) h2⟩
theorem Un_bd {n : Nat} (hn : 1 ≤ n) : 1 ≤ Un n ∧ Un n ≤ n := by
  have := mkPhi_le (FL n) fun x hx => ⟨(FL_ok hn x hx).2.2.1, (FL_ok hn x hx).1.1⟩
  rw [FL_mk hn] at this
  exact this
/-- What the number of units is while the factors are gone through. -/
def cu (n k : Nat) : Nat := Go.Num.mkPhi ((FL n).take k) * Go.Num.mk ((FL n).drop k)
theorem cu_zero {n : Nat} (hn : 1 ≤ n) : cu n 0 = n := by
  unfold cu
  rw [List.take_zero, List.drop_zero, FL_mk hn]
  exact Nat.one_mul n
theorem cu_end (n : Nat) : cu n (FL n).length = Un n := by
  unfold cu
  rw [List.take_length, List.drop_length]
  exact Nat.mul_one _
theorem cu_step {n k p t : Nat} (hn : 1 ≤ n) (hk : k < (FL n).length) (e : (FL n)[k] = (p, t)) : cu n (k + 1) = cu n k / p * (p - 1) := by
  have hx := FL_ok hn _ (List.getElem_mem hk)
  rw [e] at hx
  obtain ⟨⟨hp, -⟩, -, ht, -⟩ := hx
  dsimp only at hp ht
  obtain ⟨j, rfl⟩ : ∃ j, t = j + 1 := ⟨t - 1, by omega⟩
  unfold cu
  rw [List.drop_eq_getElem_cons hk, e, List.take_succ_eq_append_getElem hk, e, Go.Num.mkPhi_app]
  show _ * (p ^ (j + 1 - 1) * (p - 1) * 1) * _ = _ * (p ^ (j + 1) * _) / p * (p - 1)
  rw [Go.Num.phi_step (by omega), Nat.add_sub_cancel, Nat.mul_one]
theorem cu_bd {n k : Nat} (hn : 1 ≤ n) : cu n k ≤ n := by
  have h1 := (mkPhi_le ((FL n).take k) fun x hx => ⟨(FL_ok hn x (List.mem_of_mem_take hx)).2.2.1, (FL_ok hn x (List.mem_of_mem_take hx)).1.1⟩).2
  have h2 := FL_mk hn
  rw [← List.take_append_drop k (FL n), Go.Num.mk_app] at h2
  unfold cu
  exact Nat.le_trans (Nat.mul_le_mul h1 (Nat.le_refl _)) (Nat.le_of_eq h2)
attribute [local irreducible] E idxN cellAt cellsAt storeAt callable helems hmoved lookIn findKey keyOk hentries Hp.at Hp.set Hp.lay arBits hupdated setAt CallP YieldP BoolOf IsWrap Rnd LoopP AppP CutP Int.tmod Int.tdiv Int.fdiv
/-- Memory while units are counted. -/
structure UF (h hh : Hp) (cur : Int) : Prop where
  ho : hh.at h.next = some (.row 3 true [int cur])
  hd : hh.at (h.next + 2) = some .noDefers
  hg : Grows h hh
theorem UF.ext {h hh h2 : Hp} {cur : Int} (k : UF h hh cur) (g : Grows hh h2) : UF h h2 cur := ⟨g.at_ _ _ k.ho, g.at_ _ _ k.hd, k.hg.trans g⟩
theorem UF.out {h hh : Hp} {cur : Int} (k : UF h hh cur) (new : Int) : UF h (hh.set h.next (.row 3 true [int new])) new :=
  ⟨Hp.at_set_self _ (Hp.lt_of_at k.ho), by rw [Hp.at_set_ne _ (by omega)]; exact k.hd, k.hg.then_set _ (by omega)⟩
theorem UF.keep {h hh h2 : Hp} {cur : Int} {l : Nat} (k : UF h hh cur) (g : Keeps l hh h2) (hl : h.next + 3 ≤ l) : UF h h2 cur :=
  ⟨g.at_ _ _ (by omega) k.ho, g.at_ _ _ (by omega) k.hd, g.grows k.hg (by omega)⟩
section
variable [Unknowns]
attribute [local irreducible] rangeQ finP bodyQ endQ
theorem units_spec (n : Nat) (hn : 1 ≤ n ∧ n ≤ 1000000) (h : Hp) : CallP E 55 [int n] h (fun r h' => r = int (Un n) ∧ Grows h h') := by
  refine enter55 (by simp) ?_
  conv => whnf
  refine ⟨int n, cellAt_lay rfl, ?_⟩
  conv => whnf
  refine CallP.mono (factors_spec n _) ?_
  rintro r h' ⟨rfl, rfl⟩
  conv => whnf
  refine range_go ((FL n).map fv) (fun k hh => UF h hh (cu n k)) (fun _ => False) can79 ?_ rfl ?_ ?_ ?_ ?_ ?_
  · intro k hk
    rw [List.getElem_map]; rfl
  · intro I S h0 hit
    refine facs_iter n hn.2 _ _ I S _ ?_ h0 hit
    exact cellAt_row (Hp.at_lay_old _ (Hp.at_lay_old _ (Hp.at_lay_self _ _))) rfl
  · rw [cu_zero hn.1]
    exact ⟨Hp.at_lay_old _ (Hp.at_lay_old _ (Hp.at_lay_old _ (Hp.at_lay_self _ _))), at_next (by simp only [Hp.next_lay]) (Hp.at_lay_old _ (Hp.at_lay_self _ _)), (((Grows.lay _ _).then_lay _).then_lay _).then_lay _⟩
  · intro k xs hk h1 hl hI
    rw [List.getElem?_map] at hk
    have hkl : k < (FL n).length := by
      rcases Nat.lt_or_ge k (FL n).length with h1 | h1
      · exact h1
      · rw [List.getElem?_eq_none h1] at hk; cases hk
    rw [List.getElem?_eq_getElem hkl] at hk
    have hx := FL_ok hn.1 _ (List.getElem_mem hkl)
    have hexx : ∃ x, (FL n)[k] = x := ⟨_, rfl⟩
    obtain ⟨⟨p, t⟩, ex⟩ := hexx
    have hst := cu_step hn.1 hkl ex
    rw [ex] at hk hx
    obtain rfl : fv (p, t) = xs := by injection hk
    have hp2 := hx.1.1
    have hpm : p ≤ n := Nat.le_of_dvd (by omega) hx.2.1
    dsimp only at hp2 hpm
    have hcb := cu_bd (k := k) hn.1
    have hcb1 := cu_bd (k := k + 1) hn.1
    obtain ⟨c, hc⟩ : ∃ c, cu n k = c := ⟨_, rfl⟩
    rw [hc] at hI hst hcb
    have hlt := Hp.lt_of_at hl
    conv => whnf
    refine ⟨rfl, _, storeAt_all rfl rfl rfl, ?_⟩
    conv => whnf
    refine bodyQ_go (Hp.at_lay_old _ hl) ?_
    intro BO hb eBO hbl hbk
    have hSF := (hI.ext (Grows.lay h1 (.row 63 true [int p, int t]))).keep hbk (by simp only [Hp.next_lay]; omega)
    have hR := hbk.at_ _ _ (by simp only [Hp.next_lay] at hlt ⊢; omega) (Hp.at_lay_self h1 (.row 63 true [int p, int t]))
    have hq0 := tdiv_nat c p
    have hql := Nat.div_le_self c p
    obtain ⟨q, hq⟩ : ∃ q, c / p = q := ⟨_, rfl⟩
    rw [hq] at hq0 hql hst
    obtain ⟨m, hm⟩ : ∃ m, q * (p - 1) = m := ⟨_, rfl⟩
    have hmc : (q : Int) * ((p - 1 : Nat) : Int) = (m : Int) := by rw [← hm, Int.natCast_mul]
    rw [hm] at hst
    rw [hst] at hcb1
    conv => whnf
    refine ⟨int c, cellAt_row hSF.ho rfl, ?_⟩
    conv => whnf
    refine ⟨int p, cellAt_row hR rfl, ?_⟩
    conv => whnf
    refine ⟨by omega, (q : Int), wie hq0 (by omega), ?_⟩
    conv => whnf
    refine ⟨int p, cellAt_row hR rfl, ?_⟩
    conv => whnf
    refine ⟨((p - 1 : Nat) : Int), wie (by omega) (by omega), ?_⟩
    conv => whnf
    refine ⟨(m : Int), wie hmc (by omega), ?_⟩
    conv => whnf
    refine ⟨rfl, _, storeAt_row hSF.ho (by simp) rfl, ?_⟩
    conv => whnf
    refine endQ_next eBO (by rw [Hp.at_set_ne _ (by simp only [Hp.next_lay]; omega)]; exact hbl) ?_
    intro h9 h9l h9k
    refine .inl ⟨rfl, h9l, ?_⟩
    have hS9 := (hSF.out (m : Int)).keep h9k (by simp only [Hp.next_lay]; omega)
    show UF h h9 ((cu n (k + 1) : Nat) : Int)
    rw [hst]
    exact hS9
  · intro h2 h3 hI hk3
    rw [List.length_map, cu_end] at hI
    have hS2 := hI.keep hk3 (by simp only [Hp.next_lay]; omega)
    conv => whnf
    refine ⟨int (Un n), cellAt_row hS2.ho rfl, ?_⟩
    conv => whnf
    refine finP_mark (at_next (by simp only [Hp.next_lay]) hS2.hd) ?_
    exact finP_one rfl rfl ⟨rfl, hS2.hg.then_set _ (by simp only [Hp.next_lay]; omega)⟩
  · intro h2 hf
    exact hf.elim
end
end Go.Proofs.Ytlcnmneildefmaa
