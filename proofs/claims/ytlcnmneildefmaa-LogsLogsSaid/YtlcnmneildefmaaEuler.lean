/- Euler's theorem, for numbers as the laws of stage 7 have them. -/
set_option linter.unusedVariables false
set_option linter.unusedSimpArgs false
set_option linter.unusedSectionVars false
set_option linter.unusedSimpArgs false
namespace Go.Num

theorem perm_of_sub {l1 l2 : List Nat} (h1 : l1.Nodup) (hs : ∀ x ∈ l1, x ∈ l2) (hl : l2.length ≤ l1.length) : l1.Perm l2 := by
  induction l1 generalizing l2 with
  | nil =>
    have : l2 = [] := List.eq_nil_of_length_eq_zero (by simpa using hl)
    rw [this]
  | cons a t ih =>
    have ha : a ∈ l2 := hs a (by simp)
    have hn := List.nodup_cons.1 h1
    have hp := List.perm_cons_erase ha
    have : t.Perm (l2.erase a) := by
      refine ih hn.2 (fun x hx => ?_) ?_
      · have hne : x ≠ a := fun e => hn.1 (e ▸ hx)
        exact (List.mem_erase_of_ne hne).2 (hs x (by simp [hx]))
      · rw [List.length_erase_of_mem ha]
        simp at hl
        omega
    exact (List.Perm.cons a this).trans hp.symm

def prodL (l : List Nat) : Nat := l.foldr (· * ·) 1
theorem prodL_cons (a : Nat) (l : List Nat) : prodL (a :: l) = a * prodL l := rfl
theorem prodL_perm {l1 l2 : List Nat} (h : l1.Perm l2) : prodL l1 = prodL l2 := by
  induction h with
  | nil => rfl
  | cons a _ ih => rw [prodL_cons, prodL_cons, ih]
  | swap a b l => simp only [prodL_cons]; exact Nat.mul_left_comm _ _ _
  | trans _ _ i1 i2 => exact i1.trans i2
theorem prodL_map (a n : Nat) (l : List Nat) : prodL (l.map fun x => a * x % n) % n = a ^ l.length * prodL l % n := by
  induction l with
  | nil => rfl
  | cons x l ih =>
    rw [List.map_cons, prodL_cons, prodL_cons, Nat.mul_mod, ih, Nat.mod_mod, ← Nat.mul_mod, List.length_cons, Nat.pow_succ]
    congr 1
    simp only [Nat.mul_assoc, Nat.mul_comm, Nat.mul_left_comm]
theorem prodL_cop {n : Nat} {l : List Nat} (h : ∀ x ∈ l, Nat.gcd x n = 1) : Nat.gcd (prodL l) n = 1 := by
  induction l with
  | nil => exact Nat.gcd_one_left n
  | cons x l ih =>
    rw [prodL_cons]
    exact Nat.Coprime.mul_left (h x (by simp)) (ih fun y hy => h y (by simp [hy]))

/-- The numbers below n that have nothing in common with n. -/
def units (n : Nat) : List Nat := (List.range n).filter fun x => Nat.gcd x n == 1
def phi (n : Nat) : Nat := (units n).length
theorem mem_units {n x : Nat} : x ∈ units n ↔ x < n ∧ Nat.gcd x n = 1 := by simp [units]
theorem units_nodup (n : Nat) : (units n).Nodup := List.Pairwise.filter _ List.nodup_range

theorem cop_mod {a n : Nat} (h : Nat.gcd a n = 1) : Nat.gcd (a % n) n = 1 := by
  rw [← Nat.gcd_rec, Nat.gcd_comm]; exact h
/-- What is multiplied by something that has nothing in common with n, can be taken away. -/
theorem cancel {a x y n : Nat} (h : Nat.gcd a n = 1) (e : a * x % n = a * y % n) : x % n = y % n := by
  have key : ∀ x y : Nat, x ≤ y → a * x % n = a * y % n → x % n = y % n := by
    intro x y hxy e
    have hd : n ∣ a * (y - x) := by
      rw [Nat.mul_sub]
      exact Nat.dvd_of_mod_eq_zero (Nat.sub_mod_eq_zero_of_mod_eq e.symm)
    have hd2 : n ∣ y - x := Nat.Coprime.dvd_of_dvd_mul_left (by rw [Nat.Coprime, Nat.gcd_comm]; exact h) hd
    obtain ⟨k, hk⟩ := hd2
    rw [show y = x + n * k by omega, Nat.add_mul_mod_self_left]
  rcases Nat.le_total x y with h1 | h1
  · exact key x y h1 e
  · exact (key y x h1 e.symm).symm

theorem map_nodup {f : Nat → Nat} : ∀ {l : List Nat}, l.Nodup → (∀ x ∈ l, ∀ y ∈ l, f x = f y → x = y) → (l.map f).Nodup
  | [], _, _ => by simp
  | a :: l, h, hf => by
    have hn := List.nodup_cons.1 h
    rw [List.map_cons, List.nodup_cons]
    refine ⟨fun hm => ?_, map_nodup hn.2 fun x hx y hy => hf x (by simp [hx]) y (by simp [hy])⟩
    obtain ⟨b, hb, hab⟩ := List.mem_map.1 hm
    have : b = a := hf b (by simp [hb]) a (by simp) hab
    exact hn.1 (this ▸ hb)

/-- **Euler's theorem.** -/
theorem euler {a n : Nat} (hn : 0 < n) (h : Nat.gcd a n = 1) : a ^ phi n % n = 1 % n := by
  have hin : ∀ x ∈ units n, a * x % n ∈ units n := fun x hx => by
    obtain ⟨-, h2⟩ := mem_units.1 hx
    exact mem_units.2 ⟨Nat.mod_lt _ hn, cop_mod (Nat.Coprime.mul_left h h2)⟩
  have hp : ((units n).map fun x => a * x % n).Perm (units n) := by
    refine perm_of_sub (map_nodup (units_nodup n) fun x hx y hy e => ?_) (fun x hx => ?_) (by simp)
    · have := cancel h e
      rwa [Nat.mod_eq_of_lt (mem_units.1 hx).1, Nat.mod_eq_of_lt (mem_units.1 hy).1] at this
    · obtain ⟨y, hy, rfl⟩ := List.mem_map.1 hx
      exact hin y hy
  have e := prodL_map a n (units n)
  rw [prodL_perm hp] at e
  have hc : Nat.gcd (prodL (units n)) n = 1 := prodL_cop fun x hx => (mem_units.1 hx).2
  refine (cancel hc (x := 1) (y := a ^ phi n) ?_).symm
  rw [Nat.mul_one, e, Nat.mul_comm]
  rfl
end Go.Num
namespace Go.Num
theorem one_pow_mod {a k n : Nat} (j : Nat) (h : a ^ k % n = 1 % n) : a ^ (k * j) % n = 1 % n := by
  induction j with
  | zero => rw [Nat.mul_zero, Nat.pow_zero]
  | succ j ih =>
    rw [Nat.mul_succ, Nat.pow_add, Nat.mul_mod, ih, h, ← Nat.mul_mod]
/-- What holds by two numbers that have nothing in common, holds by their product. -/
theorem both_mod {m n x y : Nat} (h : Nat.gcd m n = 1) (h1 : x % m = y % m) (h2 : x % n = y % n) : x % (m * n) = y % (m * n) := by
  have key : ∀ x y : Nat, x ≤ y → x % m = y % m → x % n = y % n → x % (m * n) = y % (m * n) := by
    intro x y hxy h1 h2
    have d1 : m ∣ y - x := Nat.dvd_of_mod_eq_zero (Nat.sub_mod_eq_zero_of_mod_eq h1.symm)
    have d2 : n ∣ y - x := Nat.dvd_of_mod_eq_zero (Nat.sub_mod_eq_zero_of_mod_eq h2.symm)
    obtain ⟨k, hk⟩ := Nat.Coprime.mul_dvd_of_dvd_of_dvd h d1 d2
    rw [show y = x + m * n * k by omega, Nat.add_mul_mod_self_left]
  rcases Nat.le_total x y with h3 | h3
  · exact key x y h3 h1 h2
  · exact (key y x h3 h1.symm h2.symm).symm

theorem count_block {p : Nat} (hp : 0 < p) (q : Nat) : (((List.range p).map (p * q + ·)).filter fun x => x % p != 0).length = p - 1 := by
  rw [List.filter_map, List.length_map]
  have e : ∀ x ∈ List.range p, ((fun x => x % p != 0) ∘ (p * q + ·)) x = (x != 0) := by
    intro x hx
    have := List.mem_range.1 hx
    show ((p * q + x) % p != 0) = (x != 0)
    rw [Nat.add_comm, Nat.add_mul_mod_self_left, Nat.mod_eq_of_lt this]
  rw [List.filter_congr e]
  obtain ⟨r, rfl⟩ : ∃ r, p = r + 1 := ⟨p - 1, by omega⟩
  rw [List.range_succ_eq_map, List.filter_cons]
  simp only [bne_self_eq_false, Bool.false_eq_true, if_false]
  rw [List.filter_eq_self.2 ?_]
  · simp
  · intro x hx
    obtain ⟨y, -, rfl⟩ := List.mem_map.1 hx
    simp
theorem count_range {p : Nat} (hp : 0 < p) : ∀ q : Nat, ((List.range (p * q)).filter fun x => x % p != 0).length = q * (p - 1)
  | 0 => by simp
  | q + 1 => by
    rw [Nat.mul_succ, List.range_add, List.filter_append, List.length_append, count_range hp q, count_block hp q, Nat.succ_mul]
def IsPr (p : Nat) : Prop := 2 ≤ p ∧ ∀ d, d ∣ p → d = 1 ∨ d = p
theorem pr_cop {p x : Nat} (hp : IsPr p) : Nat.gcd x p = 1 ↔ x % p ≠ 0 := by
  constructor
  · intro h e
    have hd := Nat.dvd_of_mod_eq_zero e
    have : p ∣ Nat.gcd x p := Nat.dvd_gcd hd (Nat.dvd_refl _)
    rw [h] at this
    have := Nat.le_of_dvd (by omega) this
    have := hp.1
    omega
  · intro h
    rcases hp.2 _ (Nat.gcd_dvd_right x p) with e | e
    · exact e
    · exact absurd (Nat.mod_eq_zero_of_dvd (e ▸ Nat.gcd_dvd_left x p)) h
theorem pow_cop {p x : Nat} (hp : IsPr p) (e : Nat) : Nat.gcd x (p ^ (e + 1)) = 1 ↔ x % p ≠ 0 := by
  rw [← pr_cop hp]
  constructor
  · intro h
    exact Nat.Coprime.coprime_dvd_right ⟨p ^ e, by rw [Nat.pow_succ, Nat.mul_comm]⟩ h
  · intro h
    exact Nat.Coprime.pow_right (e + 1) h
/-- How many units a prime power has. -/
theorem phi_pow {p : Nat} (hp : IsPr p) (e : Nat) : phi (p ^ (e + 1)) = p ^ e * (p - 1) := by
  have h := count_range (p := p) (by have := hp.1; omega) (p ^ e)
  have hu : units (p ^ (e + 1)) = (List.range (p * p ^ e)).filter fun x => x % p != 0 := by
    unfold units
    rw [Nat.pow_succ, Nat.mul_comm]
    refine List.filter_congr fun x _ => ?_
    have := pow_cop (x := x) hp e
    rw [Nat.pow_succ, Nat.mul_comm] at this
    rw [Bool.eq_iff_iff]
    simpa using this
  unfold phi
  rw [hu, h]
/-- Prime factors with their exponents: what they make, and how many units that has. -/
def mk : List (Nat × Nat) → Nat
  | [] => 1
  | (p, e) :: l => p ^ e * mk l
def mkPhi : List (Nat × Nat) → Nat
  | [] => 1
  | (p, e) :: l => p ^ (e - 1) * (p - 1) * mkPhi l
/-- **Euler's theorem by prime factors.** -/
theorem euler_mk {a : Nat} : ∀ {l : List (Nat × Nat)}, (∀ x ∈ l, IsPr x.1 ∧ 1 ≤ x.2) → l.Pairwise (fun x y => x.1 ≠ y.1) → Nat.gcd a (mk l) = 1 → a ^ mkPhi l % mk l = 1 % mk l
  | [], _, _, _ => by simp [mk, Nat.mod_one]
  | (p, e) :: l, hl, hp, hg => by
    obtain ⟨hpr, he⟩ := hl (p, e) (by simp)
    dsimp only at hpr he
    obtain ⟨k, rfl⟩ : ∃ k, e = k + 1 := ⟨e - 1, by omega⟩
    have hp2 := List.pairwise_cons.1 hp
    have hcop : Nat.gcd (p ^ (k + 1)) (mk l) = 1 := by
      have hne := hp2.1
      have hl2 : ∀ x ∈ l, IsPr x.1 ∧ 1 ≤ x.2 := fun x hx => hl x (by simp [hx])
      clear hp hp2 hg hl
      induction l with
      | nil => exact Nat.gcd_one_right _
      | cons x l ih =>
        obtain ⟨q, f⟩ := x
        obtain ⟨hq, hf⟩ := hl2 (q, f) (by simp)
        have hpq : p ≠ q := hne (q, f) (by simp)
        refine Nat.Coprime.mul_right ?_ (ih (fun y hy => hne y (by simp [hy])) fun y hy => hl2 y (by simp [hy]))
        refine Nat.Coprime.pow _ _ ?_
        rcases hpr.2 _ (Nat.gcd_dvd_left p q) with e | e
        · exact e
        · rcases hq.2 _ (Nat.gcd_dvd_right p q) with e2 | e2
          · exact e2
          · exact absurd (e.symm.trans e2) hpq
    have g1 : Nat.gcd a (p ^ (k + 1)) = 1 := Nat.Coprime.coprime_dvd_right ⟨mk l, rfl⟩ hg
    have g2 : Nat.gcd a (mk l) = 1 := Nat.Coprime.coprime_dvd_right ⟨p ^ (k + 1), by show p ^ (k + 1) * mk l = _; rw [Nat.mul_comm]⟩ hg
    have i := euler_mk (a := a) (fun x hx => hl x (by simp [hx])) hp2.2 g2
    have j := euler (Nat.pow_pos (n := k + 1) (show 0 < p by have := hpr.1; omega)) g1
    rw [phi_pow hpr k] at j
    show a ^ (p ^ (k + 1 - 1) * (p - 1) * mkPhi l) % (p ^ (k + 1) * mk l) = _
    rw [Nat.add_sub_cancel]
    refine both_mod hcop (one_pow_mod _ j) ?_
    rw [Nat.mul_comm]
    exact one_pow_mod _ i
end Go.Num
namespace Go.Num
theorem pr_factor : ∀ (f t : Nat), t ≤ f → 2 ≤ t → ∃ q, IsPr q ∧ q ∣ t
  | 0, t, h, h2 => by omega
  | f + 1, t, h, h2 => by
    by_cases hp : IsPr t
    · exact ⟨t, hp, Nat.dvd_refl t⟩
    · have : ∃ d, d ∣ t ∧ d ≠ 1 ∧ d ≠ t := by
        apply Classical.byContradiction
        intro hn
        refine hp ⟨h2, fun d hd => ?_⟩
        by_cases h1 : d = 1
        · exact .inl h1
        · by_cases h3 : d = t
          · exact .inr h3
          · exact absurd ⟨d, hd, h1, h3⟩ hn
      obtain ⟨d, hd, h1, h3⟩ := this
      have hle := Nat.le_of_dvd (by omega) hd
      have h0 : d ≠ 0 := fun e => by subst e; have := Nat.eq_zero_of_zero_dvd hd; omega
      obtain ⟨q, hq, hqd⟩ := pr_factor f d (by omega) (by omega)
      exact ⟨q, hq, Nat.dvd_trans hqd hd⟩
/-- The least exponent that gives one, divides each one that does. -/
theorem least_dvd {a n m k : Nat} (hm : 0 < m) (h : a ^ m % n = 1 % n) (hl : ∀ j, 0 < j → j < m → a ^ j % n ≠ 1 % n) (hk : a ^ k % n = 1 % n) : m ∣ k := by
  have hr : a ^ (k % m) % n = 1 % n := by
    have e : a ^ k = a ^ (m * (k / m)) * a ^ (k % m) := by rw [← Nat.pow_add, Nat.div_add_mod]
    have i := one_pow_mod (k / m) h
    rw [e, Nat.mul_mod, i, ← Nat.mul_mod, Nat.one_mul] at hk
    exact hk
  rcases Nat.eq_zero_or_pos (k % m) with h0 | h0
  · exact Nat.dvd_of_mod_eq_zero h0
  · exact absurd hr (hl _ h0 (Nat.mod_lt _ hm))
theorem least_exists {P : Nat → Prop} : ∀ (f k : Nat), k ≤ f → 0 < k → P k → ∃ m, 0 < m ∧ m ≤ k ∧ P m ∧ ∀ j, 0 < j → j < m → ¬ P j
  | 0, k, h, h0, _ => by omega
  | f + 1, k, h, h0, hk => by
    by_cases hx : ∃ j, 0 < j ∧ j < k ∧ P j
    · obtain ⟨j, h1, h2, h3⟩ := hx
      obtain ⟨m, m1, m2, m3, m4⟩ := least_exists f j (by omega) h1 h3
      exact ⟨m, m1, by omega, m3, m4⟩
    · exact ⟨k, h0, Nat.le_refl k, hk, fun j h1 h2 h3 => hx ⟨j, h1, h2, h3⟩⟩
/-- **An exponent that gives one, and whose prime quotients don't, is the least one.** -/
theorem order_of_primes {a n k : Nat} (hk : 0 < k) (h : a ^ k % n = 1 % n) (hq : ∀ q, IsPr q → q ∣ k → a ^ (k / q) % n ≠ 1 % n) : ∀ j, 0 < j → j < k → a ^ j % n ≠ 1 % n := by
  obtain ⟨m, m1, m2, m3, m4⟩ := least_exists (P := fun j => a ^ j % n = 1 % n) k k (Nat.le_refl k) hk h
  have hd := least_dvd m1 m3 m4 h
  obtain ⟨t, ht⟩ := hd
  have : m = k := by
    apply Classical.byContradiction
    intro hne
    have h2 : 2 ≤ t := by
      rcases Nat.lt_or_ge t 2 with h3 | h3
      · have : t = 0 ∨ t = 1 := by omega
        rcases this with rfl | rfl
        · simp at ht; omega
        · simp at ht; omega
      · exact h3
    obtain ⟨q, hqp, s, hs⟩ := pr_factor t t (Nat.le_refl t) h2
    have hq0 : 0 < q := by have := hqp.1; omega
    have e : k = q * (m * s) := by rw [ht, hs, Nat.mul_left_comm]
    refine hq q hqp ⟨m * s, e⟩ ?_
    rw [e, Nat.mul_div_cancel_left _ hq0]
    exact one_pow_mod s m3
  rw [← this]
  exact m4
end Go.Num
namespace Go.Num
/-- What is not one by a prime quotient, stays so when other factors go. -/
theorem quot_keep {a n k k' p : Nat} (hp0 : 0 < p) (hd : k' ∣ k) (hp : p ∣ k') (h : a ^ (k / p) % n ≠ 1 % n) : a ^ (k' / p) % n ≠ 1 % n := by
  intro e
  obtain ⟨s, rfl⟩ := hd
  obtain ⟨t, rfl⟩ := hp
  rw [Nat.mul_div_cancel_left _ hp0] at e
  rw [Nat.mul_assoc, Nat.mul_div_cancel_left _ hp0] at h
  exact h (one_pow_mod s e)
/-- A factor is gone through: n / p * (p - 1). -/
theorem phi_step {d p e m : Nat} (hp : 0 < p) : d * (p ^ (e + 1) * m) / p * (p - 1) = d * (p ^ e * (p - 1)) * m := by
  have : d * (p ^ (e + 1) * m) = p * (d * (p ^ e * m)) := by
    rw [Nat.pow_succ]
    simp only [Nat.mul_assoc, Nat.mul_comm, Nat.mul_left_comm]
  rw [this, Nat.mul_div_cancel_left _ hp]
  simp only [Nat.mul_assoc, Nat.mul_comm, Nat.mul_left_comm]
theorem mk_app : ∀ l l' : List (Nat × Nat), mk (l ++ l') = mk l * mk l'
  | [], l' => by simp [mk]
  | (p, e) :: l, l' => by rw [List.cons_append, mk, mk, mk_app l l', Nat.mul_assoc]
theorem mkPhi_app : ∀ l l' : List (Nat × Nat), mkPhi (l ++ l') = mkPhi l * mkPhi l'
  | [], l' => by simp [mkPhi]
  | (p, e) :: l, l' => by simp only [List.cons_append, mkPhi, mkPhi_app l l', Nat.mul_assoc]
/-- The inverse of a unit is its power by one less than an exponent that gives one. -/
theorem inverse_pow {a n k : Nat} (hk : 0 < k) (h : a ^ k % n = 1 % n) : a ^ (k - 1) % n * a % n = 1 % n := by
  obtain ⟨j, rfl⟩ : ∃ j, k = j + 1 := ⟨k - 1, by omega⟩
  rw [Nat.add_sub_cancel, Nat.mod_mul_mod, ← Nat.pow_succ, h]
/-- A power by squaring: what is told of each round. -/
theorem square_step (o a k n : Nat) : o * a ^ k % n = (if k % 2 = 1 then o * a % n else o) * (a * a % n) ^ (k / 2) % n := by
  have e : a ^ k = (a * a) ^ (k / 2) * a ^ (k % 2) := by
    rw [← Nat.pow_two, ← Nat.pow_mul, ← Nat.pow_add, Nat.div_add_mod]
  have hm : k % 2 = 0 ∨ k % 2 = 1 := by omega
  have hq : ∀ x y : Nat, x * y ^ (k / 2) % n = x % n * ((y % n) ^ (k / 2)) % n := fun x y => by
    rw [Nat.mul_mod, Nat.pow_mod, ← Nat.mul_mod, Nat.mod_mul_mod]
  rcases hm with h | h
  · rw [e, h, Nat.pow_zero, Nat.mul_one, if_neg (by omega), hq, Nat.mod_mul_mod]
  · rw [e, h, Nat.pow_one, if_pos rfl, show o * ((a * a) ^ (k / 2) * a) = o * a * (a * a) ^ (k / 2) by simp only [Nat.mul_assoc, Nat.mul_comm, Nat.mul_left_comm], hq]
end Go.Num
