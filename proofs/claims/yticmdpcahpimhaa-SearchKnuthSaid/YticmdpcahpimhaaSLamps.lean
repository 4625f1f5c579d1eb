/- Contracts of the functions that SKnuthM comes to. -/
import Derived.Test.YticmdpcahpimhaaCodeSKnuthM
import Derived.Test.YticmdpcahpimhaaWx9
set_option maxRecDepth 100000
set_option linter.unusedVariables false
set_option linter.unusedSectionVars false
set_option linter.unusedSimpArgs false
namespace Go.Proofs.Yticmdpcahpimhaa
open Go.Rx Go.RowKit
attribute [local irreducible] E idxN cellAt cellsAt storeAt callable helems hmoved lookIn findKey keyOk hentries Hp.at Hp.set Hp.lay arBits hupdated setAt CallP YieldP BoolOf IsWrap Rnd LoopP AppP CutP Int.tmod Int.tdiv Int.fdiv

/-- What so many tries can do with so many lanterns. -/
def R : Nat → Nat → Int
  | 0, _ => 0
  | _ + 1, 0 => 0
  | t + 1, j + 1 => R t (j + 1) + R t j + 1

theorem R_zero (t : Nat) : R t 0 = 0 := by cases t <;> rfl
theorem R_bd : ∀ t j, 0 ≤ R t j ∧ R t j < 2 ^ t
  | 0, j => by simp [R]
  | t + 1, 0 => by simp [R]; exact Int.pow_pos (by omega)
  | t + 1, j + 1 => by
    have h1 := R_bd t (j + 1)
    have h2 := R_bd t j
    simp only [R]
    rw [Int.pow_succ]
    omega
theorem R_lt {t j : Nat} (ht : t ≤ 60) : 0 ≤ R t j ∧ R t j < 1152921504606846976 := by
  have h := R_bd t j
  have : (2 : Int) ^ t ≤ 2 ^ 60 := by exact_mod_cast Nat.pow_le_pow_right (by omega) ht
  have e : (2 : Int) ^ 60 = 1152921504606846976 := rfl
  omega

/-- A row in the middle of a try: behind j it is done. -/
def mid (i c j : Nat) (k : Nat) : Int := if k ≤ c then (if j < k then R (i + 1) k else R i k) else 0
theorem mid_start (i c : Nat) : ∀ k, mid i c c k = if k ≤ c then R i k else 0 := by
  intro k; unfold mid; by_cases h : k ≤ c <;> simp [h]; omega
theorem mid_end (i c : Nat) : ∀ k, mid i c 0 k = if k ≤ c then R (i + 1) k else 0 := by
  intro k; unfold mid; by_cases h : k ≤ c
  · simp only [h, if_true]
    by_cases h0 : 0 < k
    · simp [h0]
    · have : k = 0 := by omega
      subst this; simp [R_zero]
  · simp [h]
theorem mid_step (i c j : Nat) (hj : j + 1 ≤ c) : ∀ k, (if k = j + 1 then mid i c (j + 1) (j + 1) + (mid i c (j + 1) j + 1) else mid i c (j + 1) k) = mid i c j k := by
  intro k
  unfold mid
  by_cases h : k = j + 1
  · subst h
    have h1 : j ≤ c := by omega
    simp [hj, h1, R]; omega
  · simp only [h, if_false]
    by_cases hk : k ≤ c
    · simp only [hk, if_true]
      by_cases h2 : j + 1 < k
      · have : j < k := by omega
        simp [h2, this]
      · have : ¬ j < k := by omega
        simp [h2, this]
    · simp [hk]
theorem mid_lt {i c j k : Nat} (hi : i < 60) : 0 ≤ mid i c j k ∧ mid i c j k < 1152921504606846976 := by
  unfold mid
  split
  · split
    · exact R_lt (by omega)
    · exact R_lt (by omega)
  · omega

section
variable [Unknowns]

theorem reach_spec (c t : Nat) (hc : c ≤ 20) (ht : t ≤ 60) (h : Hp) : CallP E 75 [int c, int t] h (fun r h' => r = int (R t c) ∧ Grows h h') := by
  refine enter75 (by simp) ?_
  conv => whnf
  refine loop_inv (α := Nat) (fun i => [(8, int i), (7, int t), (0, int c), (5, ptr0 h.next)]) (fun i => h.lay (.row 128 true (rowF 21 fun k => if k ≤ c then R i k else 0))) (fun i => i ≤ t) (fun i => t - i) 0 (by omega) ⟨rfl, rfl, rfl, rfl, trivial⟩ ?_ ?_
  · have e : rowF 21 (fun k => if k ≤ c then R 0 k else 0) = [int 0, int 0, int 0, int 0, int 0, int 0, int 0, int 0, int 0, int 0, int 0, int 0, int 0, int 0, int 0, int 0, int 0, int 0, int 0, int 0, int 0] := by
      rw [rowF_congr (g := fun _ => 0) (fun k _ => by simp [R])]; rfl
    rw [e]; exact Hp.Le.refl _
  intro i φ hi
  conv => whnf
  rintro (_|_) hb
  · have hb := hb.f
    conv => whnf
    have : i = t := by omega
    subst this
    refine ⟨by omega, ?_⟩
    conv => whnf
    refine ⟨_, cellAt_lay (rowF_get (by show c < 21; omega)), ?_⟩
    conv => whnf
    refine ⟨?_, Grows.lay _ _⟩
    show int (if c ≤ c then R i c else 0) = _
    rw [if_pos (Nat.le_refl _)]
  · have hb := hb.t
    have hlt : i < t := by omega
    conv => whnf
    refine loop_inv (α := Nat) (fun j => [(6, int j), (8, int i), (7, int t), (0, int c), (5, ptr0 h.next)]) (fun j => h.lay (.row 128 true (rowF 21 (mid i c j)))) (fun j => j ≤ c) (fun j => j) c (by omega) ⟨rfl, rfl, rfl, rfl, rfl, trivial⟩ ?_ ?_
    · rw [rowF_congr (fun k _ => mid_start i c k)]; exact Hp.Le.refl _
    intro j φ hj
    conv => whnf
    rintro (_|_) hb2
    · have hb2 := hb2.f
      have : j = 0 := by omega
      subst this
      conv => whnf
      refine ⟨_, wid (by omega), ?_⟩
      conv => whnf
      refine Rnd.mk (i + 1) (by omega) (by omega) ⟨rfl, rfl, rfl, rfl, trivial⟩ ?_ rfl
      rw [rowF_congr (fun k _ => mid_end i c k)]; exact Hp.Le.refl _
    · have hb2 := hb2.t
      obtain ⟨j, rfl⟩ : ∃ j', j = j' + 1 := ⟨j - 1, by omega⟩
      have m1 := @mid_lt i c (j + 1) (j + 1) (by omega)
      have m2 := @mid_lt i c (j + 1) j (by omega)
      conv => whnf
      refine ⟨⟨by omega, by omega⟩, ?_⟩
      conv => whnf
      refine ⟨int (mid i c (j + 1) (j + 1)), cellAt_lay (rowF_get (by show j + 1 < 21; omega)), ?_⟩
      conv => whnf
      refine ⟨(j : Nat), wie (by omega) (by omega), ?_⟩
      conv => whnf
      refine ⟨⟨by omega, by omega⟩, ?_⟩
      conv => whnf
      refine ⟨int (mid i c (j + 1) j), cellAt_lay (rowF_get (by show j < 21; omega)), ?_⟩
      conv => whnf
      refine ⟨_, wid (by omega), ?_⟩
      conv => whnf
      refine ⟨_, wid (by omega), ?_⟩
      conv => whnf
      refine ⟨⟨by omega, by omega⟩, ?_⟩
      conv => whnf
      refine ⟨rfl, _, storeAt_lay (by rw [rowF_length]; show j + 1 < 21; omega) rfl, ?_⟩
      conv => whnf
      refine ⟨(j : Nat), wie (by omega) (by omega), ?_⟩
      conv => whnf
      refine Rnd.mk j (by omega) (by omega) ⟨rfl, rfl, rfl, rfl, rfl, trivial⟩ ?_ rfl
      have e : (rowF 21 (mid i c (j + 1))).set (j + 1) (int (mid i c (j + 1) (j + 1) + (mid i c (j + 1) j + 1))) = rowF 21 (mid i c j) := by
        rw [rowF_set, rowF_congr (fun k _ => mid_step i c j (by omega) k)]
      rw [← e]; exact Hp.Le.refl _

theorem within_spec (low high : Int) (v : Value) (l : List Int) (h : Hp) (hv : Ints h v l) (hl : l.length ≤ 1000000) : CallP E 55 [int low, int high, v] h (fun r h' => r = .bool (decide (∀ x ∈ l, low ≤ x ∧ x ≤ high)) ∧ h' = h) := by
  obtain ⟨a, cap, rfl, hc⟩ := hv
  refine enter55 (by simp) ?_
  conv => whnf
  refine loop_inv (α := Nat) (fun k => [(11, int k), (10, int l.length), (9, .slice a l.length cap), (0, int low), (1, int high)]) (fun _ => h) (fun k => k ≤ l.length ∧ ∀ j, (hj : j < k) → (hj2 : j < l.length) → low ≤ l[j] ∧ l[j] ≤ high) (fun k => l.length - k) 0 ⟨by omega, fun j hj => by omega⟩ ⟨rfl, rfl, rfl, rfl, rfl, trivial⟩ (Hp.Le.refl _) ?_
  rintro k φ ⟨hk, hin⟩
  conv => whnf
  rintro (_|_) hb
  · have hb := hb.f
    conv => whnf
    refine ⟨?_, rfl⟩
    have : (∀ x ∈ l, low ≤ x ∧ x ≤ high) := by
      intro x hx
      obtain ⟨j, hj, rfl⟩ := List.getElem_of_mem hx
      exact hin j (by omega) hj
    rw [decide_eq_true this]; rfl
  · have hb := hb.t
    have hk' : k < l.length := by omega
    obtain ⟨r, o, sp, rfl, hsp, hcell⟩ := hc k hk'
    have no : ¬ (low ≤ l[k] ∧ l[k] ≤ high) → ¬ (∀ x ∈ l, low ≤ x ∧ x ≤ high) := fun h1 h2 => h1 (h2 _ (List.getElem_mem hk'))
    conv => whnf
    repeat (first | (refine cmpT (by omega) ?_; conv => whnf) | (refine cmpF (by omega) ?_; conv => whnf) | (refine ⟨_, wid (by omega), ?_⟩; conv => whnf) | (refine ⟨⟨by omega, by omega⟩, ?_⟩; conv => whnf) | (refine ⟨by omega, ?_⟩; conv => whnf) | (refine ⟨_, by assumption, ?_⟩; conv => whnf) | (refine ⟨by assumption, ?_⟩; conv => whnf))
    rintro (_|_) hb1
    · have hb1 := hb1.f
      conv => whnf
      rintro (_|_) hb2
      · have hb2 := hb2.f
        conv => whnf
        repeat (first | (refine cmpT (by omega) ?_; conv => whnf) | (refine cmpF (by omega) ?_; conv => whnf) | (refine ⟨_, wid (by omega), ?_⟩; conv => whnf) | (refine ⟨⟨by omega, by omega⟩, ?_⟩; conv => whnf) | (refine ⟨by omega, ?_⟩; conv => whnf) | (refine ⟨_, by assumption, ?_⟩; conv => whnf) | (refine ⟨by assumption, ?_⟩; conv => whnf))
        refine Rnd.mk (k + 1) ⟨by omega, fun j hj hj2 => ?_⟩ (by omega) ⟨rfl, rfl, rfl, rfl, rfl, trivial⟩ (Hp.Le.refl _) rfl
        by_cases e : j = k
        · subst e; omega
        · exact hin j (by omega) hj2
      · have hb2 := hb2.t
        conv => whnf
        exact ⟨by rw [decide_eq_false (no (by omega))]; rfl, rfl⟩
    · have hb1 := hb1.t
      conv => whnf
      exact ⟨by rw [decide_eq_false (no (by omega))]; rfl, rfl⟩

theorem ref_spec (c t : Nat) (hc : c ≤ 20) (ht : t ≤ 60) (h : Hp) : CallP E 50 [int c, int t] h (fun r h' => r = int (R t c) ∧ Grows h h') := by
  refine enter50 (by simp) ?_
  conv => whnf
  refine ⟨(c + 1 : Nat), wie (by omega) (by omega), ?_⟩
  conv => whnf
  refine ⟨⟨by omega, by omega, by omega, by omega⟩, ?_⟩
  conv => whnf
  refine loop_inv (α := Nat) (fun i => [(6, int i), (1, int t), (0, int c), (5, slc h.next 0 (c + 1) (c + 1))]) (fun i => h.lay (.row 2 true (rowF (c + 1) fun k => if k ≤ c then R i k else 0))) (fun i => i ≤ t) (fun i => t - i) 0 (by omega) ⟨rfl, rfl, rfl, rfl, trivial⟩ ?_ ?_
  · have e : rowF (c + 1) (fun k => if k ≤ c then R 0 k else 0) = times [int 0] (c + 1) := by
      rw [times_zero, rowF_congr (g := fun _ => 0) (fun k _ => by simp [R])]
    rw [e]; exact Hp.Le.refl _
  intro i φ hi
  conv => whnf
  rintro (_|_) hb
  · have hb := hb.f
    have : i = t := by omega
    subst this
    conv => whnf
    refine ⟨rfl, ⟨by omega, by omega⟩, ?_⟩
    conv => whnf
    refine ⟨int (if c ≤ c then R i c else 0), cellAt_lay (rowF_get (by show c < c + 1; omega)), ?_⟩
    conv => whnf
    refine ⟨?_, Grows.lay _ _⟩
    show int (if c ≤ c then R i c else 0) = _
    rw [if_pos (Nat.le_refl _)]
  · have hb := hb.t
    have hlt : i < t := by omega
    conv => whnf
    refine loop_inv (α := Nat) (fun j => [(7, int j), (6, int i), (1, int t), (0, int c), (5, slc h.next 0 (c + 1) (c + 1))]) (fun j => h.lay (.row 2 true (rowF (c + 1) (mid i c j)))) (fun j => j ≤ c) (fun j => j) c (by omega) ⟨rfl, rfl, rfl, rfl, rfl, trivial⟩ ?_ ?_
    · rw [rowF_congr (fun k _ => mid_start i c k)]; exact Hp.Le.refl _
    intro j φ hj
    conv => whnf
    rintro (_|_) hb2
    · have hb2 := hb2.f
      have : j = 0 := by omega
      subst this
      conv => whnf
      refine ⟨_, wid (by omega), ?_⟩
      conv => whnf
      refine Rnd.mk (i + 1) (by omega) (by omega) ⟨rfl, rfl, rfl, rfl, trivial⟩ ?_ rfl
      rw [rowF_congr (fun k _ => mid_end i c k)]; exact Hp.Le.refl _
    · have hb2 := hb2.t
      obtain ⟨j, rfl⟩ : ∃ j', j = j' + 1 := ⟨j - 1, by omega⟩
      have m1 := @mid_lt i c (j + 1) (j + 1) (by omega)
      have m2 := @mid_lt i c (j + 1) j (by omega)
      conv => whnf
      refine ⟨rfl, ⟨by omega, by omega⟩, ?_⟩
      conv => whnf
      refine ⟨int (mid i c (j + 1) (j + 1)), cellAt_lay (rowF_get (by show j + 1 < c + 1; omega)), ?_⟩
      conv => whnf
      refine ⟨_, wid (by omega), ?_⟩
      conv => whnf
      refine ⟨(j : Nat), wie (by omega) (by omega), ?_⟩
      conv => whnf
      refine ⟨rfl, ⟨by omega, by omega⟩, ?_⟩
      conv => whnf
      refine ⟨int (mid i c (j + 1) j), cellAt_lay (rowF_get (by show j < c + 1; omega)), ?_⟩
      conv => whnf
      refine ⟨_, wid (by omega), ?_⟩
      conv => whnf
      refine ⟨rfl, ⟨by omega, by omega⟩, ?_⟩
      conv => whnf
      refine ⟨rfl, _, storeAt_lay (by rw [rowF_length]; show j + 1 < c + 1; omega) rfl, ?_⟩
      conv => whnf
      refine ⟨(j : Nat), wie (by omega) (by omega), ?_⟩
      conv => whnf
      refine Rnd.mk j (by omega) (by omega) ⟨rfl, rfl, rfl, rfl, rfl, trivial⟩ ?_ rfl
      have e : (rowF (c + 1) (mid i c (j + 1))).set (j + 1) (int (mid i c (j + 1) (j + 1) + 1 + mid i c (j + 1) j)) = rowF (c + 1) (mid i c j) := by
        rw [rowF_set, rowF_congr (fun k _ => (by rw [← mid_step i c j (by omega) k]; split <;> omega : _ = mid i c j k))]
      rw [← e]; exact Hp.Le.refl _

theorem R_le_succ : ∀ t c, R t c ≤ R (t + 1) c
  | 0, c => (R_bd 1 c).1
  | t + 1, 0 => by simp [R]
  | t + 1, c + 1 => by
    have h1 := R_le_succ t (c + 1)
    have h2 := R_le_succ t c
    simp only [R] at h1 h2 ⊢
    have e1 : R (t + 2) (c + 1) = R (t + 1) (c + 1) + R (t + 1) c + 1 := rfl
    have e2 : R (t + 1) (c + 1) = R t (c + 1) + R t c + 1 := rfl
    omega

theorem within1 {low high c : Int} {h : Hp} {e : TypeId} {x : Bool} {Q : Value → Hp → Prop} (k : ∀ b, BoolOf b (low ≤ c ∧ c ≤ high) → Q (.bool b) (h.lay (.row e x [int c]))) : CallP E 55 [int low, int high, slc h.next 0 1 1] (h.lay (.row e x [int c])) Q := by
  refine CallP.mono (within_spec low high (slc h.next 0 1 1) [c] _ (ints_of_row (l := [c]) (Hp.at_lay_self _ _) ?_) (by simp)) ?_
  · intro k hk
    have : k = 0 := by simpa using hk
    subst this; rfl
  rintro v h' ⟨rfl, rfl⟩
  refine k _ ?_
  unfold BoolOf
  simp

/-- search.Steps -/
theorem steps_spec (c t : Int) (h : Hp) :
    CallP E 49 [int c, int t] h (fun r h' => ∃ s e : Int, r = .tuple ⟨[int s, int e]⟩ ∧ ((0 ≤ c ∧ c ≤ 20 ∧ 0 ≤ t ∧ t ≤ 60) → s = R t.toNat c.toNat ∧ e = 0) ∧ (¬ (0 ≤ c ∧ c ≤ 20 ∧ 0 ≤ t ∧ t ≤ 60) → s = 0 ∧ e = 1) ∧ Grows h h') := by
  refine enter49 (by simp) ?_
  conv => whnf
  refine within1 ?_
  rintro (_|_) hb
  · have hb := hb.f
    conv => whnf
    exact ⟨0, 1, rfl, by omega, fun _ => ⟨rfl, rfl⟩, .lay _ _⟩
  have hb := hb.t
  conv => whnf
  refine within1 ?_
  rintro (_|_) hb2
  · have hb2 := hb2.f
    conv => whnf
    exact ⟨0, 1, rfl, by omega, fun _ => ⟨rfl, rfl⟩, (Grows.lay _ _).then_lay _⟩
  have hb2 := hb2.t
  conv => whnf
  obtain ⟨c, rfl⟩ := Int.eq_ofNat_of_zero_le hb.1
  obtain ⟨t, rfl⟩ := Int.eq_ofNat_of_zero_le hb2.1
  refine CallP.mono (reach_spec c t (by omega) (by omega) _) ?_
  rintro v h' ⟨rfl, hg⟩
  conv => whnf
  exact ⟨R t c, 0, rfl, fun _ => ⟨rfl, rfl⟩, by omega, ((Grows.lay _ _).then_lay _).trans hg⟩

/-- The least number of tries for so many steps, if there is one up to 60. -/
def Least (c : Nat) (n : Int) (t : Nat) : Prop := t ≤ 60 ∧ n ≤ R t c ∧ ∀ j < t, R j c < n
theorem Least.uniq {c : Nat} {n : Int} {t t' : Nat} (a : Least c n t) (b : Least c n t') : t = t' := by
  rcases Nat.lt_trichotomy t t' with h | h | h
  · have := b.2.2 t h; have := a.2.1; omega
  · exact h
  · have := a.2.2 t' h; have := b.2.1; omega

/-- search.Tries -/
theorem tries_spec (c n : Int) (h : Hp) :
    CallP E 51 [int c, int n] h (fun r h' => ∃ s e : Int, r = .tuple ⟨[int s, int e]⟩ ∧ (¬ (1 ≤ c ∧ c ≤ 20 ∧ 0 ≤ n ∧ n ≤ 1000000000000) → s = 0 ∧ e = 1) ∧
      ((1 ≤ c ∧ c ≤ 20 ∧ 0 ≤ n ∧ n ≤ 1000000000000) → (e = 0 ∧ ∃ t : Nat, s = t ∧ Least c.toNat n t) ∨ (e = 8 ∧ s = 0 ∧ ∀ t ≤ 60, R t c.toNat < n)) ∧ Grows h h') := by
  refine enter51 (by simp) ?_
  conv => whnf
  refine within1 ?_
  rintro (_|_) hb
  · have hb := hb.f
    conv => whnf
    exact ⟨0, 1, rfl, fun _ => ⟨rfl, rfl⟩, by omega, .lay _ _⟩
  have hb := hb.t
  conv => whnf
  rintro (_|_) hb2
  rotate_left
  · have hb2 := hb2.t
    conv => whnf
    exact ⟨0, 1, rfl, fun _ => ⟨rfl, rfl⟩, by omega, .lay _ _⟩
  have hb2 := hb2.f
  conv => whnf
  rintro (_|_) hb3
  rotate_left
  · have hb3 := hb3.t
    conv => whnf
    exact ⟨0, 1, rfl, fun _ => ⟨rfl, rfl⟩, by omega, .lay _ _⟩
  have hb3 := hb3.f
  obtain ⟨c, rfl⟩ := Int.eq_ofNat_of_zero_le (show 0 ≤ c by omega)
  conv => whnf
  refine loop_inv (α := Nat × Hp) (fun a => [(19, int a.1), (0, int c), (1, int n)]) (fun a => a.2) (fun a => a.1 ≤ 61 ∧ Grows h a.2 ∧ ∀ j < a.1, R j c < n) (fun a => 61 - a.1) (0, _) ⟨by omega, .lay _ _, by omega⟩ ⟨rfl, rfl, rfl, trivial⟩ (Hp.Le.refl _) ?_
  rintro ⟨i, h1⟩ φ ⟨hi, hg, hl⟩
  conv => whnf
  rintro (_|_) hb4
  · have hb4 := hb4.f
    conv => whnf
    refine ⟨0, 8, rfl, by omega, fun _ => .inr ⟨rfl, rfl, fun t ht => hl t ?_⟩, hg⟩
    show t < i
    omega
  have hb4 := hb4.t
  conv => whnf
  refine CallP.mono (reach_spec c i (by omega) (by omega) _) ?_
  rintro v h' ⟨rfl, hg'⟩
  conv => whnf
  rintro (_|_) hb5
  · have hb5 := hb5.f
    conv => whnf
    refine ⟨_, wid (by omega), ?_⟩
    conv => whnf
    refine Rnd.mk (i + 1, h') ⟨by show i + 1 ≤ 61; omega, hg.trans hg', fun j hj => ?_⟩ (by show 61 - (i + 1) < 61 - i; omega) ⟨rfl, rfl, rfl, trivial⟩ (Hp.Le.refl _) rfl
    by_cases e : j = i
    · subst e; omega
    · exact hl j (by have : j < i + 1 := hj; show j < i; omega)
  · have hb5 := hb5.t
    conv => whnf
    exact ⟨i, 0, rfl, by omega, fun _ => .inl ⟨rfl, i, rfl, by omega, by show n ≤ R i c; omega, hl⟩, hg.trans hg'⟩

/-- search.Drop -/
theorem drop_spec (c n : Int) (h : Hp) :
    CallP E 52 [int c, int n] h (fun r h' => ∃ s e : Int, r = .tuple ⟨[int s, int e]⟩ ∧ (¬ (1 ≤ c ∧ c ≤ 20 ∧ 1 ≤ n ∧ n ≤ 1000000000000) → s = 0 ∧ e = 1) ∧
      ((1 ≤ c ∧ c ≤ 20 ∧ 1 ≤ n ∧ n ≤ 1000000000000) → (e = 0 ∧ ∃ t : Nat, s = n - R t c.toNat ∧ Least c.toNat n (t + 1)) ∨ (e = 8 ∧ s = 0 ∧ ∀ t ≤ 60, R t c.toNat < n)) ∧ Grows h h') := by
  refine enter52 (by simp) ?_
  conv => whnf
  refine CallP.mono (tries_spec c n h) ?_
  rintro v h' ⟨s, e, rfl, bad, good, hg⟩
  conv => whnf
  by_cases hr : 1 ≤ c ∧ c ≤ 20 ∧ 0 ≤ n ∧ n ≤ 1000000000000
  rotate_left
  · obtain ⟨rfl, rfl⟩ := bad hr
    refine cmpT (by omega) ?_
    conv => whnf
    exact ⟨0, 1, rfl, fun _ => ⟨rfl, rfl⟩, by omega, hg⟩
  rcases good hr with ⟨rfl, t, rfl, hle⟩ | ⟨rfl, rfl, hle⟩
  rotate_left
  · refine cmpT (by omega) ?_
    conv => whnf
    refine ⟨0, 8, rfl, fun hn => ?_, fun _ => .inr ⟨rfl, rfl, hle⟩, hg⟩
    have := hle 0 (by omega)
    rw [show R 0 c.toNat = 0 from rfl] at this
    omega
  refine cmpF (by omega) ?_
  conv => whnf
  rintro (_|_) hb
  rotate_left
  · have hb := hb.t
    conv => whnf
    exact ⟨0, 1, rfl, fun _ => ⟨rfl, rfl⟩, by omega, hg⟩
  have hb := hb.f
  cases t with
  | zero =>
    have := hle.2.1
    rw [show R 0 c.toNat = 0 from rfl] at this
    omega
  | succ t =>
  obtain ⟨c, rfl⟩ := Int.eq_ofNat_of_zero_le (show 0 ≤ c by omega)
  have ht := hle.1
  conv => whnf
  refine ⟨(t : Nat), wie (by omega) (by omega), ?_⟩
  conv => whnf
  refine CallP.mono (reach_spec c t (by omega) (by omega) _) ?_
  rintro v h'' ⟨rfl, hg'⟩
  have hrl := @R_lt t c (by omega)
  conv => whnf
  refine ⟨_, wid (by omega), ?_⟩
  conv => whnf
  exact ⟨n - R t c, 0, rfl, fun x => absurd (by omega) x, fun _ => .inl ⟨rfl, t, rfl, hle⟩, hg.trans hg'⟩

/-- The reference's Tries -/
theorem ref_tries_spec (c : Nat) (hc : c ≤ 20) (n : Int) (h : Hp) :
    CallP E 53 [int c, int n] h (fun r h' => ((∃ t : Nat, r = int t ∧ Least c n t) ∨ (r = int (-1) ∧ ∀ t ≤ 60, R t c < n)) ∧ Grows h h') := by
  refine enter53 (by simp) ?_
  conv => whnf
  refine loop_inv (α := Nat × Hp) (fun a => [(5, int a.1), (0, int c), (1, int n)]) (fun a => a.2) (fun a => a.1 ≤ 61 ∧ Grows h a.2 ∧ ∀ j < a.1, R j c < n) (fun a => 61 - a.1) (0, _) ⟨by omega, .refl _, by omega⟩ ⟨rfl, rfl, rfl, trivial⟩ (Hp.Le.refl _) ?_
  rintro ⟨i, h1⟩ φ ⟨hi, hg, hl⟩
  conv => whnf
  rintro (_|_) hb4
  · have hb4 := hb4.f
    conv => whnf
    refine ⟨.inr ⟨rfl, fun t ht => hl t ?_⟩, hg⟩
    show t < i
    omega
  have hb4 := hb4.t
  conv => whnf
  refine CallP.mono (ref_spec c i (by omega) (by omega) _) ?_
  rintro v h' ⟨rfl, hg'⟩
  conv => whnf
  rintro (_|_) hb5
  · have hb5 := hb5.f
    conv => whnf
    refine ⟨_, wid (by omega), ?_⟩
    conv => whnf
    refine Rnd.mk (i + 1, h') ⟨by show i + 1 ≤ 61; omega, hg.trans hg', fun j hj => ?_⟩ (by show 61 - (i + 1) < 61 - i; omega) ⟨rfl, rfl, rfl, trivial⟩ (Hp.Le.refl _) rfl
    by_cases e : j = i
    · subst e; omega
    · exact hl j (by have : j < i + 1 := hj; show j < i; omega)
  · have hb5 := hb5.t
    conv => whnf
    exact ⟨.inl ⟨i, rfl, by omega, by omega, hl⟩, hg.trans hg'⟩

end
end Go.Proofs.Yticmdpcahpimhaa
