/- The parts into which a set of nodes falls, as masks. -/
import Derived.Test.YticmdpcahpimhaaWx17
set_option linter.unusedVariables false
set_option linter.unusedSectionVars false
set_option linter.unusedSimpArgs false
namespace Go.Comp
open Go.Rx

/-- How many of the first n bits are set. -/
def cnt : Nat → Nat → Nat
  | 0, _ => 0
  | n + 1, s => cnt n s + (if s.testBit n then 1 else 0)
theorem cnt_le (n s : Nat) : cnt n s ≤ n := by
  induction n with
  | zero => exact Nat.le_refl _
  | succ n ih => unfold cnt; split <;> omega
theorem cnt_mono {s t : Nat} (h : ∀ i, s.testBit i = true → t.testBit i = true) (n : Nat) : cnt n s ≤ cnt n t := by
  induction n with
  | zero => exact Nat.le_refl _
  | succ n ih =>
    unfold cnt
    by_cases h1 : s.testBit n = true
    · rw [if_pos h1, if_pos (h n h1)]; omega
    · rw [if_neg h1]; split <;> omega
theorem cnt_lt {s t : Nat} (h : ∀ i, s.testBit i = true → t.testBit i = true) {v : Nat} (h1 : ¬ s.testBit v = true) (h2 : t.testBit v = true) : ∀ n, v < n → cnt n s < cnt n t := by
  intro n
  induction n with
  | zero => intro h; omega
  | succ n ih =>
    intro hv
    unfold cnt
    by_cases e : v = n
    · subst e
      rw [if_neg h1, if_pos h2]
      have := cnt_mono h v
      omega
    · have := ih (by omega)
      by_cases h3 : s.testBit n = true
      · rw [if_pos h3, if_pos (h n h3)]; omega
      · rw [if_neg h3]; split <;> omega
theorem cnt_pos {s v : Nat} (h2 : s.testBit v = true) (n : Nat) (hv : v < n) : 1 ≤ cnt n s := by
  have := cnt_lt (s := 0) (t := s) (fun i hi => by simp at hi) (v := v) (by simp) h2 n hv
  omega
/-- Rounds that add something unless all is closed. -/
def Prog (n : Nat) (C : Nat → Prop) (k s : Nat) : Prop := C s ∨ k + 1 ≤ cnt n s
theorem Prog.start {n : Nat} {C : Nat → Prop} {s v : Nat} (hv : v < n) (h : s.testBit v = true) : Prog n C 0 s := .inr (cnt_pos h n hv)
theorem Prog.next {n : Nat} {C : Nat → Prop} {k s t : Nat} (p : Prog n C k s) (hst : ∀ i, s.testBit i = true → t.testBit i = true) (h1 : C s → t = s) (h2 : ¬ C s → ∃ v, v < n ∧ ¬ s.testBit v = true ∧ t.testBit v = true) : Prog n C (k + 1) t := by
  by_cases hc : C s
  · left; rw [h1 hc]; exact hc
  · obtain ⟨v, hv, h3, h4⟩ := h2 hc
    have := cnt_lt hst h3 h4 n hv
    rcases p with p | p
    · exact absurd p hc
    · right; omega
theorem Prog.done {n : Nat} {C : Nat → Prop} {s : Nat} (p : Prog n C n s) : C s := by
  rcases p with p | p
  · exact p
  · have := cnt_le n s; omega

abbrev Rel := Nat → Nat → Prop
/-- What can be come to within a set. -/
inductive Reach (A : Rel) (s v : Nat) : Nat → Prop
  | refl (h : s.testBit v = true) : Reach A s v v
  | step {u w : Nat} (h : Reach A s v u) (e : A u w) (hw : s.testBit w = true) : Reach A s v w
theorem Reach.inSet {A : Rel} {s v u : Nat} (h : Reach A s v u) : s.testBit u = true := by cases h <;> assumption
def IsMask (A : Rel) (s v p : Nat) : Prop := ∀ u, p.testBit u = true ↔ Reach A s v u
theorem IsMask.uniq {A : Rel} {s v p q : Nat} (hp : IsMask A s v p) (hq : IsMask A s v q) : p = q := by
  refine Nat.eq_of_testBit_eq fun i => ?_
  have h := (hp i).trans (hq i).symm
  cases h1 : p.testBit i <;> cases h2 : q.testBit i <;> simp_all
/-- The parts of a set, by their least nodes. -/
inductive IsParts (A : Rel) : Nat → List Nat → Prop
  | nil : IsParts A 0 []
  | cons {s v p : Nat} {l : List Nat} (hv : s.testBit v = true) (hmin : ∀ u, u < v → s.testBit u = false) (hp : IsMask A s v p) (hl : IsParts A (less s p) l) : IsParts A s (p :: l)
theorem IsParts.uniq {A : Rel} {s : Nat} {l : List Nat} (h : IsParts A s l) : ∀ {m}, IsParts A s m → l = m := by
  induction h with
  | nil =>
    intro m hm
    generalize hs : (0 : Nat) = s at hm
    cases hm with
    | nil => rfl
    | cons hv => subst hs; simp at hv
  | cons hv hmin hp hl ih =>
    rename_i s v p l
    intro m hm
    generalize hs : s = s' at hm
    cases hm with
    | nil => subst hs; simp at hv
    | cons hv' hmin' hp' hl' =>
      subst hs
      rename_i v' p' l'
      have e : v = v' := by
        rcases Nat.lt_trichotomy v v' with h1 | h1 | h1
        · rw [hmin' v h1] at hv; cases hv
        · exact h1
        · rw [hmin v' h1] at hv'; cases hv'
      subst e
      have e2 := hp.uniq hp'
      subst e2
      rw [ih hl']
def Closed (A : Rel) (s p : Nat) : Prop := ∀ u w, p.testBit u = true → A u w → s.testBit w = true → p.testBit w = true
/-- A mask while it grows. -/
structure Part (A : Rel) (s v p : Nat) : Prop where
  has : p.testBit v = true
  sub : ∀ u, p.testBit u = true → Reach A s v u
theorem Part.mask {A : Rel} {s v p : Nat} (h : Part A s v p) (c : Closed A s p) : IsMask A s v p := by
  intro u
  refine ⟨h.sub u, fun hr => ?_⟩
  induction hr with
  | refl _ => exact h.has
  | step _ e hw ih => exact c _ _ ih e hw
/-- One round: all neighbours of what was there are there. -/
theorem Part.round {A : Rel} {s v p q n k : Nat} (hs : s < 2 ^ n) (h : Part A s v p) (hq : Part A s v q) (hpq : ∀ i, p.testBit i = true → q.testBit i = true) (hr : ∀ u w, p.testBit u = true → A u w → s.testBit w = true → q.testBit w = true) (pr : Prog n (Closed A s) k p) : Prog n (Closed A s) (k + 1) q := by
  refine pr.next hpq (fun hc => ?_) (fun hc => ?_)
  · refine Nat.eq_of_testBit_eq fun i => ?_
    have h1 := h.mask hc i
    have h2 : q.testBit i = true → p.testBit i = true := fun e => h1.2 (hq.sub i e)
    have h3 := hpq i
    cases e1 : q.testBit i <;> cases e2 : p.testBit i <;> simp_all
  · have hex : ∃ u w, p.testBit u = true ∧ A u w ∧ s.testBit w = true ∧ ¬ p.testBit w = true := by
      refine Classical.byContradiction fun hn => hc fun u w h1 h2 h3 => ?_
      exact Classical.byContradiction fun h4 => hn ⟨u, w, h1, h2, h3, h4⟩
    obtain ⟨u, w, h1, h2, h3, h4⟩ := hex
    refine ⟨w, ?_, h4, hr u w h1 h2 h3⟩
    rcases Nat.lt_or_ge w n with h5 | h5
    · exact h5
    · have : s.testBit w = false := Nat.testBit_lt_two_pow (Nat.lt_of_lt_of_le hs (Nat.pow_le_pow_right (by omega) h5))
      rw [this] at h3; cases h3
theorem mask_lt {A : Rel} {s v p n : Nat} (hs : s < 2 ^ n) (h : Part A s v p) : p < 2 ^ n := by
  refine Nat.lt_pow_two_of_testBit p fun i hi => ?_
  cases e : p.testBit i with
  | false => rfl
  | true =>
    have h1 := (h.sub i e).inSet
    rw [Nat.testBit_lt_two_pow (Nat.lt_of_lt_of_le hs (Nat.pow_le_pow_right (by omega) hi))] at h1
    cases h1
/-- The rest of a set without a part has fewer nodes, and none before. -/
theorem IsParts.snoc {A : Rel} {s0 s v p : Nat} {done : List Nat} (h : ∀ l, IsParts A s l → IsParts A s0 (done ++ l)) (hv : s.testBit v = true) (hmin : ∀ u, u < v → s.testBit u = false) (hp : IsMask A s v p) : ∀ l, IsParts A (less s p) l → IsParts A s0 ((done ++ [p]) ++ l) := by
  intro l hl
  rw [List.append_assoc]
  exact h _ (.cons hv hmin hp hl)
theorem zero_of_bits {s : Nat} (h : ∀ i, s.testBit i = false) : s = 0 := Nat.eq_of_testBit_eq fun i => by rw [h i, Nat.zero_testBit]
end Go.Comp
