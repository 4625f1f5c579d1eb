/- Contracts of the functions that SJorZ comes to. -/
import Derived.Test.YticmdpcahpimhaaSMarks4
import Derived.Test.YticmdpcahpimhaaSFill1
set_option maxRecDepth 100000
set_option maxHeartbeats 1000000
set_option linter.unusedVariables false
set_option linter.unusedSectionVars false
set_option linter.unusedSimpArgs false
namespace Go.Proofs.Yticmdpcahpimhaa
open Go.Rx Go.RowKit Go.Comp
open Classical in
noncomputable def partsOf (A : Comp.Rel) (S : Nat) : List Nat := if h : ∃ l, IsParts A S l then Classical.choose h else []
theorem partsOf_eq {A : Comp.Rel} {S : Nat} {l : List Nat} (h : IsParts A S l) : partsOf A S = l := by
  unfold partsOf
  rw [dif_pos ⟨l, h⟩]
  exact (Classical.choose_spec (⟨l, h⟩ : ∃ l, IsParts A S l)).uniq h
theorem partsOf_le (A : Comp.Rel) (S : Nat) : ∀ p ∈ partsOf A S, ∀ i, p.testBit i = true → S.testBit i = true := by
  intro p hp
  unfold partsOf at hp
  split at hp
  · rename_i h
    have hs := Classical.choose_spec h
    generalize Classical.choose h = l at hs hp
    clear h
    induction hs with
    | nil => simp at hp
    | @cons s v q l hv hm hq hl ih =>
      intro i hi
      rcases List.mem_cons.1 hp with rfl | hp
      · exact ((hq i).1 hi).inSet
      · have := ih hp i hi
        rw [less_bit] at this
        exact (Bool.and_eq_true _ _ ▸ this).1
  · simp at hp
def mx (l : List Int) : Int := l.foldl max 0
theorem mx_snoc (l : List Int) (x : Int) : mx (l ++ [x]) = max (mx l) x := by unfold mx; rw [List.foldl_append]; rfl
/-- The best node of a set, as far as the nodes have been looked at. -/
def scan (S : Nat) (c : Nat → Int) : Nat → Int × Int
  | 0 => (0, -1)
  | k + 1 => if S.testBit k = true then betterOf (if (scan S c k).2 < 0 then (c k, (k : Int)) else scan S c k) (c k, (k : Int)) else scan S c k
theorem scan_congr {S : Nat} {c d : Nat → Int} : ∀ {k : Nat}, (∀ v, v < k → S.testBit v = true → c v = d v) → scan S c k = scan S d k
  | 0, _ => rfl
  | k + 1, h => by
    show (if S.testBit k = true then _ else _) = (if S.testBit k = true then _ else _)
    rw [scan_congr fun v hv => h v (by omega)]
    by_cases e : S.testBit k = true
    · rw [if_pos e, if_pos e, h k (by omega) e]
    · rw [if_neg e, if_neg e]
noncomputable def bst (A : Comp.Rel) (n : Nat) : Nat → Nat → Int × Int
  | 0, _ => (0, -1)
  | m + 1, S => scan S (fun v => mx ((partsOf A (less S (2 ^ v))).map fun p => 1 + (bst A n m p).1)) n
theorem less_cnt {n S v : Nat} (hv : v < n) (hb : S.testBit v = true) : cnt n (less S (2 ^ v)) < cnt n S := by
  refine cnt_lt (fun i hi => ?_) (v := v) ?_ hb n hv
  · rw [less_bit] at hi
    exact (Bool.and_eq_true _ _ ▸ hi).1
  · rw [less_bit, Nat.testBit_two_pow]; simp
theorem part_cnt (A : Comp.Rel) {n S v p : Nat} (hv : v < n) (hb : S.testBit v = true) (hp : p ∈ partsOf A (less S (2 ^ v))) : cnt n p < cnt n S :=
  Nat.lt_of_le_of_lt (cnt_mono (partsOf_le A _ p hp) n) (less_cnt hv hb)
theorem bst_fuel (A : Comp.Rel) (n : Nat) : ∀ (m k S : Nat), cnt n S ≤ m → cnt n S ≤ k → bst A n m S = bst A n k S := by
  have zero : ∀ S, cnt n S = 0 → ∀ (c : Nat → Int) j, j ≤ n → scan S c j = (0, -1) := by
    intro S h0 c j
    induction j with
    | zero => intro _; rfl
    | succ j ih =>
      intro hj
      show (if S.testBit j = true then _ else _) = _
      rw [if_neg, ih (by omega)]
      intro hb
      have := cnt_pos hb n (by omega)
      omega
  intro m
  induction m with
  | zero =>
    intro k S h1 h2
    have h0 : cnt n S = 0 := by omega
    cases k with
    | zero => rfl
    | succ k => exact (zero S h0 _ n (Nat.le_refl _)).symm
  | succ m ih =>
    intro k S h1 h2
    cases k with
    | zero =>
      have h0 : cnt n S = 0 := by omega
      exact zero S h0 _ n (Nat.le_refl _)
    | succ k =>
      refine scan_congr fun v hv hb => ?_
      refine congrArg mx (List.map_congr_left fun p hp => ?_)
      have := part_cnt A hv hb hp
      rw [ih k p (by omega) (by omega)]
/-- The best choice for a set. -/
noncomputable def B (A : Comp.Rel) (n S : Nat) : Int × Int := bst A n (n + 1) S
noncomputable def nodeC (A : Comp.Rel) (n S v : Nat) : Int := mx ((partsOf A (less S (2 ^ v))).map fun p => 1 + (B A n p).1)
theorem B_step (A : Comp.Rel) (n S : Nat) : B A n S = scan S (nodeC A n S) n := by
  refine scan_congr fun v hv hb => ?_
  refine congrArg mx (List.map_congr_left fun p hp => ?_)
  have h1 := part_cnt A hv hb hp
  have h2 := cnt_le n S
  unfold B
  rw [bst_fuel A n n (n + 1) p (by omega) (by omega)]
theorem mx_bd {l : List Int} {M : Int} (h0 : 0 ≤ M) (h : ∀ x ∈ l, 0 ≤ x ∧ x ≤ M) : 0 ≤ mx l ∧ mx l ≤ M := by
  have key : ∀ (l : List Int) (a : Int), 0 ≤ a → a ≤ M → (∀ x ∈ l, 0 ≤ x ∧ x ≤ M) → 0 ≤ l.foldl max a ∧ l.foldl max a ≤ M := by
    intro l
    induction l with
    | nil => intro a h1 h2 _; exact ⟨h1, h2⟩
    | cons x l ih =>
      intro a h1 h2 h3
      have := h3 x (by simp)
      exact ih _ (by omega) (by omega) fun y hy => h3 y (by simp [hy])
  exact key l 0 (Int.le_refl _) h0 h
theorem scan_bd {S : Nat} {c : Nat → Int} {M : Int} : ∀ {k : Nat}, (∀ v, v < k → S.testBit v = true → 0 ≤ c v ∧ c v ≤ M) → (scan S c k = (0, -1) ∧ ∀ v, v < k → S.testBit v = false) ∨ ∃ v : Nat, v < k ∧ S.testBit v = true ∧ scan S c k = (c v, (v : Int))
  | 0, _ => .inl ⟨rfl, fun v hv => absurd hv (Nat.not_lt_zero _)⟩
  | k + 1, h => by
    have ih := scan_bd (S := S) (c := c) (M := M) (k := k) fun v hv => h v (by omega)
    have e0 : scan S c (k + 1) = if S.testBit k = true then betterOf (if (scan S c k).2 < 0 then (c k, (k : Int)) else scan S c k) (c k, (k : Int)) else scan S c k := rfl
    by_cases e : S.testBit k = true
    · right
      rw [e0, if_pos e]
      rcases ih with ⟨h1, h2⟩ | ⟨v, h1, h2, h3⟩
      · refine ⟨k, by omega, e, ?_⟩
        rw [h1, if_pos (by decide)]
        unfold betterOf
        split <;> rfl
      · rw [h3, if_neg (by show ¬ (v : Int) < 0; omega)]
        unfold betterOf
        split
        · exact ⟨k, by omega, e, rfl⟩
        · exact ⟨v, by omega, h2, rfl⟩
    · rw [e0, if_neg e]
      rcases ih with ⟨h1, h2⟩ | ⟨v, h1, h2, h3⟩
      · refine .inl ⟨h1, fun v hv => ?_⟩
        by_cases ev : v = k
        · subst ev; simpa using e
        · exact h2 v (by omega)
      · exact .inr ⟨v, by omega, h2, h3⟩
theorem B_bd (A : Comp.Rel) (n : Nat) : ∀ (m S : Nat), cnt n S ≤ m → 0 ≤ (B A n S).1 ∧ (B A n S).1 ≤ cnt n S := by
  intro m
  induction m with
  | zero =>
    intro S h
    rw [B_step]
    rcases scan_bd (S := S) (c := nodeC A n S) (M := 0) (k := n) (fun v hv hb => by have := cnt_pos hb n hv; omega) with ⟨h1, _⟩ | ⟨v, h1, h2, h3⟩
    · rw [h1]; show (0 : Int) ≤ 0 ∧ (0 : Int) ≤ cnt n S; omega
    · have := cnt_pos h2 n h1; omega
  | succ m ih =>
    intro S h
    have hc : ∀ v, v < n → S.testBit v = true → 0 ≤ nodeC A n S v ∧ nodeC A n S v ≤ (cnt n S : Int) := by
      intro v hv hb
      refine mx_bd (by omega) fun x hx => ?_
      obtain ⟨p, hp, rfl⟩ := List.mem_map.1 hx
      have h1 := part_cnt A hv hb hp
      have h2 := ih p (by omega)
      omega
    rw [B_step]
    rcases scan_bd hc with ⟨h1, _⟩ | ⟨v, h1, h2, h3⟩
    · rw [h1]; show (0 : Int) ≤ 0 ∧ (0 : Int) ≤ cnt n S; omega
    · rw [h3]; exact hc v h1 h2
end Go.Proofs.Yticmdpcahpimhaa
