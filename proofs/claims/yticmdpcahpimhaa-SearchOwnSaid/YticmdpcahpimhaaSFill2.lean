/- Contracts of the functions that SOwn comes to. -/
import Derived.Test.YticmdpcahpimhaaSFill1
set_option maxRecDepth 100000
set_option maxHeartbeats 1000000
set_option linter.unusedVariables false
set_option linter.unusedSectionVars false
set_option linter.unusedSimpArgs false
namespace Go.Proofs.Yticmdpcahpimhaa
open Go.Rx Go.RowKit
/-- A table: for each part the best choice. -/
abbrev Tab := Nat → Nat → Int × Int
def tabF (T : Tab) (c : Nat) : Int := if c % 2 = 0 then (T (c / 26) (c % 26 / 2)).1 else (T (c / 26) (c % 26 / 2)).2
def tabV (T : Tab) : List Value := rowF 338 (tabF T)
def updT (T : Tab) (a b : Nat) (x : Int × Int) : Tab := fun i j => if i = a ∧ j = b then x else T i j
theorem tabV_len (T : Tab) : (tabV T).length = 338 := rowF_length _ _
theorem tabV_one (T : Tab) : (tabV T).all oneCell = true := by
  unfold tabV rowF
  rw [List.all_eq_true]
  intro v hv
  obtain ⟨k, _, rfl⟩ := List.mem_map.1 hv
  rfl
theorem tab_cost (T : Tab) {a b : Nat} (ha : a < 13) (hb : b < 13) : (tabV T)[b * 2 + a * 26]? = some (int (T a b).1) := by
  unfold tabV
  rw [rowF_get (by omega)]
  unfold tabF
  rw [if_pos (by omega), show (b * 2 + a * 26) / 26 = a by omega, show (b * 2 + a * 26) % 26 / 2 = b by omega]
theorem tab_at (T : Tab) {a b : Nat} (ha : a < 13) (hb : b < 13) : (tabV T)[b * 2 + a * 26 + 1]? = some (int (T a b).2) := by
  unfold tabV
  rw [rowF_get (by omega)]
  unfold tabF
  rw [if_neg (by omega), show (b * 2 + a * 26 + 1) / 26 = a by omega, show (b * 2 + a * 26 + 1) % 26 / 2 = b by omega]
theorem tab_over (T : Tab) {a b : Nat} (ha : a < 13) (hb : b < 13) (x : Int × Int) : over (tabV T) (b * 2 + a * 26) [int x.1, int x.2] = tabV (updT T a b x) := by
  show ((tabV T).set (b * 2 + a * 26) (int x.1)).set (b * 2 + a * 26 + 1) (int x.2) = _
  unfold tabV
  rw [rowF_set, rowF_set]
  refine rowF_congr fun c hc => ?_
  unfold tabF updT
  by_cases h1 : c = b * 2 + a * 26 + 1
  · rw [if_pos h1, if_neg (by omega), if_pos ⟨by omega, by omega⟩]
  · rw [if_neg h1]
    by_cases h2 : c = b * 2 + a * 26
    · rw [if_pos h2, if_pos (by omega), if_pos ⟨by omega, by omega⟩]
    · rw [if_neg h2]
      by_cases h3 : c % 2 = 0
      · rw [if_pos h3, if_pos h3, if_neg (by omega)]
      · rw [if_neg h3, if_neg h3, if_neg (by omega)]
/-- The best of some candidates, as far as they have been looked at. -/
def BestUp (cand : Nat → Int) (a k : Nat) (x : Int × Int) : Prop := (k = 0 ∧ x = (0, -1)) ∨ (0 < k ∧ ∃ g : Nat, a ≤ g ∧ g < a + k ∧ x = (cand g, (g : Int)) ∧ ∀ j, a ≤ j → j < a + k → cand g ≤ cand j ∧ (j < g → cand g < cand j))
theorem BestUp.zero (cand : Nat → Int) (a : Nat) : BestUp cand a 0 (0, -1) := .inl ⟨rfl, rfl⟩
theorem BestUp.succ {cand : Nat → Int} {a k : Nat} {x : Int × Int} (h : BestUp cand a k x) : BestUp cand a (k + 1) (betterOf (if x.2 < 0 then (cand (a + k), ((a + k : Nat) : Int)) else x) (cand (a + k), ((a + k : Nat) : Int))) := by
  right
  refine ⟨by omega, ?_⟩
  rcases h with ⟨rfl, rfl⟩ | ⟨hk, g, h1, h2, rfl, h3⟩
  · refine ⟨a, by omega, by omega, ?_, fun j hj1 hj2 => ?_⟩
    · rw [if_pos (show ((0 : Int), (-1 : Int)).2 < 0 by decide)]
      unfold betterOf
      dsimp only
      rw [if_neg (by omega)]
      rfl
    · have : j = a := by omega
      subst this
      exact ⟨Int.le_refl _, fun h => by omega⟩
  · rw [if_neg (by show ¬ ((g : Int) < 0); omega)]
    unfold betterOf
    dsimp only
    by_cases hc : cand (a + k) < cand g
    · rw [if_pos hc]
      refine ⟨a + k, by omega, by omega, rfl, fun j hj1 hj2 => ?_⟩
      by_cases hjk : j = a + k
      · subst hjk; exact ⟨Int.le_refl _, fun h => by omega⟩
      · have := h3 j hj1 (by omega)
        exact ⟨by omega, fun _ => by omega⟩
    · rw [if_neg hc]
      refine ⟨g, h1, by omega, rfl, fun j hj1 hj2 => ?_⟩
      by_cases hjk : j = a + k
      · subst hjk; exact ⟨by omega, fun h => by omega⟩
      · exact h3 j hj1 (by omega)
theorem BestUp.at_nonneg {cand : Nat → Int} {a k : Nat} {x : Int × Int} (h : BestUp cand a k x) (hk : 0 < k) : ∃ g : Nat, a ≤ g ∧ g < a + k ∧ x = (cand g, (g : Int)) := by
  rcases h with ⟨h0, _⟩ | ⟨_, g, h1, h2, h3, _⟩
  · omega
  · exact ⟨g, h1, h2, h3⟩
def K : Int := 13000000
abbrev CostF := Nat → Nat → Nat → Int → Int → Int
/-- What lies at a part of the table. -/
def candT (C : CostF) (T : Tab) (a b g : Nat) : Int := C a b g (T a g).1 (T (g + 1) b).1
def Good (C : CostF) (T : Tab) (a b : Nat) : Prop := BestUp (candT C T a b) a (b - a) (T a b) ∧ 0 ≤ (T a b).1 ∧ (T a b).1 ≤ K * ((b - a : Nat) : Int)
/-- What a cost function must be: as a function that can be called. -/
def Bd (m : Nat) (x : Int) : Prop := 0 ≤ x ∧ x ≤ K * (m : Int)
structure CostOk [Unknowns] (h0 : Hp) (gf : FuncId) (caps : List Value) (C : CostF) (n : Nat) : Prop where
  can : callable E gf = true
  bd : ∀ a b g x y, a ≤ g → g < b → b ≤ n → Bd (g - a) x → Bd (b - (g + 1)) y → Bd (b - a) (C a b g x y)
  call : ∀ h', Grows h0 h' → ∀ (a b g : Nat) x y, a ≤ g → g < b → b ≤ n → Bd (g - a) x → Bd (b - (g + 1)) y → CallP E gf (.agg ⟨[int a, int b]⟩ :: int g :: int x :: int y :: caps) h' (fun r h'' => r = int (C a b g x y) ∧ Grows h' h'')
/-- The table, as far as it has been filled: parts of less than len gates, and those of len gates that begin before i. -/
structure Filled (C : CostF) (n : Nat) (T : Tab) (len i : Nat) : Prop where
  good : ∀ a b, a < b → b ≤ n → (b - a < len ∨ b - a = len ∧ a < i) → Good C T a b
  diag : ∀ a, (T a a).1 = 0
def IsTab (C : CostF) (n : Nat) (T : Tab) : Prop := (∀ a b, a < b → b ≤ n → Good C T a b) ∧ ∀ a, (T a a).1 = 0
theorem Filled.bd {C : CostF} {n : Nat} {T : Tab} {len i : Nat} (h : Filled C n T len i) {a b : Nat} (hab : a ≤ b) (hb : b ≤ n) (hl : b - a < len) : Bd (b - a) (T a b).1 := by
  by_cases e : a = b
  · subst e
    rw [h.diag a]
    unfold Bd K
    omega
  · exact (h.good a b (by omega) hb (.inl hl)).2
theorem good_upd {C : CostF} {T : Tab} {a b i j : Nat} {x : Int × Int} (hij : i ≤ j) (hlen : b - a ≤ j - i) (hab : a < b) (hne : ¬ (a = i ∧ b = j)) (h : Good C T a b) : Good C (updT T i j x) a b := by
  have e1 : updT T i j x a b = T a b := by unfold updT; rw [if_neg hne]
  have e2 : ∀ g, a ≤ g → g < b → candT C (updT T i j x) a b g = candT C T a b g := by
    intro g h1 h2
    unfold candT updT
    rw [if_neg (by omega), if_neg (by omega)]
  obtain ⟨h1, h2⟩ := h
  refine ⟨?_, by rw [e1]; exact h2⟩
  rw [e1]
  rcases h1 with h1 | ⟨hk, g, g1, g2, g3, g4⟩
  · exact .inl h1
  · refine .inr ⟨hk, g, g1, g2, by rw [e2 g g1 (by omega)]; exact g3, fun j' hj1 hj2 => ?_⟩
    rw [e2 g g1 (by omega), e2 j' hj1 (by omega)]
    exact g4 j' hj1 hj2
theorem Filled.upd {C : CostF} {n : Nat} {T : Tab} {len i : Nat} {x : Int × Int} (h : Filled C n T len i) (hlen : 0 < len) (hin : i + len ≤ n) (hx : BestUp (candT C T i (i + len)) i len x) (hb : Bd len x.1) : Filled C n (updT T i (i + len) x) len (i + 1) := by
  have e1 : updT T i (i + len) x i (i + len) = x := by unfold updT; rw [if_pos ⟨rfl, rfl⟩]
  constructor
  · intro a b hab hbn hc
    by_cases he : a = i ∧ b = i + len
    · obtain ⟨rfl, rfl⟩ := he
      have e2 : ∀ g, a ≤ g → g < a + len → candT C (updT T a (a + len) x) a (a + len) g = candT C T a (a + len) g := by
        intro g h1 h2
        unfold candT updT
        rw [if_neg (by omega), if_neg (by omega)]
      refine ⟨?_, by rw [e1, show a + len - a = len by omega]; exact hb⟩
      rw [e1, show a + len - a = len by omega]
      rcases hx with hx | ⟨hk, g, g1, g2, g3, g4⟩
      · exact .inl hx
      · refine .inr ⟨hk, g, g1, g2, by rw [e2 g g1 g2]; exact g3, fun j' hj1 hj2 => ?_⟩
        rw [e2 g g1 g2, e2 j' hj1 hj2]
        exact g4 j' hj1 hj2
    · exact good_upd (by omega) (by omega) hab he (h.good a b hab hbn (by omega))
  · intro a
    unfold updT
    rw [if_neg (by omega)]
    exact h.diag a
theorem Filled.next {C : CostF} {n : Nat} {T : Tab} {len i : Nat} (h : Filled C n T len i) (hi : n < i + len) : Filled C n T (len + 1) 0 :=
  ⟨fun a b hab hb hc => h.good a b hab hb (by omega), h.diag⟩
def Z338 : List Value := tabV fun _ _ => (0, 0)
theorem tabV_zero : tabV (fun _ _ => (0, 0)) = times [int 0] 338 := by
  rw [times_zero]
  exact rowF_congr fun k _ => by unfold tabF; simp
end Go.Proofs.Yticmdpcahpimhaa
