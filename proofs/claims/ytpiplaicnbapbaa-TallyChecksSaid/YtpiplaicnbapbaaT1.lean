/- Contracts of the functions that T27 comes to. -/
import Derived.Test.YtpiplaicnbapbaaCodeT27
import Derived.Test.YtpiplaicnbapbaaWx12
import Derived.Test.YtpiplaicnbapbaaWx13
import Derived.Test.YtpiplaicnbapbaaWx14
import Derived.Test.YtpiplaicnbapbaaWx16
import Derived.Test.YtpiplaicnbapbaaWx18
import Derived.Test.YtpiplaicnbapbaaWx22
import Derived.Test.YtpiplaicnbapbaaWx23
import Derived.Test.YtpiplaicnbapbaaWx24
set_option maxRecDepth 100000
set_option maxHeartbeats 1000000
set_option linter.unusedVariables false
set_option linter.unusedSectionVars false
set_option linter.unusedSimpArgs false
namespace Go.Proofs.Ytpiplaicnbapbaa
open Go.Rx Go.RowKit
attribute [local irreducible] E idxN cellAt cellsAt storeAt callable helems hmoved lookIn findKey keyOk hentries Hp.at Hp.set Hp.lay arBits hupdated setAt CallP YieldP BoolOf IsWrap Rnd LoopP AppP CutP Int.tmod Int.tdiv Int.fdiv
theorem sum_bd : ∀ (l : List Int), (∀ x ∈ l, 0 ≤ x ∧ x ≤ 1000000) → 0 ≤ l.sum ∧ l.sum ≤ 1000000 * l.length
  | [], _ => by simp
  | x :: l, h => by
    have h1 := h x (by simp)
    have h2 := sum_bd l (fun y hy => h y (by simp [hy]))
    simp only [List.sum_cons, List.length_cons]
    omega
section
variable [Unknowns]
theorem within_spec (low high : Int) (v : Value) (l : List Int) (h : Hp) (hv : Ints h v l) (hl : l.length ≤ 1000000) : CallP E 60 [int low, int high, v] h (fun r h' => r = .bool (decide (∀ x ∈ l, low ≤ x ∧ x ≤ high)) ∧ h' = h) := by
  obtain ⟨a, cap, rfl, hc⟩ := hv
  refine enter60 (by simp) ?_
  ((conv => whnf); repeat (refine SeqP.go ?_; conv => whnf))
  refine loop_inv (α := Nat) (fun k => [(11, int k), (10, int l.length), (9, .slice a l.length cap), (0, int low), (1, int high)]) (fun _ => h) (fun k => k ≤ l.length ∧ ∀ j, (hj : j < k) → (hj2 : j < l.length) → low ≤ l[j] ∧ l[j] ≤ high) (fun k => l.length - k) 0 ⟨by omega, fun j hj => by omega⟩ ⟨rfl, rfl, rfl, rfl, rfl, trivial⟩ (Hp.Le.refl _) ?_
  rintro k φ ⟨hk, hin⟩
  ((conv => whnf); repeat (refine SeqP.go ?_; conv => whnf))
  rintro (_|_) hb
  · have hb := hb.f
    ((conv => whnf); repeat (refine SeqP.go ?_; conv => whnf))
    refine ⟨?_, rfl⟩
    have : (∀ x ∈ l, low ≤ x ∧ x ≤ high) := by
      intro x hx
      obtain ⟨j, hj, rfl⟩ := List.getElem_of_mem hx
      exact hin j (by omega) hj
    rw [decide_eq_true this]; rfl
  · have hb := hb.t
    have hk' : k < l.length := by omega
    obtain ⟨r, o, sp, rfl, hsp, hcell⟩ := hc k hk'
    have no : ¬ (low ≤ l[k] ∧ l[k] ≤ high) → ¬ (∀ x ∈ l, low ≤ x ∧ x ≤ high) := fun h1 h2 => h1 (h2 _ (List.getElem_mem hk'))
    ((conv => whnf); repeat (refine SeqP.go ?_; conv => whnf))
    repeat (first | (refine cmpT (by omega) ?_; ((conv => whnf); repeat (refine SeqP.go ?_; conv => whnf))) | (refine cmpF (by omega) ?_; ((conv => whnf); repeat (refine SeqP.go ?_; conv => whnf))) | (refine ⟨_, wid (by omega), ?_⟩; ((conv => whnf); repeat (refine SeqP.go ?_; conv => whnf))) | (refine ⟨⟨by omega, by omega⟩, ?_⟩; ((conv => whnf); repeat (refine SeqP.go ?_; conv => whnf))) | (refine ⟨by omega, ?_⟩; ((conv => whnf); repeat (refine SeqP.go ?_; conv => whnf))) | (refine ⟨_, by assumption, ?_⟩; ((conv => whnf); repeat (refine SeqP.go ?_; conv => whnf))) | (refine ⟨by assumption, ?_⟩; ((conv => whnf); repeat (refine SeqP.go ?_; conv => whnf))))
    rintro (_|_) hb1
    · have hb1 := hb1.f
      ((conv => whnf); repeat (refine SeqP.go ?_; conv => whnf))
      rintro (_|_) hb2
      · have hb2 := hb2.f
        ((conv => whnf); repeat (refine SeqP.go ?_; conv => whnf))
        repeat (first | (refine cmpT (by omega) ?_; ((conv => whnf); repeat (refine SeqP.go ?_; conv => whnf))) | (refine cmpF (by omega) ?_; ((conv => whnf); repeat (refine SeqP.go ?_; conv => whnf))) | (refine ⟨_, wid (by omega), ?_⟩; ((conv => whnf); repeat (refine SeqP.go ?_; conv => whnf))) | (refine ⟨⟨by omega, by omega⟩, ?_⟩; ((conv => whnf); repeat (refine SeqP.go ?_; conv => whnf))) | (refine ⟨by omega, ?_⟩; ((conv => whnf); repeat (refine SeqP.go ?_; conv => whnf))) | (refine ⟨_, by assumption, ?_⟩; ((conv => whnf); repeat (refine SeqP.go ?_; conv => whnf))) | (refine ⟨by assumption, ?_⟩; ((conv => whnf); repeat (refine SeqP.go ?_; conv => whnf))))
        refine Rnd.mk (k + 1) ⟨by omega, fun j hj hj2 => ?_⟩ (by omega) ⟨rfl, rfl, rfl, rfl, rfl, trivial⟩ (Hp.Le.refl _) rfl
        by_cases e : j = k
        · subst e; omega
        · exact hin j (by omega) hj2
      · have hb2 := hb2.t
        ((conv => whnf); repeat (refine SeqP.go ?_; conv => whnf))
        exact ⟨by rw [decide_eq_false (no (by omega))]; rfl, rfl⟩
    · have hb1 := hb1.t
      ((conv => whnf); repeat (refine SeqP.go ?_; conv => whnf))
      exact ⟨by rw [decide_eq_false (no (by omega))]; rfl, rfl⟩
theorem sum_spec (v : Value) (l : List Int) (h : Hp) (hv : Ints h v l) (hl : l.length ≤ 1000000) (hin : ∀ x ∈ l, 0 ≤ x ∧ x ≤ 1000000) : CallP E 90 [v] h (fun r h' => r = int l.sum ∧ h' = h) := by
  obtain ⟨a, cap, rfl, hc⟩ := id hv
  refine enter90 (by simp) ?_
  ((conv => whnf); repeat (refine SeqP.go ?_; conv => whnf))
  refine loop_inv (α := Nat) (fun k => [(8, int k), (7, int l.length), (6, .slice a l.length cap), (3, int (l.take k).sum)]) (fun _ => h) (fun k => k ≤ l.length) (fun k => l.length - k) 0 (by omega) ⟨rfl, rfl, rfl, rfl, trivial⟩ (Hp.Le.refl _) ?_
  intro k φ hk
  ((conv => whnf); repeat (refine SeqP.go ?_; conv => whnf))
  refine cmpB (fun hb => ?_) (fun hb => ?_)
  · have hk' : k < l.length := by omega
    obtain ⟨r, o, sp, rfl, hsp, hcell⟩ := hc k hk'
    have b1 := sum_bd (l.take k) (fun x hx => hin x (List.mem_of_mem_take hx))
    have b2 := hin l[k] (List.getElem_mem hk')
    have e1 : (l.take (k + 1)).sum = (l.take k).sum + l[k] := by
      rw [List.take_succ_eq_append_getElem hk', List.sum_append]; simp
    have e2 : (l.take k).length = k := by rw [List.length_take]; omega
    ((conv => whnf); repeat (refine SeqP.go ?_; conv => whnf))
    refine ⟨hsp, ⟨by omega, by omega⟩, ?_⟩
    ((conv => whnf); repeat (refine SeqP.go ?_; conv => whnf))
    refine ⟨_, hcell, ?_⟩
    ((conv => whnf); repeat (refine SeqP.go ?_; conv => whnf))
    refine ⟨(l.take (k + 1)).sum, wie e1.symm (by rw [e1]; rw [e2] at b1; omega), ?_⟩
    ((conv => whnf); repeat (refine SeqP.go ?_; conv => whnf))
    refine ⟨_, wid (by omega), ?_⟩
    ((conv => whnf); repeat (refine SeqP.go ?_; conv => whnf))
    exact Rnd.mk (k + 1) (by omega) (by omega) ⟨rfl, rfl, rfl, rfl, trivial⟩ (Hp.Le.refl _) rfl
  · have : k = l.length := by omega
    subst this
    ((conv => whnf); repeat (refine SeqP.go ?_; conv => whnf))
    refine ⟨?_, rfl⟩
    show int (l.take l.length).sum = _
    rw [List.take_length]
theorem isnan_spec (a : Int) (h : Hp) : CallP E 105 [int a] h (fun r h' => r = .bool false ∧ h' = h) := by
  refine enter105 (by simp) ?_
  ((conv => whnf); repeat (refine SeqP.go ?_; conv => whnf))
  refine cmpF (by omega) ?_
  ((conv => whnf); repeat (refine SeqP.go ?_; conv => whnf))
  exact ⟨rfl, rfl⟩
def cmpI (a b : Int) : Int := if a < b then -1 else if b < a then 1 else 0
theorem cmp_spec (a b : Int) (h : Hp) : CallP E 89 [int a, int b] h (fun r h' => r = int (cmpI a b) ∧ h' = h) := by
  refine enter89 (by simp) ?_
  ((conv => whnf); repeat (refine SeqP.go ?_; conv => whnf))
  refine CallP.mono (isnan_spec a h) ?_
  rintro r h1 ⟨rfl, rfl⟩
  ((conv => whnf); repeat (refine SeqP.go ?_; conv => whnf))
  refine CallP.mono (isnan_spec b h1) ?_
  rintro r h2 ⟨rfl, rfl⟩
  ((conv => whnf); repeat (refine SeqP.go ?_; conv => whnf))
  by_cases h3 : a < b
  · refine cmpT h3 ?_
    ((conv => whnf); repeat (refine SeqP.go ?_; conv => whnf))
    exact ⟨by unfold cmpI; rw [if_pos h3]; rfl, rfl⟩
  refine cmpF h3 ?_
  ((conv => whnf); repeat (refine SeqP.go ?_; conv => whnf))
  by_cases h4 : b < a
  · refine cmpT h4 ?_
    ((conv => whnf); repeat (refine SeqP.go ?_; conv => whnf))
    exact ⟨by unfold cmpI; rw [if_neg h3, if_pos h4]; rfl, rfl⟩
  refine cmpF h4 ?_
  ((conv => whnf); repeat (refine SeqP.go ?_; conv => whnf))
  exact ⟨by unfold cmpI; rw [if_neg h3, if_neg h4]; rfl, rfl⟩
def PLess (x y : Int × Int) : Prop := x.1 < y.1 ∨ x.1 = y.1 ∧ x.2 < y.2
theorem compare_spec (v w : Value) (x y : Int × Int) (h : Hp) (hv : Ints h v [x.1, x.2]) (hw : Ints h w [y.1, y.2]) : CallP E 61 [v, w] h (fun r h' => (∃ c : Int, r = int c ∧ (c < 0 ↔ PLess x y) ∧ (c = 0 ↔ x = y)) ∧ h' = h) := by
  obtain ⟨a, b⟩ := x
  obtain ⟨c, d⟩ := y
  obtain ⟨av, cap, rfl, hc⟩ := id hv
  obtain ⟨aw, cap', rfl, hd⟩ := id hw
  obtain ⟨r, o, sp, e, hsp, hc0⟩ := hc 0 (by simp)
  subst e
  obtain ⟨r', o', sp', e, hsp', hd0⟩ := hd 0 (by simp)
  subst e
  have hc1 : cellAt h r (1 + o) = some (int b) := by
    obtain ⟨_, _, _, e, _, h1⟩ := hc 1 (by simp)
    cases e
    exact h1
  have hd1 : cellAt h r' (1 + o') = some (int d) := by
    obtain ⟨_, _, _, e, _, h1⟩ := hd 1 (by simp)
    cases e
    exact h1
  refine enter61 (by simp) ?_
  ((conv => whnf); repeat (refine SeqP.go ?_; conv => whnf))
  refine loop_inv (α := Nat) (fun k => [(11, int k), (10, int 2), (9, .slice (some ⟨r, o, sp⟩) 2 cap), (0, .slice (some ⟨r, o, sp⟩) 2 cap), (1, .slice (some ⟨r', o', sp'⟩) 2 cap')]) (fun _ => h) (fun k => k ≤ 2 ∧ (1 ≤ k → a = c) ∧ (2 ≤ k → b = d)) (fun k => 2 - k) 0 ⟨by omega, by omega, by omega⟩ ⟨rfl, rfl, rfl, rfl, rfl, trivial⟩ (Hp.Le.refl _) ?_
  rintro k φ ⟨hk, h1, h2⟩
  have hk3 : k = 0 ∨ k = 1 ∨ k = 2 := by omega
  ((conv => whnf); repeat (refine SeqP.go ?_; conv => whnf))
  refine cmpB (fun hb => ?_) (fun hb => ?_)
  rotate_left
  · have : k = 2 := by omega
    subst this
    ((conv => whnf); repeat (refine SeqP.go ?_; conv => whnf))
    refine cmpF (by omega) ?_
    ((conv => whnf); repeat (refine SeqP.go ?_; conv => whnf))
    refine ⟨⟨0, rfl, ?_, ?_⟩, rfl⟩
    · unfold PLess; dsimp only; omega
    · rw [Prod.mk.injEq]; omega
  have hx : ∃ x : Int, cellAt h r (k + o) = some (int x) ∧ (k = 0 ∧ x = a ∨ k = 1 ∧ x = b) := by
    rcases hk3 with rfl | rfl | rfl
    · exact ⟨a, hc0, .inl ⟨rfl, rfl⟩⟩
    · exact ⟨b, hc1, .inr ⟨rfl, rfl⟩⟩
    · omega
  have hy : ∃ y : Int, cellAt h r' (k + o') = some (int y) ∧ (k = 0 ∧ y = c ∨ k = 1 ∧ y = d) := by
    rcases hk3 with rfl | rfl | rfl
    · exact ⟨c, hd0, .inl ⟨rfl, rfl⟩⟩
    · exact ⟨d, hd1, .inr ⟨rfl, rfl⟩⟩
    · omega
  obtain ⟨x, hx1, hx2⟩ := hx
  obtain ⟨y, hy1, hy2⟩ := hy
  ((conv => whnf); repeat (refine SeqP.go ?_; conv => whnf))
  refine ⟨hsp, ⟨by omega, by omega⟩, ?_⟩
  ((conv => whnf); repeat (refine SeqP.go ?_; conv => whnf))
  refine ⟨_, hx1, ?_⟩
  ((conv => whnf); repeat (refine SeqP.go ?_; conv => whnf))
  refine cmpF (by omega) ?_
  ((conv => whnf); repeat (refine SeqP.go ?_; conv => whnf))
  refine ⟨hsp', ⟨by omega, by omega⟩, ?_⟩
  ((conv => whnf); repeat (refine SeqP.go ?_; conv => whnf))
  refine ⟨_, hy1, ?_⟩
  ((conv => whnf); repeat (refine SeqP.go ?_; conv => whnf))
  refine CallP.mono (cmp_spec x y h) ?_
  rintro rr h3 ⟨rfl, rfl⟩
  ((conv => whnf); repeat (refine SeqP.go ?_; conv => whnf))
  by_cases hxy : x = y
  · refine cmpF (fun hn => hn (by unfold cmpI; rw [if_neg (by omega), if_neg (by omega)])) ?_
    ((conv => whnf); repeat (refine SeqP.go ?_; conv => whnf))
    refine ⟨_, wid (by omega), ?_⟩
    ((conv => whnf); repeat (refine SeqP.go ?_; conv => whnf))
    exact Rnd.mk (k + 1) ⟨by omega, by omega, by omega⟩ (by omega) ⟨rfl, rfl, rfl, rfl, rfl, trivial⟩ (Hp.Le.refl _) rfl
  · refine cmpT (fun hn => by
      unfold cmpI at hn
      split at hn
      · omega
      · split at hn <;> omega) ?_
    ((conv => whnf); repeat (refine SeqP.go ?_; conv => whnf))
    refine ⟨⟨cmpI x y, rfl, ?_, ?_⟩, rfl⟩
    · unfold PLess cmpI; dsimp only
      constructor
      · intro h
        split at h
        · omega
        · split at h <;> omega
      · intro h
        rw [if_pos (by omega)]
        omega
    · rw [Prod.mk.injEq]
      constructor
      · intro h
        unfold cmpI at h
        split at h
        · omega
        · split at h <;> omega
      · intro h; exfalso; omega
theorem few_spec (v : Value) (l : List Int) (h : Hp) (hv : View h v l) (hl : l.length < 9223372036854775808) (most : Nat) (hm : most ≤ 100000) : CallP E 19 [v, int most] h (fun r h' => Built h h' 3 r (l.take most) ∧ Grows h h') := by
  obtain ⟨a, c, rfl⟩ := hv.known
  refine enter19 (by simp) ?_
  ((conv => whnf); repeat (refine SeqP.go ?_; conv => whnf))
  refine CutP.ints (i := 0) (j := min l.length most) hv ⟨.inl ⟨rfl, rfl⟩, .inr ?_⟩ (by omega) (by omega) ?_
  · conv => lhs; arg 1; whnf
    refine congrArg (fun n => some (Value.int .i64 n)) ?_
    split <;> omega
  intro v' hv' _ _
  ((conv => whnf); repeat (refine SeqP.go ?_; conv => whnf))
  refine AppP.ints (h0 := h) (.inl ⟨rfl, rfl⟩) (.refl _) hv'.elems (by simp; omega) ?_
  intro v2 h2 hb hg _
  have e : [] ++ ((l.drop 0).take (min l.length most - 0)) = l.take most := by
    rw [List.nil_append, List.drop_zero, Nat.sub_zero]
    by_cases hml : most ≤ l.length
    · rw [Nat.min_eq_right hml]
    · rw [Nat.min_eq_left (by omega), List.take_of_length_le (Nat.le_refl _), List.take_of_length_le (by omega)]
  rw [e] at hb
  have hb' := hb
  rcases hb' with ⟨rfl, _⟩ | ⟨r, rfl, _, _⟩ <;> ((((conv => whnf); repeat (refine SeqP.go ?_; conv => whnf))); exact ⟨hb, hg⟩)
theorem ints_same (v w : Value) (l : List Int) (h : Hp) (hv : Ints h v l) (hw : Ints h w l) (hl : l.length ≤ 1000000) : CallP E 37 [v, w] h (fun r h' => r = .bool true ∧ h' = h) := by
  obtain ⟨a, cap, rfl, hc⟩ := id hv
  obtain ⟨b, cap', rfl, hd⟩ := id hw
  refine enter37 (by simp) ?_
  ((conv => whnf); repeat (refine SeqP.go ?_; conv => whnf))
  refine cmpF (by omega) ?_
  ((conv => whnf); repeat (refine SeqP.go ?_; conv => whnf))
  refine loop_inv (α := Nat) (fun k => [(5, int k), (0, .slice a l.length cap), (1, .slice b l.length cap')]) (fun _ => h) (fun k => k ≤ l.length) (fun k => l.length - k) 0 (by omega) ⟨rfl, rfl, rfl, trivial⟩ (Hp.Le.refl _) ?_
  intro k φ hk
  ((conv => whnf); repeat (refine SeqP.go ?_; conv => whnf))
  refine cmpB (fun hb => ?_) (fun hb => ?_)
  · have hk' : k < l.length := by omega
    obtain ⟨r, o, sp, rfl, hsp, hcell⟩ := hc k hk'
    obtain ⟨r', o', sp', rfl, hsp', hcell'⟩ := hd k hk'
    ((conv => whnf); repeat (refine SeqP.go ?_; conv => whnf))
    refine ⟨hsp, ⟨by omega, by omega⟩, ?_⟩
    ((conv => whnf); repeat (refine SeqP.go ?_; conv => whnf))
    refine ⟨_, hcell, ?_⟩
    ((conv => whnf); repeat (refine SeqP.go ?_; conv => whnf))
    refine ⟨hsp', ⟨by omega, by omega⟩, ?_⟩
    ((conv => whnf); repeat (refine SeqP.go ?_; conv => whnf))
    refine ⟨_, hcell', ?_⟩
    ((conv => whnf); repeat (refine SeqP.go ?_; conv => whnf))
    refine cmpF (by omega) ?_
    ((conv => whnf); repeat (refine SeqP.go ?_; conv => whnf))
    refine ⟨_, wid (by omega), ?_⟩
    ((conv => whnf); repeat (refine SeqP.go ?_; conv => whnf))
    exact Rnd.mk (k + 1) (by omega) (by omega) ⟨rfl, rfl, rfl, trivial⟩ (Hp.Le.refl _) rfl
  · ((conv => whnf); repeat (refine SeqP.go ?_; conv => whnf))
    exact ⟨rfl, rfl⟩
end
end Go.Proofs.Ytpiplaicnbapbaa
