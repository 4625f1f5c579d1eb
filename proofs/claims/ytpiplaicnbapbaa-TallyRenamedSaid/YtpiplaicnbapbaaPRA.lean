/- Contracts of the functions that PRD comes to. -/
import Derived.Test.YtpiplaicnbapbaaCodePRD
import Derived.Test.YtpiplaicnbapbaaWx12
import Derived.Test.YtpiplaicnbapbaaWx13
import Derived.Test.YtpiplaicnbapbaaWx14
import Derived.Test.YtpiplaicnbapbaaWx16
import Derived.Test.YtpiplaicnbapbaaWx18
import Derived.Test.YtpiplaicnbapbaaWx22
import Derived.Test.YtpiplaicnbapbaaWx23
import Derived.Test.YtpiplaicnbapbaaWx24
import Derived.Test.YtpiplaicnbapbaaTAwake
set_option maxRecDepth 100000
set_option maxHeartbeats 2000000
set_option linter.unusedVariables false
set_option linter.unusedSectionVars false
set_option linter.unusedSimpArgs false
namespace Go.Proofs.Ytpiplaicnbapbaa
open Go.Rx Go.RowKit
attribute [local irreducible] E idxN cellAt cellsAt storeAt callable helems hmoved lookIn findKey keyOk hentries Hp.at Hp.set Hp.lay arBits hupdated setAt CallP YieldP BoolOf IsWrap Rnd LoopP AppP CutP Int.tmod Int.tdiv Int.fdiv
theorem sum_bd : ∀ (l : List Int), (∀ x ∈ l, 0 ≤ x ∧ x ≤ 1000000) → 0 ≤ l.sum ∧ l.sum ≤ 1000000 * l.length
  | [], _ => by simp
  | x :: l, h => by
    have h1 := h x (by simp)
    have h2 := sum_bd l (fun y hy => h y (by simp [hy]))
    simp only [List.sum_cons, List.length_cons]
    omega
section
variable [Unknowns]
theorem within_spec (low high : Int) (v : Value) (l : List Int) (h : Hp) (hv : Ints h v l) (hl : l.length ≤ 1000000) : CallP E 60 [int low, int high, v] h (fun r h' => r = .bool (decide (∀ x ∈ l, low ≤ x ∧ x ≤ high)) ∧ h' = h) := by
  obtain ⟨a, cap, rfl, hc⟩ := hv
  refine enter60 (by simp) ?_
  ((conv => whnf); repeat (refine SeqP.go ?_; conv => whnf))
  refine loop_inv (α := Nat) (fun k => [(11, int k), (10, int l.length), (9, .slice a l.length cap), (0, int low), (1, int high)]) (fun _ => h) (fun k => k ≤ l.length ∧ ∀ j, (hj : j < k) → (hj2 : j < l.length) → low ≤ l[j] ∧ l[j] ≤ high) (fun k => l.length - k) 0 ⟨by omega, fun j hj => by omega⟩ ⟨rfl, rfl, rfl, rfl, rfl, trivial⟩ (Hp.Le.refl _) ?_
  rintro k φ ⟨hk, hin⟩
  ((conv => whnf); repeat (refine SeqP.go ?_; conv => whnf))
  rintro (_|_) hb
  · have hb := hb.f
    ((conv => whnf); repeat (refine SeqP.go ?_; conv => whnf))
    refine ⟨?_, rfl⟩
    have : (∀ x ∈ l, low ≤ x ∧ x ≤ high) := by
      intro x hx
      obtain ⟨j, hj, rfl⟩ := List.getElem_of_mem hx
      exact hin j (by omega) hj
    rw [decide_eq_true this]; rfl
  · have hb := hb.t
    have hk' : k < l.length := by omega
    obtain ⟨r, o, sp, rfl, hsp, hcell⟩ := hc k hk'
    have no : ¬ (low ≤ l[k] ∧ l[k] ≤ high) → ¬ (∀ x ∈ l, low ≤ x ∧ x ≤ high) := fun h1 h2 => h1 (h2 _ (List.getElem_mem hk'))
    ((conv => whnf); repeat (refine SeqP.go ?_; conv => whnf))
    repeat (first | (refine cmpT (by omega) ?_; ((conv => whnf); repeat (refine SeqP.go ?_; conv => whnf))) | (refine cmpF (by omega) ?_; ((conv => whnf); repeat (refine SeqP.go ?_; conv => whnf))) | (refine ⟨_, wid (by omega), ?_⟩; ((conv => whnf); repeat (refine SeqP.go ?_; conv => whnf))) | (refine ⟨⟨by omega, by omega⟩, ?_⟩; ((conv => whnf); repeat (refine SeqP.go ?_; conv => whnf))) | (refine ⟨by omega, ?_⟩; ((conv => whnf); repeat (refine SeqP.go ?_; conv => whnf))) | (refine ⟨_, by assumption, ?_⟩; ((conv => whnf); repeat (refine SeqP.go ?_; conv => whnf))) | (refine ⟨by assumption, ?_⟩; ((conv => whnf); repeat (refine SeqP.go ?_; conv => whnf))))
    rintro (_|_) hb1
    · have hb1 := hb1.f
      ((conv => whnf); repeat (refine SeqP.go ?_; conv => whnf))
      rintro (_|_) hb2
      · have hb2 := hb2.f
        ((conv => whnf); repeat (refine SeqP.go ?_; conv => whnf))
        repeat (first | (refine cmpT (by omega) ?_; ((conv => whnf); repeat (refine SeqP.go ?_; conv => whnf))) | (refine cmpF (by omega) ?_; ((conv => whnf); repeat (refine SeqP.go ?_; conv => whnf))) | (refine ⟨_, wid (by omega), ?_⟩; ((conv => whnf); repeat (refine SeqP.go ?_; conv => whnf))) | (refine ⟨⟨by omega, by omega⟩, ?_⟩; ((conv => whnf); repeat (refine SeqP.go ?_; conv => whnf))) | (refine ⟨by omega, ?_⟩; ((conv => whnf); repeat (refine SeqP.go ?_; conv => whnf))) | (refine ⟨_, by assumption, ?_⟩; ((conv => whnf); repeat (refine SeqP.go ?_; conv => whnf))) | (refine ⟨by assumption, ?_⟩; ((conv => whnf); repeat (refine SeqP.go ?_; conv => whnf))))
        refine Rnd.mk (k + 1) ⟨by omega, fun j hj hj2 => ?_⟩ (by omega) ⟨rfl, rfl, rfl, rfl, rfl, trivial⟩ (Hp.Le.refl _) rfl
        by_cases e : j = k
        · subst e; omega
        · exact hin j (by omega) hj2
      · have hb2 := hb2.t
        ((conv => whnf); repeat (refine SeqP.go ?_; conv => whnf))
        exact ⟨by rw [decide_eq_false (no (by omega))]; rfl, rfl⟩
    · have hb1 := hb1.t
      ((conv => whnf); repeat (refine SeqP.go ?_; conv => whnf))
      exact ⟨by rw [decide_eq_false (no (by omega))]; rfl, rfl⟩
theorem sum_spec (v : Value) (l : List Int) (h : Hp) (hv : Ints h v l) (hl : l.length ≤ 1000000) (hin : ∀ x ∈ l, 0 ≤ x ∧ x ≤ 1000000) : CallP E 90 [v] h (fun r h' => r = int l.sum ∧ h' = h) := by
  obtain ⟨a, cap, rfl, hc⟩ := id hv
  refine enter90 (by simp) ?_
  ((conv => whnf); repeat (refine SeqP.go ?_; conv => whnf))
  refine loop_inv (α := Nat) (fun k => [(8, int k), (7, int l.length), (6, .slice a l.length cap), (3, int (l.take k).sum)]) (fun _ => h) (fun k => k ≤ l.length) (fun k => l.length - k) 0 (by omega) ⟨rfl, rfl, rfl, rfl, trivial⟩ (Hp.Le.refl _) ?_
  intro k φ hk
  ((conv => whnf); repeat (refine SeqP.go ?_; conv => whnf))
  refine cmpB (fun hb => ?_) (fun hb => ?_)
  · have hk' : k < l.length := by omega
    obtain ⟨r, o, sp, rfl, hsp, hcell⟩ := hc k hk'
    have b1 := sum_bd (l.take k) (fun x hx => hin x (List.mem_of_mem_take hx))
    have b2 := hin l[k] (List.getElem_mem hk')
    have e1 : (l.take (k + 1)).sum = (l.take k).sum + l[k] := by
      rw [List.take_succ_eq_append_getElem hk', List.sum_append]; simp
    have e2 : (l.take k).length = k := by rw [List.length_take]; omega
    ((conv => whnf); repeat (refine SeqP.go ?_; conv => whnf))
    refine ⟨hsp, ⟨by omega, by omega⟩, ?_⟩
    ((conv => whnf); repeat (refine SeqP.go ?_; conv => whnf))
    refine ⟨_, hcell, ?_⟩
    ((conv => whnf); repeat (refine SeqP.go ?_; conv => whnf))
    refine ⟨(l.take (k + 1)).sum, wie e1.symm (by rw [e1]; rw [e2] at b1; omega), ?_⟩
    ((conv => whnf); repeat (refine SeqP.go ?_; conv => whnf))
    refine ⟨_, wid (by omega), ?_⟩
    ((conv => whnf); repeat (refine SeqP.go ?_; conv => whnf))
    exact Rnd.mk (k + 1) (by omega) (by omega) ⟨rfl, rfl, rfl, rfl, trivial⟩ (Hp.Le.refl _) rfl
  · have : k = l.length := by omega
    subst this
    ((conv => whnf); repeat (refine SeqP.go ?_; conv => whnf))
    refine ⟨?_, rfl⟩
    show int (l.take l.length).sum = _
    rw [List.take_length]
theorem isnan_spec (a : Int) (h : Hp) : CallP E 105 [int a] h (fun r h' => r = .bool false ∧ h' = h) := by
  refine enter105 (by simp) ?_
  ((conv => whnf); repeat (refine SeqP.go ?_; conv => whnf))
  refine cmpF (by omega) ?_
  ((conv => whnf); repeat (refine SeqP.go ?_; conv => whnf))
  exact ⟨rfl, rfl⟩
def cmpI (a b : Int) : Int := if a < b then -1 else if b < a then 1 else 0
theorem cmp_spec (a b : Int) (h : Hp) : CallP E 89 [int a, int b] h (fun r h' => r = int (cmpI a b) ∧ h' = h) := by
  refine enter89 (by simp) ?_
  ((conv => whnf); repeat (refine SeqP.go ?_; conv => whnf))
  refine CallP.mono (isnan_spec a h) ?_
  rintro r h1 ⟨rfl, rfl⟩
  ((conv => whnf); repeat (refine SeqP.go ?_; conv => whnf))
  refine CallP.mono (isnan_spec b h1) ?_
  rintro r h2 ⟨rfl, rfl⟩
  ((conv => whnf); repeat (refine SeqP.go ?_; conv => whnf))
  by_cases h3 : a < b
  · refine cmpT h3 ?_
    ((conv => whnf); repeat (refine SeqP.go ?_; conv => whnf))
    exact ⟨by unfold cmpI; rw [if_pos h3]; rfl, rfl⟩
  refine cmpF h3 ?_
  ((conv => whnf); repeat (refine SeqP.go ?_; conv => whnf))
  by_cases h4 : b < a
  · refine cmpT h4 ?_
    ((conv => whnf); repeat (refine SeqP.go ?_; conv => whnf))
    exact ⟨by unfold cmpI; rw [if_neg h3, if_pos h4]; rfl, rfl⟩
  refine cmpF h4 ?_
  ((conv => whnf); repeat (refine SeqP.go ?_; conv => whnf))
  exact ⟨by unfold cmpI; rw [if_neg h3, if_neg h4]; rfl, rfl⟩
def PLess (x y : Int × Int) : Prop := x.1 < y.1 ∨ x.1 = y.1 ∧ x.2 < y.2
theorem compare_spec (v w : Value) (x y : Int × Int) (h : Hp) (hv : Ints h v [x.1, x.2]) (hw : Ints h w [y.1, y.2]) : CallP E 61 [v, w] h (fun r h' => (∃ c : Int, r = int c ∧ (c < 0 ↔ PLess x y) ∧ (c = 0 ↔ x = y)) ∧ h' = h) := by
  obtain ⟨a, b⟩ := x
  obtain ⟨c, d⟩ := y
  obtain ⟨av, cap, rfl, hc⟩ := id hv
  obtain ⟨aw, cap', rfl, hd⟩ := id hw
  obtain ⟨r, o, sp, e, hsp, hc0⟩ := hc 0 (by simp)
  subst e
  obtain ⟨r', o', sp', e, hsp', hd0⟩ := hd 0 (by simp)
  subst e
  have hc1 : cellAt h r (1 + o) = some (int b) := by
    obtain ⟨_, _, _, e, _, h1⟩ := hc 1 (by simp)
    cases e
    exact h1
  have hd1 : cellAt h r' (1 + o') = some (int d) := by
    obtain ⟨_, _, _, e, _, h1⟩ := hd 1 (by simp)
    cases e
    exact h1
  refine enter61 (by simp) ?_
  ((conv => whnf); repeat (refine SeqP.go ?_; conv => whnf))
  refine loop_inv (α := Nat) (fun k => [(11, int k), (10, int 2), (9, .slice (some ⟨r, o, sp⟩) 2 cap), (0, .slice (some ⟨r, o, sp⟩) 2 cap), (1, .slice (some ⟨r', o', sp'⟩) 2 cap')]) (fun _ => h) (fun k => k ≤ 2 ∧ (1 ≤ k → a = c) ∧ (2 ≤ k → b = d)) (fun k => 2 - k) 0 ⟨by omega, by omega, by omega⟩ ⟨rfl, rfl, rfl, rfl, rfl, trivial⟩ (Hp.Le.refl _) ?_
  rintro k φ ⟨hk, h1, h2⟩
  have hk3 : k = 0 ∨ k = 1 ∨ k = 2 := by omega
  ((conv => whnf); repeat (refine SeqP.go ?_; conv => whnf))
  refine cmpB (fun hb => ?_) (fun hb => ?_)
  rotate_left
  · have : k = 2 := by omega
    subst this
    ((conv => whnf); repeat (refine SeqP.go ?_; conv => whnf))
    refine cmpF (by omega) ?_
    ((conv => whnf); repeat (refine SeqP.go ?_; conv => whnf))
    refine ⟨⟨0, rfl, ?_, ?_⟩, rfl⟩
    · unfold PLess; dsimp only; omega
    · rw [Prod.mk.injEq]; omega
  have hx : ∃ x : Int, cellAt h r (k + o) = some (int x) ∧ (k = 0 ∧ x = a ∨ k = 1 ∧ x = b) := by
    rcases hk3 with rfl | rfl | rfl
    · exact ⟨a, hc0, .inl ⟨rfl, rfl⟩⟩
    · exact ⟨b, hc1, .inr ⟨rfl, rfl⟩⟩
    · omega
  have hy : ∃ y : Int, cellAt h r' (k + o') = some (int y) ∧ (k = 0 ∧ y = c ∨ k = 1 ∧ y = d) := by
    rcases hk3 with rfl | rfl | rfl
    · exact ⟨c, hd0, .inl ⟨rfl, rfl⟩⟩
    · exact ⟨d, hd1, .inr ⟨rfl, rfl⟩⟩
    · omega
  obtain ⟨x, hx1, hx2⟩ := hx
  obtain ⟨y, hy1, hy2⟩ := hy
  ((conv => whnf); repeat (refine SeqP.go ?_; conv => whnf))
  refine ⟨hsp, ⟨by omega, by omega⟩, ?_⟩
  ((conv => whnf); repeat (refine SeqP.go ?_; conv => whnf))
  refine ⟨_, hx1, ?_⟩
  ((conv => whnf); repeat (refine SeqP.go ?_; conv => whnf))
  refine cmpF (by omega) ?_
  ((conv => whnf); repeat (refine SeqP.go ?_; conv => whnf))
  refine ⟨hsp', ⟨by omega, by omega⟩, ?_⟩
  ((conv => whnf); repeat (refine SeqP.go ?_; conv => whnf))
  refine ⟨_, hy1, ?_⟩
  ((conv => whnf); repeat (refine SeqP.go ?_; conv => whnf))
  refine CallP.mono (cmp_spec x y h) ?_
  rintro rr h3 ⟨rfl, rfl⟩
  ((conv => whnf); repeat (refine SeqP.go ?_; conv => whnf))
  by_cases hxy : x = y
  · refine cmpF (fun hn => hn (by unfold cmpI; rw [if_neg (by omega), if_neg (by omega)])) ?_
    ((conv => whnf); repeat (refine SeqP.go ?_; conv => whnf))
    refine ⟨_, wid (by omega), ?_⟩
    ((conv => whnf); repeat (refine SeqP.go ?_; conv => whnf))
    exact Rnd.mk (k + 1) ⟨by omega, by omega, by omega⟩ (by omega) ⟨rfl, rfl, rfl, rfl, rfl, trivial⟩ (Hp.Le.refl _) rfl
  · refine cmpT (fun hn => by
      unfold cmpI at hn
      split at hn
      · omega
      · split at hn <;> omega) ?_
    ((conv => whnf); repeat (refine SeqP.go ?_; conv => whnf))
    refine ⟨⟨cmpI x y, rfl, ?_, ?_⟩, rfl⟩
    · unfold PLess cmpI; dsimp only
      constructor
      · intro h
        split at h
        · omega
        · split at h <;> omega
      · intro h
        rw [if_pos (by omega)]
        omega
    · rw [Prod.mk.injEq]
      constructor
      · intro h
        unfold cmpI at h
        split at h
        · omega
        · split at h <;> omega
      · intro h; exfalso; omega
theorem few_spec (v : Value) (l : List Int) (h : Hp) (hv : View h v l) (hl : l.length < 9223372036854775808) (most : Nat) (hm : most ≤ 100000) : CallP E 19 [v, int most] h (fun r h' => Built h h' 3 r (l.take most) ∧ Grows h h') := by
  obtain ⟨a, c, rfl⟩ := hv.known
  refine enter19 (by simp) ?_
  ((conv => whnf); repeat (refine SeqP.go ?_; conv => whnf))
  refine CutP.ints (i := 0) (j := min l.length most) hv ⟨.inl ⟨rfl, rfl⟩, .inr ?_⟩ (by omega) (by omega) ?_
  · conv => lhs; arg 1; whnf
    refine congrArg (fun n => some (Value.int .i64 n)) ?_
    split <;> omega
  intro v' hv' _ _
  ((conv => whnf); repeat (refine SeqP.go ?_; conv => whnf))
  refine AppP.ints (h0 := h) (.inl ⟨rfl, rfl⟩) (.refl _) hv'.elems (by simp; omega) ?_
  intro v2 h2 hb hg _
  have e : [] ++ ((l.drop 0).take (min l.length most - 0)) = l.take most := by
    rw [List.nil_append, List.drop_zero, Nat.sub_zero]
    by_cases hml : most ≤ l.length
    · rw [Nat.min_eq_right hml]
    · rw [Nat.min_eq_left (by omega), List.take_of_length_le (Nat.le_refl _), List.take_of_length_le (by omega)]
  rw [e] at hb
  have hb' := hb
  rcases hb' with ⟨rfl, _⟩ | ⟨r, rfl, _, _⟩ <;> ((((conv => whnf); repeat (refine SeqP.go ?_; conv => whnf))); exact ⟨hb, hg⟩)
end
end Go.Proofs.Ytpiplaicnbapbaa
namespace Go.Proofs.Ytpiplaicnbapbaa
open Go.Rx Go.RowKit
def Cnt (l : List Int) (m : Int) : Prop := (l.length : Int) = m ∧ (∀ x ∈ l, 0 ≤ x ∧ x ≤ 9) ∧ 1 ≤ l.sum ∧ l.sum ≤ 9
def outF : Value := .func (.func 99) ⟨[]⟩ ⟨[]⟩
theorem bo_yes {p : Prop} (h : p) : BoolOf true p := ⟨fun _ => h, fun _ => rfl⟩
theorem bo_no {p : Prop} (h : ¬ p) : BoolOf false p := ⟨fun e => (by cases e), fun hp => absurd hp h⟩
theorem bo_congr {b : Bool} {p q : Prop} (h : BoolOf b p) (e : p ↔ q) : BoolOf b q := Iff.trans h e
attribute [local irreducible] E idxN cellAt cellsAt storeAt callable helems hmoved lookIn findKey keyOk hentries Hp.at Hp.set Hp.lay arBits hupdated setAt CallP YieldP BoolOf IsWrap Rnd LoopP AppP CutP Int.tmod Int.tdiv Int.fdiv
section
variable [Unknowns]
theorem out_spec (n : Int) (h : Hp) : CallP E 99 [int n] h (fun r h' => (∃ b, r = .bool b ∧ BoolOf b (¬ (0 ≤ n ∧ n ≤ 9))) ∧ h' = h) := by
  refine enter99 (by simp) ?_
  ((conv => whnf); repeat (refine SeqP.go ?_; conv => whnf))
  refine cmpB (fun hb => ?_) (fun hb => ?_)
  · ((conv => whnf); repeat (refine SeqP.go ?_; conv => whnf))
    exact ⟨⟨true, rfl, bo_yes (by omega)⟩, rfl⟩
  ((conv => whnf); repeat (refine SeqP.go ?_; conv => whnf))
  refine cmpB (fun hb2 => ?_) (fun hb2 => ?_)
  · ((conv => whnf); repeat (refine SeqP.go ?_; conv => whnf))
    exact ⟨⟨true, rfl, bo_yes (by omega)⟩, rfl⟩
  · ((conv => whnf); repeat (refine SeqP.go ?_; conv => whnf))
    exact ⟨⟨false, rfl, bo_no (by omega)⟩, rfl⟩
theorem index_spec (v : Value) (l : List Int) (h : Hp) (hv : Ints h v l) (hl : l.length ≤ 1000000) : CallP E 112 [v, outF] h (fun r h' => (∃ k, r = int k ∧ (0 ≤ k ↔ ¬ ∀ x ∈ l, 0 ≤ x ∧ x ≤ 9)) ∧ h' = h) := by
  obtain ⟨a, cap, rfl, hc⟩ := id hv
  refine enter112 (by simp) ?_
  ((conv => whnf); repeat (refine SeqP.go ?_; conv => whnf))
  refine loop_inv (α := Nat) (fun k => [(8, int k), (7, int l.length), (6, .slice a l.length cap), (0, .slice a l.length cap), (1, outF)]) (fun _ => h) (fun k => k ≤ l.length ∧ ∀ x ∈ l.take k, 0 ≤ x ∧ x ≤ 9) (fun k => l.length - k) 0 ⟨by omega, by simp⟩ ⟨rfl, rfl, rfl, rfl, rfl, trivial⟩ (Hp.Le.refl _) ?_
  rintro k φ ⟨hk, hall⟩
  ((conv => whnf); repeat (refine SeqP.go ?_; conv => whnf))
  refine cmpB (fun hb => ?_) (fun hb => ?_)
  rotate_left
  · have : k = l.length := by omega
    subst this
    rw [List.take_length] at hall
    ((conv => whnf); repeat (refine SeqP.go ?_; conv => whnf))
    exact ⟨⟨-1, rfl, ⟨fun h => by omega, fun h => absurd hall h⟩⟩, rfl⟩
  have hk' : k < l.length := by omega
  obtain ⟨r, o, sp, rfl, hsp, hcell⟩ := hc k hk'
  ((conv => whnf); repeat (refine SeqP.go ?_; conv => whnf))
  refine ⟨hsp, ⟨by omega, by omega⟩, ?_⟩
  ((conv => whnf); repeat (refine SeqP.go ?_; conv => whnf))
  refine ⟨_, hcell, ?_⟩
  ((conv => whnf); repeat (refine SeqP.go ?_; conv => whnf))
  refine ⟨can99, ?_⟩
  refine CallP.mono (out_spec l[k] h) ?_
  rintro r2 h2 ⟨⟨b, rfl, hb2⟩, rfl⟩
  cases b with
  | true =>
    ((conv => whnf); repeat (refine SeqP.go ?_; conv => whnf))
    exact ⟨⟨k, rfl, ⟨fun _ hh => hb2.t (hh _ (List.getElem_mem hk')), fun _ => by omega⟩⟩, rfl⟩
  | false =>
    ((conv => whnf); repeat (refine SeqP.go ?_; conv => whnf))
    refine ⟨_, wid (by omega), ?_⟩
    ((conv => whnf); repeat (refine SeqP.go ?_; conv => whnf))
    refine Rnd.mk (k + 1) ⟨by omega, fun x hx => ?_⟩ (by omega) ⟨rfl, rfl, rfl, rfl, rfl, trivial⟩ (Hp.Le.refl _) rfl
    rw [List.take_succ_eq_append_getElem hk'] at hx
    rcases List.mem_append.1 hx with h1 | h1
    · exact hall x h1
    · rw [List.mem_singleton.1 h1]
      have := hb2.f
      omega
theorem isCount_spec (v : Value) (l : List Int) (m : Int) (h : Hp) (hv : Ints h v l) (hl : l.length ≤ 1000000) : CallP E 70 [v, int m] h (fun r h' => (∃ b, r = .bool b ∧ BoolOf b (Cnt l m)) ∧ h' = h) := by
  obtain ⟨a, cap, rfl, hc⟩ := id hv
  refine enter70 (by simp) ?_
  ((conv => whnf); repeat (refine SeqP.go ?_; conv => whnf))
  refine cmpB (fun hb => ?_) (fun hb => ?_)
  · ((conv => whnf); repeat (refine SeqP.go ?_; conv => whnf))
    exact ⟨⟨false, rfl, bo_no fun hn => hb hn.1⟩, rfl⟩
  have cf : CallP E 100 [.slice a l.length cap, outF] h (fun r h' => (∃ b, r = .bool b ∧ BoolOf b (¬ ∀ x ∈ l, 0 ≤ x ∧ x ≤ 9)) ∧ h' = h) := by
    refine enter100 (by simp) ?_
    ((conv => whnf); repeat (refine SeqP.go ?_; conv => whnf))
    refine CallP.mono (index_spec _ l h hv hl) ?_
    rintro r h2 ⟨⟨k, rfl, hk⟩, rfl⟩
    ((conv => whnf); repeat (refine SeqP.go ?_; conv => whnf))
    refine cmpB (fun hb2 => ?_) (fun hb2 => ?_)
    · ((conv => whnf); repeat (refine SeqP.go ?_; conv => whnf))
      exact ⟨⟨true, rfl, bo_yes (hk.1 hb2)⟩, rfl⟩
    · ((conv => whnf); repeat (refine SeqP.go ?_; conv => whnf))
      exact ⟨⟨false, rfl, bo_no fun hn => hb2 (hk.2 hn)⟩, rfl⟩
  ((conv => whnf); repeat (refine SeqP.go ?_; conv => whnf))
  refine CallP.mono cf ?_
  rintro r h2 ⟨⟨b, rfl, hb2⟩, rfl⟩
  cases b with
  | true =>
    ((conv => whnf); repeat (refine SeqP.go ?_; conv => whnf))
    exact ⟨⟨false, rfl, bo_no fun hn => hb2.t hn.2.1⟩, rfl⟩
  | false =>
    have hin : ∀ x ∈ l, 0 ≤ x ∧ x ≤ 9 := Classical.byContradiction fun hn => hb2.f hn
    have hsb := sum_bd l fun x hx => by have := hin x hx; omega
    ((conv => whnf); repeat (refine SeqP.go ?_; conv => whnf))
    refine CallP.mono (sum_spec _ l h2 hv hl fun x hx => by have := hin x hx; omega) ?_
    rintro r h3 ⟨rfl, rfl⟩
    ((conv => whnf); repeat (refine SeqP.go ?_; conv => whnf))
    refine cmpB (fun hb3 => ?_) (fun hb3 => ?_)
    rotate_left
    · ((conv => whnf); repeat (refine SeqP.go ?_; conv => whnf))
      exact ⟨⟨false, rfl, bo_no fun hn => by have := hn.2.2; omega⟩, rfl⟩
    ((conv => whnf); repeat (refine SeqP.go ?_; conv => whnf))
    refine cmpB (fun hb4 => ?_) (fun hb4 => ?_)
    · ((conv => whnf); repeat (refine SeqP.go ?_; conv => whnf))
      exact ⟨⟨true, rfl, bo_yes ⟨by omega, hin, by omega, by omega⟩⟩, rfl⟩
    · ((conv => whnf); repeat (refine SeqP.go ?_; conv => whnf))
      exact ⟨⟨false, rfl, bo_no fun hn => by have := hn.2.2; omega⟩, rfl⟩
end
end Go.Proofs.Ytpiplaicnbapbaa
namespace Go.Proofs.Ytpiplaicnbapbaa
open Go.Rx Go.RowKit
structure Q4 where
  a : Int
  b : Int
  c : Int
  d : Int
def flat4 : List Q4 → List Int
  | [] => []
  | q :: l => q.a :: q.b :: q.c :: q.d :: flat4 l
theorem flat4_len : ∀ l : List Q4, (flat4 l).length = l.length * 4
  | [] => rfl
  | q :: l => by show (flat4 l).length + 1 + 1 + 1 + 1 = (l.length + 1) * 4; rw [flat4_len l]; omega
theorem flat4_app : ∀ l m : List Q4, flat4 (l ++ m) = flat4 l ++ flat4 m
  | [], _ => rfl
  | q :: l, m => by show _ :: _ :: _ :: _ :: flat4 (l ++ m) = _; rw [flat4_app l m]; rfl
theorem flat4_drop : ∀ (l : List Q4) (k : Nat) (h : k < l.length), ((flat4 l).drop (k * 4)).take 4 = [l[k].a, l[k].b, l[k].c, l[k].d]
  | [], k, h => by simp at h
  | q :: l, 0, h => by simp [flat4]
  | q :: l, k + 1, h => by
    have := flat4_drop l k (by simp at h; omega)
    rw [show (k + 1) * 4 = k * 4 + 1 + 1 + 1 + 1 by omega]
    simpa [flat4] using this
structure Prot where
  n : Int
  out : List Int
  start : List Int
  rules : List Q4
def bare0 : Hp := ⟨0, fun _ => none⟩
abbrev LV (h : Hp) (v : Value) (l : List Int) : Prop := Built bare0 h 3 v l
abbrev RV (h : Hp) (v : Value) (R : List Q4) : Prop := BuiltC bare0 h 96 4 v R.length ((flat4 R).map int)
theorem LV.of {h0 h : Hp} {v : Value} {l : List Int} (k : Built h0 h 3 v l) : LV h v l := k.back (Nat.zero_le _)
theorem RV.of {h0 h : Hp} {v : Value} {R : List Q4} (k : BuiltC h0 h 96 4 v R.length ((flat4 R).map int)) : RV h v R := k.back (Nat.zero_le _)
theorem RV.cells {h : Hp} {v : Value} {R : List Q4} (k : RV h v R) : ∃ a, v = .slice a R.length R.length ∧ ∀ j, (hj : j < R.length) → ∃ r, a = some ⟨r, 0, none⟩ ∧ cellsAt h r (j * 4) 4 = some [int R[j].a, int R[j].b, int R[j].c, int R[j].d] := by
  obtain ⟨a, e, hc⟩ := k.slice
  refine ⟨a, e, fun j hj => ?_⟩
  obtain ⟨r, e2, x, hr⟩ := hc j hj
  refine ⟨r, e2, ?_⟩
  rw [cellsAt_row hr (by rw [List.length_map, flat4_len]; omega), ← List.map_drop, ← List.map_take, flat4_drop R j hj]
  rfl
theorem RV.one {h : Hp} {v : Value} {R : List Q4} (k : RV h v R) : ElemsC h 4 v R.length ((flat4 R).map int) := k.elems (ints_one _)
def pval (n : Int) (vo vs vr : Value) : Value := .agg ⟨[int n, vo, vs, vr]⟩
def PV (h : Hp) (v : Value) (p : Prot) : Prop := ∃ vo vs vr, v = pval p.n vo vs vr ∧ LV h vo p.out ∧ LV h vs p.start ∧ RV h vr p.rules
theorem PV.ext {h h' : Hp} {v : Value} {p : Prot} (g : Grows h h') (k : PV h v p) : PV h' v p := by
  obtain ⟨a, b, c, e, h1, h2, h3⟩ := k
  exact ⟨a, b, c, e, h1.ext g, h2.ext g, h3.ext g⟩
theorem ty25 : ∃ i, E.ty 25 = some i ∧ i.agg = true ∧ i.size = 4 := by
  have hs : (tiOf Try.prog 25).isSome = true := by kernel_rfl
  refine ⟨(tiOf Try.prog 25).get hs, ty_get (by kernel_rfl) (Option.some_get hs).symm, ?_, ?_⟩ <;> kernel_rfl
theorem ty26 : ∃ i, E.ty 26 = some i ∧ i.agg = true ∧ i.size = 4 := by
  have hs : (tiOf Try.prog 26).isSome = true := by kernel_rfl
  refine ⟨(tiOf Try.prog 26).get hs, ty_get (by kernel_rfl) (Option.some_get hs).symm, ?_, ?_⟩ <;> kernel_rfl
theorem four_cells {H : Hp} {r e : Nat} {x : Bool} {a b c d : Value} (hr : H.at r = some (.row e x [a, b, c, d])) : cellsAt H r 0 4 = some [a, b, c, d] := by
  rw [cellsAt_row hr (by simp)]; rfl
theorem LV.known {h : Hp} {v : Value} {l : List Int} (k : LV h v l) : ∃ a, v = .slice a l.length l.length := by
  rcases k with ⟨rfl, rfl⟩ | ⟨r, rfl, _⟩
  · exact ⟨none, rfl⟩
  · exact ⟨_, rfl⟩
theorem at_nx2 {h : Hp} {r r' : Nat} {o : Rx.Obj} (e : r = r') (k : h.at r = some o) : h.at r' = some o := e ▸ k
theorem built_set_lt {h0 h : Hp} {e : TypeId} {v : Value} {l : List Int} {r : Nat} {o : Rx.Obj} (k : Built h0 h e v l) (hr : r < h0.next) : Built h0 (h.set r o) e v l := by
  rcases k with h1 | ⟨r', rfl, h2, x, hr'⟩
  · exact .inl h1
  · exact .inr ⟨r', rfl, h2, x, by rw [Hp.at_set_ne _ (by omega)]; exact hr'⟩
theorem builtC_set_lt {h0 h : Hp} {e : TypeId} {s n : Nat} {v : Value} {cs : List Value} {r : Nat} {o : Rx.Obj} (k : BuiltC h0 h e s v n cs) (hr : r < h0.next) : BuiltC h0 (h.set r o) e s v n cs := by
  obtain ⟨hl, k⟩ := k
  refine ⟨hl, ?_⟩
  rcases k with h1 | ⟨r', e1, h2, x, hr'⟩
  · exact .inl h1
  · exact .inr ⟨r', e1, h2, x, by rw [Hp.at_set_ne _ (by omega)]; exact hr'⟩
theorem sameV_ptr3 (a b : Nat) : sameV 4 (ptr a b) (ptr a b) = true := by simp [sameV, ptr]
attribute [local irreducible] E idxN cellAt cellsAt storeAt callable helems hmoved lookIn findKey keyOk hentries Hp.at Hp.set Hp.lay arBits hupdated setAt CallP YieldP BoolOf IsWrap Rnd LoopP AppP CutP Int.tmod Int.tdiv Int.fdiv
section
variable [Unknowns]
attribute [local irreducible] ResP sameAt finP
theorem given_spec (v : Value) (p : Prot) (h : Hp) (hv : PV h v p) (ho : p.out.length ≤ 6) (hs : p.start.length ≤ 3) (hr : p.rules.length ≤ 1000) : CallP E 18 [v] h (fun r h' => PV h' r p ∧ Grows h h') := by
  obtain ⟨n, out, start, rules⟩ := p
  obtain ⟨vo, vs, vr, rfl, k1, k2, k3⟩ := hv
  dsimp only at ho hs hr k1 k2 k3 ⊢
  obtain ⟨ao, rfl⟩ := k1.known
  obtain ⟨az, rfl⟩ := k2.known
  obtain ⟨ar, rfl, -⟩ := k3.slice
  unfold pval
  refine enter18 (by simp) ?_
  have hat : ((h.lay (.row 26 true [int n, .slice ao out.length out.length, .slice az start.length start.length, .slice ar rules.length rules.length])).lay (.row 25 true [int 0, .slice none 0 0, .slice none 0 0, .slice none 0 0])).at h.next = some (.row 26 true [int n, .slice ao out.length out.length, .slice az start.length start.length, .slice ar rules.length rules.length]) := Hp.at_lay_old _ (Hp.at_lay_self _ _)
  have g0 : Grows h ((h.lay (.row 26 true [int n, .slice ao out.length out.length, .slice az start.length start.length, .slice ar rules.length rules.length])).lay (.row 25 true [int 0, .slice none 0 0, .slice none 0 0, .slice none 0 0])) := (Grows.lay _ _).then_lay _
  conv => whnf
  repeat (refine SeqP.go ?_; conv => whnf)
  refine ⟨_, cellAt_row hat rfl, ?_⟩
  conv => whnf
  refine ⟨_, cellAt_row hat rfl, ?_⟩
  conv => whnf
  refine CallP.mono (few_spec _ out _ (k1.view.ext g0) (by omega) 6 (by omega)) ?_
  rintro r1 H1 ⟨hb1, g1⟩
  have hg1 := g1
  have at1 := g1.at_ _ _ hat
  conv => whnf
  refine ⟨_, cellAt_row at1 rfl, ?_⟩
  conv => whnf
  refine CallP.mono (few_spec _ start _ (k2.view.ext (g0.trans g1)) (by omega) 3 (by omega)) ?_
  rintro r2 H2 ⟨hb2, g2⟩
  have g02 := (g0.trans g1).trans g2
  have at2 := g2.at_ _ _ at1
  conv => whnf
  refine ⟨_, cellAt_row at2 rfl, ?_⟩
  conv => whnf
  refine AppP.cells (h0 := H2) BuiltC.nil (.refl _) (RV.one (k3.ext g02)) (by omega) (by omega) ?_
  intro r3 H3 hb3 g3 _
  rw [Nat.zero_add, List.nil_append] at hb3
  have at3 := g3.at_ _ _ at2
  have g03 := g02.trans g3
  have ho1 : ((h.lay (.row 26 true [int n, .slice ao out.length out.length, .slice az start.length start.length, .slice ar rules.length rules.length])).lay (.row 25 true [int 0, .slice none 0 0, .slice none 0 0, .slice none 0 0])).at (h.next + 1) = some (.row 25 true [int 0, .slice none 0 0, .slice none 0 0, .slice none 0 0]) := at_nx2 (Hp.next_lay _ _) (Hp.at_lay_self _ _)
  have ho3 := g3.at_ _ _ (g2.at_ _ _ (g1.at_ _ _ ho1))
  have hb1' := (LV.of hb1).known
  obtain ⟨a1, rfl⟩ := hb1'
  have hb2' := (LV.of hb2).known
  obtain ⟨a2, rfl⟩ := hb2'
  have hb3' := hb3.slice
  obtain ⟨a3, rfl, -⟩ := hb3'
  conv => whnf
  refine ⟨rfl, _, storeAt_full (vs := [int n, .slice a1 (out.take 6).length (out.take 6).length, .slice a2 (start.take 3).length (start.take 3).length, .slice a3 rules.length rules.length]) (at_nx2 (Hp.next_lay _ _).symm ho3) rfl rfl rfl, ?_⟩
  have okl : ∀ (H' : Hp) (i : Nat) (v : Value), Grows ((h.lay (.row 26 true [int n, .slice ao out.length out.length, .slice az start.length start.length, .slice ar rules.length rules.length])).lay (.row 25 true [int 0, .slice none 0 0, .slice none 0 0, .slice none 0 0])) H' → [int n, .slice ao out.length out.length, .slice az start.length start.length, .slice ar rules.length rules.length][i]? = some v → hval H' (cellAt H' h.next i) = .val v H' := fun H' i v g e => by
    rw [cellAt_row (g.at_ _ _ hat) e]
    rfl
  have g12 := g1.trans g2
  have g13 := g12.trans g3
  conv => whnf
  refine ⟨?_, ?_⟩
  · repeat' (first | exact True.intro | (refine And.intro ?_ ?_ <;> (conv => whnf)))
    all_goals first
      | exact sameAt_val (h2 := _) rfl (sameV_ptr3 _ _)
      | exact sameAt_val (h2 := _) rfl (sameV_slice _ _ _)
      | exact sameAt_val (h2 := _) (okl _ 0 _ (Grows.refl _) rfl) (sameV_int _)
      | exact sameAt_val (h2 := _) (okl _ 0 _ g1 rfl) (sameV_int _)
      | exact sameAt_val (h2 := _) (okl _ 0 _ g12 rfl) (sameV_int _)
      | exact sameAt_val (h2 := _) (okl _ 0 _ g13 rfl) (sameV_int _)
      | exact sameAt_val (h2 := _) (okl _ 2 _ (Grows.refl _) rfl) (sameV_slice _ _ _)
      | exact sameAt_val (h2 := _) (okl _ 2 _ g1 rfl) (sameV_slice _ _ _)
      | exact sameAt_val (h2 := _) (okl _ 2 _ g12 rfl) (sameV_slice _ _ _)
      | exact sameAt_val (h2 := _) (okl _ 2 _ g13 rfl) (sameV_slice _ _ _)
      | exact sameAt_val (h2 := _) (okl _ 3 _ (Grows.refl _) rfl) (sameV_slice _ _ _)
      | exact sameAt_val (h2 := _) (okl _ 3 _ g1 rfl) (sameV_slice _ _ _)
      | exact sameAt_val (h2 := _) (okl _ 3 _ g12 rfl) (sameV_slice _ _ _)
      | exact sameAt_val (h2 := _) (okl _ 3 _ g13 rfl) (sameV_slice _ _ _)
      | trace_state
  conv => whnf
  repeat (refine SeqP.go ?_; conv => whnf)
  obtain ⟨i25, t25, ag25, sz25⟩ := ty25
  refine leave_cell (r := h.next + 1) (o := 0) (cs := [int n, .slice a1 (out.take 6).length (out.take 6).length, .slice a2 (start.take 3).length (start.take 3).length, .slice a3 rules.length rules.length]) ?_ t25 ag25 ?_ ?_
  · exact congrArg (fun k => ptr k 0) (Hp.next_lay _ _)
  · rw [sz25]
    refine four_cells (at_nx2 (Hp.next_lay _ _) (Hp.at_set_self _ ?_))
    rw [Hp.next_lay]
    exact Hp.lt_of_at ho3
  · have e1 : out.take 6 = out := List.take_of_length_le ho
    have e2 : start.take 3 = start := List.take_of_length_le hs
    rw [e1] at hb1 ⊢
    rw [e2] at hb2 ⊢
    have n0 : (h.lay (.row 26 true [int n, .slice ao out.length out.length, .slice az start.length start.length, .slice ar rules.length rules.length])).next = h.next + 1 := Hp.next_lay _ _
    have n1 : ((h.lay (.row 26 true [int n, .slice ao out.length out.length, .slice az start.length start.length, .slice ar rules.length rules.length])).lay (.row 25 true [int 0, .slice none 0 0, .slice none 0 0, .slice none 0 0])).next = h.next + 2 := by rw [Hp.next_lay, n0]
    have m1 := g1.next
    have m2 := g2.next
    refine ⟨⟨_, _, _, rfl, LV.of (built_set_lt (hb1.ext (g2.trans g3)) ?_), LV.of (built_set_lt (hb2.ext g3) ?_), RV.of (builtC_set_lt hb3 ?_)⟩, g03.then_set _ ?_⟩
    · rw [n0, n1]; omega
    · rw [n0]; omega
    · rw [n0]; omega
    · rw [n0]; omega
end
end Go.Proofs.Ytpiplaicnbapbaa
namespace Go.Proofs.Ytpiplaicnbapbaa
open Go.Rx Go.RowKit
theorem resP_cutLim {E : Env} {h : Hp} {n k r o : Nat} {K : Value → Hp → Prop} (hn : 0 < n) (hk : k ≤ n) (q : K (.slice (some ⟨r, o, some 1⟩) k n) h) : ResP E (hcutA h n 1 (ptr r o) none (some (int k)) none) K := by
  have e : hcutA h n 1 (ptr r o) none (some (int k)) none = .val (.slice (some ⟨r, o, some 1⟩) k n) h := by
    unfold hcutA
    dsimp only [ptr]
    rw [bounds_of (i := 0) (j := k) ⟨.inl ⟨rfl, rfl⟩, .inr rfl⟩ (by omega) hk (Nat.le_refl _)]
    unfold cutLim
    dsimp only
    have e1 : cutTo 1 o 0 n = o := by
      unfold cutTo
      cases n with
      | zero => omega
      | succ n => rfl
    rw [e1]
    rfl
  rw [e]
  exact q
theorem ints_lim {h : Hp} {r o c : Nat} {l : List Int} (k : ∀ j, (hj : j < l.length) → cellAt h r (j + o) = some (int l[j])) : Ints h (.slice (some ⟨r, o, some 1⟩) l.length c) l := ⟨_, c, rfl, fun j hj => ⟨r, o, some 1, rfl, rfl, k j hj⟩⟩
theorem cells_cell {h : Hp} {r o m : Nat} {vs : List Value} (e : cellsAt h r o m = some vs) (j : Nat) (hj : j < m) : cellAt h r (o + j) = vs[j]? := by
  unfold cellsAt at e
  unfold cellAt
  have key : ∀ cs : List Value, Go.Rx.cellsIn o m cs = some vs → cs[o + j]? = vs[j]? := by
    intro cs e
    unfold Go.Rx.cellsIn at e
    split at e
    · cases e
      rw [List.getElem?_take, if_pos hj, List.getElem?_drop]
    · cases e
  split at e
  · exact key _ e
  · exact key _ e
  · cases e
def QLess (x y : Q4) : Prop := x.a < y.a ∨ x.a = y.a ∧ x.b < y.b
def QIn (n : Int) (x : Q4) : Prop := (0 ≤ x.a ∧ x.a ≤ n - 1) ∧ (0 ≤ x.b ∧ x.b ≤ n - 1) ∧ (0 ≤ x.c ∧ x.c ≤ n - 1) ∧ (0 ≤ x.d ∧ x.d ≤ n - 1)
def RuleOk (n : Int) (R : List Q4) (k : Nat) (hk : k < R.length) : Prop := QIn n R[k] ∧ R[k].a ≤ R[k].b ∧ ∀ h0 : 0 < k, QLess (R[k - 1]'(by omega)) R[k]
def ROk (n : Int) (R : List Q4) (m : Nat) : Prop := ∀ k, (hk : k < R.length) → k < m → RuleOk n R k hk
structure POk (p : Prot) : Prop where
  n1 : 1 ≤ p.n
  n5 : p.n ≤ 5
  outl : (p.out.length : Int) = p.n
  outs : ∀ x ∈ p.out, 0 ≤ x ∧ x ≤ 1
  st1 : 1 ≤ p.start.length
  st2 : p.start.length ≤ 2
  sts : ∀ x ∈ p.start, 0 ≤ x ∧ x ≤ p.n - 1
  rl : p.rules.length ≤ 15
  rs : ROk p.n p.rules p.rules.length
def PChk (p : Prot) (e : Int) : Prop := (POk p → e = 0) ∧ (¬ POk p → e = 60)
theorem PChk.bad {p : Prot} (h : ¬ POk p) : PChk p 60 := ⟨fun k => absurd k h, fun _ => rfl⟩
theorem four_in (n : Int) (q : Q4) : (∀ x ∈ [q.a, q.b, q.c, q.d], 0 ≤ x ∧ x ≤ n) ↔ (0 ≤ q.a ∧ q.a ≤ n) ∧ (0 ≤ q.b ∧ q.b ≤ n) ∧ (0 ≤ q.c ∧ q.c ≤ n) ∧ (0 ≤ q.d ∧ q.d ≤ n) := by simp
theorem row_cell4 {H : Hp} {r : Nat} {e : TypeId} {x : Bool} {a b c d : Int} (hr : H.at r = some (.row e x [int a, int b, int c, int d])) (j : Nat) (hj : j < 4) : cellAt H r (j + 0) = some (int ([a, b, c, d][j]'(by simpa using hj))) := by
  refine cellAt_row hr ?_
  match j, hj with
  | 0, _ => rfl
  | 1, _ => rfl
  | 2, _ => rfl
  | 3, _ => rfl
attribute [local irreducible] E idxN cellAt cellsAt storeAt callable helems hmoved lookIn findKey keyOk hentries Hp.at Hp.set Hp.lay arBits hupdated setAt CallP YieldP BoolOf IsWrap Rnd LoopP AppP CutP Int.tmod Int.tdiv Int.fdiv
section
variable [Unknowns]
attribute [local irreducible] ResP sameAt
theorem check_spec (v : Value) (p : Prot) (h : Hp) (hv : PV h v p) (hn : InR p.n) (ho : p.out.length ≤ 1000000) (hs : p.start.length ≤ 1000000) (hr : p.rules.length ≤ 1000000) : CallP E 21 [v] h (fun r h' => (∃ e, r = int e ∧ PChk p e) ∧ Grows h h') := by
  obtain ⟨n, out, start, R⟩ := p
  obtain ⟨vo, vs, vr, rfl, k1, k2, k3⟩ := hv
  dsimp only at hn ho hs hr k1 k2 k3 ⊢
  unfold InR at hn
  obtain ⟨ao, rfl⟩ := k1.known
  obtain ⟨az, rfl⟩ := k2.known
  obtain ⟨ar, rfl, hcr⟩ := k3.cells
  unfold pval
  have hexv : ∃ vs : List Value, vs = [int n, .slice ao out.length out.length, .slice az start.length start.length, .slice ar R.length R.length] := ⟨_, rfl⟩
  obtain ⟨bx, ebx⟩ := hexv
  have b0 : bx[0]? = some (int n) := by rw [ebx]; rfl
  have b1 : bx[1]? = some (.slice ao out.length out.length) := by rw [ebx]; rfl
  have b2 : bx[2]? = some (.slice az start.length start.length) := by rw [ebx]; rfl
  have b3 : bx[3]? = some (.slice ar R.length R.length) := by rw [ebx]; rfl
  rw [← ebx]
  have hat : (h.lay (.row 25 true bx)).at h.next = some (.row 25 true bx) := Hp.at_lay_self _ _
  have g0 : Grows h (h.lay (.row 25 true bx)) := Grows.lay _ _
  refine enter21 (by simp) ?_
  clear ebx
  conv => whnf
  refine SeqP.go ?_
  conv => whnf
  refine SeqP.cut (α := Unit) (fun _ => [(1, ptr h.next 0)]) (fun _ H => H = h.lay (.row 25 true bx) ∧ 1 ≤ n ∧ n ≤ 5 ∧ (out.length : Int) = n ∧ ∀ x ∈ out, 0 ≤ x ∧ x ≤ 1) ?_ ?_
  · conv => whnf
    repeat (refine SeqP.go ?_; conv => whnf)
    refine ⟨_, cellAt_row hat b0, ?_⟩
    conv => whnf
    refine cmpB (fun c1 => ?_) (fun c1 => ?_)
    · conv => whnf
      repeat (refine SeqP.go ?_; conv => whnf)
      exact ⟨⟨60, rfl, PChk.bad fun k => by have : 1 ≤ n := k.n1; omega⟩, g0⟩
    conv => whnf
    refine ⟨_, cellAt_row hat b0, ?_⟩
    conv => whnf
    refine cmpB (fun c2 => ?_) (fun c2 => ?_)
    · conv => whnf
      repeat (refine SeqP.go ?_; conv => whnf)
      exact ⟨⟨60, rfl, PChk.bad fun k => by have : n ≤ 5 := k.n5; omega⟩, g0⟩
    conv => whnf
    refine ⟨_, cellAt_row hat b1, ?_⟩
    conv => whnf
    refine ⟨_, cellAt_row hat b0, ?_⟩
    conv => whnf
    refine cmpB (fun c3 => ?_) (fun c3 => ?_)
    · conv => whnf
      repeat (refine SeqP.go ?_; conv => whnf)
      exact ⟨⟨60, rfl, PChk.bad fun k => c3 k.outl⟩, g0⟩
    conv => whnf
    refine ⟨_, cellAt_row hat b1, ?_⟩
    conv => whnf
    refine CallP.mono (within_spec 0 1 _ out _ (k1.ints.ext g0) ho) ?_
    rintro r h2 ⟨rfl, rfl⟩
    by_cases hin : ∀ x ∈ out, 0 ≤ x ∧ x ≤ 1
    · rw [decide_eq_true hin]
      conv => whnf
      repeat (refine SeqP.go ?_; conv => whnf)
      exact ⟨(), ⟨rfl, trivial⟩, ⟨rfl, by omega, by omega, by omega, hin⟩, rfl⟩
    · rw [decide_eq_false hin]
      conv => whnf
      repeat (refine SeqP.go ?_; conv => whnf)
      exact ⟨⟨60, rfl, PChk.bad fun k => hin k.outs⟩, g0⟩
  rintro _ φ1 _ ⟨rfl, hn1, hn5, hol, hos⟩
  conv => whnf
  refine SeqP.cut (α := Unit) (fun _ => [(1, ptr h.next 0)]) (fun _ H => H = h.lay (.row 25 true bx) ∧ 1 ≤ start.length ∧ start.length ≤ 2 ∧ (∀ x ∈ start, 0 ≤ x ∧ x ≤ n - 1) ∧ R.length ≤ 15) ?_ ?_
  · conv => whnf
    repeat (refine SeqP.go ?_; conv => whnf)
    refine ⟨_, cellAt_row hat b2, ?_⟩
    conv => whnf
    refine cmpB (fun c1 => ?_) (fun c1 => ?_)
    · conv => whnf
      repeat (refine SeqP.go ?_; conv => whnf)
      exact ⟨⟨60, rfl, PChk.bad fun k => by have : 1 ≤ start.length := k.st1; omega⟩, g0⟩
    conv => whnf
    refine ⟨_, cellAt_row hat b2, ?_⟩
    conv => whnf
    refine cmpB (fun c2 => ?_) (fun c2 => ?_)
    · conv => whnf
      repeat (refine SeqP.go ?_; conv => whnf)
      exact ⟨⟨60, rfl, PChk.bad fun k => by have : start.length ≤ 2 := k.st2; omega⟩, g0⟩
    conv => whnf
    refine ⟨_, cellAt_row hat b0, ?_⟩
    conv => whnf
    refine ⟨n - 1, wie rfl (by omega), ?_⟩
    conv => whnf
    refine ⟨_, cellAt_row hat b2, ?_⟩
    conv => whnf
    refine CallP.mono (within_spec 0 (n - 1) _ start _ (k2.ints.ext g0) hs) ?_
    rintro r h2 ⟨rfl, rfl⟩
    by_cases hin : ∀ x ∈ start, 0 ≤ x ∧ x ≤ n - 1
    rotate_left
    · rw [decide_eq_false hin]
      conv => whnf
      repeat (refine SeqP.go ?_; conv => whnf)
      exact ⟨⟨60, rfl, PChk.bad fun k => hin k.sts⟩, g0⟩
    rw [decide_eq_true hin]
    conv => whnf
    refine ⟨_, cellAt_row hat b3, ?_⟩
    conv => whnf
    refine cmpB (fun c3 => ?_) (fun c3 => ?_)
    · conv => whnf
      repeat (refine SeqP.go ?_; conv => whnf)
      exact ⟨⟨60, rfl, PChk.bad fun k => by have : R.length ≤ 15 := k.rl; omega⟩, g0⟩
    · conv => whnf
      repeat (refine SeqP.go ?_; conv => whnf)
      exact ⟨(), ⟨rfl, trivial⟩, ⟨rfl, by omega, by omega, hin, by omega⟩, rfl⟩
  rintro _ φ2 _ ⟨rfl, hs1, hs2, hss, hrl⟩
  conv => whnf
  refine SeqP.cut (α := Unit) (fun _ => []) (fun _ H => Grows h H ∧ ROk n R R.length) ?_ ?_
  rotate_left
  · rintro _ φ9 H9 ⟨g9, hro⟩
    conv => whnf
    repeat (refine SeqP.go ?_; conv => whnf)
    exact ⟨⟨0, rfl, ⟨fun _ => rfl, fun k => absurd ⟨hn1, hn5, hol, hos, hs1, hs2, hss, hrl, hro⟩ k⟩⟩, g9⟩
  conv => whnf
  repeat (refine SeqP.go ?_; conv => whnf)
  refine ⟨_, cellAt_row hat b3, ?_⟩
  conv => whnf
  refine loop_inv (α := Nat × Hp) (fun s => [(55, int s.1), (54, int R.length), (53, .slice ar R.length R.length), (1, ptr h.next 0)]) (fun s => s.2) (fun s => s.1 ≤ R.length ∧ Grows (h.lay (.row 25 true bx)) s.2 ∧ ROk n R s.1) (fun s => R.length - s.1) (0, _) ⟨Nat.zero_le _, .refl _, fun k _ h0 => by omega⟩ ⟨rfl, rfl, rfl, rfl, trivial⟩ (Hp.Le.refl _) ?_
  rintro ⟨k, H⟩ φ3 ⟨hk, hg, hro⟩
  dsimp only at hk hg hro ⊢
  conv => whnf
  repeat (refine SeqP.go ?_; conv => whnf)
  refine cmpB (fun hb1 => ?_) (fun hb1 => ?_)
  rotate_left
  · have : k = R.length := by omega
    subst this
    conv => whnf
    repeat (refine SeqP.go ?_; conv => whnf)
    exact ⟨(), trivial, ⟨g0.trans hg, hro⟩, rfl⟩
  have hkl : k < R.length := by omega
  have hck := hcr k hkl
  obtain ⟨rr, ear, hck⟩ := hck
  subst ear
  have hckH : cellsAt H rr (k * 4) 4 = some [int R[k].a, int R[k].b, int R[k].c, int R[k].d] := (g0.trans hg).cells hck
  have hatH := hg.at_ _ _ hat
  have hexq : ∃ q, R[k] = q := ⟨_, rfl⟩
  obtain ⟨q, eq⟩ := hexq
  rw [eq] at hckH
  have bad : ¬ RuleOk n R k hkl → ¬ POk ⟨n, out, start, R⟩ := fun hno hp => hno (hp.rs k hkl hkl)
  unfold RuleOk at bad
  rw [eq] at bad
  conv => whnf
  refine SeqP.go ?_
  conv => whnf
  refine SeqP.cut (α := Hp) (fun _ => [(55, int k), (54, int R.length), (53, .slice (some ⟨rr, 0, none⟩) R.length R.length), (1, ptr h.next 0)]) (fun s H' => s = H' ∧ Grows H s ∧ RuleOk n R k hkl) ?_ ?_
  rotate_left
  · rintro H1 φ6 _ ⟨rfl, hg1, hok⟩
    conv => whnf
    refine ⟨((k + 1 : Nat) : Int), wie (by omega) (by omega), ?_⟩
    conv => whnf
    refine Rnd.mk (k + 1, H1) ⟨by show k + 1 ≤ R.length; omega, hg.trans hg1, fun j hj hj2 => ?_⟩ (by show R.length - (k + 1) < R.length - k; omega) ⟨rfl, rfl, rfl, rfl, trivial⟩ (Hp.Le.refl _) rfl
    by_cases e : j = k
    · subst e; exact hok
    · exact hro j hj (by omega)
  conv => whnf
  refine SeqP.cut (α := Hp) (fun s => [(4, ptr H.next 0), (3, int k), (55, int k), (54, int R.length), (53, .slice (some ⟨rr, 0, none⟩) R.length R.length), (1, ptr h.next 0)]) (fun s H' => s = H' ∧ s = H.lay (.row 96 true [int q.a, int q.b, int q.c, int q.d])) ?_ ?_
  · conv => whnf
    refine ⟨rfl, ⟨by omega, by omega⟩, ?_⟩
    conv => whnf
    refine ⟨[int q.a, int q.b, int q.c, int q.d], by rw [offAt_eq]; simpa using hckH, ?_⟩
    conv => whnf
    refine ⟨rfl, _, storeAt_all (vs := [int q.a, int q.b, int q.c, int q.d]) rfl rfl rfl, ?_⟩
    conv => whnf
    exact ⟨_, ⟨rfl, rfl, rfl, rfl, rfl, rfl, trivial⟩, ⟨rfl, rfl⟩, rfl⟩
  rintro H1 φ4 _ ⟨rfl, eH1⟩
  have hq1 : H1.at H.next = some (.row 96 true [int q.a, int q.b, int q.c, int q.d]) := by rw [eH1]; exact Hp.at_lay_self _ _
  have hg1 : Grows H H1 := by rw [eH1]; exact Grows.lay _ _
  clear eH1
  have hat1 := hg1.at_ _ _ hatH
  have hcell := row_cell4 hq1
  have hgA := (g0.trans hg).trans hg1
  conv => whnf
  refine SeqP.cut (α := Unit) (fun _ => [(4, ptr H.next 0), (3, int k), (55, int k), (54, int R.length), (53, .slice (some ⟨rr, 0, none⟩) R.length R.length), (1, ptr h.next 0)]) (fun s H' => H1 = H' ∧ QIn n q ∧ q.a ≤ q.b) ?_ ?_
  · conv => whnf
    repeat (refine SeqP.go ?_; conv => whnf)
    refine ⟨_, cellAt_row hat1 b0, ?_⟩
    conv => whnf
    refine ⟨n - 1, wie rfl (by omega), ?_⟩
    conv => whnf
    refine resP_cutA ?_ (by omega)
    conv => whnf
    refine CallP.mono (within_spec 0 (n - 1) _ [q.a, q.b, q.c, q.d] _ (ints_lim (l := [q.a, q.b, q.c, q.d]) (c := 4) hcell) (by simp)) ?_
    rintro r h2 ⟨rfl, rfl⟩
    by_cases hin : ∀ x ∈ [q.a, q.b, q.c, q.d], 0 ≤ x ∧ x ≤ n - 1
    rotate_left
    · rw [decide_eq_false hin]
      conv => whnf
      repeat (refine SeqP.go ?_; conv => whnf)
      exact ⟨⟨60, rfl, PChk.bad (bad fun hk => hin ((four_in _ q).2 hk.1))⟩, hgA⟩
    rw [decide_eq_true hin]
    have hin := (four_in _ q).1 hin
    conv => whnf
    refine ⟨⟨by omega, by omega⟩, ?_⟩
    conv => whnf
    refine ⟨_, cellAt_row hq1 rfl, ?_⟩
    conv => whnf
    refine ⟨⟨by omega, by omega⟩, ?_⟩
    conv => whnf
    refine ⟨_, cellAt_row hq1 rfl, ?_⟩
    conv => whnf
    refine cmpB (fun c1 => ?_) (fun c1 => ?_)
    · conv => whnf
      repeat (refine SeqP.go ?_; conv => whnf)
      exact ⟨⟨60, rfl, PChk.bad (bad fun hk => by have := hk.2.1; omega)⟩, hgA⟩
    · conv => whnf
      repeat (refine SeqP.go ?_; conv => whnf)
      exact ⟨(), ⟨rfl, rfl, rfl, rfl, rfl, rfl, trivial⟩, ⟨rfl, hin, by omega⟩, rfl⟩
  rintro _ φ5 _ ⟨rfl, hin, hab⟩
  conv => whnf
  repeat (refine SeqP.go ?_; conv => whnf)
  refine cmpB (fun c1 => ?_) (fun c1 => ?_)
  rotate_left
  · have hk0 : k = 0 := by omega
    conv => whnf
    repeat (refine SeqP.go ?_; conv => whnf)
    exact ⟨H1, ⟨rfl, rfl, rfl, rfl, trivial⟩, ⟨rfl, hg1, by unfold RuleOk; rw [eq]; exact ⟨hin, hab, fun h0 => by omega⟩⟩, rfl⟩
  have hk0 : 0 < k := by omega
  have hkp : k - 1 < R.length := by omega
  have hcp := hcr (k - 1) hkp
  obtain ⟨rr2, ear2, hcp⟩ := hcp
  cases ear2
  have hcp1 := hgA.cells hcp
  have hexy : ∃ y, R[k - 1] = y := ⟨_, rfl⟩
  obtain ⟨y, ey⟩ := hexy
  rw [ey] at hcp1
  have hya : ∀ j, (hj : j < [y.a, y.b].length) → cellAt H1 rr (j + (k - 1) * 4) = some (int [y.a, y.b][j]) := fun j hj => by
    have := cells_cell hcp1 j (by simp at hj; omega)
    rw [Nat.add_comm, this]
    match j, hj with
    | 0, _ => rfl
    | 1, _ => rfl
  have hqa : ∀ j, (hj : j < [q.a, q.b].length) → cellAt H1 H.next (j + 0) = some (int [q.a, q.b][j]) := fun j hj => by
    rw [hcell j (by simp at hj; omega)]
    match j, hj with
    | 0, _ => rfl
    | 1, _ => rfl
  conv => whnf
  refine ⟨_, cellAt_row hat1 b3, ?_⟩
  conv => whnf
  refine ⟨((k - 1 : Nat) : Int), wie (by omega) (by omega), ?_⟩
  conv => whnf
  refine ⟨rfl, ⟨by omega, by omega⟩, ?_⟩
  conv => whnf
  refine resP_cutLim (n := 4) (k := 2) (by decide) (by decide) ?_
  conv => whnf
  refine resP_cutLim (n := 4) (k := 2) (by decide) (by decide) ?_
  conv => whnf
  have eoff : offAt 0 (((k - 1 : Nat) : Int)).toNat 4 = (k - 1) * 4 := by rw [offAt_eq]; omega
  rw [eoff]
  refine CallP.mono (compare_spec _ _ (y.a, y.b) (q.a, q.b) H1 (ints_lim (l := [y.a, y.b]) (c := 4) hya) (ints_lim (l := [q.a, q.b]) (c := 4) hqa)) ?_
  rintro r h2 ⟨⟨c, rfl, hc1, hc2⟩, rfl⟩
  conv => whnf
  refine cmpB (fun c2 => ?_) (fun c2 => ?_)
  · conv => whnf
    repeat (refine SeqP.go ?_; conv => whnf)
    refine ⟨⟨60, rfl, PChk.bad (bad fun hk => ?_)⟩, hgA⟩
    have := hk.2.2 hk0
    rw [ey] at this
    have := hc1.2 this
    omega
  · conv => whnf
    repeat (refine SeqP.go ?_; conv => whnf)
    refine ⟨_, ⟨rfl, rfl, rfl, rfl, trivial⟩, ⟨rfl, hg1, ?_⟩, rfl⟩
    unfold RuleOk
    rw [eq]
    exact ⟨hin, hab, fun _ => by rw [ey]; exact hc1.1 (by omega)⟩
end
end Go.Proofs.Ytpiplaicnbapbaa
namespace Go.Proofs.Ytpiplaicnbapbaa
open Go.Rx Go.RowKit
def RI (h : Hp) (v : Value) (R : List Q4) : Prop := ∃ a c, v = .slice a R.length c ∧ ∀ j, (hj : j < R.length) → ∃ r o, a = some ⟨r, o, none⟩ ∧ cellsAt h r (j * 4 + o) 4 = some [int R[j].a, int R[j].b, int R[j].c, int R[j].d]
theorem RI.ext {h h' : Hp} {v : Value} {R : List Q4} (g : Grows h h') (k : RI h v R) : RI h' v R := by
  obtain ⟨a, c, e, hc⟩ := k
  exact ⟨a, c, e, fun j hj => let ⟨r, o, e1, e2⟩ := hc j hj; ⟨r, o, e1, g.cells e2⟩⟩
theorem RV.ri {h : Hp} {v : Value} {R : List Q4} (k : RV h v R) : RI h v R := by
  obtain ⟨a, e, hc⟩ := k.cells
  exact ⟨a, _, e, fun j hj => let ⟨r, e1, e2⟩ := hc j hj; ⟨r, 0, e1, e2⟩⟩
def PI (h : Hp) (v : Value) (p : Prot) : Prop := ∃ vo vs vr, v = pval p.n vo vs vr ∧ Ints h vo p.out ∧ Ints h vs p.start ∧ RI h vr p.rules
def bareN (n : Nat) : Hp := ⟨n, fun _ => none⟩
theorem bareN_grows {n : Nat} {h : Hp} (hn : n ≤ h.next) : Grows (bareN n) h := ⟨hn, fun r o e => by
  unfold Hp.at bareN at e
  dsimp only at e
  split at e <;> cases e⟩
structure PM (H0 H : Hp) (D : Nat) (cs : List Value) : Prop where
  next : H0.next ≤ H.next
  at_ : ∀ r o, r < H0.next → r ≠ D → H0.at r = some o → H.at r = some o
  dat : H.at D = some (.row 26 true cs)
theorem PM.start {H0 : Hp} {D : Nat} {cs : List Value} (h : H0.at D = some (.row 26 true cs)) : PM H0 H0 D cs := ⟨Nat.le_refl _, fun _ _ _ _ e => e, h⟩
theorem PM.ext {H0 H H' : Hp} {D : Nat} {cs : List Value} (k : PM H0 H D cs) (g : Grows H H') : PM H0 H' D cs := ⟨Nat.le_trans k.next g.next, fun r o h1 h2 e => g.at_ _ _ (k.at_ r o h1 h2 e), g.at_ _ _ k.dat⟩
theorem PM.grows {h H0 H : Hp} {D : Nat} {cs : List Value} (k : PM H0 H D cs) (g : Grows h H0) (hD : h.next ≤ D) : Grows h H := ⟨Nat.le_trans g.next k.next, fun r o e => by
  have := Hp.lt_of_at e
  have := g.next
  exact k.at_ r o (by omega) (by omega) (g.at_ _ _ e)⟩
theorem PM.app {H0 H H1 H2 : Hp} {D : Nat} {cs : List Value} {v : Value} (k : PM H0 H D cs) (hD : D < H0.next) (hg : Grows H H1) (keep : ∀ r o, H1.at r = some o → (∀ n c, v ≠ slc r 0 n c) → H2.at r = some o) (hv : ∀ r n c, v = slc r 0 n c → H0.next ≤ r) (hn : H0.next ≤ H2.next) (cs' : List Value) : PM H0 (H2.set D (.row 26 true cs')) D cs' := by
  have hk : ∀ r o, r < H0.next → H1.at r = some o → H2.at r = some o := fun r o hr e => keep r o e fun n c e2 => by have := hv r n c e2; omega
  refine ⟨by rw [Hp.next_set]; exact hn, fun r o h1 h2 e => ?_, ?_⟩
  · rw [Hp.at_set_ne _ h2]
    exact hk r o h1 (hg.at_ _ _ (k.at_ r o h1 h2 e))
  · exact Hp.at_set_self _ (Hp.lt_of_at (hk D _ hD (hg.at_ _ _ k.dat)))
theorem PM.app_dat {H0 H H1 H2 : Hp} {D : Nat} {cs : List Value} {v : Value} (k : PM H0 H D cs) (hD : D < H0.next) (hg : Grows H H1) (keep : ∀ r o, H1.at r = some o → (∀ n c, v ≠ slc r 0 n c) → H2.at r = some o) (hv : ∀ r n c, v = slc r 0 n c → H0.next ≤ r) : H2.at D = some (.row 26 true cs) := keep D _ (hg.at_ _ _ k.dat) fun n c e2 => by have := hv D n c e2; omega
theorem built_ge {N : Nat} {h : Hp} {e : TypeId} {v : Value} {l : List Int} (k : Built (bareN N) h e v l) : ∀ r n c, v = slc r 0 n c → N ≤ r := by
  intro r n c e1
  rcases k with ⟨rfl, _⟩ | ⟨r', rfl, h2, _⟩
  · cases e1
  · have : r' = r := by simp [slc] at e1; exact e1.1
    subst this
    exact h2
theorem builtC_ge {N : Nat} {h : Hp} {e : TypeId} {s m : Nat} {v : Value} {cs : List Value} (k : BuiltC (bareN N) h e s v m cs) : ∀ r n c, v = slc r 0 n c → N ≤ r := by
  intro r n c e1
  obtain ⟨_, k⟩ := k
  rcases k with ⟨rfl, _⟩ | ⟨r', rfl, h2, _⟩
  · cases e1
  · have : r' = r := by simp [slc] at e1; exact e1.1
    subst this
    exact h2
def tri (n : Nat) : Nat → Nat
  | 0 => 0
  | a + 1 => tri n a + (n - a)
theorem tri_le : ∀ n, n ≤ 5 → tri n n ≤ 15 := by decide
structure RUp (n a b : Nat) (R : List Q4) : Prop where
  ok : ∀ x ∈ R, QIn n x ∧ x.a ≤ x.b ∧ (x.a < a ∨ x.a = a ∧ x.b < b)
  sorted : R.Pairwise QLess
  len : R.length ≤ tri n a + (b - a)
theorem RUp.start (n : Nat) : RUp n 0 0 [] := ⟨fun x h => by simp at h, List.Pairwise.nil, Nat.zero_le _⟩
theorem RUp.skip {n a b : Nat} {R : List Q4} (h : RUp n a b R) (hab : a ≤ b) : RUp n a (b + 1) R := ⟨fun x hx => by have := h.ok x hx; exact ⟨this.1, this.2.1, by omega⟩, h.sorted, by have := h.len; omega⟩
theorem RUp.turn {n a : Nat} {R : List Q4} (h : RUp n a n R) (ha : a < n) : RUp n (a + 1) (a + 1) R := ⟨fun x hx => by
  have := h.ok x hx
  exact ⟨this.1, this.2.1, by omega⟩, h.sorted, by have := h.len; show R.length ≤ tri n a + (n - a) + _; omega⟩
theorem RUp.add {n a b : Nat} {R : List Q4} (h : RUp n a b R) (hab : a ≤ b) (hb : b < n) {c d : Int} (hc : 0 ≤ c ∧ c < n) (hd : 0 ≤ d ∧ d < n) : RUp n a (b + 1) (R ++ [⟨a, b, c, d⟩]) := by
  refine ⟨fun x hx => ?_, ?_, ?_⟩
  · rcases List.mem_append.1 hx with hx | hx
    · have := h.ok x hx; exact ⟨this.1, this.2.1, by omega⟩
    · rw [List.mem_singleton.1 hx]
      refine ⟨⟨?_, ?_, ?_, ?_⟩, ?_, ?_⟩ <;> dsimp only <;> omega
  · refine List.pairwise_append.2 ⟨h.sorted, List.pairwise_singleton _ _, fun x hx y hy => ?_⟩
    rw [List.mem_singleton.1 hy]
    have := (h.ok x hx).2.2
    unfold QLess
    dsimp only
    omega
  · have := h.len
    rw [List.length_append, List.length_singleton]
    omega
theorem RUp.done {n : Nat} {R : List Q4} (h : RUp n n n R) (hn : n ≤ 5) : R.length ≤ 15 ∧ ROk n R R.length := by
  have := h.len
  have := tri_le n hn
  refine ⟨by omega, fun k hk _ => ?_⟩
  have h1 := h.ok _ (List.getElem_mem hk)
  exact ⟨h1.1, h1.2.1, fun h0 => List.pairwise_iff_getElem.1 h.sorted (k - 1) k (by omega) hk (by omega)⟩
theorem min_eq3 (x y : Int) : Value.int IntKind.i64 (if y < x then y else x) = int (min x y) := congrArg (Value.int .i64) (by split <;> omega)
theorem max_eq3 (x y : Int) : Value.int IntKind.i64 (if y > x then y else x) = int (max x y) := congrArg (Value.int .i64) (by split <;> omega)
end Go.Proofs.Ytpiplaicnbapbaa
namespace Go.Proofs.Ytpiplaicnbapbaa
open Go.Rx Go.RowKit
theorem len_snoc {l : List Int} {k : Nat} (h : l.length = k) (x : Int) : (l ++ [x]).length = k + 1 := by rw [List.length_append, h]; rfl
theorem all_snoc {p : Int → Prop} {l : List Int} (h : ∀ x ∈ l, p x) {y : Int} (hy : p y) : ∀ x ∈ l ++ [y], p x := fun x hx => by
  rcases List.mem_append.1 hx with h1 | h1
  · exact h x h1
  · rw [List.mem_singleton.1 h1]; exact hy
attribute [local irreducible] E idxN cellAt cellsAt storeAt callable helems hmoved lookIn findKey keyOk hentries Hp.at Hp.set Hp.lay arBits hupdated setAt CallP YieldP BoolOf IsWrap Rnd LoopP AppP CutP Int.tmod Int.tdiv Int.fdiv
section
variable [Unknowns]
attribute [local irreducible] ResP sameAt finP
theorem tame_spec (v : Value) (p : Prot) (h : Hp) (hv : PI h v p) (hi : InR p.n) (ho : p.out.length < 9223372036854775808) (hs : p.start.length < 9223372036854775808) (hr : p.rules.length < 9223372036854775808) (most : Nat) (hm1 : 1 ≤ most) (hm5 : most ≤ 5) : CallP E 34 [v, int most] h (fun r h' => (∃ q, PV h' r q ∧ POk q ∧ q.n ≤ most) ∧ Grows h h') := by
  obtain ⟨n0, out0, st0, R0⟩ := p
  obtain ⟨vo, vs, vr, rfl, k1, k2, k3⟩ := hv
  dsimp only at hi ho hs hr k1 k2 k3 ⊢
  obtain ⟨ao, co, rfl, hco⟩ := id k1
  obtain ⟨az, cz, rfl, hcz⟩ := id k2
  obtain ⟨ar, cr, rfl, hcr⟩ := id k3
  unfold pval
  have hexv : ∃ vs : List Value, vs = [int n0, .slice ao out0.length co, .slice az st0.length cz, .slice ar R0.length cr] := ⟨_, rfl⟩
  obtain ⟨bx, ebx⟩ := hexv
  have b0 : bx[0]? = some (int n0) := by rw [ebx]; rfl
  have b1 : bx[1]? = some (.slice ao out0.length co) := by rw [ebx]; rfl
  have b2 : bx[2]? = some (.slice az st0.length cz) := by rw [ebx]; rfl
  have b3 : bx[3]? = some (.slice ar R0.length cr) := by rw [ebx]; rfl
  rw [← ebx]
  clear ebx
  have nilv : ∀ (c : Nat), (Value.slice none 0 0) = .slice none 0 0 := fun _ => rfl
  have a0 : ((h.lay (.row 25 true bx)).lay (.row 26 true [int 0, .slice none 0 0, .slice none 0 0, .slice none 0 0])).at h.next = some (.row 25 true bx) := Hp.at_lay_old _ (Hp.at_lay_self _ _)
  refine enter34 (by simp) ?_
  conv => whnf
  refine SeqP.go ?_
  conv => whnf
  refine SeqP.cut (α := Nat) (fun n => [(5, int n), (2, ptr h.next 0), (4, ptr (h.next + 1) 0)]) (fun n H => H = (h.lay (.row 25 true bx)).lay (.row 26 true [int 0, .slice none 0 0, .slice none 0 0, .slice none 0 0]) ∧ 1 ≤ n ∧ n ≤ most) ?_ ?_
  · conv => whnf
    refine ⟨_, cellAt_row a0 b0, ?_⟩
    have hux := u64_of n0
    obtain ⟨u, u0, u1, hu⟩ := hux
    have b1 := tmod_bd u0 (show (0 : Int) < (most : Int) by omega)
    have hexn : ∃ n : Nat, u.tmod most = (n : Int) := ⟨(u.tmod most).toNat, by omega⟩
    obtain ⟨n, hn⟩ := hexn
    conv => whnf
    refine ⟨u, hu, ?_⟩
    conv => whnf
    refine ⟨(most : Int), u64_id (by omega), ?_⟩
    conv => whnf
    refine ⟨by omega, ?_⟩
    conv => whnf
    refine ⟨(n : Int), wie hn (by omega), ?_⟩
    conv => whnf
    refine ⟨((n + 1 : Nat) : Int), wie (by omega) (by omega), ?_⟩
    conv => whnf
    exact ⟨n + 1, ⟨rfl, rfl, congrArg (fun k => ptr k 0) (Hp.next_lay _ _), trivial⟩, ⟨rfl, by omega, by omega⟩, rfl⟩
  rintro n φ1 _ ⟨rfl, hn1, hnm⟩
  have hn5 : n ≤ 5 := by omega
  conv => whnf
  refine SeqP.cut (α := Hp) (fun _ => [(6, ptr (h.next + 2) 0), (5, int n), (2, ptr h.next 0), (4, ptr (h.next + 1) 0)]) (fun s H => s = H ∧ PM s s (h.next + 2) [int n, .slice none 0 0, .slice none 0 0, .slice none 0 0] ∧ s.next = h.next + 3 ∧ s.at h.next = some (.row 25 true bx) ∧ s.at (h.next + 1) = some (.row 26 true [int 0, .slice none 0 0, .slice none 0 0, .slice none 0 0]) ∧ Grows h s) ?_ ?_
  · conv => whnf
    refine ⟨rfl, _, storeAt_all (vs := [int n, .slice none 0 0, .slice none 0 0, .slice none 0 0]) rfl rfl rfl, ?_⟩
    conv => whnf
    have n2 : ((h.lay (.row 25 true bx)).lay (.row 26 true [int 0, .slice none 0 0, .slice none 0 0, .slice none 0 0])).next = h.next + 2 := by simp only [Hp.next_lay]
    refine ⟨_, ⟨congrArg (fun k => ptr k 0) n2, rfl, rfl, rfl, trivial⟩, ⟨rfl, PM.start (at_nx2 n2 (Hp.at_lay_self _ _)), by simp only [Hp.next_lay], Hp.at_lay_old _ a0, Hp.at_lay_old _ (at_nx2 (Hp.next_lay _ _) (Hp.at_lay_self _ _)), ((Grows.lay _ _).then_lay _).then_lay _⟩, rfl⟩
  rintro H0 φ2 _ ⟨rfl, hpm0, hn0, hx0, hx1, hgh0⟩
  have hD : h.next + 2 < H0.next := by omega
  conv => whnf
  refine SeqP.cut (α := Value × List Int × Hp) (fun s => [(6, ptr (h.next + 2) 0), (5, int n), (2, ptr h.next 0), (4, ptr (h.next + 1) 0)]) (fun s H => s.2.2 = H ∧ PM H0 s.2.2 (h.next + 2) [int n, s.1, .slice none 0 0, .slice none 0 0] ∧ Built (bareN H0.next) s.2.2 3 s.1 s.2.1 ∧ s.2.1.length = n ∧ ∀ x ∈ s.2.1, 0 ≤ x ∧ x ≤ 1) ?_ ?_
  · conv => whnf
    repeat (refine SeqP.go ?_; conv => whnf)
    refine loop_inv (α := Nat × Value × List Int × Hp) (fun s => [(7, int s.1), (6, ptr (h.next + 2) 0), (5, int n), (2, ptr h.next 0), (4, ptr (h.next + 1) 0)]) (fun s => s.2.2.2) (fun s => s.1 ≤ n ∧ PM H0 s.2.2.2 (h.next + 2) [int n, s.2.1, .slice none 0 0, .slice none 0 0] ∧ Built (bareN H0.next) s.2.2.2 3 s.2.1 s.2.2.1 ∧ s.2.2.1.length = s.1 ∧ ∀ x ∈ s.2.2.1, 0 ≤ x ∧ x ≤ 1) (fun s => n - s.1) (0, .slice none 0 0, [], H0) ⟨Nat.zero_le _, hpm0, .inl ⟨rfl, rfl⟩, rfl, by simp⟩ ⟨rfl, rfl, rfl, rfl, rfl, trivial⟩ (Hp.Le.refl _) ?_
    rintro ⟨k, w, l, H⟩ φ3 ⟨hk, hpm, hb, hl, hall⟩
    dsimp only at hk hpm hb hl hall ⊢
    conv => whnf
    repeat (refine SeqP.go ?_; conv => whnf)
    refine cmpB (fun c1 => ?_) (fun c1 => ?_)
    rotate_left
    · conv => whnf
      exact ⟨(w, l, H), ⟨rfl, rfl, rfl, rfl, trivial⟩, ⟨rfl, hpm, hb, by show l.length = n; omega, hall⟩, rfl⟩
    have hgH := hpm.grows hgh0 (Nat.le_add_right _ _)
    have hxH := hpm.at_ _ _ (by omega) (by omega) hx0
    conv => whnf
    refine SeqP.cut (α := Value × List Int × Hp) (fun s => [(7, int k), (6, ptr (h.next + 2) 0), (5, int n), (2, ptr h.next 0), (4, ptr (h.next + 1) 0)]) (fun s H' => s.2.2 = H' ∧ PM H0 s.2.2 (h.next + 2) [int n, s.1, .slice none 0 0, .slice none 0 0] ∧ Built (bareN H0.next) s.2.2 3 s.1 s.2.1 ∧ s.2.1.length = k + 1 ∧ ∀ x ∈ s.2.1, 0 ≤ x ∧ x ≤ 1) ?_ ?_
    rotate_left
    · rintro ⟨w', l', H'⟩ φ4 _ ⟨rfl, h1, h2, h3, h4⟩
      dsimp only at h1 h2 h3 h4 ⊢
      conv => whnf
      refine ⟨((k + 1 : Nat) : Int), wie (by omega) (by omega), ?_⟩
      conv => whnf
      exact Rnd.mk (k + 1, w', l', H') ⟨by show k + 1 ≤ n; omega, h1, h2, h3, h4⟩ (by show n - (k + 1) < n - k; omega) ⟨rfl, rfl, rfl, rfl, rfl, trivial⟩ (Hp.Le.refl _) rfl
    conv => whnf
    refine SeqP.go ?_
    conv => whnf
    refine SeqP.cut (α := Int) (fun y => [(8, int y), (7, int k), (6, ptr (h.next + 2) 0), (5, int n), (2, ptr h.next 0), (4, ptr (h.next + 1) 0)]) (fun y H' => H = H' ∧ 0 ≤ y ∧ y ≤ 1) ?_ ?_
    · conv => whnf
      repeat (refine SeqP.go ?_; conv => whnf)
      refine ⟨_, cellAt_row hxH b1, ?_⟩
      conv => whnf
      refine cmpB (fun c2 => ?_) (fun c2 => ?_)
      rotate_left
      · conv => whnf
        exact ⟨0, ⟨rfl, rfl, rfl, rfl, rfl, rfl, trivial⟩, ⟨rfl, by omega, by omega⟩, rfl⟩
      have hc := (k1.ext hgH)
      obtain ⟨ao', co', ew, hcc⟩ := hc
      cases ew
      have hc := hcc k (by omega)
      obtain ⟨r, o, sp, ea, hsp, hci⟩ := hc
      subst ea
      have hux := u64_of out0[k]
      obtain ⟨u, u0, u1, hu⟩ := hux
      have b1' := tmod_bd u0 (show (0 : Int) < 2 by omega)
      conv => whnf
      refine ⟨_, cellAt_row hxH b1, ?_⟩
      conv => whnf
      refine ⟨hsp, ⟨by omega, by omega⟩, ?_⟩
      conv => whnf
      refine ⟨int out0[k], by rw [offAt_eq, Nat.add_comm]; simpa using hci, ?_⟩
      conv => whnf
      refine ⟨u, hu, ?_⟩
      conv => whnf
      refine ⟨by omega, ?_⟩
      conv => whnf
      refine ⟨u.tmod 2, wid (by omega), ?_⟩
      conv => whnf
      exact ⟨u.tmod 2, ⟨rfl, rfl, rfl, rfl, rfl, rfl, trivial⟩, ⟨rfl, by omega, by omega⟩, rfl⟩
    rintro y φ5 _ ⟨rfl, hy⟩
    conv => whnf
    repeat (refine SeqP.go ?_; conv => whnf)
    refine ⟨_, cellAt_row hpm.dat rfl, ?_⟩
    conv => whnf
    have hnx := hpm.next
    refine AppP.ints (hb.ext (Grows.lay _ _)) (bareN_grows (by rw [Hp.next_lay]; exact Nat.le_succ_of_le hnx)) Elems.lay1 (by simp; omega) ?_
    intro w2 H2 hb2 hg2 keep2
    have hdat2 := hpm.app_dat hD (Grows.lay _ _) keep2 (built_ge hb)
    rcases id hb2 with ⟨rfl, e⟩ | ⟨r2, rfl, hr2, x2, hat2⟩
    · simp at e
    conv => whnf
    refine ⟨rfl, _, storeAt_row hdat2 (by simp) rfl, ?_⟩
    conv => whnf
    refine ⟨(_, _, _), ⟨rfl, rfl, rfl, rfl, rfl, trivial⟩, ⟨rfl, hpm.app hD (Grows.lay _ _) keep2 (built_ge hb) hg2.next _, ?_, len_snoc hl y, all_snoc hall hy⟩, rfl⟩
    exact built_set_lt hb2 hD
  rintro ⟨vo, lo, H1⟩ φ6 _ ⟨rfl, hpm1, hbo, hlo, hao⟩
  dsimp only at hpm1 hbo hlo hao ⊢
  have hg1 := hpm1.grows hgh0 (Nat.le_add_right _ _)
  have hx1a := hpm1.at_ _ _ (by omega) (by omega) hx0
  have hx1b := hpm1.at_ _ _ (by omega) (by omega) hx1
  have hn1x := hpm1.next
  have hD1 : h.next + 2 < H1.next := by omega
  have hpm1' := PM.start hpm1.dat
  conv => whnf
  refine SeqP.cut (α := Value × List Int × Hp) (fun s => [(6, ptr (h.next + 2) 0), (5, int n), (2, ptr h.next 0), (4, ptr (h.next + 1) 0)]) (fun s H => s.2.2 = H ∧ PM H1 s.2.2 (h.next + 2) [int n, vo, s.1, .slice none 0 0] ∧ Built (bareN H1.next) s.2.2 3 s.1 s.2.1 ∧ 1 ≤ s.2.1.length ∧ s.2.1.length ≤ 2 ∧ ∀ x ∈ s.2.1, 0 ≤ x ∧ x ≤ (n : Int) - 1) ?_ ?_
  · conv => whnf
    repeat (refine SeqP.go ?_; conv => whnf)
    refine loop_inv (α := Nat × Value × List Int × Hp) (fun s => [(10, int s.1), (6, ptr (h.next + 2) 0), (5, int n), (2, ptr h.next 0), (4, ptr (h.next + 1) 0)]) (fun s => s.2.2.2) (fun s => s.1 ≤ 2 ∧ PM H1 s.2.2.2 (h.next + 2) [int n, vo, s.2.1, .slice none 0 0] ∧ Built (bareN H1.next) s.2.2.2 3 s.2.1 s.2.2.1 ∧ s.2.2.1.length = s.1 ∧ ∀ x ∈ s.2.2.1, 0 ≤ x ∧ x ≤ (n : Int) - 1) (fun s => 2 - s.1) (0, .slice none 0 0, [], H1) ⟨Nat.zero_le _, hpm1', .inl ⟨rfl, rfl⟩, rfl, by simp⟩ ⟨rfl, rfl, rfl, rfl, rfl, trivial⟩ (Hp.Le.refl _) ?_
    rintro ⟨k, w, l, H⟩ φ3 ⟨hk, hpm, hb, hl, hall⟩
    dsimp only at hk hpm hb hl hall ⊢
    have hgH := hpm.grows hg1 (Nat.le_add_right _ _)
    have hxH := hpm.at_ _ _ (by omega) (by omega) hx1a
    conv => whnf
    refine SeqP.cut (α := Unit) (fun _ => [(10, int k), (6, ptr (h.next + 2) 0), (5, int n), (2, ptr h.next 0), (4, ptr (h.next + 1) 0)]) (fun _ H' => H = H' ∧ k < 2) ?_ ?_
    · conv => whnf
      repeat (refine SeqP.go ?_; conv => whnf)
      refine cmpB (fun c1 => ?_) (fun c1 => ?_)
      · conv => whnf
        repeat (refine SeqP.go ?_; conv => whnf)
        exact ⟨(), ⟨rfl, rfl, rfl, rfl, rfl, trivial⟩, ⟨rfl, by omega⟩, rfl⟩
      conv => whnf
      refine ⟨_, cellAt_row hxH b2, ?_⟩
      conv => whnf
      refine cmpB (fun c2 => ?_) (fun c2 => ?_)
      rotate_left
      · conv => whnf
        repeat (refine SeqP.go ?_; conv => whnf)
        exact ⟨(w, l, H), ⟨rfl, rfl, rfl, rfl, trivial⟩, ⟨rfl, hpm, hb, by show 1 ≤ l.length; omega, by show l.length ≤ 2; omega, hall⟩, rfl⟩
      conv => whnf
      refine cmpB (fun c3 => ?_) (fun c3 => ?_)
      · conv => whnf
        repeat (refine SeqP.go ?_; conv => whnf)
        exact ⟨(), ⟨rfl, rfl, rfl, rfl, rfl, trivial⟩, ⟨rfl, by omega⟩, rfl⟩
      · conv => whnf
        repeat (refine SeqP.go ?_; conv => whnf)
        exact ⟨(w, l, H), ⟨rfl, rfl, rfl, rfl, trivial⟩, ⟨rfl, hpm, hb, by show 1 ≤ l.length; omega, by show l.length ≤ 2; omega, hall⟩, rfl⟩
    rintro _ φ4 _ ⟨rfl, hk2⟩
    conv => whnf
    refine SeqP.cut (α := Value × List Int × Hp) (fun s => [(10, int k), (6, ptr (h.next + 2) 0), (5, int n), (2, ptr h.next 0), (4, ptr (h.next + 1) 0)]) (fun s H' => s.2.2 = H' ∧ PM H1 s.2.2 (h.next + 2) [int n, vo, s.1, .slice none 0 0] ∧ Built (bareN H1.next) s.2.2 3 s.1 s.2.1 ∧ s.2.1.length = k + 1 ∧ ∀ x ∈ s.2.1, 0 ≤ x ∧ x ≤ (n : Int) - 1) ?_ ?_
    rotate_left
    · rintro ⟨w', l', H'⟩ φ4 _ ⟨rfl, h1, h2, h3, h4⟩
      dsimp only at h1 h2 h3 h4 ⊢
      conv => whnf
      refine ⟨((k + 1 : Nat) : Int), wie (by omega) (by omega), ?_⟩
      conv => whnf
      exact Rnd.mk (k + 1, w', l', H') ⟨by show k + 1 ≤ 2; omega, h1, h2, h3, h4⟩ (by show 2 - (k + 1) < 2 - k; omega) ⟨rfl, rfl, rfl, rfl, rfl, trivial⟩ (Hp.Le.refl _) rfl
    conv => whnf
    refine SeqP.go ?_
    conv => whnf
    refine SeqP.cut (α := Int) (fun y => [(11, int y), (10, int k), (6, ptr (h.next + 2) 0), (5, int n), (2, ptr h.next 0), (4, ptr (h.next + 1) 0)]) (fun y H' => H = H' ∧ 0 ≤ y ∧ y ≤ (n : Int) - 1) ?_ ?_
    · conv => whnf
      repeat (refine SeqP.go ?_; conv => whnf)
      refine ⟨_, cellAt_row hxH b2, ?_⟩
      conv => whnf
      refine cmpB (fun c2 => ?_) (fun c2 => ?_)
      rotate_left
      · conv => whnf
        exact ⟨0, ⟨rfl, rfl, rfl, rfl, rfl, rfl, trivial⟩, ⟨rfl, by omega, by omega⟩, rfl⟩
      have hc := (k2.ext hgH)
      obtain ⟨ao', co', ew, hcc⟩ := hc
      cases ew
      have hc := hcc k (by omega)
      obtain ⟨r, o, sp, ea, hsp, hci⟩ := hc
      subst ea
      have hux := u64_of st0[k]
      obtain ⟨u, u0, u1, hu⟩ := hux
      have b1' := tmod_bd u0 (show (0 : Int) < (n : Int) by omega)
      conv => whnf
      refine ⟨_, cellAt_row hxH b2, ?_⟩
      conv => whnf
      refine ⟨hsp, ⟨by omega, by omega⟩, ?_⟩
      conv => whnf
      refine ⟨int st0[k], by rw [offAt_eq, Nat.add_comm]; simpa using hci, ?_⟩
      conv => whnf
      refine ⟨u, hu, ?_⟩
      conv => whnf
      refine ⟨(n : Int), u64_id (by omega), ?_⟩
      conv => whnf
      refine ⟨by omega, ?_⟩
      conv => whnf
      refine ⟨u.tmod n, wid (by omega), ?_⟩
      conv => whnf
      exact ⟨u.tmod n, ⟨rfl, rfl, rfl, rfl, rfl, rfl, trivial⟩, ⟨rfl, by omega, by omega⟩, rfl⟩
    rintro y φ5 _ ⟨rfl, hy⟩
    conv => whnf
    repeat (refine SeqP.go ?_; conv => whnf)
    refine ⟨_, cellAt_row hpm.dat rfl, ?_⟩
    conv => whnf
    have hnx := hpm.next
    refine AppP.ints (hb.ext (Grows.lay _ _)) (bareN_grows (by rw [Hp.next_lay]; exact Nat.le_succ_of_le hnx)) Elems.lay1 (by simp; omega) ?_
    intro w2 H2 hb2 hg2 keep2
    have hdat2 := hpm.app_dat hD1 (Grows.lay _ _) keep2 (built_ge hb)
    rcases id hb2 with ⟨rfl, e⟩ | ⟨r2, rfl, hr2, x2, hat2⟩
    · simp at e
    conv => whnf
    refine ⟨rfl, _, storeAt_row hdat2 (by simp) rfl, ?_⟩
    conv => whnf
    refine ⟨(_, _, _), ⟨rfl, rfl, rfl, rfl, rfl, trivial⟩, ⟨rfl, hpm.app hD1 (Grows.lay _ _) keep2 (built_ge hb) hg2.next _, ?_, len_snoc hl y, all_snoc hall hy⟩, rfl⟩
    exact built_set_lt hb2 hD1
  rintro ⟨vs, ls, H2⟩ φ7 _ ⟨rfl, hpm2, hbs, hls1, hls2, has⟩
  dsimp only at hpm2 hbs hls1 hls2 has ⊢
  have hg2 := hpm2.grows hg1 (Nat.le_add_right _ _)
  have hx2a := hpm2.at_ _ _ (by omega) (by omega) hx1a
  have hx2b := hpm2.at_ _ _ (by omega) (by omega) hx1b
  have hn2x := hpm2.next
  have hD2 : h.next + 2 < H2.next := by omega
  have hpm2' := PM.start hpm2.dat
  conv => whnf
  refine SeqP.cut (α := Value × List Q4 × Hp) (fun s => [(6, ptr (h.next + 2) 0), (4, ptr (h.next + 1) 0)]) (fun s H => s.2.2 = H ∧ PM H2 s.2.2 (h.next + 2) [int n, vo, vs, s.1] ∧ BuiltC (bareN H2.next) s.2.2 96 4 s.1 s.2.1.length ((flat4 s.2.1).map int) ∧ RUp n n n s.2.1) ?_ ?_
  · conv => whnf
    repeat (refine SeqP.go ?_; conv => whnf)
    refine loop_inv (α := Nat × Value × List Q4 × Hp) (fun s => [(13, int s.1), (6, ptr (h.next + 2) 0), (5, int n), (2, ptr h.next 0), (4, ptr (h.next + 1) 0)]) (fun s => s.2.2.2) (fun s => s.1 ≤ n ∧ PM H2 s.2.2.2 (h.next + 2) [int n, vo, vs, s.2.1] ∧ BuiltC (bareN H2.next) s.2.2.2 96 4 s.2.1 s.2.2.1.length ((flat4 s.2.2.1).map int) ∧ RUp n s.1 s.1 s.2.2.1) (fun s => n - s.1) (0, .slice none 0 0, [], H2) ⟨Nat.zero_le _, hpm2', BuiltC.nil, RUp.start n⟩ ⟨rfl, rfl, rfl, rfl, rfl, trivial⟩ (Hp.Le.refl _) ?_
    rintro ⟨a, w, R, H⟩ φ3 ⟨ha, hpm, hb, hup⟩
    dsimp only at ha hpm hb hup ⊢
    conv => whnf
    repeat (refine SeqP.go ?_; conv => whnf)
    refine cmpB (fun c1 => ?_) (fun c1 => ?_)
    rotate_left
    · have : a = n := by omega
      subst this
      conv => whnf
      exact ⟨(w, R, H), ⟨rfl, rfl, trivial⟩, ⟨rfl, hpm, hb, hup⟩, rfl⟩
    have han : a < n := by omega
    conv => whnf
    refine SeqP.cut (α := Value × List Q4 × Hp) (fun s => [(13, int a), (6, ptr (h.next + 2) 0), (5, int n), (2, ptr h.next 0), (4, ptr (h.next + 1) 0)]) (fun s H' => s.2.2 = H' ∧ PM H2 s.2.2 (h.next + 2) [int n, vo, vs, s.1] ∧ BuiltC (bareN H2.next) s.2.2 96 4 s.1 s.2.1.length ((flat4 s.2.1).map int) ∧ RUp n (a + 1) (a + 1) s.2.1) ?_ ?_
    rotate_left
    · rintro ⟨w', R', H'⟩ φ4 _ ⟨rfl, h1, h2, h3⟩
      dsimp only at h1 h2 h3 ⊢
      conv => whnf
      refine ⟨((a + 1 : Nat) : Int), wie (by omega) (by omega), ?_⟩
      conv => whnf
      exact Rnd.mk (a + 1, w', R', H') ⟨by show a + 1 ≤ n; omega, h1, h2, h3⟩ (by show n - (a + 1) < n - a; omega) ⟨rfl, rfl, rfl, rfl, rfl, trivial⟩ (Hp.Le.refl _) rfl
    conv => whnf
    repeat (refine SeqP.go ?_; conv => whnf)
    refine loop_inv (α := Nat × Value × List Q4 × Hp) (fun s => [(14, int s.1), (13, int a), (6, ptr (h.next + 2) 0), (5, int n), (2, ptr h.next 0), (4, ptr (h.next + 1) 0)]) (fun s => s.2.2.2) (fun s => a ≤ s.1 ∧ s.1 ≤ n ∧ PM H2 s.2.2.2 (h.next + 2) [int n, vo, vs, s.2.1] ∧ BuiltC (bareN H2.next) s.2.2.2 96 4 s.2.1 s.2.2.1.length ((flat4 s.2.2.1).map int) ∧ RUp n a s.1 s.2.2.1) (fun s => n - s.1) (a, w, R, H) ⟨Nat.le_refl _, ha, hpm, hb, hup⟩ ⟨rfl, rfl, rfl, rfl, rfl, rfl, trivial⟩ (Hp.Le.refl _) ?_
    clear hpm hb hup
    rintro ⟨b, w, R, H⟩ φ4 ⟨hab, hbn, hpm, hb, hup⟩
    dsimp only at hab hbn hpm hb hup ⊢
    conv => whnf
    repeat (refine SeqP.go ?_; conv => whnf)
    refine cmpB (fun c2 => ?_) (fun c2 => ?_)
    rotate_left
    · have : b = n := by omega
      subst this
      conv => whnf
      exact ⟨(w, R, H), ⟨rfl, rfl, rfl, rfl, rfl, trivial⟩, ⟨rfl, hpm, hb, hup.turn han⟩, rfl⟩
    have hbn' : b < n := by omega
    conv => whnf
    refine SeqP.cut (α := Value × List Q4 × Hp) (fun s => [(14, int b), (13, int a), (6, ptr (h.next + 2) 0), (5, int n), (2, ptr h.next 0), (4, ptr (h.next + 1) 0)]) (fun s H' => s.2.2 = H' ∧ PM H2 s.2.2 (h.next + 2) [int n, vo, vs, s.1] ∧ BuiltC (bareN H2.next) s.2.2 96 4 s.1 s.2.1.length ((flat4 s.2.1).map int) ∧ RUp n a (b + 1) s.2.1) ?_ ?_
    rotate_left
    · rintro ⟨w', R', H'⟩ φ5 _ ⟨rfl, h1, h2, h3⟩
      dsimp only at h1 h2 h3 ⊢
      conv => whnf
      refine ⟨((b + 1 : Nat) : Int), wie (by omega) (by omega), ?_⟩
      conv => whnf
      exact Rnd.mk (b + 1, w', R', H') ⟨by show a ≤ b + 1; omega, by show b + 1 ≤ n; omega, h1, h2, h3⟩ (by show n - (b + 1) < n - b; omega) ⟨rfl, rfl, rfl, rfl, rfl, rfl, trivial⟩ (Hp.Le.refl _) rfl
    conv => whnf
    repeat (refine SeqP.go ?_; conv => whnf)
    refine loop_inv (α := Nat × Hp) (fun s => [(15, int s.1), (14, int b), (13, int a), (6, ptr (h.next + 2) 0), (5, int n), (2, ptr h.next 0), (4, ptr (h.next + 1) 0)]) (fun s => s.2) (fun s => s.1 ≤ R0.length ∧ PM H2 s.2 (h.next + 2) [int n, vo, vs, w] ∧ BuiltC (bareN H2.next) s.2 96 4 w R.length ((flat4 R).map int)) (fun s => R0.length - s.1) (0, H) ⟨Nat.zero_le _, hpm, hb⟩ ⟨rfl, rfl, rfl, rfl, rfl, rfl, rfl, trivial⟩ (Hp.Le.refl _) ?_
    clear hpm hb
    rintro ⟨i, H⟩ φ5 ⟨hi, hpm, hb⟩
    dsimp only at hi hpm hb ⊢
    have hgH := hpm.grows hg2 (Nat.le_add_right _ _)
    have hxH := hpm.at_ _ _ (by omega) (by omega) hx2a
    conv => whnf
    refine SeqP.cut (α := Unit) (fun _ => [(15, int i), (14, int b), (13, int a), (6, ptr (h.next + 2) 0), (5, int n), (2, ptr h.next 0), (4, ptr (h.next + 1) 0)]) (fun _ H' => H = H' ∧ i < R0.length) ?_ ?_
    · conv => whnf
      repeat (refine SeqP.go ?_; conv => whnf)
      refine ⟨_, cellAt_row hxH b3, ?_⟩
      conv => whnf
      refine cmpB (fun c3 => ?_) (fun c3 => ?_)
      rotate_left
      · conv => whnf
        repeat (refine SeqP.go ?_; conv => whnf)
        exact ⟨(w, R, H), ⟨rfl, rfl, rfl, rfl, rfl, rfl, trivial⟩, ⟨rfl, hpm, hb, hup.skip hab⟩, rfl⟩
      conv => whnf
      refine cmpB (fun c4 => ?_) (fun c4 => ?_)
      rotate_left
      · conv => whnf
        repeat (refine SeqP.go ?_; conv => whnf)
        exact ⟨(w, R, H), ⟨rfl, rfl, rfl, rfl, rfl, rfl, trivial⟩, ⟨rfl, hpm, hb, hup.skip hab⟩, rfl⟩
      · conv => whnf
        repeat (refine SeqP.go ?_; conv => whnf)
        exact ⟨(), ⟨rfl, rfl, rfl, rfl, rfl, rfl, rfl, trivial⟩, ⟨rfl, by omega⟩, rfl⟩
    rintro _ φ6 _ ⟨rfl, hiR⟩
    conv => whnf
    refine SeqP.cut (α := Hp) (fun _ => [(15, int i), (14, int b), (13, int a), (6, ptr (h.next + 2) 0), (5, int n), (2, ptr h.next 0), (4, ptr (h.next + 1) 0)]) (fun s H' => s = H' ∧ PM H2 s (h.next + 2) [int n, vo, vs, w] ∧ BuiltC (bareN H2.next) s 96 4 w R.length ((flat4 R).map int)) ?_ ?_
    rotate_left
    · rintro H' φ8 _ ⟨rfl, h1, h2⟩
      conv => whnf
      refine ⟨((i + 1 : Nat) : Int), wie (by omega) (by omega), ?_⟩
      conv => whnf
      exact Rnd.mk (i + 1, H') ⟨by show i + 1 ≤ R0.length; omega, h1, h2⟩ (by show R0.length - (i + 1) < R0.length - i; omega) ⟨rfl, rfl, rfl, rfl, rfl, rfl, rfl, trivial⟩ (Hp.Le.refl _) rfl
    have hck := hcr i hiR
    obtain ⟨rr, oo, ear, hck⟩ := hck
    subst ear
    have hckH := hgH.cells hck
    have hexq : ∃ q, R0[i] = q := ⟨_, rfl⟩
    obtain ⟨q, eq⟩ := hexq
    rw [eq] at hckH
    conv => whnf
    refine SeqP.cut (α := Hp) (fun s => [(16, ptr H.next 0), (15, int i), (14, int b), (13, int a), (6, ptr (h.next + 2) 0), (5, int n), (2, ptr h.next 0), (4, ptr (h.next + 1) 0)]) (fun s H' => s = H' ∧ s.at H.next = some (.row 96 true [int q.a, int q.b, int q.c, int q.d]) ∧ Grows H s) ?_ ?_
    · conv => whnf
      refine ⟨_, cellAt_row hxH b3, ?_⟩
      conv => whnf
      refine ⟨rfl, ⟨by omega, by omega⟩, ?_⟩
      conv => whnf
      refine ⟨[int q.a, int q.b, int q.c, int q.d], by rw [offAt_eq, Nat.add_comm]; simpa using hckH, ?_⟩
      conv => whnf
      refine ⟨rfl, _, storeAt_all (vs := [int q.a, int q.b, int q.c, int q.d]) rfl rfl rfl, ?_⟩
      conv => whnf
      exact ⟨_, ⟨rfl, rfl, rfl, rfl, rfl, rfl, rfl, rfl, trivial⟩, ⟨rfl, Hp.at_lay_self _ _, Grows.lay _ _⟩, rfl⟩
    rintro H3 φ8 _ ⟨rfl, hq3, hg3⟩
    have hpm3 := hpm.ext hg3
    have hb3 := hb.ext hg3
    clear hxH
    conv => whnf
    refine SeqP.cut (α := Int × Int) (fun s => [(17, int s.1), (18, int s.2), (16, ptr H.next 0), (15, int i), (14, int b), (13, int a), (6, ptr (h.next + 2) 0), (5, int n), (2, ptr h.next 0), (4, ptr (h.next + 1) 0)]) (fun s H' => H3 = H') ?_ ?_
    · have hux := u64_of q.a
      obtain ⟨u, u0, u1, hu⟩ := hux
      have hux' := u64_of q.b
      obtain ⟨u', u0', u1', hu'⟩ := hux'
      have e1 := tmod_bd u0 (show (0 : Int) < (n : Int) by omega)
      have e2 := tmod_bd u0' (show (0 : Int) < (n : Int) by omega)
      conv => whnf
      refine ⟨⟨by omega, by omega⟩, ?_⟩
      conv => whnf
      refine ⟨_, cellAt_row hq3 rfl, ?_⟩
      conv => whnf
      refine ⟨u, hu, ?_⟩
      conv => whnf
      refine ⟨(n : Int), u64_id (by omega), ?_⟩
      conv => whnf
      refine ⟨by omega, ?_⟩
      conv => whnf
      refine ⟨u.tmod n, wid (by omega), ?_⟩
      conv => whnf
      refine ⟨⟨by omega, by omega⟩, ?_⟩
      conv => whnf
      refine ⟨_, cellAt_row hq3 rfl, ?_⟩
      conv => whnf
      refine ⟨u', hu', ?_⟩
      conv => whnf
      refine ⟨(n : Int), u64_id (by omega), ?_⟩
      conv => whnf
      refine ⟨by omega, ?_⟩
      conv => whnf
      refine ⟨u'.tmod n, wid (by omega), ?_⟩
      conv => whnf
      exact ⟨(u.tmod n, u'.tmod n), ⟨rfl, rfl, rfl, rfl, rfl, rfl, rfl, rfl, rfl, rfl, trivial⟩, rfl, rfl⟩
    rintro ⟨c, d⟩ φ9 _ rfl
    dsimp only
    conv => whnf
    refine SeqP.cut (α := Unit) (fun _ => [(16, ptr H.next 0), (14, int b), (13, int a), (6, ptr (h.next + 2) 0), (5, int n), (2, ptr h.next 0), (4, ptr (h.next + 1) 0)]) (fun s H' => H3 = H') ?_ ?_
    · conv => whnf
      repeat (refine SeqP.go ?_; conv => whnf)
      refine resP_val (v := int (min c d)) (h := H3) ?_ ?_
      · conv => lhs; whnf
        exact congrArg (HRes.val · _) (min_eq3 _ _)
      conv => whnf
      refine cmpB (fun c5 => ?_) (fun c5 => ?_)
      · conv => whnf
        repeat (refine SeqP.go ?_; conv => whnf)
        exact ⟨H3, ⟨rfl, rfl, rfl, rfl, rfl, rfl, rfl, trivial⟩, ⟨rfl, hpm3, hb3⟩, rfl⟩
      conv => whnf
      refine resP_val (v := int (max c d)) (h := H3) ?_ ?_
      · conv => lhs; whnf
        exact congrArg (HRes.val · _) (max_eq3 _ _)
      conv => whnf
      refine cmpB (fun c6 => ?_) (fun c6 => ?_)
      · conv => whnf
        repeat (refine SeqP.go ?_; conv => whnf)
        exact ⟨H3, ⟨rfl, rfl, rfl, rfl, rfl, rfl, rfl, trivial⟩, ⟨rfl, hpm3, hb3⟩, rfl⟩
      · conv => whnf
        repeat (refine SeqP.go ?_; conv => whnf)
        exact ⟨(), ⟨rfl, rfl, rfl, rfl, rfl, rfl, rfl, trivial⟩, rfl, rfl⟩
    rintro _ φ10 _ rfl
    have hwk := hb3.slice
    obtain ⟨aw, ew, -⟩ := hwk
    conv => whnf
    refine SeqP.go ?_
    conv => whnf
    refine ⟨_, cellAt_row hpm3.dat rfl, ?_⟩
    conv => whnf
    refine SeqP.go ?_
    have hux := u64_of q.c
    obtain ⟨u, u0, u1, hu⟩ := hux
    have hux' := u64_of q.d
    obtain ⟨u', u0', u1', hu'⟩ := hux'
    have e1 := tmod_bd u0 (show (0 : Int) < (n : Int) by omega)
    have e2 := tmod_bd u0' (show (0 : Int) < (n : Int) by omega)
    have hexx : ∃ x, u.tmod n = x := ⟨_, rfl⟩
    obtain ⟨x, ex⟩ := hexx
    have hexy : ∃ y, u'.tmod n = y := ⟨_, rfl⟩
    obtain ⟨y, ey⟩ := hexy
    rw [ex] at e1
    rw [ey] at e2
    subst ew
    conv => whnf
    refine ⟨⟨by omega, by omega⟩, ?_⟩
    conv => whnf
    refine ⟨_, cellAt_row hq3 rfl, ?_⟩
    conv => whnf
    refine ⟨u, hu, ?_⟩
    conv => whnf
    refine ⟨(n : Int), u64_id (by omega), ?_⟩
    conv => whnf
    refine ⟨by omega, ?_⟩
    conv => whnf
    refine ⟨x, wie ex (by omega), ?_⟩
    conv => whnf
    refine ⟨⟨by omega, by omega⟩, ?_⟩
    conv => whnf
    refine ⟨_, cellAt_row hq3 rfl, ?_⟩
    conv => whnf
    refine ⟨u', hu', ?_⟩
    conv => whnf
    refine ⟨(n : Int), u64_id (by omega), ?_⟩
    conv => whnf
    refine ⟨by omega, ?_⟩
    conv => whnf
    refine ⟨y, wie ey (by omega), ?_⟩
    conv => whnf
    have hnx := hpm3.next
    have lit : ElemsC (H3.lay (.row 96 true [int a, int b, int x, int y])) 4 (slc H3.next 0 1 1) 1 ((flat4 [⟨a, b, x, y⟩]).map int) := BuiltC.elems (h0 := H3) (e := 96) rfl ⟨rfl, .inr ⟨H3.next, rfl, Nat.le_refl _, true, Hp.at_lay_self _ _⟩⟩
    have hRl : R.length ≤ 15 := by
      have h1 := hup.len
      have h2 : tri n a + (n - a) ≤ 15 := by
        have : ∀ n, n ≤ 5 → ∀ a, a < n → tri n a + (n - a) ≤ 15 := by decide
        exact this n hn5 a han
      omega
    refine AppP.cells (h0 := bareN H2.next) (hb3.ext (Grows.lay _ _)) (bareN_grows (by rw [Hp.next_lay]; exact Nat.le_succ_of_le hnx)) lit (by omega) (by omega) ?_
    intro w2 H4 hb4 hg4 keep4
    have hdat4 := hpm3.app_dat hD2 (Grows.lay _ _) keep4 (builtC_ge hb3)
    have hwk2 := hb4.slice
    obtain ⟨aw2, rfl, -⟩ := hwk2
    conv => whnf
    refine ⟨rfl, _, storeAt_row hdat4 (by simp) rfl, ?_⟩
    conv => whnf
    refine ⟨?_, ?_⟩
    · repeat' (first | exact True.intro | (refine And.intro ?_ ?_ <;> (conv => whnf)))
      all_goals first
        | exact sameAt_val (h2 := _) rfl (sameV_slice _ _ _)
        | exact sameAt_val (h2 := _) rfl (sameV_ptr3 _ _)
        | exact sameAt_val (h2 := _) rfl (sameV_int _)
        | trace_state
    conv => whnf
    repeat (refine SeqP.go ?_; conv => whnf)
    refine ⟨(_, R ++ [⟨a, b, x, y⟩], _), ⟨rfl, rfl, rfl, rfl, rfl, rfl, trivial⟩, ⟨rfl, hpm3.app hD2 (Grows.lay _ _) keep4 (builtC_ge hb3) hg4.next _, ?_, hup.add hab hbn' e1 e2⟩, rfl⟩
    rw [flat4_app, List.map_append, List.length_append]
    exact builtC_set_lt hb4 hD2
  rintro ⟨vr, R, H5⟩ φ11 _ ⟨rfl, hpm5, hbr, hup⟩
  dsimp only at hpm5 hbr hup ⊢
  have hdone := hup.done hn5
  have hx5 := hpm5.at_ _ _ (by omega) (by omega) hx2b
  have hg5 := hpm5.grows hg2 (Nat.le_add_right _ _)
  have hn5x := hpm5.next
  have hbo' : Built (bareN H0.next) (H5.set (h.next + 1) (.row 26 true [int n, vo, vs, vr])) 3 vo lo := by
    rcases hbo with h1 | ⟨r, e1, h2, x, h3⟩
    · exact .inl h1
    · have hlt := Hp.lt_of_at h3
      have h2' : H0.next ≤ r := h2
      exact .inr ⟨r, e1, h2, x, by rw [Hp.at_set_ne _ (by omega)]; exact hpm5.at_ _ _ (by omega) (by omega) (hpm2.at_ _ _ hlt (by omega) h3)⟩
  have hbs' : Built (bareN H1.next) (H5.set (h.next + 1) (.row 26 true [int n, vo, vs, vr])) 3 vs ls := by
    rcases hbs with h1 | ⟨r, e1, h2, x, h3⟩
    · exact .inl h1
    · have hlt := Hp.lt_of_at h3
      have h2' : H1.next ≤ r := h2
      exact .inr ⟨r, e1, h2, x, by rw [Hp.at_set_ne _ (by omega)]; exact hpm5.at_ _ _ hlt (by omega) h3⟩
  have hbr' := builtC_set_lt (r := h.next + 1) (o := .row 26 true [int n, vo, vs, vr]) hbr (by show h.next + 1 < H2.next; omega)
  have kvo := (LV.of hbo').known
  have kvs := (LV.of hbs').known
  have kvr := hbr'.slice
  obtain ⟨x1, rfl⟩ := kvo
  obtain ⟨x2, rfl⟩ := kvs
  obtain ⟨x3, rfl, -⟩ := kvr
  conv => whnf
  refine SeqP.go ?_
  conv => whnf
  refine ⟨_, four_cells hpm5.dat, ?_⟩
  conv => whnf
  refine ⟨rfl, _, storeAt_full (vs := [int n, .slice x1 lo.length lo.length, .slice x2 ls.length ls.length, .slice x3 R.length R.length]) hx5 rfl rfl rfl, ?_⟩
  conv => whnf
  repeat (refine SeqP.go ?_; conv => whnf)
  obtain ⟨i26, t26, ag26, sz26⟩ := ty26
  refine leave_cell (r := h.next + 1) (o := 0) (cs := [int n, .slice x1 lo.length lo.length, .slice x2 ls.length ls.length, .slice x3 R.length R.length]) rfl t26 ag26 ?_ ?_
  · rw [sz26]
    exact four_cells (Hp.at_set_self _ (Hp.lt_of_at hx5))
  · exact ⟨⟨⟨n, lo, ls, R⟩, ⟨_, _, _, rfl, LV.of hbo', LV.of hbs', RV.of hbr'⟩, ⟨by show (1 : Int) ≤ n; omega, by show (n : Int) ≤ 5; omega, by show (lo.length : Int) = n; omega, hao, hls1, hls2, has, hdone.1, hdone.2⟩, by show (n : Int) ≤ most; omega⟩, hg5.then_set _ (by omega)⟩
end
end Go.Proofs.Ytpiplaicnbapbaa
namespace Go.Proofs.Ytpiplaicnbapbaa
open Go.Rx Go.RowKit
theorem sum_zero : ∀ {l : List Int}, (∀ x ∈ l, 0 ≤ x) → l.sum = 0 → ∀ x ∈ l, x = 0
  | [], _, _ => by simp
  | y :: l, h, e => by
    have h1 := h y (by simp)
    have h2 : 0 ≤ l.sum := (by
      have : ∀ l : List Int, (∀ x ∈ l, 0 ≤ x) → 0 ≤ l.sum := by
        intro l
        induction l with
        | nil => intro _; simp
        | cons z l ih => intro hz; have := ih fun x hx => hz x (by simp [hx]); have := hz z (by simp); simp; omega
      exact this l fun x hx => h x (by simp [hx]))
    simp at e
    have h3 := sum_zero (l := l) (fun x hx => h x (by simp [hx])) (by omega)
    intro x hx
    rcases List.mem_cons.1 hx with rfl | hx
    · omega
    · exact h3 x hx
theorem sum_nn : ∀ {l : List Int}, (∀ x ∈ l, 0 ≤ x) → 0 ≤ l.sum
  | [], _ => by simp
  | y :: l, h => by have h1 := h y (by simp); have h2 := sum_nn (l := l) fun x hx => h x (by simp [hx]); simp; omega
theorem sum_le_of : ∀ {l : List Int}, (∀ x ∈ l, 0 ≤ x) → ∀ x ∈ l, x ≤ l.sum
  | [], _ => by simp
  | y :: l, h => by
    intro x hx
    have h1 := h y (by simp)
    have h2 := sum_nn (l := l) fun x hx => h x (by simp [hx])
    rcases List.mem_cons.1 hx with rfl | hx
    · simp; omega
    · have := sum_le_of (l := l) (fun x hx => h x (by simp [hx])) x hx
      simp; omega
attribute [local irreducible] E idxN cellAt cellsAt storeAt callable helems hmoved lookIn findKey keyOk hentries Hp.at Hp.set Hp.lay arBits hupdated setAt CallP YieldP BoolOf IsWrap Rnd LoopP AppP CutP Int.tmod Int.tdiv Int.fdiv
section
variable [Unknowns]
attribute [local irreducible] ResP sameAt
theorem gathered_spec (v : Value) (l : List Int) (h : Hp) (hv : Ints h v l) (hl : l.length < 9223372036854775808) (many most : Nat) (hm1 : 1 ≤ many) (hm : many ≤ 5) (ho1 : 1 ≤ most) (ho : most ≤ 9) : CallP E 35 [v, int many, int most] h (fun r h' => ∃ c : List Int, Built h h' 3 r c ∧ c.length = many ∧ (∀ x ∈ c, 0 ≤ x) ∧ 1 ≤ c.sum ∧ c.sum ≤ most ∧ Grows h h') := by
  obtain ⟨av, cp, rfl, hcell⟩ := id hv
  refine enter35 (by simp) ?_
  conv => whnf
  refine SeqP.go ?_
  conv => whnf
  refine SeqP.go ?_
  conv => whnf
  refine SeqP.go ?_
  conv => whnf
  refine SeqP.cut (α := Value × List Int × Int) (fun s => [(7, s.1), (8, int s.2.2), (2, int most)]) (fun s H => Built h H 3 s.1 s.2.1 ∧ s.2.1.length = many ∧ (∀ x ∈ s.2.1, 0 ≤ x) ∧ s.2.2 + s.2.1.sum = most ∧ 0 ≤ s.2.2 ∧ Grows h H) ?_ ?_
  · conv => whnf
    repeat (refine SeqP.go ?_; conv => whnf)
    refine loop_inv (α := Nat × Value × List Int × Int × Hp) (fun s => [(9, int s.1), (7, s.2.1), (8, int s.2.2.2.1), (0, .slice av l.length cp), (1, int many), (2, int most)]) (fun s => s.2.2.2.2) (fun s => s.1 ≤ many ∧ Built h s.2.2.2.2 3 s.2.1 s.2.2.1 ∧ s.2.2.1.length = s.1 ∧ (∀ x ∈ s.2.2.1, 0 ≤ x) ∧ s.2.2.2.1 + s.2.2.1.sum = most ∧ 0 ≤ s.2.2.2.1 ∧ Grows h s.2.2.2.2) (fun s => many - s.1) (0, .slice none 0 0, [], (most : Int), h) ⟨Nat.zero_le _, .inl ⟨rfl, rfl⟩, rfl, by simp, by simp, by show (0 : Int) ≤ most; omega, .refl _⟩ ⟨rfl, rfl, rfl, rfl, rfl, rfl, trivial⟩ (Hp.Le.refl _) ?_
    rintro ⟨k, w, c, left, H⟩ φ ⟨hk, hb, hcl, hnn, hsum, hle, hg⟩
    dsimp only at hk hb hcl hnn hsum hle hg ⊢
    have hcs := sum_nn hnn
    conv => whnf
    repeat (refine SeqP.go ?_; conv => whnf)
    refine cmpB (fun hb1 => ?_) (fun hb1 => ?_)
    rotate_left
    · conv => whnf
      exact ⟨(w, c, left), ⟨rfl, rfl, rfl, trivial⟩, ⟨hb, by show c.length = many; omega, hnn, hsum, hle, hg⟩, rfl⟩
    conv => whnf
    refine SeqP.cut (α := Value × List Int × Int × Hp) (fun s => [(9, int k), (7, s.1), (8, int s.2.2.1), (0, .slice av l.length cp), (1, int many), (2, int most)]) (fun s H' => s.2.2.2 = H' ∧ Built h s.2.2.2 3 s.1 s.2.1 ∧ s.2.1.length = k + 1 ∧ (∀ x ∈ s.2.1, 0 ≤ x) ∧ s.2.2.1 + s.2.1.sum = most ∧ 0 ≤ s.2.2.1 ∧ Grows h s.2.2.2) ?_ ?_
    rotate_left
    · rintro ⟨w', c', left', H'⟩ φ1 _ ⟨rfl, h1, h2, h3, h4, h5, h6⟩
      dsimp only at h1 h2 h3 h4 h5 h6 ⊢
      conv => whnf
      refine ⟨((k + 1 : Nat) : Int), wie (by omega) (by omega), ?_⟩
      conv => whnf
      exact Rnd.mk (k + 1, w', c', left', H') ⟨by show k + 1 ≤ many; omega, h1, h2, h3, h4, h5, h6⟩ (by show many - (k + 1) < many - k; omega) ⟨rfl, rfl, rfl, rfl, rfl, rfl, trivial⟩ (Hp.Le.refl _) rfl
    conv => whnf
    refine SeqP.go ?_
    conv => whnf
    refine SeqP.cut (α := Int) (fun x => [(10, int x), (9, int k), (7, w), (8, int left), (0, .slice av l.length cp), (1, int many), (2, int most)]) (fun x H' => H = H' ∧ 0 ≤ x ∧ x ≤ left) ?_ ?_
    · conv => whnf
      repeat (refine SeqP.go ?_; conv => whnf)
      refine cmpB (fun hb2 => ?_) (fun hb2 => ?_)
      rotate_left
      · conv => whnf
        exact ⟨0, ⟨rfl, rfl, rfl, rfl, rfl, rfl, rfl, trivial⟩, ⟨rfl, by omega, hle⟩, rfl⟩
      have hc := hv.ext hg
      obtain ⟨a', cp', ew, hcc⟩ := hc
      cases ew
      have hc := hcc k (by omega)
      obtain ⟨r, o, sp, ea, hsp, hci⟩ := hc
      subst ea
      have hux := u64_of l[k]
      obtain ⟨u, u0, u1, hu⟩ := hux
      have e1 := tmod_bd u0 (show (0 : Int) < left + 1 by omega)
      conv => whnf
      refine ⟨hsp, ⟨by omega, by omega⟩, ?_⟩
      conv => whnf
      refine ⟨int l[k], by rw [offAt_eq, Nat.add_comm]; simpa using hci, ?_⟩
      conv => whnf
      refine ⟨u, hu, ?_⟩
      conv => whnf
      refine ⟨left + 1, wie rfl (by omega), ?_⟩
      conv => whnf
      refine ⟨left + 1, u64_id (by omega), ?_⟩
      conv => whnf
      refine ⟨by omega, ?_⟩
      conv => whnf
      refine ⟨u.tmod (left + 1), wid (by omega), ?_⟩
      conv => whnf
      exact ⟨u.tmod (left + 1), ⟨rfl, rfl, rfl, rfl, rfl, rfl, rfl, trivial⟩, ⟨rfl, by omega, by omega⟩, rfl⟩
    rintro x φ2 _ ⟨rfl, hx0, hx1⟩
    conv => whnf
    repeat (refine SeqP.go ?_; conv => whnf)
    refine ⟨left - x, wie rfl (by omega), ?_⟩
    conv => whnf
    refine AppP.ints (hb.ext (Grows.lay _ _)) (hg.then_lay _) Elems.lay1 (by simp; omega) ?_
    intro w2 H2 hb2 hg2 _
    conv => whnf
    refine ⟨(w2, c ++ [x], left - x, H2), ⟨rfl, rfl, rfl, rfl, rfl, rfl, trivial⟩, ⟨rfl, hb2, len_snoc hcl x, all_snoc hnn hx0, ?_, by show 0 ≤ left - x; omega, hg2⟩, rfl⟩
    show left - x + (c ++ [x]).sum = most
    rw [List.sum_append]
    simp
    omega
  rintro ⟨w, c, left⟩ φ3 H3 ⟨hb, hcl, hnn, hsum, hle, hg⟩
  dsimp only at hb hcl hnn hsum hle ⊢
  have hcs := sum_nn hnn
  rcases id hb with ⟨rfl, e⟩ | ⟨r, rfl, hr, x, hat⟩
  · rw [e] at hcl; simp at hcl; omega
  conv => whnf
  refine SeqP.cut (α := List Int × Hp) (fun s => [(7, slc r 0 c.length c.length)]) (fun s H => s.2 = H ∧ Built h s.2 3 (slc r 0 c.length c.length) s.1 ∧ s.1.length = many ∧ (∀ x ∈ s.1, 0 ≤ x) ∧ 1 ≤ s.1.sum ∧ s.1.sum ≤ most ∧ Grows h s.2) ?_ ?_
  · conv => whnf
    repeat (refine SeqP.go ?_; conv => whnf)
    refine cmpB (fun hb2 => ?_) (fun hb2 => ?_)
    rotate_left
    · conv => whnf
      exact ⟨(c, H3), ⟨rfl, trivial⟩, ⟨rfl, hb, hcl, hnn, by show 1 ≤ c.sum; omega, by show c.sum ≤ most; omega, hg⟩, rfl⟩
    conv => whnf
    refine ⟨rfl, ⟨by omega, by omega⟩, ?_⟩
    conv => whnf
    have e9 : storeAt H3 r (offAt 0 (0 : Int).toNat 1) [int 1] = some (H3.set r (.row 3 x ((c.set 0 1).map int))) := by
      have := storeAt_row hat (o := 0) (v := int 1) (by rw [List.length_map]; omega) rfl
      rw [show (c.map int).set 0 (int 1) = (c.set 0 1).map int from by rw [List.map_set]] at this
      rw [offAt_eq]
      exact this
    refine ⟨rfl, _, e9, ?_⟩
    conv => whnf
    have hz := sum_zero hnn (by omega)
    have e1 : (c.set 0 1).sum = 1 := by
      cases c with
      | nil => simp at hcl; omega
      | cons y c =>
        have hy := hz y (by simp)
        simp at hsum
        simp
        omega
    refine ⟨(c.set 0 1, H3.set r (.row 3 x ((c.set 0 1).map int))), ⟨rfl, trivial⟩, ⟨rfl, .inr ⟨r, by show slc r 0 c.length c.length = slc r 0 (c.set 0 1).length (c.set 0 1).length; rw [List.length_set], hr, x, Hp.at_set_self _ (Hp.lt_of_at hat)⟩, by show (c.set 0 1).length = many; rw [List.length_set]; exact hcl, fun y hy => ?_, by show 1 ≤ (c.set 0 1).sum; omega, by show (c.set 0 1).sum ≤ most; omega, hg.then_set _ hr⟩, rfl⟩
    rcases List.mem_or_eq_of_mem_set hy with hy | rfl
    · exact hnn y hy
    · omega
  rintro ⟨c', H'⟩ φ4 _ ⟨rfl, h1, h2, h3, h4, h5, h6⟩
  dsimp only at h1 h2 h3 h4 h5 h6 ⊢
  conv => whnf
  repeat (refine SeqP.go ?_; conv => whnf)
  exact ⟨c', h1, h2, h3, h4, h5, h6⟩
end
end Go.Proofs.Ytpiplaicnbapbaa
namespace Go.Proofs.Ytpiplaicnbapbaa
open Go.Rx Go.RowKit
abbrev gl (l : List Int) (i : Nat) : Int := l.getD i 0
theorem gl_at {l : List Int} {i : Nat} (h : i < l.length) : gl l i = l[i] := by
  unfold gl; rw [List.getD_eq_getElem?_getD, List.getElem?_eq_getElem h]; rfl
theorem gl_set {l : List Int} {v : Nat} {x : Int} (h : v < l.length) (i : Nat) : gl (l.set v x) i = if i = v then x else gl l i := by
  unfold gl
  rw [List.getD_eq_getElem?_getD, List.getElem?_set, List.getD_eq_getElem?_getD]
  by_cases e : v = i
  · subst e; rw [if_pos rfl, if_pos h, if_pos rfl]; rfl
  · rw [if_neg e, if_neg (fun x => e x.symm)]
def bump (l : List Int) (x : Int × Int) : List Int := l.set x.1.toNat (gl l x.1.toNat + x.2)
theorem bump_len (l : List Int) (x : Int × Int) : (bump l x).length = l.length := List.length_set ..
theorem ty107 : ∃ i, E.ty 107 = some i ∧ i.agg = true ∧ i.size = 5 := by
  have hs : (tiOf Try.prog 107).isSome = true := by kernel_rfl
  refine ⟨(tiOf Try.prog 107).get hs, ty_get (by kernel_rfl) (Option.some_get hs).symm, ?_, ?_⟩ <;> kernel_rfl
theorem ty22 : ∃ i, E.ty 22 = some i ∧ i.desc = .slice 3 := by
  have hs : (tiOf Try.prog 22).isSome = true := by kernel_rfl
  refine ⟨(tiOf Try.prog 22).get hs, ty_get (by kernel_rfl) (Option.some_get hs).symm, ?_⟩
  kernel_rfl
theorem nil_neq (x : Operand) (c : Value) (a : Addr) (n m : Nat) : aBin E .eql 22 x (.const c) (.slice (some a) n m) (.slice none 0 0) = some (.bool false) := by
  obtain ⟨i, hi, hd⟩ := ty22
  show binOther E .eql 22 x (.const c) (.slice (some a) n m) (.slice none 0 0) = _
  unfold binOther
  show binNil E .eql 22 x (.const c) (.slice (some a) n m) (.slice none 0 0) false = _
  unfold binNil
  rw [hi]
  dsimp only
  rw [hd]
  have : (isConstOp x || isConstOp (.const c)) = true := by cases x <;> rfl
  rw [this]
  rfl
theorem row_store {H : Hp} {r i : Nat} {e : TypeId} {x : Bool} {l : List Int} (hat : H.at r = some (.row e x (l.map int))) (hi : i < l.length) (y : Int) : storeAt H r i [int y] = some (H.set r (.row e x ((l.set i y).map int))) := by
  have := storeAt_row hat (o := i) (v := int y) (by rw [List.length_map]; exact hi) rfl
  rwa [show (l.map int).set i (int y) = (l.set i y).map int from by rw [List.map_set]] at this
theorem row_load {H : Hp} {r i : Nat} {e : TypeId} {x : Bool} {l : List Int} (hat : H.at r = some (.row e x (l.map int))) (hi : i < l.length) : cellAt H r i = some (int (gl l i)) := by
  refine cellAt_row hat ?_
  rw [List.getElem?_map, List.getElem?_eq_getElem hi, gl_at hi]
  rfl
end Go.Proofs.Ytpiplaicnbapbaa
namespace Go.Proofs.Ytpiplaicnbapbaa
open Go.Rx Go.RowKit
def cv (l : List Int) : Value := .agg ⟨l.map int⟩
theorem over_int {l k : List Int} (h : l.length = k.length) : over (k.map int) 0 (l.map int) = l.map int := by
  have key : ∀ (a b pre : List Value), a.length = b.length → over (pre ++ b) pre.length a = pre ++ a := by
    intro a
    induction a with
    | nil => intro b pre hb; cases b with | nil => rfl | cons x b => simp at hb
    | cons x a ih =>
      intro b pre hb
      cases b with
      | nil => simp at hb
      | cons y b =>
        have h1 := ih b (pre ++ [x]) (by simpa using hb)
        have h2 : (pre ++ y :: b).set pre.length x = pre ++ [x] ++ b := by
          rw [List.set_append_right _ _ (Nat.le_refl _), Nat.sub_self]
          simp
        show over ((pre ++ y :: b).set pre.length x) (pre.length + 1) a = _
        rw [h2]
        rw [List.length_append, List.length_singleton] at h1
        rw [h1]
        simp
  exact key _ _ [] (by simp [h])
end Go.Proofs.Ytpiplaicnbapbaa
namespace Go.Proofs.Ytpiplaicnbapbaa
open Go.Rx Go.RowKit
theorem PV.box {h : Hp} {v : Value} {p : Prot} (k : PV h v p) : ∃ bx : List Value, v = .agg ⟨bx⟩ ∧ bx.length = 4 ∧ bx[0]? = some (int p.n) ∧ (∃ a, bx[1]? = some (.slice a p.out.length p.out.length) ∧ LV h (.slice a p.out.length p.out.length) p.out) ∧ (∃ a, bx[2]? = some (.slice a p.start.length p.start.length) ∧ LV h (.slice a p.start.length p.start.length) p.start) ∧ (∃ a, bx[3]? = some (.slice a p.rules.length p.rules.length) ∧ RV h (.slice a p.rules.length p.rules.length) p.rules) ∧ cellsOf (.agg ⟨bx⟩) = some bx := by
  obtain ⟨vo, vs, vr, rfl, k1, k2, k3⟩ := k
  obtain ⟨ao, rfl⟩ := k1.known
  obtain ⟨az, rfl⟩ := k2.known
  obtain ⟨ar, rfl, -⟩ := k3.slice
  exact ⟨_, rfl, rfl, rfl, ⟨ao, rfl, k1⟩, ⟨az, rfl, k2⟩, ⟨ar, rfl, k3⟩, rfl⟩
theorem all_cells {H : Hp} {r e m : Nat} {x : Bool} {cs : List Value} (hr : H.at r = some (.row e x cs)) (hl : cs.length = m) : cellsAt H r 0 m = some cs := by
  rw [cellsAt_row hr (by omega), List.drop_zero, List.take_of_length_le (by omega)]
end Go.Proofs.Ytpiplaicnbapbaa
namespace Go.Proofs.Ytpiplaicnbapbaa
open Go.Rx Go.RowKit
structure Quest where
  a : List Int
  b : Int
  m : Int
def QV (h : Hp) (v : Value) (q : Quest) : Prop := ∃ va, v = .agg ⟨[va, int q.b, int q.m]⟩ ∧ LV h va q.a
theorem QV.ext {h h' : Hp} {v : Value} {q : Quest} (g : Grows h h') (k : QV h v q) : QV h' v q := by
  obtain ⟨va, e, k⟩ := k
  exact ⟨va, e, k.ext g⟩
theorem QV.box {h : Hp} {v : Value} {q : Quest} (k : QV h v q) : ∃ bx : List Value, v = .agg ⟨bx⟩ ∧ bx.length = 3 ∧ (∃ a, bx[0]? = some (.slice a q.a.length q.a.length) ∧ LV h (.slice a q.a.length q.a.length) q.a) ∧ bx[1]? = some (int q.b) ∧ bx[2]? = some (int q.m) ∧ bx.all oneCell = true := by
  obtain ⟨va, rfl, k⟩ := k
  obtain ⟨ao, rfl⟩ := k.known
  exact ⟨_, rfl, rfl, ⟨ao, rfl, k⟩, rfl, rfl, rfl⟩
end Go.Proofs.Ytpiplaicnbapbaa
namespace Go.Proofs.Ytpiplaicnbapbaa
open Go.Rx Go.RowKit
structure PQ (H0 H : Hp) (D : Nat) (cs : List Value) : Prop where
  next : H0.next ≤ H.next
  at_ : ∀ r o, r < H0.next → r ≠ D → H0.at r = some o → H.at r = some o
  dat : H.at D = some (.row 69 true cs)
theorem PQ.start {H0 : Hp} {D : Nat} {cs : List Value} (h : H0.at D = some (.row 69 true cs)) : PQ H0 H0 D cs := ⟨Nat.le_refl _, fun _ _ _ _ e => e, h⟩
theorem PQ.ext {H0 H H' : Hp} {D : Nat} {cs : List Value} (k : PQ H0 H D cs) (g : Grows H H') : PQ H0 H' D cs := ⟨Nat.le_trans k.next g.next, fun r o h1 h2 e => g.at_ _ _ (k.at_ r o h1 h2 e), g.at_ _ _ k.dat⟩
theorem PQ.grows {h H0 H : Hp} {D : Nat} {cs : List Value} (k : PQ H0 H D cs) (g : Grows h H0) (hD : h.next ≤ D) : Grows h H := ⟨Nat.le_trans g.next k.next, fun r o e => by
  have := Hp.lt_of_at e
  have := g.next
  exact k.at_ r o (by omega) (by omega) (g.at_ _ _ e)⟩
theorem PQ.app {H0 H H1 H2 : Hp} {D : Nat} {cs : List Value} {v : Value} (k : PQ H0 H D cs) (hD : D < H0.next) (hg : Grows H H1) (keep : ∀ r o, H1.at r = some o → (∀ n c, v ≠ slc r 0 n c) → H2.at r = some o) (hv : ∀ r n c, v = slc r 0 n c → H0.next ≤ r) (hn : H0.next ≤ H2.next) (cs' : List Value) : PQ H0 (H2.set D (.row 69 true cs')) D cs' := by
  have hk : ∀ r o, r < H0.next → H1.at r = some o → H2.at r = some o := fun r o hr e => keep r o e fun n c e2 => by have := hv r n c e2; omega
  refine ⟨by rw [Hp.next_set]; exact hn, fun r o h1 h2 e => ?_, ?_⟩
  · rw [Hp.at_set_ne _ h2]
    exact hk r o h1 (hg.at_ _ _ (k.at_ r o h1 h2 e))
  · exact Hp.at_set_self _ (Hp.lt_of_at (hk D _ hD (hg.at_ _ _ k.dat)))
theorem PQ.app_dat {H0 H H1 H2 : Hp} {D : Nat} {cs : List Value} {v : Value} (k : PQ H0 H D cs) (hD : D < H0.next) (hg : Grows H H1) (keep : ∀ r o, H1.at r = some o → (∀ n c, v ≠ slc r 0 n c) → H2.at r = some o) (hv : ∀ r n c, v = slc r 0 n c → H0.next ≤ r) : H2.at D = some (.row 69 true cs) := keep D _ (hg.at_ _ _ k.dat) fun n c e2 => by have := hv D n c e2; omega
def QI (h : Hp) (v : Value) (q : Quest) : Prop := ∃ va, v = .agg ⟨[va, int q.b, int q.m]⟩ ∧ View h va q.a
theorem QI.ext {h h' : Hp} {v : Value} {q : Quest} (g : Grows h h') (k : QI h v q) : QI h' v q := by
  obtain ⟨va, e, k⟩ := k
  exact ⟨va, e, k.ext g⟩
end Go.Proofs.Ytpiplaicnbapbaa
namespace Go.Proofs.Ytpiplaicnbapbaa
open Go.Rx Go.RowKit
theorem under3 : Try.prog.underlying 3 = some (.int .i64) := Try.underlying3
theorem under22 : Try.prog.underlying 22 = some (.slice 3) := Try.underlying22
theorem under23 : Try.prog.underlying 23 = some (.slice 96) := Try.underlying23
theorem under96 : Try.prog.underlying 96 = some (.array 4 3) := Try.underlying96
def fieldTy (i : Nat) (t : TypeId) : Option TypeDesc → Option (TypeId × Nat)
  | some (.struct fs) => (fs[i]?).map fun f => (f.type, f.offset)
  | _ => none
theorem field_of {t ft off i : Nat} (h : fieldTy i t (Try.prog.underlying t) = some (ft, off)) {ts : List Tr} (hy : TyT Try.prog t ts) : ts.length = Try.prog.cellsOf t ∧ TyT Try.prog ft ((ts.drop off).take (Try.prog.cellsOf ft)) := by
  cases hu : Try.prog.underlying t with
  | none => rw [hu] at h; cases h
  | some d =>
    rw [hu] at h
    cases d with
    | struct fs =>
      have hf := ty_field hu hy
      unfold fieldTy at h
      dsimp only at h
      cases hg : fs[i]? with
      | none => rw [hg] at h; cases h
      | some f =>
        rw [hg] at h
        cases h
        exact ⟨hf.1, hf.2 i f hg⟩
    | _ => cases h
theorem cells3 : Try.prog.cellsOf 3 = 1 := by kernel_rfl
theorem cells22 : Try.prog.cellsOf 22 = 1 := by kernel_rfl
theorem cells23 : Try.prog.cellsOf 23 = 1 := by kernel_rfl
theorem cells96 : Try.prog.cellsOf 96 = 4 := by kernel_rfl
theorem flat4_of : ∀ (n : Nat) (l : List Int), l.length = n * 4 → ∃ R : List Q4, R.length = n ∧ flat4 R = l
  | 0, l, h => ⟨[], rfl, (List.eq_nil_of_length_eq_zero (by omega)).symm⟩
  | n + 1, l, h => by
    match l, h with
    | a :: b :: c :: d :: l, h =>
      obtain ⟨R, h1, h2⟩ := flat4_of n l (by simp at h; omega)
      exact ⟨⟨a, b, c, d⟩ :: R, by simp [h1], by simp [flat4, h2]⟩
    | [], h => simp at h
    | [_], h => simp at h; omega
    | [_, _], h => simp at h; omega
    | [_, _, _], h => simp at h; omega
theorem LentV.ri {h : Hp} {v : Value} {R : List Q4} (k : LentV h v R.length (flat4 R)) : RI h v R := by
  rcases k with (⟨rfl, h1, h2⟩ | ⟨r, rfl, hr⟩) | ⟨rfl, h1, h2⟩
  · exact ⟨none, 0, by rw [h1], fun j hj => by omega⟩
  · refine ⟨_, _, rfl, fun j hj => ⟨r, 0, rfl, ?_⟩⟩
    unfold cellsAt
    rw [hr]
    show Go.Rx.cellsIn (j * 4 + 0) 4 ((flat4 R).map int) = _
    unfold Go.Rx.cellsIn
    rw [if_pos (by rw [List.length_map, flat4_len]; omega), Nat.add_zero, ← List.map_drop, ← List.map_take, flat4_drop R j hj]
    rfl
  · exact ⟨_, _, by rw [h1]; rfl, fun j hj => by omega⟩
theorem one_of {ts : List Tr} {o : Nat} (h : o < ts.length) : (ts.drop o).take 1 = [ts[o]] := by
  rw [List.drop_eq_getElem_cons h]; rfl
theorem ag_inv {h : Hp} {v : Value} {ts : List Tr} (k : AbsT h v (.ag ts)) : ∃ vs : List Value, v = .agg ⟨vs⟩ ∧ vs.length = ts.length ∧ ∀ (k : Nat) v t, vs[k]? = some v → ts[k]? = some t → AbsT h v t := by
  cases k with
  | ag vs cs hl ht => exact ⟨vs, rfl, hl, ht⟩
theorem num_inv {h : Hp} {v : Value} {n : Int} (k : AbsT h v (.num n)) : v = int n := by cases k; rfl
theorem prot_arg {ts : List Tr} (hy : TyT Try.prog 25 ts) : ∃ p : Prot, InR p.n ∧ p.out.length ≤ maxLen ∧ p.start.length ≤ maxLen ∧ p.rules.length ≤ maxLen ∧ ∀ h v, AbsT h v (.ag ts) → PI h v p := by
  have f0 := field_of (i := 0) (ft := 3) (off := 0) (by kernel_rfl) hy
  have f1 := field_of (i := 1) (ft := 22) (off := 1) (by kernel_rfl) hy
  have f2 := field_of (i := 2) (ft := 22) (off := 2) (by kernel_rfl) hy
  have f3 := field_of (i := 3) (ft := 23) (off := 3) (by kernel_rfl) hy
  have hl : ts.length = 4 := f0.1.trans (by kernel_rfl)
  have f0 := f0.2
  have f1 := f1.2
  have f2 := f2.2
  have f3 := f3.2
  rw [cells3, one_of (by omega)] at f0
  rw [cells22, one_of (by omega)] at f1 f2
  rw [cells23, one_of (by omega)] at f3
  obtain ⟨n, en, hn⟩ := ty_num under3 f0
  obtain ⟨l1, e1, m1, r1⟩ := ty_ints under22 cells3 under3 f1
  obtain ⟨l2, e2, m2, r2⟩ := ty_ints under22 cells3 under3 f2
  obtain ⟨m, l3, e3, hl3, m3, r3⟩ := ty_rows (by omega) under23 under96 under3 cells96 cells3 f3
  obtain ⟨R, hR, eR⟩ := flat4_of m l3 hl3
  subst eR hR
  refine ⟨⟨n, l1, l2, R⟩, hn, m1, m2, m3, fun h v k => ?_⟩
  obtain ⟨vs, rfl, hvl, hk⟩ := ag_inv k
  match vs, hvl with
  | [v0, v1, v2, v3], _ =>
  have k0 := hk 0 v0 _ rfl (List.getElem?_eq_getElem (by omega))
  have k1 := hk 1 v1 _ rfl (List.getElem?_eq_getElem (by omega))
  have k2 := hk 2 v2 _ rfl (List.getElem?_eq_getElem (by omega))
  have k3 := hk 3 v3 _ rfl (List.getElem?_eq_getElem (by omega))
  rw [show ts[0] = .num n from List.cons.inj en |>.1] at k0
  rw [e1] at k1
  rw [e2] at k2
  rw [e3] at k3
  have := num_inv k0
  subst this
  exact ⟨v1, v2, v3, rfl, k1.view.ints, k2.view.ints, LentV.ri k3.lentV⟩
  | [], h | [_], h | [_, _], h | [_, _, _], h | _ :: _ :: _ :: _ :: _ :: _, h => simp [hl] at h
end Go.Proofs.Ytpiplaicnbapbaa
namespace Go.Proofs.Ytpiplaicnbapbaa
open Go.Rx Go.RowKit
theorem PQ.set {H0 H : Hp} {D : Nat} {cs : List Value} (p : PQ H0 H D cs) (cs' : List Value) : PQ H0 (H.set D (.row 69 true cs')) D cs' := ⟨by rw [Hp.next_set]; exact p.next, fun r o h1 h2 e => by rw [Hp.at_set_ne _ h2]; exact p.at_ r o h1 h2 e, Hp.at_set_self _ (Hp.lt_of_at p.dat)⟩
theorem PI.box {h : Hp} {v : Value} {p : Prot} (k : PI h v p) : ∃ bx : List Value, v = .agg ⟨bx⟩ ∧ bx.length = 4 := by
  obtain ⟨a, b, c, rfl, _⟩ := k
  exact ⟨_, rfl, rfl⟩
theorem PI.ext {h h' : Hp} {v : Value} {p : Prot} (g : Grows h h') (k : PI h v p) : PI h' v p := by
  obtain ⟨a, b, c, e, h1, h2, h3⟩ := k
  exact ⟨a, b, c, e, h1.ext g, h2.ext g, h3.ext g⟩
end Go.Proofs.Ytpiplaicnbapbaa
namespace Go.Proofs.Ytpiplaicnbapbaa
open Go.Rx Go.RowKit
def Allowed (c : List Int) (q : Q4) : Prop := if q.a = q.b then 1 < gl c q.a.toNat else 0 < gl c q.a.toNat ∧ 0 < gl c q.b.toNat
instance (c : List Int) (q : Q4) : Decidable (Allowed c q) := by unfold Allowed; infer_instance
def after (c : List Int) (q : Q4) : List Int := bump (bump (bump (bump c (q.a, -1)) (q.b, -1)) (q.c, 1)) (q.d, 1)
theorem after_len (c : List Int) (q : Q4) : (after c q).length = c.length := by unfold after; rw [bump_len, bump_len, bump_len, bump_len]
theorem gl_bump {l : List Int} {x : Int × Int} (h : x.1.toNat < l.length) (i : Nat) : gl (bump l x) i = if i = x.1.toNat then gl l i + x.2 else gl l i := by
  unfold bump
  rw [gl_set h]
  split
  · rename_i e; rw [e]
  · rfl
theorem sum_set : ∀ {l : List Int} {i : Nat} (h : i < l.length) (y : Int), (l.set i y).sum = l.sum - gl l i + y
  | [], i, h, y => by simp at h
  | x :: l, 0, h, y => by simp [gl]; omega
  | x :: l, i + 1, h, y => by
    have := sum_set (l := l) (i := i) (by simpa using h) y
    simp only [List.set_cons_succ, List.sum_cons, this]
    have : gl (x :: l) (i + 1) = gl l i := by simp [gl]
    rw [this]; omega
theorem sum_bump {l : List Int} {x : Int × Int} (h : x.1.toNat < l.length) : (bump l x).sum = l.sum + x.2 := by unfold bump; rw [sum_set h]; omega
def ind (i j : Nat) : Int := if i = j then 1 else 0
theorem ind_bd (i j : Nat) : 0 ≤ ind i j ∧ ind i j ≤ 1 := by unfold ind; split <;> omega
theorem ind_eq {i j : Nat} (h : i = j) : ind i j = 1 := if_pos h
theorem ind_ne {i j : Nat} (h : i ≠ j) : ind i j = 0 := if_neg h
theorem gl_bump2 {l : List Int} {j x : Int} (h : j.toNat < l.length) (i : Nat) : gl (bump l (j, x)) i = gl l i + x * ind i j.toNat := by
  rw [gl_bump h]
  unfold ind
  dsimp only
  split <;> omega
theorem gl_after {n : Nat} {c : List Int} {q : Q4} (hl : c.length = n) (h : q.a.toNat < n ∧ q.b.toNat < n ∧ q.c.toNat < n ∧ q.d.toNat < n) (i : Nat) : gl (after c q) i = gl c i - ind i q.a.toNat - ind i q.b.toNat + ind i q.c.toNat + ind i q.d.toNat := by
  obtain ⟨h1, h2, h3, h4⟩ := h
  have b1 : (bump c (q.a, -1)).length = n := by rw [bump_len, hl]
  have b2 : (bump (bump c (q.a, -1)) (q.b, -1)).length = n := by rw [bump_len, b1]
  have b3 : (bump (bump (bump c (q.a, -1)) (q.b, -1)) (q.c, 1)).length = n := by rw [bump_len, b2]
  unfold after
  rw [gl_bump2 (by omega), gl_bump2 (by omega), gl_bump2 (by omega), gl_bump2 (by omega)]
  omega
structure CrOk (n : Nat) (c : List Int) : Prop where
  len : c.length = n
  nn : ∀ i, 0 ≤ gl c i
  s1 : 1 ≤ c.sum
  s9 : c.sum ≤ 9
theorem gl_out {l : List Int} {i : Nat} (h : l.length ≤ i) : gl l i = 0 := by
  unfold gl; rw [List.getD_eq_getElem?_getD, List.getElem?_eq_none h]; rfl
theorem gl_mem {l : List Int} {p : Int → Prop} (h : ∀ x ∈ l, p x) (h0 : p 0) (i : Nat) : p (gl l i) := by
  by_cases hi : i < l.length
  · rw [gl_at hi]; exact h _ (List.getElem_mem hi)
  · rw [gl_out (by omega)]; exact h0
theorem CrOk.of {n : Nat} {c : List Int} (h : Cnt c n) : CrOk n c := ⟨by have := h.1; omega, gl_mem (p := fun x => 0 ≤ x) (fun x hx => (h.2.1 x hx).1) (by omega), h.2.2.1, h.2.2.2⟩
theorem CrOk.all {n : Nat} {c : List Int} (h : CrOk n c) : ∀ x ∈ c, 0 ≤ x := fun x hx => by
  obtain ⟨i, hi, rfl⟩ := List.getElem_of_mem hx
  rw [← gl_at hi]
  exact h.nn i
theorem CrOk.le {n : Nat} {c : List Int} (h : CrOk n c) (i : Nat) : gl c i ≤ 9 := by
  by_cases hi : i < c.length
  · have := sum_le_of h.all (gl c i) (by rw [gl_at hi]; exact List.getElem_mem hi)
    have := h.s9
    omega
  · rw [gl_out (by omega)]; omega
theorem CrOk.cnt {n : Nat} {c : List Int} (h : CrOk n c) : Cnt c n := ⟨by have := h.len; omega, fun x hx => ⟨h.all x hx, by
  obtain ⟨i, hi, rfl⟩ := List.getElem_of_mem hx
  rw [← gl_at hi]
  exact h.le i⟩, h.s1, h.s9⟩
theorem qin {n : Nat} {q : Q4} (h : QIn n q) : q.a.toNat < n ∧ q.b.toNat < n ∧ q.c.toNat < n ∧ q.d.toNat < n := by unfold QIn at h; omega
theorem qin' {n : Nat} {q : Q4} (h : QIn n q) : (0 ≤ q.a ∧ q.a < n) ∧ (0 ≤ q.b ∧ q.b < n) ∧ (0 ≤ q.c ∧ q.c < n) ∧ (0 ≤ q.d ∧ q.d < n) := by unfold QIn at h; omega
theorem CrOk.after {n : Nat} {c : List Int} (h : CrOk n c) {q : Q4} (hq : QIn n q) (ha : Allowed c q) : CrOk n (after c q) := by
  obtain ⟨h1, h2, h3, h4⟩ := qin hq
  have hl := h.len
  have b1 : (bump c (q.a, -1)).length = n := by rw [bump_len, hl]
  have b2 : (bump (bump c (q.a, -1)) (q.b, -1)).length = n := by rw [bump_len, b1]
  have b3 : (bump (bump (bump c (q.a, -1)) (q.b, -1)) (q.c, 1)).length = n := by rw [bump_len, b2]
  have hs : (Ytpiplaicnbapbaa.after c q).sum = c.sum := by
    unfold Ytpiplaicnbapbaa.after
    rw [sum_bump (by show q.d.toNat < _; omega), sum_bump (by show q.c.toNat < _; omega), sum_bump (by show q.b.toNat < _; omega), sum_bump (by show q.a.toNat < _; omega)]
    dsimp only
    omega
  refine ⟨by rw [after_len, hl], fun i => ?_, by rw [hs]; exact h.s1, by rw [hs]; exact h.s9⟩
  rw [gl_after hl ⟨h1, h2, h3, h4⟩]
  have hi := h.nn i
  have hq' := qin' hq
  have x1 := ind_bd i q.a.toNat
  have x2 := ind_bd i q.b.toNat
  have x3 := ind_bd i q.c.toNat
  have x4 := ind_bd i q.d.toNat
  unfold Allowed at ha
  by_cases e : q.a = q.b
  · rw [if_pos e] at ha
    by_cases e1 : i = q.a.toNat
    · subst e1; omega
    · rw [ind_ne e1, ind_ne (by rw [← e]; exact e1)]; omega
  · rw [if_neg e] at ha
    by_cases e1 : i = q.a.toNat
    · have e2 : i ≠ q.b.toNat := by omega
      rw [ind_ne e2]
      subst e1; omega
    · rw [ind_ne e1]
      by_cases e2 : i = q.b.toNat
      · subst e2; omega
      · rw [ind_ne e2]; omega
def step (R : List Q4) (c : List Int) (i : Int) : Option (List Int) := if h : 0 ≤ i ∧ i < R.length then (if Allowed c (R[i.toNat]'(by omega)) then some (after c (R[i.toNat]'(by omega))) else none) else none
theorem step_ok {n : Nat} {R : List Q4} {c c' : List Int} {i : Int} (hR : ∀ x ∈ R, QIn n x) (hc : CrOk n c) (h : step R c i = some c') : CrOk n c' := by
  unfold step at h
  split at h
  · split at h
    · rename_i h1 h2
      cases h
      exact hc.after (hR _ (List.getElem_mem _)) h2
    · cases h
  · cases h
def pad5 (c : List Int) : List Int := c ++ List.replicate (5 - c.length) 0
theorem pad5_len {c : List Int} (h : c.length ≤ 5) : (pad5 c).length = 5 := by unfold pad5; rw [List.length_append, List.length_replicate]; omega
theorem gl_pad (c : List Int) (i : Nat) : gl (pad5 c) i = gl c i := by
  unfold pad5
  by_cases h : i < c.length
  · unfold gl
    rw [List.getD_eq_getElem?_getD, List.getElem?_append_left h, List.getD_eq_getElem?_getD]
  · rw [gl_out (l := c) (by omega)]
    unfold gl
    rw [List.getD_eq_getElem?_getD, List.getElem?_append_right (by omega), List.getElem?_replicate]
    split <;> rfl
theorem bump_pad {c : List Int} {x : Int × Int} (h : x.1.toNat < c.length) : bump (pad5 c) x = pad5 (bump c x) := by
  have e : (bump c x).length = c.length := bump_len ..
  unfold bump at e ⊢
  rw [gl_pad]
  unfold pad5
  rw [List.set_append_left _ _ h, e]
theorem over_part (a b : List Value) (h : a.length ≤ b.length) : over b 0 a = a ++ b.drop a.length := by
  have key : ∀ (a b pre : List Value), a.length ≤ b.length → over (pre ++ b) pre.length a = pre ++ (a ++ b.drop a.length) := by
    intro a
    induction a with
    | nil => intro b pre hb; rfl
    | cons x a ih =>
      intro b pre hb
      cases b with
      | nil => simp at hb
      | cons y b =>
        have h1 := ih b (pre ++ [x]) (by simpa using hb)
        have h2 : (pre ++ y :: b).set pre.length x = pre ++ [x] ++ b := by
          rw [List.set_append_right _ _ (Nat.le_refl _), Nat.sub_self]
          simp
        show over ((pre ++ y :: b).set pre.length x) (pre.length + 1) a = _
        rw [h2]
        rw [List.length_append, List.length_singleton] at h1
        rw [h1]
        simp
  exact key a b [] h
def zero5 : List Int := [0, 0, 0, 0, 0]
theorem pad_over {c : List Int} (h : c.length ≤ 5) : over (zero5.map int) 0 (c.map int) = (pad5 c).map int := by
  rw [over_part _ _ (by rw [List.length_map, List.length_map]; exact h)]
  unfold pad5
  rw [List.map_append, List.length_map]
  congr 1
  have : c.length = 0 ∨ c.length = 1 ∨ c.length = 2 ∨ c.length = 3 ∨ c.length = 4 ∨ c.length = 5 := by omega
  rcases this with e | e | e | e | e | e <;> rw [e] <;> rfl
theorem storeAt_over {H : Hp} {r : Nat} {e : TypeId} {x : Bool} {cs vs : List Value} (hr : H.at r = some (.row e x cs)) (hl : vs.length ≤ cs.length) (h1 : vs.all oneCell = true) : storeAt H r 0 vs = some (H.set r (.row e x (over cs 0 vs))) := by
  unfold storeAt
  rw [hr]
  dsimp only
  rw [if_pos ⟨by omega, h1⟩]
theorem copy5 {H : Hp} {r : Nat} {w : Value} {c : List Int} (hat : H.at r = some (.row 107 true (zero5.map int))) (hel : Elems H w c) (hc : c.length ≤ 5) : hcopyT H 1 (.slice (some ⟨r, 0, some 1⟩) 5 5) w = .val (int c.length) (H.set r (.row 107 true ((pad5 c).map int))) := by
  unfold hcopyT
  dsimp only
  rw [hel.1]
  dsimp only
  rw [Nat.min_eq_left hc, hel.2]
  unfold hcopyInto
  dsimp only
  rw [show voidSp (some 1) = false from rfl]
  dsimp only
  rw [storeAt_over hat (by rw [List.length_map, List.length_map]; exact hc) (ints_one _), pad_over hc]
  rfl
def ReadR (p : Prot) (c : List Int) (r : Value) : Prop := ∃ (l : List Int) (e : Int), r = .tuple ⟨[cv l, int e]⟩ ∧ l.length = 5 ∧ (¬ POk p → e = 60) ∧ (POk p → ¬ Cnt c p.n → e = 1) ∧ (POk p → Cnt c p.n → e = 0 ∧ l = pad5 c)
attribute [local irreducible] E idxN cellAt cellsAt storeAt callable helems hmoved lookIn findKey keyOk hentries Hp.at Hp.set Hp.lay arBits hupdated setAt CallP YieldP BoolOf IsWrap Rnd LoopP AppP CutP Int.tmod Int.tdiv Int.fdiv
section
variable [Unknowns]
attribute [local irreducible] ResP sameAt finP
theorem crowdOf_spec (w : Value) (c : List Int) (h : Hp) (hw : View h w c) (hc : c.length ≤ 5) : CallP E 101 [w] h (fun r h' => r = cv (pad5 c) ∧ Grows h h') := by
  obtain ⟨ak, ck, rfl⟩ := hw.known
  have hp5 := pad5_len hc
  have g2 : Grows h ((h.lay (.row 107 true (zero5.map int))).lay (.row 107 true (zero5.map int))) := (Grows.lay _ _).then_lay _
  have n1 : (h.lay (.row 107 true (zero5.map int))).next = h.next + 1 := Hp.next_lay _ _
  have hel := (hw.ext g2).elems
  have hat3 := Hp.at_lay_self (h.lay (.row 107 true (zero5.map int))) (.row 107 true (zero5.map int))
  refine enter101 (by simp) ?_
  conv => whnf
  repeat (refine SeqP.go ?_; conv => whnf)
  refine resP_cutA ?_ (by omega)
  conv => whnf
  refine resP_val (v := int c.length) (h := ((h.lay (.row 107 true (zero5.map int))).lay (.row 107 true (zero5.map int))).set (h.lay (.row 107 true (zero5.map int))).next (.row 107 true ((pad5 c).map int))) ?_ ?_
  · exact copy5 hat3 hel hc
  have hat4 : (((h.lay (.row 107 true (zero5.map int))).lay (.row 107 true (zero5.map int))).set (h.lay (.row 107 true (zero5.map int))).next (.row 107 true ((pad5 c).map int))).at (h.lay (.row 107 true (zero5.map int))).next = some (.row 107 true ((pad5 c).map int)) := Hp.at_set_self _ (Hp.lt_of_at hat3)
  have hat5 : (((h.lay (.row 107 true (zero5.map int))).lay (.row 107 true (zero5.map int))).set (h.lay (.row 107 true (zero5.map int))).next (.row 107 true ((pad5 c).map int))).at h.next = some (.row 107 true (zero5.map int)) := by
    rw [Hp.at_set_ne _ (by rw [n1]; omega)]
    exact Hp.at_lay_old _ (Hp.at_lay_self _ _)
  conv => whnf
  repeat (refine SeqP.go ?_; conv => whnf)
  refine ⟨(pad5 c).map int, all_cells hat4 (by rw [List.length_map, hp5]), ?_⟩
  conv => whnf
  refine ⟨by show ((pad5 c).map int).length = 5; rw [List.length_map, hp5], _, storeAt_full (vs := (pad5 c).map int) hat5 (by rw [List.length_map, hp5]; rfl) (ints_one _) (over_int (k := zero5) (by rw [hp5]; rfl)), ?_⟩
  conv => whnf
  repeat (refine SeqP.go ?_; conv => whnf)
  obtain ⟨i107, t107, ag107, sz107⟩ := ty107
  refine leave_cell (r := h.next) (o := 0) (cs := (pad5 c).map int) rfl t107 ag107 ?_ ⟨rfl, (g2.then_set _ (by rw [n1]; omega)).then_set _ (Nat.le_refl _)⟩
  rw [sz107]
  exact all_cells (Hp.at_set_self _ (Hp.lt_of_at hat5)) (by rw [List.length_map, hp5])
end
end Go.Proofs.Ytpiplaicnbapbaa
