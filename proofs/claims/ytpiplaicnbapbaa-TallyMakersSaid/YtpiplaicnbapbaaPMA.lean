/- Contracts of the functions that PME comes to. -/
import Derived.Test.YtpiplaicnbapbaaCodePME
import Derived.Test.YtpiplaicnbapbaaWx12
import Derived.Test.YtpiplaicnbapbaaWx13
import Derived.Test.YtpiplaicnbapbaaWx14
import Derived.Test.YtpiplaicnbapbaaWx16
import Derived.Test.YtpiplaicnbapbaaWx18
import Derived.Test.YtpiplaicnbapbaaWx22
import Derived.Test.YtpiplaicnbapbaaWx23
import Derived.Test.YtpiplaicnbapbaaWx24
import Derived.Test.YtpiplaicnbapbaaTAwake
set_option maxRecDepth 100000
set_option maxHeartbeats 2000000
set_option linter.unusedVariables false
set_option linter.unusedSectionVars false
set_option linter.unusedSimpArgs false
namespace Go.Proofs.Ytpiplaicnbapbaa
open Go.Rx Go.RowKit
attribute [local irreducible] E idxN cellAt cellsAt storeAt callable helems hmoved lookIn findKey keyOk hentries Hp.at Hp.set Hp.lay arBits hupdated setAt CallP YieldP BoolOf IsWrap Rnd LoopP AppP CutP Int.tmod Int.tdiv Int.fdiv
theorem sum_bd : ∀ (l : List Int), (∀ x ∈ l, 0 ≤ x ∧ x ≤ 1000000) → 0 ≤ l.sum ∧ l.sum ≤ 1000000 * l.length
  | [], _ => by simp
  | x :: l, h => by
    have h1 := h x (by simp)
    have h2 := sum_bd l (fun y hy => h y (by simp [hy]))
    simp only [List.sum_cons, List.length_cons]
    omega
section
variable [Unknowns]
theorem within_spec (low high : Int) (v : Value) (l : List Int) (h : Hp) (hv : Ints h v l) (hl : l.length ≤ 1000000) : CallP E 60 [int low, int high, v] h (fun r h' => r = .bool (decide (∀ x ∈ l, low ≤ x ∧ x ≤ high)) ∧ h' = h) := by
  obtain ⟨a, cap, rfl, hc⟩ := hv
  refine enter60 (by simp) ?_
  ((conv => whnf); repeat (refine SeqP.go ?_; conv => whnf))
  refine loop_inv (α := Nat) (fun k => [(11, int k), (10, int l.length), (9, .slice a l.length cap), (0, int low), (1, int high)]) (fun _ => h) (fun k => k ≤ l.length ∧ ∀ j, (hj : j < k) → (hj2 : j < l.length) → low ≤ l[j] ∧ l[j] ≤ high) (fun k => l.length - k) 0 ⟨by omega, fun j hj => by omega⟩ ⟨rfl, rfl, rfl, rfl, rfl, trivial⟩ (Hp.Le.refl _) ?_
  rintro k φ ⟨hk, hin⟩
  ((conv => whnf); repeat (refine SeqP.go ?_; conv => whnf))
  rintro (_|_) hb
  · have hb := hb.f
    ((conv => whnf); repeat (refine SeqP.go ?_; conv => whnf))
    refine ⟨?_, rfl⟩
    have : (∀ x ∈ l, low ≤ x ∧ x ≤ high) := by
      intro x hx
      obtain ⟨j, hj, rfl⟩ := List.getElem_of_mem hx
      exact hin j (by omega) hj
    rw [decide_eq_true this]; rfl
  · have hb := hb.t
    have hk' : k < l.length := by omega
    obtain ⟨r, o, sp, rfl, hsp, hcell⟩ := hc k hk'
    have no : ¬ (low ≤ l[k] ∧ l[k] ≤ high) → ¬ (∀ x ∈ l, low ≤ x ∧ x ≤ high) := fun h1 h2 => h1 (h2 _ (List.getElem_mem hk'))
    ((conv => whnf); repeat (refine SeqP.go ?_; conv => whnf))
    repeat (first | (refine cmpT (by omega) ?_; ((conv => whnf); repeat (refine SeqP.go ?_; conv => whnf))) | (refine cmpF (by omega) ?_; ((conv => whnf); repeat (refine SeqP.go ?_; conv => whnf))) | (refine ⟨_, wid (by omega), ?_⟩; ((conv => whnf); repeat (refine SeqP.go ?_; conv => whnf))) | (refine ⟨⟨by omega, by omega⟩, ?_⟩; ((conv => whnf); repeat (refine SeqP.go ?_; conv => whnf))) | (refine ⟨by omega, ?_⟩; ((conv => whnf); repeat (refine SeqP.go ?_; conv => whnf))) | (refine ⟨_, by assumption, ?_⟩; ((conv => whnf); repeat (refine SeqP.go ?_; conv => whnf))) | (refine ⟨by assumption, ?_⟩; ((conv => whnf); repeat (refine SeqP.go ?_; conv => whnf))))
    rintro (_|_) hb1
    · have hb1 := hb1.f
      ((conv => whnf); repeat (refine SeqP.go ?_; conv => whnf))
      rintro (_|_) hb2
      · have hb2 := hb2.f
        ((conv => whnf); repeat (refine SeqP.go ?_; conv => whnf))
        repeat (first | (refine cmpT (by omega) ?_; ((conv => whnf); repeat (refine SeqP.go ?_; conv => whnf))) | (refine cmpF (by omega) ?_; ((conv => whnf); repeat (refine SeqP.go ?_; conv => whnf))) | (refine ⟨_, wid (by omega), ?_⟩; ((conv => whnf); repeat (refine SeqP.go ?_; conv => whnf))) | (refine ⟨⟨by omega, by omega⟩, ?_⟩; ((conv => whnf); repeat (refine SeqP.go ?_; conv => whnf))) | (refine ⟨by omega, ?_⟩; ((conv => whnf); repeat (refine SeqP.go ?_; conv => whnf))) | (refine ⟨_, by assumption, ?_⟩; ((conv => whnf); repeat (refine SeqP.go ?_; conv => whnf))) | (refine ⟨by assumption, ?_⟩; ((conv => whnf); repeat (refine SeqP.go ?_; conv => whnf))))
        refine Rnd.mk (k + 1) ⟨by omega, fun j hj hj2 => ?_⟩ (by omega) ⟨rfl, rfl, rfl, rfl, rfl, trivial⟩ (Hp.Le.refl _) rfl
        by_cases e : j = k
        · subst e; omega
        · exact hin j (by omega) hj2
      · have hb2 := hb2.t
        ((conv => whnf); repeat (refine SeqP.go ?_; conv => whnf))
        exact ⟨by rw [decide_eq_false (no (by omega))]; rfl, rfl⟩
    · have hb1 := hb1.t
      ((conv => whnf); repeat (refine SeqP.go ?_; conv => whnf))
      exact ⟨by rw [decide_eq_false (no (by omega))]; rfl, rfl⟩
theorem sum_spec (v : Value) (l : List Int) (h : Hp) (hv : Ints h v l) (hl : l.length ≤ 1000000) (hin : ∀ x ∈ l, 0 ≤ x ∧ x ≤ 1000000) : CallP E 90 [v] h (fun r h' => r = int l.sum ∧ h' = h) := by
  obtain ⟨a, cap, rfl, hc⟩ := id hv
  refine enter90 (by simp) ?_
  ((conv => whnf); repeat (refine SeqP.go ?_; conv => whnf))
  refine loop_inv (α := Nat) (fun k => [(8, int k), (7, int l.length), (6, .slice a l.length cap), (3, int (l.take k).sum)]) (fun _ => h) (fun k => k ≤ l.length) (fun k => l.length - k) 0 (by omega) ⟨rfl, rfl, rfl, rfl, trivial⟩ (Hp.Le.refl _) ?_
  intro k φ hk
  ((conv => whnf); repeat (refine SeqP.go ?_; conv => whnf))
  refine cmpB (fun hb => ?_) (fun hb => ?_)
  · have hk' : k < l.length := by omega
    obtain ⟨r, o, sp, rfl, hsp, hcell⟩ := hc k hk'
    have b1 := sum_bd (l.take k) (fun x hx => hin x (List.mem_of_mem_take hx))
    have b2 := hin l[k] (List.getElem_mem hk')
    have e1 : (l.take (k + 1)).sum = (l.take k).sum + l[k] := by
      rw [List.take_succ_eq_append_getElem hk', List.sum_append]; simp
    have e2 : (l.take k).length = k := by rw [List.length_take]; omega
    ((conv => whnf); repeat (refine SeqP.go ?_; conv => whnf))
    refine ⟨hsp, ⟨by omega, by omega⟩, ?_⟩
    ((conv => whnf); repeat (refine SeqP.go ?_; conv => whnf))
    refine ⟨_, hcell, ?_⟩
    ((conv => whnf); repeat (refine SeqP.go ?_; conv => whnf))
    refine ⟨(l.take (k + 1)).sum, wie e1.symm (by rw [e1]; rw [e2] at b1; omega), ?_⟩
    ((conv => whnf); repeat (refine SeqP.go ?_; conv => whnf))
    refine ⟨_, wid (by omega), ?_⟩
    ((conv => whnf); repeat (refine SeqP.go ?_; conv => whnf))
    exact Rnd.mk (k + 1) (by omega) (by omega) ⟨rfl, rfl, rfl, rfl, trivial⟩ (Hp.Le.refl _) rfl
  · have : k = l.length := by omega
    subst this
    ((conv => whnf); repeat (refine SeqP.go ?_; conv => whnf))
    refine ⟨?_, rfl⟩
    show int (l.take l.length).sum = _
    rw [List.take_length]
theorem isnan_spec (a : Int) (h : Hp) : CallP E 105 [int a] h (fun r h' => r = .bool false ∧ h' = h) := by
  refine enter105 (by simp) ?_
  ((conv => whnf); repeat (refine SeqP.go ?_; conv => whnf))
  refine cmpF (by omega) ?_
  ((conv => whnf); repeat (refine SeqP.go ?_; conv => whnf))
  exact ⟨rfl, rfl⟩
def cmpI (a b : Int) : Int := if a < b then -1 else if b < a then 1 else 0
theorem cmp_spec (a b : Int) (h : Hp) : CallP E 89 [int a, int b] h (fun r h' => r = int (cmpI a b) ∧ h' = h) := by
  refine enter89 (by simp) ?_
  ((conv => whnf); repeat (refine SeqP.go ?_; conv => whnf))
  refine CallP.mono (isnan_spec a h) ?_
  rintro r h1 ⟨rfl, rfl⟩
  ((conv => whnf); repeat (refine SeqP.go ?_; conv => whnf))
  refine CallP.mono (isnan_spec b h1) ?_
  rintro r h2 ⟨rfl, rfl⟩
  ((conv => whnf); repeat (refine SeqP.go ?_; conv => whnf))
  by_cases h3 : a < b
  · refine cmpT h3 ?_
    ((conv => whnf); repeat (refine SeqP.go ?_; conv => whnf))
    exact ⟨by unfold cmpI; rw [if_pos h3]; rfl, rfl⟩
  refine cmpF h3 ?_
  ((conv => whnf); repeat (refine SeqP.go ?_; conv => whnf))
  by_cases h4 : b < a
  · refine cmpT h4 ?_
    ((conv => whnf); repeat (refine SeqP.go ?_; conv => whnf))
    exact ⟨by unfold cmpI; rw [if_neg h3, if_pos h4]; rfl, rfl⟩
  refine cmpF h4 ?_
  ((conv => whnf); repeat (refine SeqP.go ?_; conv => whnf))
  exact ⟨by unfold cmpI; rw [if_neg h3, if_neg h4]; rfl, rfl⟩
def PLess (x y : Int × Int) : Prop := x.1 < y.1 ∨ x.1 = y.1 ∧ x.2 < y.2
theorem compare_spec (v w : Value) (x y : Int × Int) (h : Hp) (hv : Ints h v [x.1, x.2]) (hw : Ints h w [y.1, y.2]) : CallP E 61 [v, w] h (fun r h' => (∃ c : Int, r = int c ∧ (c < 0 ↔ PLess x y) ∧ (c = 0 ↔ x = y)) ∧ h' = h) := by
  obtain ⟨a, b⟩ := x
  obtain ⟨c, d⟩ := y
  obtain ⟨av, cap, rfl, hc⟩ := id hv
  obtain ⟨aw, cap', rfl, hd⟩ := id hw
  obtain ⟨r, o, sp, e, hsp, hc0⟩ := hc 0 (by simp)
  subst e
  obtain ⟨r', o', sp', e, hsp', hd0⟩ := hd 0 (by simp)
  subst e
  have hc1 : cellAt h r (1 + o) = some (int b) := by
    obtain ⟨_, _, _, e, _, h1⟩ := hc 1 (by simp)
    cases e
    exact h1
  have hd1 : cellAt h r' (1 + o') = some (int d) := by
    obtain ⟨_, _, _, e, _, h1⟩ := hd 1 (by simp)
    cases e
    exact h1
  refine enter61 (by simp) ?_
  ((conv => whnf); repeat (refine SeqP.go ?_; conv => whnf))
  refine loop_inv (α := Nat) (fun k => [(11, int k), (10, int 2), (9, .slice (some ⟨r, o, sp⟩) 2 cap), (0, .slice (some ⟨r, o, sp⟩) 2 cap), (1, .slice (some ⟨r', o', sp'⟩) 2 cap')]) (fun _ => h) (fun k => k ≤ 2 ∧ (1 ≤ k → a = c) ∧ (2 ≤ k → b = d)) (fun k => 2 - k) 0 ⟨by omega, by omega, by omega⟩ ⟨rfl, rfl, rfl, rfl, rfl, trivial⟩ (Hp.Le.refl _) ?_
  rintro k φ ⟨hk, h1, h2⟩
  have hk3 : k = 0 ∨ k = 1 ∨ k = 2 := by omega
  ((conv => whnf); repeat (refine SeqP.go ?_; conv => whnf))
  refine cmpB (fun hb => ?_) (fun hb => ?_)
  rotate_left
  · have : k = 2 := by omega
    subst this
    ((conv => whnf); repeat (refine SeqP.go ?_; conv => whnf))
    refine cmpF (by omega) ?_
    ((conv => whnf); repeat (refine SeqP.go ?_; conv => whnf))
    refine ⟨⟨0, rfl, ?_, ?_⟩, rfl⟩
    · unfold PLess; dsimp only; omega
    · rw [Prod.mk.injEq]; omega
  have hx : ∃ x : Int, cellAt h r (k + o) = some (int x) ∧ (k = 0 ∧ x = a ∨ k = 1 ∧ x = b) := by
    rcases hk3 with rfl | rfl | rfl
    · exact ⟨a, hc0, .inl ⟨rfl, rfl⟩⟩
    · exact ⟨b, hc1, .inr ⟨rfl, rfl⟩⟩
    · omega
  have hy : ∃ y : Int, cellAt h r' (k + o') = some (int y) ∧ (k = 0 ∧ y = c ∨ k = 1 ∧ y = d) := by
    rcases hk3 with rfl | rfl | rfl
    · exact ⟨c, hd0, .inl ⟨rfl, rfl⟩⟩
    · exact ⟨d, hd1, .inr ⟨rfl, rfl⟩⟩
    · omega
  obtain ⟨x, hx1, hx2⟩ := hx
  obtain ⟨y, hy1, hy2⟩ := hy
  ((conv => whnf); repeat (refine SeqP.go ?_; conv => whnf))
  refine ⟨hsp, ⟨by omega, by omega⟩, ?_⟩
  ((conv => whnf); repeat (refine SeqP.go ?_; conv => whnf))
  refine ⟨_, hx1, ?_⟩
  ((conv => whnf); repeat (refine SeqP.go ?_; conv => whnf))
  refine cmpF (by omega) ?_
  ((conv => whnf); repeat (refine SeqP.go ?_; conv => whnf))
  refine ⟨hsp', ⟨by omega, by omega⟩, ?_⟩
  ((conv => whnf); repeat (refine SeqP.go ?_; conv => whnf))
  refine ⟨_, hy1, ?_⟩
  ((conv => whnf); repeat (refine SeqP.go ?_; conv => whnf))
  refine CallP.mono (cmp_spec x y h) ?_
  rintro rr h3 ⟨rfl, rfl⟩
  ((conv => whnf); repeat (refine SeqP.go ?_; conv => whnf))
  by_cases hxy : x = y
  · refine cmpF (fun hn => hn (by unfold cmpI; rw [if_neg (by omega), if_neg (by omega)])) ?_
    ((conv => whnf); repeat (refine SeqP.go ?_; conv => whnf))
    refine ⟨_, wid (by omega), ?_⟩
    ((conv => whnf); repeat (refine SeqP.go ?_; conv => whnf))
    exact Rnd.mk (k + 1) ⟨by omega, by omega, by omega⟩ (by omega) ⟨rfl, rfl, rfl, rfl, rfl, trivial⟩ (Hp.Le.refl _) rfl
  · refine cmpT (fun hn => by
      unfold cmpI at hn
      split at hn
      · omega
      · split at hn <;> omega) ?_
    ((conv => whnf); repeat (refine SeqP.go ?_; conv => whnf))
    refine ⟨⟨cmpI x y, rfl, ?_, ?_⟩, rfl⟩
    · unfold PLess cmpI; dsimp only
      constructor
      · intro h
        split at h
        · omega
        · split at h <;> omega
      · intro h
        rw [if_pos (by omega)]
        omega
    · rw [Prod.mk.injEq]
      constructor
      · intro h
        unfold cmpI at h
        split at h
        · omega
        · split at h <;> omega
      · intro h; exfalso; omega
end
end Go.Proofs.Ytpiplaicnbapbaa
namespace Go.Proofs.Ytpiplaicnbapbaa
open Go.Rx Go.RowKit
def Cnt (l : List Int) (m : Int) : Prop := (l.length : Int) = m ∧ (∀ x ∈ l, 0 ≤ x ∧ x ≤ 9) ∧ 1 ≤ l.sum ∧ l.sum ≤ 9
def outF : Value := .func (.func 99) ⟨[]⟩ ⟨[]⟩
theorem bo_yes {p : Prop} (h : p) : BoolOf true p := ⟨fun _ => h, fun _ => rfl⟩
theorem bo_no {p : Prop} (h : ¬ p) : BoolOf false p := ⟨fun e => (by cases e), fun hp => absurd hp h⟩
attribute [local irreducible] E idxN cellAt cellsAt storeAt callable helems hmoved lookIn findKey keyOk hentries Hp.at Hp.set Hp.lay arBits hupdated setAt CallP YieldP BoolOf IsWrap Rnd LoopP AppP CutP Int.tmod Int.tdiv Int.fdiv
section
variable [Unknowns]
theorem out_spec (n : Int) (h : Hp) : CallP E 99 [int n] h (fun r h' => (∃ b, r = .bool b ∧ BoolOf b (¬ (0 ≤ n ∧ n ≤ 9))) ∧ h' = h) := by
  refine enter99 (by simp) ?_
  ((conv => whnf); repeat (refine SeqP.go ?_; conv => whnf))
  refine cmpB (fun hb => ?_) (fun hb => ?_)
  · ((conv => whnf); repeat (refine SeqP.go ?_; conv => whnf))
    exact ⟨⟨true, rfl, bo_yes (by omega)⟩, rfl⟩
  ((conv => whnf); repeat (refine SeqP.go ?_; conv => whnf))
  refine cmpB (fun hb2 => ?_) (fun hb2 => ?_)
  · ((conv => whnf); repeat (refine SeqP.go ?_; conv => whnf))
    exact ⟨⟨true, rfl, bo_yes (by omega)⟩, rfl⟩
  · ((conv => whnf); repeat (refine SeqP.go ?_; conv => whnf))
    exact ⟨⟨false, rfl, bo_no (by omega)⟩, rfl⟩
theorem index_spec (v : Value) (l : List Int) (h : Hp) (hv : Ints h v l) (hl : l.length ≤ 1000000) : CallP E 112 [v, outF] h (fun r h' => (∃ k, r = int k ∧ (0 ≤ k ↔ ¬ ∀ x ∈ l, 0 ≤ x ∧ x ≤ 9)) ∧ h' = h) := by
  obtain ⟨a, cap, rfl, hc⟩ := id hv
  refine enter112 (by simp) ?_
  ((conv => whnf); repeat (refine SeqP.go ?_; conv => whnf))
  refine loop_inv (α := Nat) (fun k => [(8, int k), (7, int l.length), (6, .slice a l.length cap), (0, .slice a l.length cap), (1, outF)]) (fun _ => h) (fun k => k ≤ l.length ∧ ∀ x ∈ l.take k, 0 ≤ x ∧ x ≤ 9) (fun k => l.length - k) 0 ⟨by omega, by simp⟩ ⟨rfl, rfl, rfl, rfl, rfl, trivial⟩ (Hp.Le.refl _) ?_
  rintro k φ ⟨hk, hall⟩
  ((conv => whnf); repeat (refine SeqP.go ?_; conv => whnf))
  refine cmpB (fun hb => ?_) (fun hb => ?_)
  rotate_left
  · have : k = l.length := by omega
    subst this
    rw [List.take_length] at hall
    ((conv => whnf); repeat (refine SeqP.go ?_; conv => whnf))
    exact ⟨⟨-1, rfl, ⟨fun h => by omega, fun h => absurd hall h⟩⟩, rfl⟩
  have hk' : k < l.length := by omega
  obtain ⟨r, o, sp, rfl, hsp, hcell⟩ := hc k hk'
  ((conv => whnf); repeat (refine SeqP.go ?_; conv => whnf))
  refine ⟨hsp, ⟨by omega, by omega⟩, ?_⟩
  ((conv => whnf); repeat (refine SeqP.go ?_; conv => whnf))
  refine ⟨_, hcell, ?_⟩
  ((conv => whnf); repeat (refine SeqP.go ?_; conv => whnf))
  refine ⟨can99, ?_⟩
  refine CallP.mono (out_spec l[k] h) ?_
  rintro r2 h2 ⟨⟨b, rfl, hb2⟩, rfl⟩
  cases b with
  | true =>
    ((conv => whnf); repeat (refine SeqP.go ?_; conv => whnf))
    exact ⟨⟨k, rfl, ⟨fun _ hh => hb2.t (hh _ (List.getElem_mem hk')), fun _ => by omega⟩⟩, rfl⟩
  | false =>
    ((conv => whnf); repeat (refine SeqP.go ?_; conv => whnf))
    refine ⟨_, wid (by omega), ?_⟩
    ((conv => whnf); repeat (refine SeqP.go ?_; conv => whnf))
    refine Rnd.mk (k + 1) ⟨by omega, fun x hx => ?_⟩ (by omega) ⟨rfl, rfl, rfl, rfl, rfl, trivial⟩ (Hp.Le.refl _) rfl
    rw [List.take_succ_eq_append_getElem hk'] at hx
    rcases List.mem_append.1 hx with h1 | h1
    · exact hall x h1
    · rw [List.mem_singleton.1 h1]
      have := hb2.f
      omega
theorem isCount_spec (v : Value) (l : List Int) (m : Int) (h : Hp) (hv : Ints h v l) (hl : l.length ≤ 1000000) : CallP E 70 [v, int m] h (fun r h' => (∃ b, r = .bool b ∧ BoolOf b (Cnt l m)) ∧ h' = h) := by
  obtain ⟨a, cap, rfl, hc⟩ := id hv
  refine enter70 (by simp) ?_
  ((conv => whnf); repeat (refine SeqP.go ?_; conv => whnf))
  refine cmpB (fun hb => ?_) (fun hb => ?_)
  · ((conv => whnf); repeat (refine SeqP.go ?_; conv => whnf))
    exact ⟨⟨false, rfl, bo_no fun hn => hb hn.1⟩, rfl⟩
  have cf : CallP E 100 [.slice a l.length cap, outF] h (fun r h' => (∃ b, r = .bool b ∧ BoolOf b (¬ ∀ x ∈ l, 0 ≤ x ∧ x ≤ 9)) ∧ h' = h) := by
    refine enter100 (by simp) ?_
    ((conv => whnf); repeat (refine SeqP.go ?_; conv => whnf))
    refine CallP.mono (index_spec _ l h hv hl) ?_
    rintro r h2 ⟨⟨k, rfl, hk⟩, rfl⟩
    ((conv => whnf); repeat (refine SeqP.go ?_; conv => whnf))
    refine cmpB (fun hb2 => ?_) (fun hb2 => ?_)
    · ((conv => whnf); repeat (refine SeqP.go ?_; conv => whnf))
      exact ⟨⟨true, rfl, bo_yes (hk.1 hb2)⟩, rfl⟩
    · ((conv => whnf); repeat (refine SeqP.go ?_; conv => whnf))
      exact ⟨⟨false, rfl, bo_no fun hn => hb2 (hk.2 hn)⟩, rfl⟩
  ((conv => whnf); repeat (refine SeqP.go ?_; conv => whnf))
  refine CallP.mono cf ?_
  rintro r h2 ⟨⟨b, rfl, hb2⟩, rfl⟩
  cases b with
  | true =>
    ((conv => whnf); repeat (refine SeqP.go ?_; conv => whnf))
    exact ⟨⟨false, rfl, bo_no fun hn => hb2.t hn.2.1⟩, rfl⟩
  | false =>
    have hin : ∀ x ∈ l, 0 ≤ x ∧ x ≤ 9 := Classical.byContradiction fun hn => hb2.f hn
    have hsb := sum_bd l fun x hx => by have := hin x hx; omega
    ((conv => whnf); repeat (refine SeqP.go ?_; conv => whnf))
    refine CallP.mono (sum_spec _ l h2 hv hl fun x hx => by have := hin x hx; omega) ?_
    rintro r h3 ⟨rfl, rfl⟩
    ((conv => whnf); repeat (refine SeqP.go ?_; conv => whnf))
    refine cmpB (fun hb3 => ?_) (fun hb3 => ?_)
    rotate_left
    · ((conv => whnf); repeat (refine SeqP.go ?_; conv => whnf))
      exact ⟨⟨false, rfl, bo_no fun hn => by have := hn.2.2; omega⟩, rfl⟩
    ((conv => whnf); repeat (refine SeqP.go ?_; conv => whnf))
    refine cmpB (fun hb4 => ?_) (fun hb4 => ?_)
    · ((conv => whnf); repeat (refine SeqP.go ?_; conv => whnf))
      exact ⟨⟨true, rfl, bo_yes ⟨by omega, hin, by omega, by omega⟩⟩, rfl⟩
    · ((conv => whnf); repeat (refine SeqP.go ?_; conv => whnf))
      exact ⟨⟨false, rfl, bo_no fun hn => by have := hn.2.2; omega⟩, rfl⟩
end
end Go.Proofs.Ytpiplaicnbapbaa
namespace Go.Proofs.Ytpiplaicnbapbaa
open Go.Rx Go.RowKit
structure Q4 where
  a : Int
  b : Int
  c : Int
  d : Int
def flat4 : List Q4 → List Int
  | [] => []
  | q :: l => q.a :: q.b :: q.c :: q.d :: flat4 l
theorem flat4_len : ∀ l : List Q4, (flat4 l).length = l.length * 4
  | [] => rfl
  | q :: l => by show (flat4 l).length + 1 + 1 + 1 + 1 = (l.length + 1) * 4; rw [flat4_len l]; omega
theorem flat4_app : ∀ l m : List Q4, flat4 (l ++ m) = flat4 l ++ flat4 m
  | [], _ => rfl
  | q :: l, m => by show _ :: _ :: _ :: _ :: flat4 (l ++ m) = _; rw [flat4_app l m]; rfl
theorem flat4_drop : ∀ (l : List Q4) (k : Nat) (h : k < l.length), ((flat4 l).drop (k * 4)).take 4 = [l[k].a, l[k].b, l[k].c, l[k].d]
  | [], k, h => by simp at h
  | q :: l, 0, h => by simp [flat4]
  | q :: l, k + 1, h => by
    have := flat4_drop l k (by simp at h; omega)
    rw [show (k + 1) * 4 = k * 4 + 1 + 1 + 1 + 1 by omega]
    simpa [flat4] using this
structure Prot where
  n : Int
  out : List Int
  start : List Int
  rules : List Q4
def bare0 : Hp := ⟨0, fun _ => none⟩
abbrev LV (h : Hp) (v : Value) (l : List Int) : Prop := Built bare0 h 3 v l
abbrev RV (h : Hp) (v : Value) (R : List Q4) : Prop := BuiltC bare0 h 96 4 v R.length ((flat4 R).map int)
theorem LV.of {h0 h : Hp} {v : Value} {l : List Int} (k : Built h0 h 3 v l) : LV h v l := k.back (Nat.zero_le _)
theorem RV.of {h0 h : Hp} {v : Value} {R : List Q4} (k : BuiltC h0 h 96 4 v R.length ((flat4 R).map int)) : RV h v R := k.back (Nat.zero_le _)
theorem RV.cells {h : Hp} {v : Value} {R : List Q4} (k : RV h v R) : ∃ a, v = .slice a R.length R.length ∧ ∀ j, (hj : j < R.length) → ∃ r, a = some ⟨r, 0, none⟩ ∧ cellsAt h r (j * 4) 4 = some [int R[j].a, int R[j].b, int R[j].c, int R[j].d] := by
  obtain ⟨a, e, hc⟩ := k.slice
  refine ⟨a, e, fun j hj => ?_⟩
  obtain ⟨r, e2, x, hr⟩ := hc j hj
  refine ⟨r, e2, ?_⟩
  rw [cellsAt_row hr (by rw [List.length_map, flat4_len]; omega), ← List.map_drop, ← List.map_take, flat4_drop R j hj]
  rfl
theorem RV.one {h : Hp} {v : Value} {R : List Q4} (k : RV h v R) : ElemsC h 4 v R.length ((flat4 R).map int) := k.elems (ints_one _)
def pval (n : Int) (vo vs vr : Value) : Value := .agg ⟨[int n, vo, vs, vr]⟩
def PV (h : Hp) (v : Value) (p : Prot) : Prop := ∃ vo vs vr, v = pval p.n vo vs vr ∧ LV h vo p.out ∧ LV h vs p.start ∧ RV h vr p.rules
theorem PV.ext {h h' : Hp} {v : Value} {p : Prot} (g : Grows h h') (k : PV h v p) : PV h' v p := by
  obtain ⟨a, b, c, e, h1, h2, h3⟩ := k
  exact ⟨a, b, c, e, h1.ext g, h2.ext g, h3.ext g⟩
theorem ty25 : ∃ i, E.ty 25 = some i ∧ i.agg = true ∧ i.size = 4 := by
  have hs : (tiOf Try.prog 25).isSome = true := by kernel_rfl
  refine ⟨(tiOf Try.prog 25).get hs, ty_get (by kernel_rfl) (Option.some_get hs).symm, ?_, ?_⟩ <;> kernel_rfl
theorem LV.known {h : Hp} {v : Value} {l : List Int} (k : LV h v l) : ∃ a, v = .slice a l.length l.length := by
  rcases k with ⟨rfl, rfl⟩ | ⟨r, rfl, _⟩
  · exact ⟨none, rfl⟩
  · exact ⟨_, rfl⟩
theorem at_nx2 {h : Hp} {r r' : Nat} {o : Rx.Obj} (e : r = r') (k : h.at r = some o) : h.at r' = some o := e ▸ k
theorem sameV_ptr3 (a b : Nat) : sameV 4 (ptr a b) (ptr a b) = true := by simp [sameV, ptr]
end Go.Proofs.Ytpiplaicnbapbaa
namespace Go.Proofs.Ytpiplaicnbapbaa
open Go.Rx Go.RowKit
theorem resP_cutLim {E : Env} {h : Hp} {n k r o : Nat} {K : Value → Hp → Prop} (hn : 0 < n) (hk : k ≤ n) (q : K (.slice (some ⟨r, o, some 1⟩) k n) h) : ResP E (hcutA h n 1 (ptr r o) none (some (int k)) none) K := by
  have e : hcutA h n 1 (ptr r o) none (some (int k)) none = .val (.slice (some ⟨r, o, some 1⟩) k n) h := by
    unfold hcutA
    dsimp only [ptr]
    rw [bounds_of (i := 0) (j := k) ⟨.inl ⟨rfl, rfl⟩, .inr rfl⟩ (by omega) hk (Nat.le_refl _)]
    unfold cutLim
    dsimp only
    have e1 : cutTo 1 o 0 n = o := by
      unfold cutTo
      cases n with
      | zero => omega
      | succ n => rfl
    rw [e1]
    rfl
  rw [e]
  exact q
theorem ints_lim {h : Hp} {r o c : Nat} {l : List Int} (k : ∀ j, (hj : j < l.length) → cellAt h r (j + o) = some (int l[j])) : Ints h (.slice (some ⟨r, o, some 1⟩) l.length c) l := ⟨_, c, rfl, fun j hj => ⟨r, o, some 1, rfl, rfl, k j hj⟩⟩
theorem cells_cell {h : Hp} {r o m : Nat} {vs : List Value} (e : cellsAt h r o m = some vs) (j : Nat) (hj : j < m) : cellAt h r (o + j) = vs[j]? := by
  unfold cellsAt at e
  unfold cellAt
  have key : ∀ cs : List Value, Go.Rx.cellsIn o m cs = some vs → cs[o + j]? = vs[j]? := by
    intro cs e
    unfold Go.Rx.cellsIn at e
    split at e
    · cases e
      rw [List.getElem?_take, if_pos hj, List.getElem?_drop]
    · cases e
  split at e
  · exact key _ e
  · exact key _ e
  · cases e
def QLess (x y : Q4) : Prop := x.a < y.a ∨ x.a = y.a ∧ x.b < y.b
def QIn (n : Int) (x : Q4) : Prop := (0 ≤ x.a ∧ x.a ≤ n - 1) ∧ (0 ≤ x.b ∧ x.b ≤ n - 1) ∧ (0 ≤ x.c ∧ x.c ≤ n - 1) ∧ (0 ≤ x.d ∧ x.d ≤ n - 1)
def RuleOk (n : Int) (R : List Q4) (k : Nat) (hk : k < R.length) : Prop := QIn n R[k] ∧ R[k].a ≤ R[k].b ∧ ∀ h0 : 0 < k, QLess (R[k - 1]'(by omega)) R[k]
def ROk (n : Int) (R : List Q4) (m : Nat) : Prop := ∀ k, (hk : k < R.length) → k < m → RuleOk n R k hk
structure POk (p : Prot) : Prop where
  n1 : 1 ≤ p.n
  n5 : p.n ≤ 5
  outl : (p.out.length : Int) = p.n
  outs : ∀ x ∈ p.out, 0 ≤ x ∧ x ≤ 1
  st1 : 1 ≤ p.start.length
  st2 : p.start.length ≤ 2
  sts : ∀ x ∈ p.start, 0 ≤ x ∧ x ≤ p.n - 1
  rl : p.rules.length ≤ 15
  rs : ROk p.n p.rules p.rules.length
def PChk (p : Prot) (e : Int) : Prop := (POk p → e = 0) ∧ (¬ POk p → e = 60)
theorem PChk.bad {p : Prot} (h : ¬ POk p) : PChk p 60 := ⟨fun k => absurd k h, fun _ => rfl⟩
theorem four_in (n : Int) (q : Q4) : (∀ x ∈ [q.a, q.b, q.c, q.d], 0 ≤ x ∧ x ≤ n) ↔ (0 ≤ q.a ∧ q.a ≤ n) ∧ (0 ≤ q.b ∧ q.b ≤ n) ∧ (0 ≤ q.c ∧ q.c ≤ n) ∧ (0 ≤ q.d ∧ q.d ≤ n) := by simp
theorem row_cell4 {H : Hp} {r : Nat} {e : TypeId} {x : Bool} {a b c d : Int} (hr : H.at r = some (.row e x [int a, int b, int c, int d])) (j : Nat) (hj : j < 4) : cellAt H r (j + 0) = some (int ([a, b, c, d][j]'(by simpa using hj))) := by
  refine cellAt_row hr ?_
  match j, hj with
  | 0, _ => rfl
  | 1, _ => rfl
  | 2, _ => rfl
  | 3, _ => rfl
attribute [local irreducible] E idxN cellAt cellsAt storeAt callable helems hmoved lookIn findKey keyOk hentries Hp.at Hp.set Hp.lay arBits hupdated setAt CallP YieldP BoolOf IsWrap Rnd LoopP AppP CutP Int.tmod Int.tdiv Int.fdiv
section
variable [Unknowns]
attribute [local irreducible] ResP sameAt
theorem check_spec (v : Value) (p : Prot) (h : Hp) (hv : PV h v p) (hn : InR p.n) (ho : p.out.length ≤ 1000000) (hs : p.start.length ≤ 1000000) (hr : p.rules.length ≤ 1000000) : CallP E 21 [v] h (fun r h' => (∃ e, r = int e ∧ PChk p e) ∧ Grows h h') := by
  obtain ⟨n, out, start, R⟩ := p
  obtain ⟨vo, vs, vr, rfl, k1, k2, k3⟩ := hv
  dsimp only at hn ho hs hr k1 k2 k3 ⊢
  unfold InR at hn
  obtain ⟨ao, rfl⟩ := k1.known
  obtain ⟨az, rfl⟩ := k2.known
  obtain ⟨ar, rfl, hcr⟩ := k3.cells
  unfold pval
  have hexv : ∃ vs : List Value, vs = [int n, .slice ao out.length out.length, .slice az start.length start.length, .slice ar R.length R.length] := ⟨_, rfl⟩
  obtain ⟨bx, ebx⟩ := hexv
  have b0 : bx[0]? = some (int n) := by rw [ebx]; rfl
  have b1 : bx[1]? = some (.slice ao out.length out.length) := by rw [ebx]; rfl
  have b2 : bx[2]? = some (.slice az start.length start.length) := by rw [ebx]; rfl
  have b3 : bx[3]? = some (.slice ar R.length R.length) := by rw [ebx]; rfl
  rw [← ebx]
  have hat : (h.lay (.row 25 true bx)).at h.next = some (.row 25 true bx) := Hp.at_lay_self _ _
  have g0 : Grows h (h.lay (.row 25 true bx)) := Grows.lay _ _
  refine enter21 (by simp) ?_
  clear ebx
  conv => whnf
  refine SeqP.go ?_
  conv => whnf
  refine SeqP.cut (α := Unit) (fun _ => [(1, ptr h.next 0)]) (fun _ H => H = h.lay (.row 25 true bx) ∧ 1 ≤ n ∧ n ≤ 5 ∧ (out.length : Int) = n ∧ ∀ x ∈ out, 0 ≤ x ∧ x ≤ 1) ?_ ?_
  · conv => whnf
    repeat (refine SeqP.go ?_; conv => whnf)
    refine ⟨_, cellAt_row hat b0, ?_⟩
    conv => whnf
    refine cmpB (fun c1 => ?_) (fun c1 => ?_)
    · conv => whnf
      repeat (refine SeqP.go ?_; conv => whnf)
      exact ⟨⟨60, rfl, PChk.bad fun k => by have : 1 ≤ n := k.n1; omega⟩, g0⟩
    conv => whnf
    refine ⟨_, cellAt_row hat b0, ?_⟩
    conv => whnf
    refine cmpB (fun c2 => ?_) (fun c2 => ?_)
    · conv => whnf
      repeat (refine SeqP.go ?_; conv => whnf)
      exact ⟨⟨60, rfl, PChk.bad fun k => by have : n ≤ 5 := k.n5; omega⟩, g0⟩
    conv => whnf
    refine ⟨_, cellAt_row hat b1, ?_⟩
    conv => whnf
    refine ⟨_, cellAt_row hat b0, ?_⟩
    conv => whnf
    refine cmpB (fun c3 => ?_) (fun c3 => ?_)
    · conv => whnf
      repeat (refine SeqP.go ?_; conv => whnf)
      exact ⟨⟨60, rfl, PChk.bad fun k => c3 k.outl⟩, g0⟩
    conv => whnf
    refine ⟨_, cellAt_row hat b1, ?_⟩
    conv => whnf
    refine CallP.mono (within_spec 0 1 _ out _ (k1.ints.ext g0) ho) ?_
    rintro r h2 ⟨rfl, rfl⟩
    by_cases hin : ∀ x ∈ out, 0 ≤ x ∧ x ≤ 1
    · rw [decide_eq_true hin]
      conv => whnf
      repeat (refine SeqP.go ?_; conv => whnf)
      exact ⟨(), ⟨rfl, trivial⟩, ⟨rfl, by omega, by omega, by omega, hin⟩, rfl⟩
    · rw [decide_eq_false hin]
      conv => whnf
      repeat (refine SeqP.go ?_; conv => whnf)
      exact ⟨⟨60, rfl, PChk.bad fun k => hin k.outs⟩, g0⟩
  rintro _ φ1 _ ⟨rfl, hn1, hn5, hol, hos⟩
  conv => whnf
  refine SeqP.cut (α := Unit) (fun _ => [(1, ptr h.next 0)]) (fun _ H => H = h.lay (.row 25 true bx) ∧ 1 ≤ start.length ∧ start.length ≤ 2 ∧ (∀ x ∈ start, 0 ≤ x ∧ x ≤ n - 1) ∧ R.length ≤ 15) ?_ ?_
  · conv => whnf
    repeat (refine SeqP.go ?_; conv => whnf)
    refine ⟨_, cellAt_row hat b2, ?_⟩
    conv => whnf
    refine cmpB (fun c1 => ?_) (fun c1 => ?_)
    · conv => whnf
      repeat (refine SeqP.go ?_; conv => whnf)
      exact ⟨⟨60, rfl, PChk.bad fun k => by have : 1 ≤ start.length := k.st1; omega⟩, g0⟩
    conv => whnf
    refine ⟨_, cellAt_row hat b2, ?_⟩
    conv => whnf
    refine cmpB (fun c2 => ?_) (fun c2 => ?_)
    · conv => whnf
      repeat (refine SeqP.go ?_; conv => whnf)
      exact ⟨⟨60, rfl, PChk.bad fun k => by have : start.length ≤ 2 := k.st2; omega⟩, g0⟩
    conv => whnf
    refine ⟨_, cellAt_row hat b0, ?_⟩
    conv => whnf
    refine ⟨n - 1, wie rfl (by omega), ?_⟩
    conv => whnf
    refine ⟨_, cellAt_row hat b2, ?_⟩
    conv => whnf
    refine CallP.mono (within_spec 0 (n - 1) _ start _ (k2.ints.ext g0) hs) ?_
    rintro r h2 ⟨rfl, rfl⟩
    by_cases hin : ∀ x ∈ start, 0 ≤ x ∧ x ≤ n - 1
    rotate_left
    · rw [decide_eq_false hin]
      conv => whnf
      repeat (refine SeqP.go ?_; conv => whnf)
      exact ⟨⟨60, rfl, PChk.bad fun k => hin k.sts⟩, g0⟩
    rw [decide_eq_true hin]
    conv => whnf
    refine ⟨_, cellAt_row hat b3, ?_⟩
    conv => whnf
    refine cmpB (fun c3 => ?_) (fun c3 => ?_)
    · conv => whnf
      repeat (refine SeqP.go ?_; conv => whnf)
      exact ⟨⟨60, rfl, PChk.bad fun k => by have : R.length ≤ 15 := k.rl; omega⟩, g0⟩
    · conv => whnf
      repeat (refine SeqP.go ?_; conv => whnf)
      exact ⟨(), ⟨rfl, trivial⟩, ⟨rfl, by omega, by omega, hin, by omega⟩, rfl⟩
  rintro _ φ2 _ ⟨rfl, hs1, hs2, hss, hrl⟩
  conv => whnf
  refine SeqP.cut (α := Unit) (fun _ => []) (fun _ H => Grows h H ∧ ROk n R R.length) ?_ ?_
  rotate_left
  · rintro _ φ9 H9 ⟨g9, hro⟩
    conv => whnf
    repeat (refine SeqP.go ?_; conv => whnf)
    exact ⟨⟨0, rfl, ⟨fun _ => rfl, fun k => absurd ⟨hn1, hn5, hol, hos, hs1, hs2, hss, hrl, hro⟩ k⟩⟩, g9⟩
  conv => whnf
  repeat (refine SeqP.go ?_; conv => whnf)
  refine ⟨_, cellAt_row hat b3, ?_⟩
  conv => whnf
  refine loop_inv (α := Nat × Hp) (fun s => [(55, int s.1), (54, int R.length), (53, .slice ar R.length R.length), (1, ptr h.next 0)]) (fun s => s.2) (fun s => s.1 ≤ R.length ∧ Grows (h.lay (.row 25 true bx)) s.2 ∧ ROk n R s.1) (fun s => R.length - s.1) (0, _) ⟨Nat.zero_le _, .refl _, fun k _ h0 => by omega⟩ ⟨rfl, rfl, rfl, rfl, trivial⟩ (Hp.Le.refl _) ?_
  rintro ⟨k, H⟩ φ3 ⟨hk, hg, hro⟩
  dsimp only at hk hg hro ⊢
  conv => whnf
  repeat (refine SeqP.go ?_; conv => whnf)
  refine cmpB (fun hb1 => ?_) (fun hb1 => ?_)
  rotate_left
  · have : k = R.length := by omega
    subst this
    conv => whnf
    repeat (refine SeqP.go ?_; conv => whnf)
    exact ⟨(), trivial, ⟨g0.trans hg, hro⟩, rfl⟩
  have hkl : k < R.length := by omega
  have hck := hcr k hkl
  obtain ⟨rr, ear, hck⟩ := hck
  subst ear
  have hckH : cellsAt H rr (k * 4) 4 = some [int R[k].a, int R[k].b, int R[k].c, int R[k].d] := (g0.trans hg).cells hck
  have hatH := hg.at_ _ _ hat
  have hexq : ∃ q, R[k] = q := ⟨_, rfl⟩
  obtain ⟨q, eq⟩ := hexq
  rw [eq] at hckH
  have bad : ¬ RuleOk n R k hkl → ¬ POk ⟨n, out, start, R⟩ := fun hno hp => hno (hp.rs k hkl hkl)
  unfold RuleOk at bad
  rw [eq] at bad
  conv => whnf
  refine SeqP.go ?_
  conv => whnf
  refine SeqP.cut (α := Hp) (fun _ => [(55, int k), (54, int R.length), (53, .slice (some ⟨rr, 0, none⟩) R.length R.length), (1, ptr h.next 0)]) (fun s H' => s = H' ∧ Grows H s ∧ RuleOk n R k hkl) ?_ ?_
  rotate_left
  · rintro H1 φ6 _ ⟨rfl, hg1, hok⟩
    conv => whnf
    refine ⟨((k + 1 : Nat) : Int), wie (by omega) (by omega), ?_⟩
    conv => whnf
    refine Rnd.mk (k + 1, H1) ⟨by show k + 1 ≤ R.length; omega, hg.trans hg1, fun j hj hj2 => ?_⟩ (by show R.length - (k + 1) < R.length - k; omega) ⟨rfl, rfl, rfl, rfl, trivial⟩ (Hp.Le.refl _) rfl
    by_cases e : j = k
    · subst e; exact hok
    · exact hro j hj (by omega)
  conv => whnf
  refine SeqP.cut (α := Hp) (fun s => [(4, ptr H.next 0), (3, int k), (55, int k), (54, int R.length), (53, .slice (some ⟨rr, 0, none⟩) R.length R.length), (1, ptr h.next 0)]) (fun s H' => s = H' ∧ s = H.lay (.row 96 true [int q.a, int q.b, int q.c, int q.d])) ?_ ?_
  · conv => whnf
    refine ⟨rfl, ⟨by omega, by omega⟩, ?_⟩
    conv => whnf
    refine ⟨[int q.a, int q.b, int q.c, int q.d], by rw [offAt_eq]; simpa using hckH, ?_⟩
    conv => whnf
    refine ⟨rfl, _, storeAt_all (vs := [int q.a, int q.b, int q.c, int q.d]) rfl rfl rfl, ?_⟩
    conv => whnf
    exact ⟨_, ⟨rfl, rfl, rfl, rfl, rfl, rfl, trivial⟩, ⟨rfl, rfl⟩, rfl⟩
  rintro H1 φ4 _ ⟨rfl, eH1⟩
  have hq1 : H1.at H.next = some (.row 96 true [int q.a, int q.b, int q.c, int q.d]) := by rw [eH1]; exact Hp.at_lay_self _ _
  have hg1 : Grows H H1 := by rw [eH1]; exact Grows.lay _ _
  clear eH1
  have hat1 := hg1.at_ _ _ hatH
  have hcell := row_cell4 hq1
  have hgA := (g0.trans hg).trans hg1
  conv => whnf
  refine SeqP.cut (α := Unit) (fun _ => [(4, ptr H.next 0), (3, int k), (55, int k), (54, int R.length), (53, .slice (some ⟨rr, 0, none⟩) R.length R.length), (1, ptr h.next 0)]) (fun s H' => H1 = H' ∧ QIn n q ∧ q.a ≤ q.b) ?_ ?_
  · conv => whnf
    repeat (refine SeqP.go ?_; conv => whnf)
    refine ⟨_, cellAt_row hat1 b0, ?_⟩
    conv => whnf
    refine ⟨n - 1, wie rfl (by omega), ?_⟩
    conv => whnf
    refine resP_cutA ?_ (by omega)
    conv => whnf
    refine CallP.mono (within_spec 0 (n - 1) _ [q.a, q.b, q.c, q.d] _ (ints_lim (l := [q.a, q.b, q.c, q.d]) (c := 4) hcell) (by simp)) ?_
    rintro r h2 ⟨rfl, rfl⟩
    by_cases hin : ∀ x ∈ [q.a, q.b, q.c, q.d], 0 ≤ x ∧ x ≤ n - 1
    rotate_left
    · rw [decide_eq_false hin]
      conv => whnf
      repeat (refine SeqP.go ?_; conv => whnf)
      exact ⟨⟨60, rfl, PChk.bad (bad fun hk => hin ((four_in _ q).2 hk.1))⟩, hgA⟩
    rw [decide_eq_true hin]
    have hin := (four_in _ q).1 hin
    conv => whnf
    refine ⟨⟨by omega, by omega⟩, ?_⟩
    conv => whnf
    refine ⟨_, cellAt_row hq1 rfl, ?_⟩
    conv => whnf
    refine ⟨⟨by omega, by omega⟩, ?_⟩
    conv => whnf
    refine ⟨_, cellAt_row hq1 rfl, ?_⟩
    conv => whnf
    refine cmpB (fun c1 => ?_) (fun c1 => ?_)
    · conv => whnf
      repeat (refine SeqP.go ?_; conv => whnf)
      exact ⟨⟨60, rfl, PChk.bad (bad fun hk => by have := hk.2.1; omega)⟩, hgA⟩
    · conv => whnf
      repeat (refine SeqP.go ?_; conv => whnf)
      exact ⟨(), ⟨rfl, rfl, rfl, rfl, rfl, rfl, trivial⟩, ⟨rfl, hin, by omega⟩, rfl⟩
  rintro _ φ5 _ ⟨rfl, hin, hab⟩
  conv => whnf
  repeat (refine SeqP.go ?_; conv => whnf)
  refine cmpB (fun c1 => ?_) (fun c1 => ?_)
  rotate_left
  · have hk0 : k = 0 := by omega
    conv => whnf
    repeat (refine SeqP.go ?_; conv => whnf)
    exact ⟨H1, ⟨rfl, rfl, rfl, rfl, trivial⟩, ⟨rfl, hg1, by unfold RuleOk; rw [eq]; exact ⟨hin, hab, fun h0 => by omega⟩⟩, rfl⟩
  have hk0 : 0 < k := by omega
  have hkp : k - 1 < R.length := by omega
  have hcp := hcr (k - 1) hkp
  obtain ⟨rr2, ear2, hcp⟩ := hcp
  cases ear2
  have hcp1 := hgA.cells hcp
  have hexy : ∃ y, R[k - 1] = y := ⟨_, rfl⟩
  obtain ⟨y, ey⟩ := hexy
  rw [ey] at hcp1
  have hya : ∀ j, (hj : j < [y.a, y.b].length) → cellAt H1 rr (j + (k - 1) * 4) = some (int [y.a, y.b][j]) := fun j hj => by
    have := cells_cell hcp1 j (by simp at hj; omega)
    rw [Nat.add_comm, this]
    match j, hj with
    | 0, _ => rfl
    | 1, _ => rfl
  have hqa : ∀ j, (hj : j < [q.a, q.b].length) → cellAt H1 H.next (j + 0) = some (int [q.a, q.b][j]) := fun j hj => by
    rw [hcell j (by simp at hj; omega)]
    match j, hj with
    | 0, _ => rfl
    | 1, _ => rfl
  conv => whnf
  refine ⟨_, cellAt_row hat1 b3, ?_⟩
  conv => whnf
  refine ⟨((k - 1 : Nat) : Int), wie (by omega) (by omega), ?_⟩
  conv => whnf
  refine ⟨rfl, ⟨by omega, by omega⟩, ?_⟩
  conv => whnf
  refine resP_cutLim (n := 4) (k := 2) (by decide) (by decide) ?_
  conv => whnf
  refine resP_cutLim (n := 4) (k := 2) (by decide) (by decide) ?_
  conv => whnf
  have eoff : offAt 0 (((k - 1 : Nat) : Int)).toNat 4 = (k - 1) * 4 := by rw [offAt_eq]; omega
  rw [eoff]
  refine CallP.mono (compare_spec _ _ (y.a, y.b) (q.a, q.b) H1 (ints_lim (l := [y.a, y.b]) (c := 4) hya) (ints_lim (l := [q.a, q.b]) (c := 4) hqa)) ?_
  rintro r h2 ⟨⟨c, rfl, hc1, hc2⟩, rfl⟩
  conv => whnf
  refine cmpB (fun c2 => ?_) (fun c2 => ?_)
  · conv => whnf
    repeat (refine SeqP.go ?_; conv => whnf)
    refine ⟨⟨60, rfl, PChk.bad (bad fun hk => ?_)⟩, hgA⟩
    have := hk.2.2 hk0
    rw [ey] at this
    have := hc1.2 this
    omega
  · conv => whnf
    repeat (refine SeqP.go ?_; conv => whnf)
    refine ⟨_, ⟨rfl, rfl, rfl, rfl, trivial⟩, ⟨rfl, hg1, ?_⟩, rfl⟩
    unfold RuleOk
    rw [eq]
    exact ⟨hin, hab, fun _ => by rw [ey]; exact hc1.1 (by omega)⟩
end
end Go.Proofs.Ytpiplaicnbapbaa
namespace Go.Proofs.Ytpiplaicnbapbaa
open Go.Rx Go.RowKit
def RI (h : Hp) (v : Value) (R : List Q4) : Prop := ∃ a c, v = .slice a R.length c ∧ ∀ j, (hj : j < R.length) → ∃ r o, a = some ⟨r, o, none⟩ ∧ cellsAt h r (j * 4 + o) 4 = some [int R[j].a, int R[j].b, int R[j].c, int R[j].d]
theorem RI.ext {h h' : Hp} {v : Value} {R : List Q4} (g : Grows h h') (k : RI h v R) : RI h' v R := by
  obtain ⟨a, c, e, hc⟩ := k
  exact ⟨a, c, e, fun j hj => let ⟨r, o, e1, e2⟩ := hc j hj; ⟨r, o, e1, g.cells e2⟩⟩
def PI (h : Hp) (v : Value) (p : Prot) : Prop := ∃ vo vs vr, v = pval p.n vo vs vr ∧ Ints h vo p.out ∧ Ints h vs p.start ∧ RI h vr p.rules
structure PM (H0 H : Hp) (D : Nat) (cs : List Value) : Prop where
  next : H0.next ≤ H.next
  at_ : ∀ r o, r < H0.next → r ≠ D → H0.at r = some o → H.at r = some o
  dat : H.at D = some (.row 26 true cs)
theorem PM.start {H0 : Hp} {D : Nat} {cs : List Value} (h : H0.at D = some (.row 26 true cs)) : PM H0 H0 D cs := ⟨Nat.le_refl _, fun _ _ _ _ e => e, h⟩
theorem PM.ext {H0 H H' : Hp} {D : Nat} {cs : List Value} (k : PM H0 H D cs) (g : Grows H H') : PM H0 H' D cs := ⟨Nat.le_trans k.next g.next, fun r o h1 h2 e => g.at_ _ _ (k.at_ r o h1 h2 e), g.at_ _ _ k.dat⟩
theorem PM.grows {h H0 H : Hp} {D : Nat} {cs : List Value} (k : PM H0 H D cs) (g : Grows h H0) (hD : h.next ≤ D) : Grows h H := ⟨Nat.le_trans g.next k.next, fun r o e => by
  have := Hp.lt_of_at e
  have := g.next
  exact k.at_ r o (by omega) (by omega) (g.at_ _ _ e)⟩
def tri (n : Nat) : Nat → Nat
  | 0 => 0
  | a + 1 => tri n a + (n - a)
theorem tri_le : ∀ n, n ≤ 5 → tri n n ≤ 15 := by decide
structure RUp (n a b : Nat) (R : List Q4) : Prop where
  ok : ∀ x ∈ R, QIn n x ∧ x.a ≤ x.b ∧ (x.a < a ∨ x.a = a ∧ x.b < b)
  sorted : R.Pairwise QLess
  len : R.length ≤ tri n a + (b - a)
theorem RUp.start (n : Nat) : RUp n 0 0 [] := ⟨fun x h => by simp at h, List.Pairwise.nil, Nat.zero_le _⟩
theorem RUp.skip {n a b : Nat} {R : List Q4} (h : RUp n a b R) (hab : a ≤ b) : RUp n a (b + 1) R := ⟨fun x hx => by have := h.ok x hx; exact ⟨this.1, this.2.1, by omega⟩, h.sorted, by have := h.len; omega⟩
theorem RUp.turn {n a : Nat} {R : List Q4} (h : RUp n a n R) (ha : a < n) : RUp n (a + 1) (a + 1) R := ⟨fun x hx => by
  have := h.ok x hx
  exact ⟨this.1, this.2.1, by omega⟩, h.sorted, by have := h.len; show R.length ≤ tri n a + (n - a) + _; omega⟩
theorem RUp.add {n a b : Nat} {R : List Q4} (h : RUp n a b R) (hab : a ≤ b) (hb : b < n) {c d : Int} (hc : 0 ≤ c ∧ c < n) (hd : 0 ≤ d ∧ d < n) : RUp n a (b + 1) (R ++ [⟨a, b, c, d⟩]) := by
  refine ⟨fun x hx => ?_, ?_, ?_⟩
  · rcases List.mem_append.1 hx with hx | hx
    · have := h.ok x hx; exact ⟨this.1, this.2.1, by omega⟩
    · rw [List.mem_singleton.1 hx]
      refine ⟨⟨?_, ?_, ?_, ?_⟩, ?_, ?_⟩ <;> dsimp only <;> omega
  · refine List.pairwise_append.2 ⟨h.sorted, List.pairwise_singleton _ _, fun x hx y hy => ?_⟩
    rw [List.mem_singleton.1 hy]
    have := (h.ok x hx).2.2
    unfold QLess
    dsimp only
    omega
  · have := h.len
    rw [List.length_append, List.length_singleton]
    omega
theorem RUp.done {n : Nat} {R : List Q4} (h : RUp n n n R) (hn : n ≤ 5) : R.length ≤ 15 ∧ ROk n R R.length := by
  have := h.len
  have := tri_le n hn
  refine ⟨by omega, fun k hk _ => ?_⟩
  have h1 := h.ok _ (List.getElem_mem hk)
  exact ⟨h1.1, h1.2.1, fun h0 => List.pairwise_iff_getElem.1 h.sorted (k - 1) k (by omega) hk (by omega)⟩
end Go.Proofs.Ytpiplaicnbapbaa
namespace Go.Proofs.Ytpiplaicnbapbaa
open Go.Rx Go.RowKit
theorem sum_nn : ∀ {l : List Int}, (∀ x ∈ l, 0 ≤ x) → 0 ≤ l.sum
  | [], _ => by simp
  | y :: l, h => by have h1 := h y (by simp); have h2 := sum_nn (l := l) fun x hx => h x (by simp [hx]); simp; omega
theorem sum_le_of : ∀ {l : List Int}, (∀ x ∈ l, 0 ≤ x) → ∀ x ∈ l, x ≤ l.sum
  | [], _ => by simp
  | y :: l, h => by
    intro x hx
    have h1 := h y (by simp)
    have h2 := sum_nn (l := l) fun x hx => h x (by simp [hx])
    rcases List.mem_cons.1 hx with rfl | hx
    · simp; omega
    · have := sum_le_of (l := l) (fun x hx => h x (by simp [hx])) x hx
      simp; omega
end Go.Proofs.Ytpiplaicnbapbaa
namespace Go.Proofs.Ytpiplaicnbapbaa
open Go.Rx Go.RowKit
abbrev gl (l : List Int) (i : Nat) : Int := l.getD i 0
theorem gl_at {l : List Int} {i : Nat} (h : i < l.length) : gl l i = l[i] := by
  unfold gl; rw [List.getD_eq_getElem?_getD, List.getElem?_eq_getElem h]; rfl
theorem gl_set {l : List Int} {v : Nat} {x : Int} (h : v < l.length) (i : Nat) : gl (l.set v x) i = if i = v then x else gl l i := by
  unfold gl
  rw [List.getD_eq_getElem?_getD, List.getElem?_set, List.getD_eq_getElem?_getD]
  by_cases e : v = i
  · subst e; rw [if_pos rfl, if_pos h, if_pos rfl]; rfl
  · rw [if_neg e, if_neg (fun x => e x.symm)]
def bump (l : List Int) (x : Int × Int) : List Int := l.set x.1.toNat (gl l x.1.toNat + x.2)
theorem bump_len (l : List Int) (x : Int × Int) : (bump l x).length = l.length := List.length_set ..
def crs (m : Nat) (start kinds : List Int) (k : Nat) : List Int := ((start.zip kinds).take k).foldl bump (List.replicate m 0)
theorem fold_len : ∀ (l : List (Int × Int)) (a : List Int), (l.foldl bump a).length = a.length
  | [], _ => rfl
  | x :: l, a => (fold_len l (bump a x)).trans (bump_len a x)
theorem crs_len (m : Nat) (start kinds : List Int) (k : Nat) : (crs m start kinds k).length = m := by unfold crs; rw [fold_len, List.length_replicate]
theorem crs_zero (m : Nat) (start kinds : List Int) : crs m start kinds 0 = List.replicate m 0 := rfl
theorem crs_succ (m : Nat) {start kinds : List Int} {k : Nat} (h1 : k < start.length) (h2 : k < kinds.length) : crs m start kinds (k + 1) = bump (crs m start kinds k) (start[k], kinds[k]) := by
  unfold crs
  rw [List.take_succ_eq_append_getElem (by rw [List.length_zip]; omega), List.foldl_append, List.getElem_zip]
  rfl
theorem bump_bd {l : List Int} {x : Int × Int} {M : Int} (h : ∀ y ∈ l, 0 ≤ y ∧ y ≤ M) (hM : 0 ≤ M) (h0 : 0 ≤ x.2 ∧ x.2 ≤ 9) : ∀ y ∈ bump l x, 0 ≤ y ∧ y ≤ M + 9 := by
  intro y hy
  rcases List.mem_or_eq_of_mem_set hy with hy | rfl
  · have := h y hy; omega
  · have : 0 ≤ gl l x.1.toNat ∧ gl l x.1.toNat ≤ M := by
      unfold gl
      rw [List.getD_eq_getElem?_getD]
      cases e : l[x.1.toNat]? with
      | none => exact ⟨Int.le_refl _, hM⟩
      | some z => exact h z (List.mem_of_getElem? e)
    omega
theorem crs_bd {m : Nat} {start kinds : List Int} (hk : ∀ x ∈ kinds, 0 ≤ x ∧ x ≤ 9) : ∀ k, k ≤ start.length → k ≤ kinds.length → ∀ y ∈ crs m start kinds k, 0 ≤ y ∧ y ≤ 9 * (k : Int)
  | 0, _, _ => by
    intro y hy
    rw [crs_zero] at hy
    rw [(List.mem_replicate.1 hy).2]
    omega
  | k + 1, h1, h2 => by
    have ih := crs_bd (m := m) (start := start) hk k (by omega) (by omega)
    rw [crs_succ m (start := start) (kinds := kinds) (by omega) (by omega)]
    intro y hy
    have hkk : 0 ≤ kinds[k] ∧ kinds[k] ≤ 9 := hk _ (List.getElem_mem (l := kinds) (n := k) (by omega))
    have := bump_bd (x := (start[k], kinds[k])) ih (by omega) hkk y hy
    omega
theorem ty107 : ∃ i, E.ty 107 = some i ∧ i.agg = true ∧ i.size = 5 := by
  have hs : (tiOf Try.prog 107).isSome = true := by kernel_rfl
  refine ⟨(tiOf Try.prog 107).get hs, ty_get (by kernel_rfl) (Option.some_get hs).symm, ?_, ?_⟩ <;> kernel_rfl
theorem ty22 : ∃ i, E.ty 22 = some i ∧ i.desc = .slice 3 := by
  have hs : (tiOf Try.prog 22).isSome = true := by kernel_rfl
  refine ⟨(tiOf Try.prog 22).get hs, ty_get (by kernel_rfl) (Option.some_get hs).symm, ?_⟩
  kernel_rfl
theorem nil_neq (x : Operand) (c : Value) (a : Addr) (n m : Nat) : aBin E .eql 22 x (.const c) (.slice (some a) n m) (.slice none 0 0) = some (.bool false) := by
  obtain ⟨i, hi, hd⟩ := ty22
  show binOther E .eql 22 x (.const c) (.slice (some a) n m) (.slice none 0 0) = _
  unfold binOther
  show binNil E .eql 22 x (.const c) (.slice (some a) n m) (.slice none 0 0) false = _
  unfold binNil
  rw [hi]
  dsimp only
  rw [hd]
  have : (isConstOp x || isConstOp (.const c)) = true := by cases x <;> rfl
  rw [this]
  rfl
theorem row_store {H : Hp} {r i : Nat} {e : TypeId} {x : Bool} {l : List Int} (hat : H.at r = some (.row e x (l.map int))) (hi : i < l.length) (y : Int) : storeAt H r i [int y] = some (H.set r (.row e x ((l.set i y).map int))) := by
  have := storeAt_row hat (o := i) (v := int y) (by rw [List.length_map]; exact hi) rfl
  rwa [show (l.map int).set i (int y) = (l.set i y).map int from by rw [List.map_set]] at this
theorem row_load {H : Hp} {r i : Nat} {e : TypeId} {x : Bool} {l : List Int} (hat : H.at r = some (.row e x (l.map int))) (hi : i < l.length) : cellAt H r i = some (int (gl l i)) := by
  refine cellAt_row hat ?_
  rw [List.getElem?_map, List.getElem?_eq_getElem hi, gl_at hi]
  rfl
theorem rep_row (z : Int) (n : Nat) : times [int z] n = (List.replicate n z).map int := by
  induction n with
  | zero => rfl
  | succ n ih => show int z :: times [int z] n = _; rw [ih, List.replicate_succ]; rfl
end Go.Proofs.Ytpiplaicnbapbaa
namespace Go.Proofs.Ytpiplaicnbapbaa
open Go.Rx Go.RowKit
def cv (l : List Int) : Value := .agg ⟨l.map int⟩
theorem over_int {l k : List Int} (h : l.length = k.length) : over (k.map int) 0 (l.map int) = l.map int := by
  have key : ∀ (a b pre : List Value), a.length = b.length → over (pre ++ b) pre.length a = pre ++ a := by
    intro a
    induction a with
    | nil => intro b pre hb; cases b with | nil => rfl | cons x b => simp at hb
    | cons x a ih =>
      intro b pre hb
      cases b with
      | nil => simp at hb
      | cons y b =>
        have h1 := ih b (pre ++ [x]) (by simpa using hb)
        have h2 : (pre ++ y :: b).set pre.length x = pre ++ [x] ++ b := by
          rw [List.set_append_right _ _ (Nat.le_refl _), Nat.sub_self]
          simp
        show over ((pre ++ y :: b).set pre.length x) (pre.length + 1) a = _
        rw [h2]
        rw [List.length_append, List.length_singleton] at h1
        rw [h1]
        simp
  exact key _ _ [] (by simp [h])
attribute [local irreducible] E idxN cellAt cellsAt storeAt callable helems hmoved lookIn findKey keyOk hentries Hp.at Hp.set Hp.lay arBits hupdated setAt CallP YieldP BoolOf IsWrap Rnd LoopP AppP CutP Int.tmod Int.tdiv Int.fdiv
section
variable [Unknowns]
attribute [local irreducible] ResP sameAt finP
theorem ofKinds_spec (v w : Value) (p : Prot) (kinds : List Int) (h : Hp) (hv : PV h v p) (hw : Ints h w kinds) (hp : POk p) (hkl : kinds.length = p.start.length) (hk : ∀ x ∈ kinds, 0 ≤ x ∧ x ≤ 9) : CallP E 67 [v, w] h (fun r h' => r = cv (crs 5 p.start kinds kinds.length) ∧ Grows h h') := by
  obtain ⟨n, out, start, rules⟩ := p
  obtain ⟨n1, n5, -, -, st1, st2, sts, -, -⟩ := hp
  obtain ⟨vo, vs, vr, rfl, k1, k2, k3⟩ := hv
  dsimp only at n1 n5 st1 st2 sts k1 k2 k3 hkl ⊢
  obtain ⟨ao, rfl⟩ := k1.known
  obtain ⟨az, rfl⟩ := k2.known
  obtain ⟨ar, rfl, -⟩ := k3.slice
  obtain ⟨ak, ck, rfl, hck⟩ := id hw
  unfold pval
  have hexv : ∃ vs : List Value, vs = [int n, .slice ao out.length out.length, .slice az start.length start.length, .slice ar rules.length rules.length] := ⟨_, rfl⟩
  obtain ⟨bx, ebx⟩ := hexv
  have b2 : bx[2]? = some (.slice az start.length start.length) := by rw [ebx]; rfl
  rw [← ebx]
  clear ebx
  refine enter67 (by simp) ?_
  conv => whnf
  refine SeqP.go ?_
  conv => whnf
  refine SeqP.cut (α := Hp) (fun Hb => [(5, ptr Hb.next 0), (4, ptr (h.next + 1) 0), (2, ptr h.next 0), (1, .slice ak kinds.length ck)]) (fun Hb H => H = Hb.lay (.row 107 true ((crs 5 start kinds 0).map int)) ∧ Grows h Hb ∧ Hb.at h.next = some (.row 25 true bx) ∧ Hb.at (h.next + 1) = some (.row 107 true [int 0, int 0, int 0, int 0, int 0]) ∧ Hb.next = h.next + 2) ?_ ?_
  · conv => whnf
    exact ⟨_, ⟨rfl, congrArg (fun k => ptr k 0) (Hp.next_lay _ _), rfl, rfl, trivial⟩, ⟨rfl, (Grows.lay _ _).then_lay _, Hp.at_lay_old _ (Hp.at_lay_self _ _), at_nx2 (Hp.next_lay _ _) (Hp.at_lay_self _ _), by simp only [Hp.next_lay]⟩, rfl⟩
  rintro Hb φ0 _ ⟨rfl, gb, ab, ab1, hbn⟩
  conv => whnf
  refine SeqP.cut (α := Unit) (fun _ => [(5, ptr Hb.next 0), (4, ptr (h.next + 1) 0)]) (fun _ H => H = Hb.lay (.row 107 true ((crs 5 start kinds kinds.length).map int))) ?_ ?_
  rotate_left
  · rintro _ φ9 _ rfl
    have hl5 := crs_len 5 start kinds kinds.length
    have hat9 : (Hb.lay (.row 107 true ((crs 5 start kinds kinds.length).map int))).at (h.next + 1) = some (.row 107 true [int 0, int 0, int 0, int 0, int 0]) := Hp.at_lay_old _ ab1
    conv => whnf
    repeat (refine SeqP.go ?_; conv => whnf)
    refine ⟨(crs 5 start kinds kinds.length).map int, by rw [cellsAt_row (Hp.at_lay_self _ _) (by rw [List.length_map]; omega), List.drop_zero, List.take_of_length_le (by rw [List.length_map]; omega)], ?_⟩
    conv => whnf
    refine ⟨by show ((crs 5 start kinds kinds.length).map int).length = 5; rw [List.length_map, hl5], _, storeAt_full (vs := (crs 5 start kinds kinds.length).map int) hat9 (by rw [List.length_map, hl5]; rfl) (ints_one _) (over_int (k := [0, 0, 0, 0, 0]) (by rw [hl5]; rfl)), ?_⟩
    conv => whnf
    repeat (refine SeqP.go ?_; conv => whnf)
    obtain ⟨i107, t107, ag107, sz107⟩ := ty107
    refine leave_cell (r := h.next + 1) (o := 0) (cs := (crs 5 start kinds kinds.length).map int) rfl t107 ag107 ?_ ⟨rfl, (gb.then_lay _).then_set _ (by omega)⟩
    rw [sz107, cellsAt_row (Hp.at_set_self _ (Hp.lt_of_at hat9)) (by rw [List.length_map]; omega), List.drop_zero, List.take_of_length_le (by rw [List.length_map]; omega)]
  conv => whnf
  repeat (refine SeqP.go ?_; conv => whnf)
  refine loop_inv (α := Nat) (fun k => [(10, int k), (9, int kinds.length), (8, .slice ak kinds.length ck), (5, ptr Hb.next 0), (4, ptr (h.next + 1) 0), (2, ptr h.next 0)]) (fun k => Hb.lay (.row 107 true ((crs 5 start kinds k).map int))) (fun k => k ≤ kinds.length) (fun k => kinds.length - k) 0 (Nat.zero_le _) ⟨rfl, rfl, rfl, rfl, rfl, rfl, trivial⟩ (Hp.Le.refl _) ?_
  intro k φ hkk
  conv => whnf
  repeat (refine SeqP.go ?_; conv => whnf)
  refine cmpB (fun hb1 => ?_) (fun hb1 => ?_)
  rotate_left
  · have : k = kinds.length := by omega
    subst this
    conv => whnf
    repeat (refine SeqP.go ?_; conv => whnf)
    exact ⟨(), ⟨rfl, rfl, trivial⟩, rfl, rfl⟩
  have hkl' : k < kinds.length := by omega
  have hks : k < start.length := by omega
  have hgk : Grows h (Hb.lay (.row 107 true ((crs 5 start kinds k).map int))) := gb.then_lay _
  have hatk : (Hb.lay (.row 107 true ((crs 5 start kinds k).map int))).at h.next = some (.row 25 true bx) := Hp.at_lay_old _ ab
  have hc := (hw.ext hgk)
  obtain ⟨ak', ck', ew, hcc⟩ := hc
  cases ew
  have hc := hcc k hkl'
  obtain ⟨r, o, sp, ea, hsp, hci⟩ := hc
  subst ea
  have hc2 := (k2.ints.ext hgk)
  obtain ⟨az', cz', ew2, hcc2⟩ := hc2
  cases ew2
  have hc2 := hcc2 k hks
  obtain ⟨r2, o2, sp2, ea2, hsp2, hci2⟩ := hc2
  subst ea2
  have hsx := sts start[k] (List.getElem_mem hks)
  have hkx := hk kinds[k] (List.getElem_mem hkl')
  have hl5 := crs_len 5 start kinds k
  have hbd := crs_bd (m := 5) hk k (by omega : k ≤ start.length) (by omega)
  have hes := crs_succ 5 hks hkl'
  have hexs : ∃ s : Nat, start[k] = (s : Int) := ⟨start[k].toNat, by omega⟩
  obtain ⟨s, es⟩ := hexs
  have hexc : ∃ l, crs 5 start kinds k = l := ⟨_, rfl⟩
  obtain ⟨l, el⟩ := hexc
  rw [el] at hl5 hbd hes ⊢
  have hlx : 0 ≤ gl l s ∧ gl l s ≤ 9 * (k : Int) := by rw [gl_at (by omega)]; exact hbd _ (List.getElem_mem _)
  conv => whnf
  refine SeqP.go ?_
  conv => whnf
  refine SeqP.go ?_
  conv => whnf
  refine SeqP.go ?_
  conv => whnf
  refine ⟨hsp, ⟨by omega, by omega⟩, ?_⟩
  conv => whnf
  refine ⟨int kinds[k], by rw [offAt_eq, Nat.add_comm, ← el]; simpa using hci, ?_⟩
  conv => whnf
  repeat (refine SeqP.go ?_; conv => whnf)
  refine ⟨_, cellAt_row (by rw [← el]; exact hatk) b2, ?_⟩
  conv => whnf
  refine ⟨hsp2, ⟨by omega, by omega⟩, ?_⟩
  conv => whnf
  refine ⟨int s, by rw [offAt_eq, Nat.add_comm, ← el, ← es]; simpa using hci2, ?_⟩
  conv => whnf
  refine ⟨⟨by omega, by omega⟩, ?_⟩
  conv => whnf
  refine ⟨int (gl l s), ?_, ?_⟩
  · rw [offAt_eq]
    simpa using row_load (Hp.at_lay_self Hb (.row 107 true (l.map int))) (i := s) (by omega)
  conv => whnf
  refine ⟨gl l s + kinds[k], wie rfl (by omega), ?_⟩
  conv => whnf
  refine ⟨⟨by omega, by omega⟩, ?_⟩
  conv => whnf
  have e9 : storeAt (Hb.lay (.row 107 true (l.map int))) Hb.next (offAt 0 ((s : Int)).toNat 1) [int (gl l s + kinds[k])] = some (Hb.lay (.row 107 true ((crs 5 start kinds (k + 1)).map int))) := by
    have := storeAt_lay (h := Hb) (e := 107) (x := true) (cs := l.map int) (o := s) (v := int (gl l s + kinds[k])) (by rw [List.length_map]; omega) rfl
    rw [show (l.map int).set s (int (gl l s + kinds[k])) = (l.set s (gl l s + kinds[k])).map int from by rw [List.map_set]] at this
    rw [hes, offAt_eq]
    unfold bump
    dsimp only
    rw [es]
    simpa using this
  refine ⟨rfl, _, e9, ?_⟩
  conv => whnf
  refine ⟨((k + 1 : Nat) : Int), wie (by omega) (by omega), ?_⟩
  conv => whnf
  exact Rnd.mk (k + 1) (by show k + 1 ≤ _; omega) (by show _ - (k + 1) < _ - k; omega) ⟨rfl, rfl, rfl, rfl, rfl, rfl, trivial⟩ (Hp.Le.refl _) rfl
end
end Go.Proofs.Ytpiplaicnbapbaa
namespace Go.Proofs.Ytpiplaicnbapbaa
open Go.Rx Go.RowKit
theorem PV.box {h : Hp} {v : Value} {p : Prot} (k : PV h v p) : ∃ bx : List Value, v = .agg ⟨bx⟩ ∧ bx.length = 4 ∧ bx[0]? = some (int p.n) ∧ (∃ a, bx[1]? = some (.slice a p.out.length p.out.length) ∧ LV h (.slice a p.out.length p.out.length) p.out) ∧ (∃ a, bx[2]? = some (.slice a p.start.length p.start.length) ∧ LV h (.slice a p.start.length p.start.length) p.start) ∧ (∃ a, bx[3]? = some (.slice a p.rules.length p.rules.length) ∧ RV h (.slice a p.rules.length p.rules.length) p.rules) ∧ cellsOf (.agg ⟨bx⟩) = some bx := by
  obtain ⟨vo, vs, vr, rfl, k1, k2, k3⟩ := k
  obtain ⟨ao, rfl⟩ := k1.known
  obtain ⟨az, rfl⟩ := k2.known
  obtain ⟨ar, rfl, -⟩ := k3.slice
  exact ⟨_, rfl, rfl, rfl, ⟨ao, rfl, k1⟩, ⟨az, rfl, k2⟩, ⟨ar, rfl, k3⟩, rfl⟩
theorem all_cells {H : Hp} {r e m : Nat} {x : Bool} {cs : List Value} (hr : H.at r = some (.row e x cs)) (hl : cs.length = m) : cellsAt H r 0 m = some cs := by
  rw [cellsAt_row hr (by omega), List.drop_zero, List.take_of_length_le (by omega)]
end Go.Proofs.Ytpiplaicnbapbaa
namespace Go.Proofs.Ytpiplaicnbapbaa
open Go.Rx Go.RowKit
structure Quest where
  a : List Int
  b : Int
  m : Int
def QV (h : Hp) (v : Value) (q : Quest) : Prop := ∃ va, v = .agg ⟨[va, int q.b, int q.m]⟩ ∧ LV h va q.a
theorem QV.ext {h h' : Hp} {v : Value} {q : Quest} (g : Grows h h') (k : QV h v q) : QV h' v q := by
  obtain ⟨va, e, k⟩ := k
  exact ⟨va, e, k.ext g⟩
theorem QV.box {h : Hp} {v : Value} {q : Quest} (k : QV h v q) : ∃ bx : List Value, v = .agg ⟨bx⟩ ∧ bx.length = 3 ∧ (∃ a, bx[0]? = some (.slice a q.a.length q.a.length) ∧ LV h (.slice a q.a.length q.a.length) q.a) ∧ bx[1]? = some (int q.b) ∧ bx[2]? = some (int q.m) ∧ bx.all oneCell = true := by
  obtain ⟨va, rfl, k⟩ := k
  obtain ⟨ao, rfl⟩ := k.known
  exact ⟨_, rfl, rfl, ⟨ao, rfl, k⟩, rfl, rfl, rfl⟩
structure QOk (q : Quest) : Prop where
  l1 : 1 ≤ q.a.length
  l2 : q.a.length ≤ 2
  ac : ∀ x ∈ q.a, -5 ≤ x ∧ x ≤ 5
  b : -9 ≤ q.b ∧ q.b ≤ 9
  m : 0 ≤ q.m ∧ q.m ≤ 9
def dotN (a k : List Int) : Nat → Int
  | 0 => 0
  | j + 1 => dotN a k j + gl a j * gl k j
theorem dotN_succ (a k : List Int) (j : Nat) : dotN a k (j + 1) = dotN a k j + gl a j * gl k j := rfl
theorem mul_bd5 {x y : Int} (hx : -5 ≤ x ∧ x ≤ 5) (hy : 0 ≤ y ∧ y ≤ 9) : -45 ≤ x * y ∧ x * y ≤ 45 := by
  have h1 : (x * y).natAbs ≤ 45 := mul_bd (m := 5) (n := 9) (by omega) (by omega) (by omega)
  omega
theorem dotN_bd {a k : List Int} (ha : ∀ x ∈ a, -5 ≤ x ∧ x ≤ 5) (hk : ∀ x ∈ k, 0 ≤ x ∧ x ≤ 9) : ∀ j, j ≤ a.length → j ≤ k.length → -45 * (j : Int) ≤ dotN a k j ∧ dotN a k j ≤ 45 * j
  | 0, _, _ => by simp [dotN]
  | j + 1, h1, h2 => by
    have ih := dotN_bd ha hk j (by omega) (by omega)
    have e1 := ha (gl a j) (by rw [gl_at (by omega)]; exact List.getElem_mem _)
    have e2 := hk (gl k j) (by rw [gl_at (by omega)]; exact List.getElem_mem _)
    have := mul_bd5 e1 e2
    rw [dotN_succ]
    omega
def TrueP (q : Quest) (k : List Int) : Prop := (q.m = 0 ∧ q.b ≤ dotN q.a k k.length) ∨ (q.m ≠ 0 ∧ (dotN q.a k k.length - q.b).tmod q.m = 0)
theorem sum_range (a k : List Int) : ∀ n, ((List.range n).map fun i => gl a i * gl k i).sum = dotN a k n
  | 0 => rfl
  | n + 1 => by rw [List.range_succ, List.map_append, List.sum_append, sum_range a k n]; simp [dotN_succ]
theorem sum_bd2 : ∀ (l : List Int), (∀ x ∈ l, -1000 ≤ x ∧ x ≤ 1000) → -1000 * (l.length : Int) ≤ l.sum ∧ l.sum ≤ 1000 * l.length
  | [], _ => by simp
  | x :: l, h => by
    have h1 := h x (by simp)
    have h2 := sum_bd2 l (fun y hy => h y (by simp [hy]))
    simp only [List.sum_cons, List.length_cons]
    omega
attribute [local irreducible] E idxN cellAt cellsAt storeAt callable helems hmoved lookIn findKey keyOk hentries Hp.at Hp.set Hp.lay arBits hupdated setAt CallP YieldP BoolOf IsWrap Rnd LoopP AppP CutP Int.tmod Int.tdiv Int.fdiv
section
variable [Unknowns]
attribute [local irreducible] ResP sameAt
theorem sum_spec2 (v : Value) (l : List Int) (h : Hp) (hv : Ints h v l) (hl : l.length ≤ 1000000) (hin : ∀ x ∈ l, -1000 ≤ x ∧ x ≤ 1000) : CallP E 90 [v] h (fun r h' => r = int l.sum ∧ h' = h) := by
  obtain ⟨a, cap, rfl, hc⟩ := id hv
  refine enter90 (by simp) ?_
  conv => whnf
  repeat (refine SeqP.go ?_; conv => whnf)
  refine loop_inv (α := Nat) (fun k => [(8, int k), (7, int l.length), (6, .slice a l.length cap), (3, int (l.take k).sum)]) (fun _ => h) (fun k => k ≤ l.length) (fun k => l.length - k) 0 (by omega) ⟨rfl, rfl, rfl, rfl, trivial⟩ (Hp.Le.refl _) ?_
  intro k φ hk
  conv => whnf
  repeat (refine SeqP.go ?_; conv => whnf)
  refine cmpB (fun hb => ?_) (fun hb => ?_)
  · have hk' : k < l.length := by omega
    obtain ⟨r, o, sp, rfl, hsp, hcell⟩ := hc k hk'
    have b1 := sum_bd2 (l.take k) (fun x hx => hin x (List.mem_of_mem_take hx))
    have b2 := hin l[k] (List.getElem_mem hk')
    have e1 : (l.take (k + 1)).sum = (l.take k).sum + l[k] := by
      rw [List.take_succ_eq_append_getElem hk', List.sum_append]; simp
    have e2 : (l.take k).length = k := by rw [List.length_take]; omega
    conv => whnf
    repeat (refine SeqP.go ?_; conv => whnf)
    refine ⟨hsp, ⟨by omega, by omega⟩, ?_⟩
    conv => whnf
    refine ⟨_, hcell, ?_⟩
    conv => whnf
    refine ⟨(l.take (k + 1)).sum, wie e1.symm (by rw [e1]; rw [e2] at b1; omega), ?_⟩
    conv => whnf
    refine ⟨_, wid (by omega), ?_⟩
    conv => whnf
    exact Rnd.mk (k + 1) (by omega) (by omega) ⟨rfl, rfl, rfl, rfl, trivial⟩ (Hp.Le.refl _) rfl
  · have : k = l.length := by omega
    subst this
    conv => whnf
    repeat (refine SeqP.go ?_; conv => whnf)
    refine ⟨?_, rfl⟩
    show int (l.take l.length).sum = _
    rw [List.take_length]
theorem isTrue_spec (v w : Value) (q : Quest) (kinds : List Int) (h : Hp) (hv : QV h v q) (hw : Ints h w kinds) (hq : QOk q) (hkl : kinds.length = q.a.length) (hk : ∀ x ∈ kinds, 0 ≤ x ∧ x ≤ 9) : CallP E 64 [v, w] h (fun r h' => (∃ b, r = .bool b ∧ BoolOf b (TrueP q kinds)) ∧ Grows h h') := by
  obtain ⟨bx, rfl, hbl, ⟨a1, b0, k1⟩, b1, b2, -⟩ := hv.box
  have hl2 := hq.l2
  have hqb := hq.b
  have hqm := hq.m
  have hat : (h.lay (.row 36 true bx)).at h.next = some (.row 36 true bx) := Hp.at_lay_self _ _
  obtain ⟨ak, ck, rfl, hck⟩ := id hw
  have hdb := dotN_bd hq.ac hk
  refine enter64 (by simp) ?_
  conv => whnf
  refine SeqP.go ?_
  conv => whnf
  refine SeqP.cut (α := Hp) (fun Hb => [(5, slc Hb.next 0 kinds.length kinds.length), (2, ptr h.next 0), (1, .slice ak kinds.length ck)]) (fun Hb H => H = Hb.lay (.row 3 true (rowF kinds.length fun i => if i < 0 then gl q.a i * gl kinds i else 0)) ∧ Grows h Hb ∧ Hb.at h.next = some (.row 36 true bx)) ?_ ?_
  · conv => whnf
    refine ⟨⟨by omega, by omega, by omega, by omega⟩, ?_⟩
    conv => whnf
    refine ⟨_, ⟨rfl, rfl, rfl, trivial⟩, ⟨?_, Grows.lay _ _, hat⟩, rfl⟩
    rw [show (rowF kinds.length fun i => if i < 0 then gl q.a i * gl kinds i else 0) = rowF kinds.length fun _ => 0 from rowF_congr fun i _ => if_neg (by omega), ← times_zero]
    rfl
  rintro Hb φ1 _ ⟨rfl, gb, ab⟩
  conv => whnf
  refine SeqP.cut (α := Unit) (fun _ => [(5, slc Hb.next 0 kinds.length kinds.length), (2, ptr h.next 0)]) (fun _ H => H = Hb.lay (.row 3 true (rowF kinds.length fun i => if i < kinds.length then gl q.a i * gl kinds i else 0))) ?_ ?_
  · conv => whnf
    repeat (refine SeqP.go ?_; conv => whnf)
    refine loop_inv (α := Nat) (fun k => [(14, int k), (13, int kinds.length), (12, .slice ak kinds.length ck), (5, slc Hb.next 0 kinds.length kinds.length), (2, ptr h.next 0)]) (fun k => Hb.lay (.row 3 true (rowF kinds.length fun i => if i < k then gl q.a i * gl kinds i else 0))) (fun k => k ≤ kinds.length) (fun k => kinds.length - k) 0 (Nat.zero_le _) ⟨rfl, rfl, rfl, rfl, rfl, trivial⟩ (Hp.Le.refl _) ?_
    intro k φ hkk
    conv => whnf
    repeat (refine SeqP.go ?_; conv => whnf)
    refine cmpB (fun hb1 => ?_) (fun hb1 => ?_)
    rotate_left
    · have : k = kinds.length := by omega
      subst this
      conv => whnf
      repeat (refine SeqP.go ?_; conv => whnf)
      exact ⟨(), ⟨rfl, rfl, trivial⟩, rfl, rfl⟩
    have hkl' : k < kinds.length := by omega
    have hex : ∃ R, (rowF kinds.length fun i => if i < k then gl q.a i * gl kinds i else 0) = R := ⟨_, rfl⟩
    obtain ⟨R, eR⟩ := hex
    have hRl : R.length = kinds.length := by rw [← eR, rowF_length]
    have hRs : R.set k (int (gl q.a k * gl kinds k)) = rowF kinds.length fun i => if i < k + 1 then gl q.a i * gl kinds i else 0 := by
      rw [← eR, rowF_set]
      refine rowF_congr fun i _ => ?_
      by_cases e : i = k
      · subst e; rw [if_pos rfl, if_pos (by omega)]
      · rw [if_neg e]
        by_cases e2 : i < k
        · rw [if_pos e2, if_pos (by omega)]
        · rw [if_neg e2, if_neg (by omega)]
    rw [eR]
    have hgk : Grows h (Hb.lay (.row 3 true R)) := gb.then_lay _
    have hatk : (Hb.lay (.row 3 true R)).at h.next = some (.row 36 true bx) := Hp.at_lay_old _ ab
    have hc := (hw.ext hgk)
    obtain ⟨ak', ck', ew, hcc⟩ := hc
    cases ew
    have hc := hcc k hkl'
    obtain ⟨r, o, sp, ea, hsp, hci⟩ := hc
    subst ea
    have hc2 := (k1.ints.ext hgk)
    obtain ⟨az', cz', ew2, hcc2⟩ := hc2
    cases ew2
    have hc2 := hcc2 k (by omega)
    obtain ⟨r2, o2, sp2, ea2, hsp2, hci2⟩ := hc2
    subst ea2
    have hsx := hq.ac (gl q.a k) (by rw [gl_at (by omega)]; exact List.getElem_mem _)
    have hkx := hk (gl kinds k) (by rw [gl_at (by omega)]; exact List.getElem_mem _)
    have hmb := mul_bd5 hsx hkx
    have e1 := gl_at (l := q.a) (i := k) (by omega)
    have e2 := gl_at (l := kinds) (i := k) (by omega)
    conv => whnf
    repeat (refine SeqP.go ?_; conv => whnf)
    refine ⟨hsp, ⟨by omega, by omega⟩, ?_⟩
    conv => whnf
    refine ⟨int (gl kinds k), by rw [offAt_eq, Nat.add_comm, e2]; simpa using hci, ?_⟩
    conv => whnf
    refine ⟨_, cellAt_row hatk b0, ?_⟩
    conv => whnf
    refine ⟨hsp2, ⟨by omega, by omega⟩, ?_⟩
    conv => whnf
    refine ⟨int (gl q.a k), by rw [offAt_eq, Nat.add_comm, e1]; simpa using hci2, ?_⟩
    conv => whnf
    refine ⟨gl q.a k * gl kinds k, wie rfl (by omega), ?_⟩
    conv => whnf
    refine ⟨rfl, ⟨by omega, by omega⟩, ?_⟩
    conv => whnf
    have e9 : storeAt (Hb.lay (.row 3 true R)) Hb.next (offAt 0 ((k : Int)).toNat 1) [int (gl q.a k * gl kinds k)] = some (Hb.lay (.row 3 true (rowF kinds.length fun i => if i < k + 1 then gl q.a i * gl kinds i else 0))) := by
      have := storeAt_lay (h := Hb) (e := 3) (x := true) (cs := R) (o := k) (v := int (gl q.a k * gl kinds k)) (by omega) rfl
      rw [hRs] at this
      rw [offAt_eq]
      simpa using this
    refine ⟨rfl, _, e9, ?_⟩
    conv => whnf
    refine ⟨((k + 1 : Nat) : Int), wie (by omega) (by omega), ?_⟩
    conv => whnf
    exact Rnd.mk (k + 1) (by show k + 1 ≤ _; omega) (by show _ - (k + 1) < _ - k; omega) ⟨rfl, rfl, rfl, rfl, rfl, trivial⟩ (Hp.Le.refl _) rfl
  rintro _ φ2 _ rfl
  have eR : (rowF kinds.length fun i => if i < kinds.length then gl q.a i * gl kinds i else 0) = ((List.range kinds.length).map fun i => gl q.a i * gl kinds i).map int := by
    unfold rowF
    rw [List.map_map]
    refine List.map_congr_left fun i hi => ?_
    exact congrArg int (if_pos (List.mem_range.1 hi))
  rw [eR]
  have hexT : ∃ T, (List.range kinds.length).map (fun i => gl q.a i * gl kinds i) = T := ⟨_, rfl⟩
  obtain ⟨T, eT⟩ := hexT
  have hTl : T.length = kinds.length := by rw [← eT]; simp
  have hTs : T.sum = dotN q.a kinds kinds.length := by rw [← eT]; exact sum_range _ _ _
  have hTb : ∀ x ∈ T, -1000 ≤ x ∧ x ≤ 1000 := fun x hx => by
    rw [← eT] at hx
    obtain ⟨i, hi, rfl⟩ := List.mem_map.1 hx
    have hi := List.mem_range.1 hi
    have hsx := hq.ac (gl q.a i) (by rw [gl_at (by omega)]; exact List.getElem_mem _)
    have hkx := hk (gl kinds i) (by rw [gl_at (by omega)]; exact List.getElem_mem _)
    have := mul_bd5 hsx hkx
    omega
  rw [eT]
  have hdn := hdb kinds.length (by omega) (Nat.le_refl _)
  have hexd : ∃ d, dotN q.a kinds kinds.length = d := ⟨_, rfl⟩
  obtain ⟨d, ed⟩ := hexd
  have hTP : TrueP q kinds ↔ (q.m = 0 ∧ q.b ≤ d) ∨ (q.m ≠ 0 ∧ (d - q.b).tmod q.m = 0) := by unfold TrueP; rw [ed]
  rw [ed] at hTs hdn
  have hT3 : Ints (Hb.lay (.row 3 true (T.map int))) (slc Hb.next 0 kinds.length kinds.length) T := by
    have := ints_of_row (c := kinds.length) (Hp.at_lay_self Hb (.row 3 true (T.map int))) (l := T) fun k hk => by rw [List.getElem?_map, List.getElem?_eq_getElem hk]; rfl
    rw [hTl] at this
    exact this
  have hat3 : (Hb.lay (.row 3 true (T.map int))).at h.next = some (.row 36 true bx) := Hp.at_lay_old _ ab
  have hg3 : Grows h (Hb.lay (.row 3 true (T.map int))) := gb.then_lay _
  conv => whnf
  refine SeqP.cut (α := Unit) (fun _ => [(8, int (d - q.b)), (2, ptr h.next 0)]) (fun _ H => H = Hb.lay (.row 3 true (T.map int))) ?_ ?_
  · conv => whnf
    refine CallP.mono (sum_spec2 _ T _ hT3 (by omega) hTb) ?_
    rintro r h5 ⟨rfl, rfl⟩
    rw [hTs]
    conv => whnf
    refine ⟨_, cellAt_row hat3 b1, ?_⟩
    conv => whnf
    refine ⟨d - q.b, wie rfl (by omega), ?_⟩
    conv => whnf
    refine ⟨?_, ?_⟩
    · repeat' (first | exact True.intro | (refine And.intro ?_ ?_ <;> (conv => whnf)))
      all_goals first
        | exact sameAt_val (h2 := _) rfl (sameV_ptr3 _ _)
        | exact sameAt_val (h2 := _) (congrArg (hval _) (cellAt_row hat3 b1)) (sameV_int _)
        | trace_state
    conv => whnf
    exact ⟨(), ⟨rfl, rfl, trivial⟩, rfl, rfl⟩
  rintro _ φ3 _ rfl
  conv => whnf
  repeat (refine SeqP.go ?_; conv => whnf)
  refine ⟨_, cellAt_row hat3 b2, ?_⟩
  conv => whnf
  refine cmpB (fun c1 => ?_) (fun c1 => ?_)
  · conv => whnf
    repeat (refine SeqP.go ?_; conv => whnf)
    refine cmpB (fun c2 => ?_) (fun c2 => ?_)
    · conv => whnf
      repeat (refine SeqP.go ?_; conv => whnf)
      exact ⟨⟨true, rfl, bo_yes (hTP.2 (.inl ⟨c1, by omega⟩))⟩, hg3⟩
    · conv => whnf
      repeat (refine SeqP.go ?_; conv => whnf)
      exact ⟨⟨false, rfl, bo_no fun k => by (rcases hTP.1 k with k | k) <;> omega⟩, hg3⟩
  · conv => whnf
    repeat (refine SeqP.go ?_; conv => whnf)
    refine ⟨_, cellAt_row hat3 b2, ?_⟩
    conv => whnf
    refine ⟨c1, ?_⟩
    conv => whnf
    refine cmpB (fun c2 => ?_) (fun c2 => ?_)
    · conv => whnf
      repeat (refine SeqP.go ?_; conv => whnf)
      exact ⟨⟨true, rfl, bo_yes (hTP.2 (.inr ⟨c1, c2⟩))⟩, hg3⟩
    · conv => whnf
      repeat (refine SeqP.go ?_; conv => whnf)
      exact ⟨⟨false, rfl, bo_no fun k => by exact (hTP.1 k).elim (fun k => c1 k.1) (fun k => c2 k.2)⟩, hg3⟩
end
end Go.Proofs.Ytpiplaicnbapbaa
namespace Go.Proofs.Ytpiplaicnbapbaa
open Go.Rx Go.RowKit
theorem one_ints (h : Hp) (n : Int) : Ints (h.lay (.row 3 true [int n])) (slc h.next 0 1 1) [n] := (Built.lay1 (h0 := h) (Nat.le_refl _)).ints
theorem one_in (a b n : Int) : (∀ x ∈ [n], a ≤ x ∧ x ≤ b) ↔ (a ≤ n ∧ n ≤ b) := by simp
attribute [local irreducible] E idxN cellAt cellsAt storeAt callable helems hmoved lookIn findKey keyOk hentries Hp.at Hp.set Hp.lay arBits hupdated setAt CallP YieldP BoolOf IsWrap Rnd LoopP AppP CutP Int.tmod Int.tdiv Int.fdiv
section
variable [Unknowns]
attribute [local irreducible] ResP sameAt
theorem isQuestion_spec (v : Value) (q : Quest) (h : Hp) (hv : QV h v q) (hl : q.a.length ≤ 1000000) : CallP E 62 [v] h (fun r h' => (∃ b, r = .bool b ∧ BoolOf b (QOk q)) ∧ Grows h h') := by
  obtain ⟨bx, rfl, hbl, ⟨a1, b0, k1⟩, b1, b2, -⟩ := hv.box
  have hat : (h.lay (.row 36 true bx)).at h.next = some (.row 36 true bx) := Hp.at_lay_self _ _
  have g0 : Grows h (h.lay (.row 36 true bx)) := Grows.lay _ _
  refine enter62 (by simp) ?_
  conv => whnf
  repeat (refine SeqP.go ?_; conv => whnf)
  refine ⟨_, cellAt_row hat b0, ?_⟩
  conv => whnf
  refine cmpB (fun c1 => ?_) (fun c1 => ?_)
  rotate_left
  · conv => whnf
    repeat (refine SeqP.go ?_; conv => whnf)
    exact ⟨⟨false, rfl, bo_no fun k => by have := k.l1; omega⟩, g0⟩
  conv => whnf
  refine ⟨_, cellAt_row hat b0, ?_⟩
  conv => whnf
  refine cmpB (fun c2 => ?_) (fun c2 => ?_)
  rotate_left
  · conv => whnf
    repeat (refine SeqP.go ?_; conv => whnf)
    exact ⟨⟨false, rfl, bo_no fun k => by have := k.l2; omega⟩, g0⟩
  conv => whnf
  refine ⟨_, cellAt_row hat b0, ?_⟩
  conv => whnf
  refine CallP.mono (within_spec (-5) 5 _ q.a _ (k1.ints.ext g0) hl) ?_
  rintro r h1 ⟨rfl, rfl⟩
  by_cases c3 : ∀ x ∈ q.a, -5 ≤ x ∧ x ≤ 5
  rotate_left
  · rw [decide_eq_false c3]
    conv => whnf
    repeat (refine SeqP.go ?_; conv => whnf)
    exact ⟨⟨false, rfl, bo_no fun k => c3 k.ac⟩, g0⟩
  rw [decide_eq_true c3]
  conv => whnf
  refine ⟨_, cellAt_row hat b1, ?_⟩
  conv => whnf
  refine CallP.mono (within_spec (-9) 9 _ [q.b] _ (one_ints _ _) (by simp)) ?_
  rintro r h2 ⟨rfl, eh2⟩
  by_cases c4 : ∀ x ∈ [q.b], -9 ≤ x ∧ x ≤ 9
  rotate_left
  · rw [decide_eq_false c4]
    subst eh2
    conv => whnf
    repeat (refine SeqP.go ?_; conv => whnf)
    exact ⟨⟨false, rfl, bo_no fun k => c4 ((one_in _ _ _).2 k.b)⟩, g0.then_lay _⟩
  rw [decide_eq_true c4]
  subst eh2
  conv => whnf
  refine ⟨_, cellAt_row (Hp.at_lay_old _ hat) b2, ?_⟩
  conv => whnf
  refine CallP.mono (within_spec 0 9 _ [q.m] _ (one_ints _ _) (by simp)) ?_
  rintro r h3 ⟨rfl, eh3⟩
  by_cases c5 : ∀ x ∈ [q.m], 0 ≤ x ∧ x ≤ 9
  · rw [decide_eq_true c5]
    subst eh3
    conv => whnf
    repeat (refine SeqP.go ?_; conv => whnf)
    exact ⟨⟨true, rfl, bo_yes ⟨by omega, by omega, c3, (one_in _ _ _).1 c4, (one_in _ _ _).1 c5⟩⟩, (g0.then_lay _).then_lay _⟩
  · rw [decide_eq_false c5]
    subst eh3
    conv => whnf
    repeat (refine SeqP.go ?_; conv => whnf)
    exact ⟨⟨false, rfl, bo_no fun k => c5 ((one_in _ _ _).2 k.m)⟩, (g0.then_lay _).then_lay _⟩
end
end Go.Proofs.Ytpiplaicnbapbaa
namespace Go.Proofs.Ytpiplaicnbapbaa
open Go.Rx Go.RowKit
structure PQ (H0 H : Hp) (D : Nat) (cs : List Value) : Prop where
  next : H0.next ≤ H.next
  at_ : ∀ r o, r < H0.next → r ≠ D → H0.at r = some o → H.at r = some o
  dat : H.at D = some (.row 69 true cs)
theorem PQ.start {H0 : Hp} {D : Nat} {cs : List Value} (h : H0.at D = some (.row 69 true cs)) : PQ H0 H0 D cs := ⟨Nat.le_refl _, fun _ _ _ _ e => e, h⟩
theorem PQ.ext {H0 H H' : Hp} {D : Nat} {cs : List Value} (k : PQ H0 H D cs) (g : Grows H H') : PQ H0 H' D cs := ⟨Nat.le_trans k.next g.next, fun r o h1 h2 e => g.at_ _ _ (k.at_ r o h1 h2 e), g.at_ _ _ k.dat⟩
theorem PQ.grows {h H0 H : Hp} {D : Nat} {cs : List Value} (k : PQ H0 H D cs) (g : Grows h H0) (hD : h.next ≤ D) : Grows h H := ⟨Nat.le_trans g.next k.next, fun r o e => by
  have := Hp.lt_of_at e
  have := g.next
  exact k.at_ r o (by omega) (by omega) (g.at_ _ _ e)⟩
def QI (h : Hp) (v : Value) (q : Quest) : Prop := ∃ va, v = .agg ⟨[va, int q.b, int q.m]⟩ ∧ View h va q.a
theorem QI.ext {h h' : Hp} {v : Value} {q : Quest} (g : Grows h h') (k : QI h v q) : QI h' v q := by
  obtain ⟨va, e, k⟩ := k
  exact ⟨va, e, k.ext g⟩
end Go.Proofs.Ytpiplaicnbapbaa
namespace Go.Proofs.Ytpiplaicnbapbaa
open Go.Rx Go.RowKit
theorem PQ.set {H0 H : Hp} {D : Nat} {cs : List Value} (p : PQ H0 H D cs) (cs' : List Value) : PQ H0 (H.set D (.row 69 true cs')) D cs' := ⟨by rw [Hp.next_set]; exact p.next, fun r o h1 h2 e => by rw [Hp.at_set_ne _ h2]; exact p.at_ r o h1 h2 e, Hp.at_set_self _ (Hp.lt_of_at p.dat)⟩
theorem PI.box {h : Hp} {v : Value} {p : Prot} (k : PI h v p) : ∃ bx : List Value, v = .agg ⟨bx⟩ ∧ bx.length = 4 := by
  obtain ⟨a, b, c, rfl, _⟩ := k
  exact ⟨_, rfl, rfl⟩
theorem PI.ext {h h' : Hp} {v : Value} {p : Prot} (g : Grows h h') (k : PI h v p) : PI h' v p := by
  obtain ⟨a, b, c, e, h1, h2, h3⟩ := k
  exact ⟨a, b, c, e, h1.ext g, h2.ext g, h3.ext g⟩
end Go.Proofs.Ytpiplaicnbapbaa
namespace Go.Proofs.Ytpiplaicnbapbaa
open Go.Rx Go.RowKit
def Allowed (c : List Int) (q : Q4) : Prop := if q.a = q.b then 1 < gl c q.a.toNat else 0 < gl c q.a.toNat ∧ 0 < gl c q.b.toNat
instance (c : List Int) (q : Q4) : Decidable (Allowed c q) := by unfold Allowed; infer_instance
def after (c : List Int) (q : Q4) : List Int := bump (bump (bump (bump c (q.a, -1)) (q.b, -1)) (q.c, 1)) (q.d, 1)
theorem after_len (c : List Int) (q : Q4) : (after c q).length = c.length := by unfold after; rw [bump_len, bump_len, bump_len, bump_len]
theorem gl_bump {l : List Int} {x : Int × Int} (h : x.1.toNat < l.length) (i : Nat) : gl (bump l x) i = if i = x.1.toNat then gl l i + x.2 else gl l i := by
  unfold bump
  rw [gl_set h]
  split
  · rename_i e; rw [e]
  · rfl
theorem sum_set : ∀ {l : List Int} {i : Nat} (h : i < l.length) (y : Int), (l.set i y).sum = l.sum - gl l i + y
  | [], i, h, y => by simp at h
  | x :: l, 0, h, y => by simp [gl]; omega
  | x :: l, i + 1, h, y => by
    have := sum_set (l := l) (i := i) (by simpa using h) y
    simp only [List.set_cons_succ, List.sum_cons, this]
    have : gl (x :: l) (i + 1) = gl l i := by simp [gl]
    rw [this]; omega
theorem sum_bump {l : List Int} {x : Int × Int} (h : x.1.toNat < l.length) : (bump l x).sum = l.sum + x.2 := by unfold bump; rw [sum_set h]; omega
def ind (i j : Nat) : Int := if i = j then 1 else 0
theorem ind_bd (i j : Nat) : 0 ≤ ind i j ∧ ind i j ≤ 1 := by unfold ind; split <;> omega
theorem ind_eq {i j : Nat} (h : i = j) : ind i j = 1 := if_pos h
theorem ind_ne {i j : Nat} (h : i ≠ j) : ind i j = 0 := if_neg h
theorem gl_bump2 {l : List Int} {j x : Int} (h : j.toNat < l.length) (i : Nat) : gl (bump l (j, x)) i = gl l i + x * ind i j.toNat := by
  rw [gl_bump h]
  unfold ind
  dsimp only
  split <;> omega
theorem gl_after {n : Nat} {c : List Int} {q : Q4} (hl : c.length = n) (h : q.a.toNat < n ∧ q.b.toNat < n ∧ q.c.toNat < n ∧ q.d.toNat < n) (i : Nat) : gl (after c q) i = gl c i - ind i q.a.toNat - ind i q.b.toNat + ind i q.c.toNat + ind i q.d.toNat := by
  obtain ⟨h1, h2, h3, h4⟩ := h
  have b1 : (bump c (q.a, -1)).length = n := by rw [bump_len, hl]
  have b2 : (bump (bump c (q.a, -1)) (q.b, -1)).length = n := by rw [bump_len, b1]
  have b3 : (bump (bump (bump c (q.a, -1)) (q.b, -1)) (q.c, 1)).length = n := by rw [bump_len, b2]
  unfold after
  rw [gl_bump2 (by omega), gl_bump2 (by omega), gl_bump2 (by omega), gl_bump2 (by omega)]
  omega
structure CrOk (n : Nat) (c : List Int) : Prop where
  len : c.length = n
  nn : ∀ i, 0 ≤ gl c i
  s1 : 1 ≤ c.sum
  s9 : c.sum ≤ 9
theorem gl_out {l : List Int} {i : Nat} (h : l.length ≤ i) : gl l i = 0 := by
  unfold gl; rw [List.getD_eq_getElem?_getD, List.getElem?_eq_none h]; rfl
theorem gl_mem {l : List Int} {p : Int → Prop} (h : ∀ x ∈ l, p x) (h0 : p 0) (i : Nat) : p (gl l i) := by
  by_cases hi : i < l.length
  · rw [gl_at hi]; exact h _ (List.getElem_mem hi)
  · rw [gl_out (by omega)]; exact h0
theorem CrOk.of {n : Nat} {c : List Int} (h : Cnt c n) : CrOk n c := ⟨by have := h.1; omega, gl_mem (p := fun x => 0 ≤ x) (fun x hx => (h.2.1 x hx).1) (by omega), h.2.2.1, h.2.2.2⟩
theorem CrOk.all {n : Nat} {c : List Int} (h : CrOk n c) : ∀ x ∈ c, 0 ≤ x := fun x hx => by
  obtain ⟨i, hi, rfl⟩ := List.getElem_of_mem hx
  rw [← gl_at hi]
  exact h.nn i
theorem CrOk.le {n : Nat} {c : List Int} (h : CrOk n c) (i : Nat) : gl c i ≤ 9 := by
  by_cases hi : i < c.length
  · have := sum_le_of h.all (gl c i) (by rw [gl_at hi]; exact List.getElem_mem hi)
    have := h.s9
    omega
  · rw [gl_out (by omega)]; omega
theorem CrOk.cnt {n : Nat} {c : List Int} (h : CrOk n c) : Cnt c n := ⟨by have := h.len; omega, fun x hx => ⟨h.all x hx, by
  obtain ⟨i, hi, rfl⟩ := List.getElem_of_mem hx
  rw [← gl_at hi]
  exact h.le i⟩, h.s1, h.s9⟩
theorem qin {n : Nat} {q : Q4} (h : QIn n q) : q.a.toNat < n ∧ q.b.toNat < n ∧ q.c.toNat < n ∧ q.d.toNat < n := by unfold QIn at h; omega
theorem qin' {n : Nat} {q : Q4} (h : QIn n q) : (0 ≤ q.a ∧ q.a < n) ∧ (0 ≤ q.b ∧ q.b < n) ∧ (0 ≤ q.c ∧ q.c < n) ∧ (0 ≤ q.d ∧ q.d < n) := by unfold QIn at h; omega
theorem CrOk.after {n : Nat} {c : List Int} (h : CrOk n c) {q : Q4} (hq : QIn n q) (ha : Allowed c q) : CrOk n (after c q) := by
  obtain ⟨h1, h2, h3, h4⟩ := qin hq
  have hl := h.len
  have b1 : (bump c (q.a, -1)).length = n := by rw [bump_len, hl]
  have b2 : (bump (bump c (q.a, -1)) (q.b, -1)).length = n := by rw [bump_len, b1]
  have b3 : (bump (bump (bump c (q.a, -1)) (q.b, -1)) (q.c, 1)).length = n := by rw [bump_len, b2]
  have hs : (Ytpiplaicnbapbaa.after c q).sum = c.sum := by
    unfold Ytpiplaicnbapbaa.after
    rw [sum_bump (by show q.d.toNat < _; omega), sum_bump (by show q.c.toNat < _; omega), sum_bump (by show q.b.toNat < _; omega), sum_bump (by show q.a.toNat < _; omega)]
    dsimp only
    omega
  refine ⟨by rw [after_len, hl], fun i => ?_, by rw [hs]; exact h.s1, by rw [hs]; exact h.s9⟩
  rw [gl_after hl ⟨h1, h2, h3, h4⟩]
  have hi := h.nn i
  have hq' := qin' hq
  have x1 := ind_bd i q.a.toNat
  have x2 := ind_bd i q.b.toNat
  have x3 := ind_bd i q.c.toNat
  have x4 := ind_bd i q.d.toNat
  unfold Allowed at ha
  by_cases e : q.a = q.b
  · rw [if_pos e] at ha
    by_cases e1 : i = q.a.toNat
    · subst e1; omega
    · rw [ind_ne e1, ind_ne (by rw [← e]; exact e1)]; omega
  · rw [if_neg e] at ha
    by_cases e1 : i = q.a.toNat
    · have e2 : i ≠ q.b.toNat := by omega
      rw [ind_ne e2]
      subst e1; omega
    · rw [ind_ne e1]
      by_cases e2 : i = q.b.toNat
      · subst e2; omega
      · rw [ind_ne e2]; omega
def step (R : List Q4) (c : List Int) (i : Int) : Option (List Int) := if h : 0 ≤ i ∧ i < R.length then (if Allowed c (R[i.toNat]'(by omega)) then some (after c (R[i.toNat]'(by omega))) else none) else none
theorem step_ok {n : Nat} {R : List Q4} {c c' : List Int} {i : Int} (hR : ∀ x ∈ R, QIn n x) (hc : CrOk n c) (h : step R c i = some c') : CrOk n c' := by
  unfold step at h
  split at h
  · split at h
    · rename_i h1 h2
      cases h
      exact hc.after (hR _ (List.getElem_mem _)) h2
    · cases h
  · cases h
def pad5 (c : List Int) : List Int := c ++ List.replicate (5 - c.length) 0
theorem pad5_len {c : List Int} (h : c.length ≤ 5) : (pad5 c).length = 5 := by unfold pad5; rw [List.length_append, List.length_replicate]; omega
theorem gl_pad (c : List Int) (i : Nat) : gl (pad5 c) i = gl c i := by
  unfold pad5
  by_cases h : i < c.length
  · unfold gl
    rw [List.getD_eq_getElem?_getD, List.getElem?_append_left h, List.getD_eq_getElem?_getD]
  · rw [gl_out (l := c) (by omega)]
    unfold gl
    rw [List.getD_eq_getElem?_getD, List.getElem?_append_right (by omega), List.getElem?_replicate]
    split <;> rfl
theorem bump_pad {c : List Int} {x : Int × Int} (h : x.1.toNat < c.length) : bump (pad5 c) x = pad5 (bump c x) := by
  have e : (bump c x).length = c.length := bump_len ..
  unfold bump at e ⊢
  rw [gl_pad]
  unfold pad5
  rw [List.set_append_left _ _ h, e]
def zero5 : List Int := [0, 0, 0, 0, 0]
end Go.Proofs.Ytpiplaicnbapbaa
namespace Go.Proofs.Ytpiplaicnbapbaa
open Go.Rx Go.RowKit
def qcells (q : Q4) : List Value := [int q.a, int q.b, int q.c, int q.d]
def qv (q : Q4) : Value := .agg ⟨qcells q⟩
theorem allowed_pad {c : List Int} {q : Q4} : Allowed (pad5 c) q ↔ Allowed c q := by unfold Allowed; rw [gl_pad, gl_pad]
theorem after_pad {c : List Int} {q : Q4} (h : QIn c.length q) : after (pad5 c) q = pad5 (after c q) := by
  obtain ⟨h1, h2, h3, h4⟩ := qin h
  unfold after
  rw [bump_pad h1, bump_pad (by rw [bump_len]; exact h2), bump_pad (by rw [bump_len, bump_len]; exact h3), bump_pad (by rw [bump_len, bump_len, bump_len]; exact h4)]
structure AM (h : Hp) (q : Q4) (l : List Int) (H : Hp) : Prop where
  la : H.at h.next = some (.row 107 true (l.map int))
  qa : H.at (h.next + 1) = some (.row 96 true (qcells q))
  za : H.at (h.next + 2) = some (.row 107 true (zero5.map int))
  gr : Grows h H
  len : l.length = 5
theorem AM.put {h : Hp} {q : Q4} {l : List Int} {H : Hp} (k : AM h q l H) (l' : List Int) (hl : l'.length = 5) : AM h q l' (H.set h.next (.row 107 true (l'.map int))) :=
  ⟨Hp.at_set_self _ (Hp.lt_of_at k.la), by rw [Hp.at_set_ne _ (by omega)]; exact k.qa, by rw [Hp.at_set_ne _ (by omega)]; exact k.za, k.gr.then_set _ (Nat.le_refl _), hl⟩
theorem AM.bump {h : Hp} {q : Q4} {l : List Int} {H : Hp} (k : AM h q l H) {i : Int} (hi : 0 ≤ i ∧ i < 5) (x : Int) : storeAt H h.next (offAt 0 i.toNat 1) [int (gl l i.toNat + x)] = some (H.set h.next (.row 107 true ((Ytpiplaicnbapbaa.bump l (i, x)).map int))) := by
  have := row_store k.la (i := i.toNat) (by rw [k.len]; omega) (gl l i.toNat + x)
  rw [offAt_eq]
  unfold Ytpiplaicnbapbaa.bump
  simpa using this
theorem AM.load {h : Hp} {q : Q4} {l : List Int} {H : Hp} (k : AM h q l H) {i : Int} (hi : 0 ≤ i ∧ i < 5) : cellAt H h.next (offAt 0 i.toNat 1) = some (int (gl l i.toNat)) := by
  have := row_load k.la (i := i.toNat) (by rw [k.len]; omega)
  rw [offAt_eq]
  simpa using this
theorem gl_bd_bump {l : List Int} {i x M : Int} (hi : i.toNat < l.length) (h : ∀ j, -M ≤ gl l j ∧ gl l j ≤ M) (hx : -1 ≤ x ∧ x ≤ 1) : ∀ j, -(M + 1) ≤ gl (bump l (i, x)) j ∧ gl (bump l (i, x)) j ≤ M + 1 := fun j => by
  rw [gl_bump hi]
  have := h j
  split <;> omega
attribute [local irreducible] E idxN cellAt cellsAt storeAt callable helems hmoved lookIn findKey keyOk hentries Hp.at Hp.set Hp.lay arBits hupdated setAt CallP YieldP BoolOf IsWrap Rnd LoopP AppP CutP Int.tmod Int.tdiv Int.fdiv
section
variable [Unknowns]
attribute [local irreducible] ResP sameAt finP
theorem after_spec (c : List Int) (q : Q4) (h : Hp) (hc : c.length = 5) (hb : ∀ j, -100 ≤ gl c j ∧ gl c j ≤ 100) (hq : QIn 5 q) : CallP E 75 [cv c, qv q] h (fun r h' => r = cv (after c q) ∧ Grows h h') := by
  have hq' := qin' (n := 5) hq
  have n1 : ∀ o, (h.lay o).next = h.next + 1 := fun o => Hp.next_lay _ _
  unfold cv qv
  refine enter75 (by simp) ?_
  conv => whnf
  refine SeqP.cut (α := Unit) (fun _ => [(2, ptr h.next 0), (3, ptr (h.next + 1) 0), (4, ptr (h.next + 2) 0)]) (fun _ H => AM h q c H) ?_ ?_
  · conv => whnf
    refine ⟨(), ⟨rfl, congrArg (fun k => ptr k 0) (n1 _), congrArg (fun k => ptr k 0) (by simp only [Hp.next_lay]), trivial⟩, ⟨Hp.at_lay_old _ (Hp.at_lay_old _ (Hp.at_lay_self _ _)), Hp.at_lay_old _ (at_nx2 (n1 _) (Hp.at_lay_self _ _)), at_nx2 (by simp only [Hp.next_lay]) (Hp.at_lay_self _ _), ((Grows.lay _ _).then_lay _).then_lay _, hc⟩, rfl⟩
  rintro _ φ0 H0 m0
  have b1l : (bump c (q.a, -1)).length = 5 := by rw [bump_len, hc]
  have b2l : (bump (bump c (q.a, -1)) (q.b, -1)).length = 5 := by rw [bump_len, b1l]
  have b3l : (bump (bump (bump c (q.a, -1)) (q.b, -1)) (q.c, 1)).length = 5 := by rw [bump_len, b2l]
  have b4l : (after c q).length = 5 := by rw [after_len, hc]
  have g1 := gl_bd_bump (i := q.a) (x := -1) (by omega) hb (by omega)
  have g2 := gl_bd_bump (i := q.b) (x := -1) (by omega) g1 (by omega)
  have g3 := gl_bd_bump (i := q.c) (x := 1) (by omega) g2 (by omega)
  conv => whnf
  refine SeqP.cut (α := Unit) (fun _ => [(2, ptr h.next 0), (3, ptr (h.next + 1) 0), (4, ptr (h.next + 2) 0)]) (fun _ H => AM h q (bump c (q.a, -1)) H) ?_ ?_
  · have hx := hb q.a.toNat
    conv => whnf
    refine ⟨⟨by omega, by omega⟩, ?_⟩
    conv => whnf
    refine ⟨_, cellAt_row m0.qa rfl, ?_⟩
    conv => whnf
    refine ⟨⟨by omega, by omega⟩, ?_⟩
    conv => whnf
    refine ⟨_, m0.load hq'.1, ?_⟩
    conv => whnf
    refine ⟨gl c q.a.toNat + -1, wie (by omega) (by omega), ?_⟩
    conv => whnf
    refine ⟨⟨by omega, by omega⟩, ?_⟩
    conv => whnf
    refine ⟨rfl, _, m0.bump hq'.1 (-1), ?_⟩
    conv => whnf
    exact ⟨(), ⟨rfl, rfl, rfl, trivial⟩, m0.put _ b1l, rfl⟩
  rintro _ φ1 H1 m1
  have hexl : ∃ l, bump c (q.a, -1) = l := ⟨_, rfl⟩
  obtain ⟨l1, el1⟩ := hexl
  rw [el1] at m1 g1
  conv => whnf
  refine SeqP.cut (α := Unit) (fun _ => [(2, ptr h.next 0), (3, ptr (h.next + 1) 0), (4, ptr (h.next + 2) 0)]) (fun _ H => AM h q (bump l1 (q.b, -1)) H) ?_ ?_
  · have hx := g1 q.b.toNat
    conv => whnf
    refine ⟨⟨by omega, by omega⟩, ?_⟩
    conv => whnf
    refine ⟨_, cellAt_row m1.qa rfl, ?_⟩
    conv => whnf
    refine ⟨⟨by omega, by omega⟩, ?_⟩
    conv => whnf
    refine ⟨_, m1.load hq'.2.1, ?_⟩
    conv => whnf
    refine ⟨gl l1 q.b.toNat + -1, wie (by omega) (by omega), ?_⟩
    conv => whnf
    refine ⟨⟨by omega, by omega⟩, ?_⟩
    conv => whnf
    refine ⟨rfl, _, m1.bump hq'.2.1 (-1), ?_⟩
    conv => whnf
    exact ⟨(), ⟨rfl, rfl, rfl, trivial⟩, m1.put _ (by rw [← el1]; exact b2l), rfl⟩
  rintro _ φ2 H2 m2
  rw [el1] at b2l b3l g2 g3
  have hexl : ∃ l, bump l1 (q.b, -1) = l := ⟨_, rfl⟩
  obtain ⟨l2, el2⟩ := hexl
  rw [el2] at m2 g2 b2l b3l g3
  conv => whnf
  refine SeqP.cut (α := Unit) (fun _ => [(2, ptr h.next 0), (3, ptr (h.next + 1) 0), (4, ptr (h.next + 2) 0)]) (fun _ H => AM h q (bump l2 (q.c, 1)) H) ?_ ?_
  · have hx := g2 q.c.toNat
    conv => whnf
    refine ⟨⟨by omega, by omega⟩, ?_⟩
    conv => whnf
    refine ⟨_, cellAt_row m2.qa rfl, ?_⟩
    conv => whnf
    refine ⟨⟨by omega, by omega⟩, ?_⟩
    conv => whnf
    refine ⟨_, m2.load hq'.2.2.1, ?_⟩
    conv => whnf
    refine ⟨gl l2 q.c.toNat + 1, wie (by omega) (by omega), ?_⟩
    conv => whnf
    refine ⟨⟨by omega, by omega⟩, ?_⟩
    conv => whnf
    refine ⟨rfl, _, m2.bump hq'.2.2.1 1, ?_⟩
    conv => whnf
    exact ⟨(), ⟨rfl, rfl, rfl, trivial⟩, m2.put _ b3l, rfl⟩
  rintro _ φ3 H3 m3
  have hexl : ∃ l, bump l2 (q.c, 1) = l := ⟨_, rfl⟩
  obtain ⟨l3, el3⟩ := hexl
  rw [el3] at m3 b3l g3
  have eaf : after c q = bump l3 (q.d, 1) := by unfold after; rw [el1, el2, el3]
  rw [eaf] at b4l ⊢
  conv => whnf
  refine SeqP.cut (α := Unit) (fun _ => [(2, ptr h.next 0), (3, ptr (h.next + 1) 0), (4, ptr (h.next + 2) 0)]) (fun _ H => AM h q (bump l3 (q.d, 1)) H) ?_ ?_
  · have hx := g3 q.d.toNat
    conv => whnf
    refine ⟨⟨by omega, by omega⟩, ?_⟩
    conv => whnf
    refine ⟨_, cellAt_row m3.qa rfl, ?_⟩
    conv => whnf
    refine ⟨⟨by omega, by omega⟩, ?_⟩
    conv => whnf
    refine ⟨_, m3.load hq'.2.2.2, ?_⟩
    conv => whnf
    refine ⟨gl l3 q.d.toNat + 1, wie (by omega) (by omega), ?_⟩
    conv => whnf
    refine ⟨⟨by omega, by omega⟩, ?_⟩
    conv => whnf
    refine ⟨rfl, _, m3.bump hq'.2.2.2 1, ?_⟩
    conv => whnf
    exact ⟨(), ⟨rfl, rfl, rfl, trivial⟩, m3.put _ b4l, rfl⟩
  rintro _ φ4 H4 m4
  have hexl : ∃ l, bump l3 (q.d, 1) = l := ⟨_, rfl⟩
  obtain ⟨l4, el4⟩ := hexl
  rw [el4] at m4 b4l ⊢
  conv => whnf
  repeat (refine SeqP.go ?_; conv => whnf)
  refine ⟨l4.map int, all_cells m4.la (by rw [List.length_map, b4l]), ?_⟩
  conv => whnf
  refine ⟨by show (l4.map int).length = 5; rw [List.length_map, b4l], _, storeAt_full (vs := l4.map int) m4.za (by rw [List.length_map, b4l]; rfl) (ints_one _) (over_int (k := zero5) (by rw [b4l]; rfl)), ?_⟩
  conv => whnf
  repeat (refine SeqP.go ?_; conv => whnf)
  obtain ⟨i107, t107, ag107, sz107⟩ := ty107
  refine leave_cell (r := h.next + 2) (o := 0) (cs := l4.map int) rfl t107 ag107 ?_ ⟨rfl, m4.gr.then_set _ (by omega)⟩
  rw [sz107]
  exact all_cells (Hp.at_set_self _ (Hp.lt_of_at m4.za)) (by rw [List.length_map, b4l])
theorem allows_spec (c : List Int) (q : Q4) (h : Hp) (hc : c.length = 5) (hq : QIn 5 q) : CallP E 74 [cv c, qv q] h (fun r h' => (∃ b, r = .bool b ∧ BoolOf b (Allowed c q)) ∧ Grows h h') := by
  have hq' := qin' (n := 5) hq
  have n1 : ∀ o, (h.lay o).next = h.next + 1 := fun o => Hp.next_lay _ _
  have g0 : Grows h ((h.lay (.row 107 true (c.map int))).lay (.row 96 true (qcells q))) := (Grows.lay _ _).then_lay _
  have a0 : ((h.lay (.row 107 true (c.map int))).lay (.row 96 true (qcells q))).at h.next = some (.row 107 true (c.map int)) := Hp.at_lay_old _ (Hp.at_lay_self _ _)
  have a1 : ((h.lay (.row 107 true (c.map int))).lay (.row 96 true (qcells q))).at (h.lay (.row 107 true (c.map int))).next = some (.row 96 true (qcells q)) := Hp.at_lay_self _ _
  have ld : ∀ i : Int, 0 ≤ i ∧ i < 5 → cellAt ((h.lay (.row 107 true (c.map int))).lay (.row 96 true (qcells q))) h.next (offAt 0 i.toNat 1) = some (int (gl c i.toNat)) := fun i hi => by
    have := row_load a0 (i := i.toNat) (by omega)
    rw [offAt_eq]
    simpa using this
  unfold cv qv
  refine enter74 (by simp) ?_
  conv => whnf
  repeat (refine SeqP.go ?_; conv => whnf)
  refine ⟨⟨by omega, by omega⟩, ?_⟩
  conv => whnf
  refine ⟨_, cellAt_row a1 rfl, ?_⟩
  conv => whnf
  refine ⟨⟨by omega, by omega⟩, ?_⟩
  conv => whnf
  refine ⟨_, cellAt_row a1 rfl, ?_⟩
  conv => whnf
  repeat (refine SeqP.go ?_; conv => whnf)
  refine cmpB (fun c1 => ?_) (fun c1 => ?_)
  · conv => whnf
    repeat (refine SeqP.go ?_; conv => whnf)
    refine ⟨⟨by omega, by omega⟩, ?_⟩
    conv => whnf
    refine ⟨_, ld q.a hq'.1, ?_⟩
    conv => whnf
    refine cmpB (fun c2 => ?_) (fun c2 => ?_)
    · conv => whnf
      repeat (refine SeqP.go ?_; conv => whnf)
      exact finP_one rfl rfl ⟨⟨true, rfl, bo_yes (by unfold Allowed; rw [if_pos c1]; omega)⟩, g0⟩
    · conv => whnf
      repeat (refine SeqP.go ?_; conv => whnf)
      exact finP_one rfl rfl ⟨⟨false, rfl, bo_no (by unfold Allowed; rw [if_pos c1]; omega)⟩, g0⟩
  conv => whnf
  repeat (refine SeqP.go ?_; conv => whnf)
  refine ⟨⟨by omega, by omega⟩, ?_⟩
  conv => whnf
  refine ⟨_, ld q.a hq'.1, ?_⟩
  conv => whnf
  refine cmpB (fun c2 => ?_) (fun c2 => ?_)
  rotate_left
  · conv => whnf
    repeat (refine SeqP.go ?_; conv => whnf)
    exact finP_one rfl rfl ⟨⟨false, rfl, bo_no (by unfold Allowed; rw [if_neg c1]; omega)⟩, g0⟩
  conv => whnf
  refine ⟨⟨by omega, by omega⟩, ?_⟩
  conv => whnf
  refine ⟨_, ld q.b hq'.2.1, ?_⟩
  conv => whnf
  refine cmpB (fun c3 => ?_) (fun c3 => ?_)
  · conv => whnf
    repeat (refine SeqP.go ?_; conv => whnf)
    exact finP_one rfl rfl ⟨⟨true, rfl, bo_yes (by unfold Allowed; rw [if_neg c1]; omega)⟩, g0⟩
  · conv => whnf
    repeat (refine SeqP.go ?_; conv => whnf)
    exact finP_one rfl rfl ⟨⟨false, rfl, bo_no (by unfold Allowed; rw [if_neg c1]; omega)⟩, g0⟩
end
end Go.Proofs.Ytpiplaicnbapbaa
namespace Go.Proofs.Ytpiplaicnbapbaa
open Go.Rx Go.RowKit
theorem POk.qin {p : Prot} (h : POk p) : ∀ k, (hk : k < p.rules.length) → QIn p.n p.rules[k] := fun k hk => (h.rs k hk hk).1
theorem step_no {R : List Q4} {c : List Int} {i : Int} (h : ¬ (0 ≤ i ∧ i < R.length)) : step R c i = none := dif_neg h
theorem step_not {R : List Q4} {c : List Int} {i : Int} (h : 0 ≤ i ∧ i < R.length) (k : ¬ Allowed c (R[i.toNat]'(by omega))) : step R c i = none := by
  unfold step
  rw [dif_pos h, if_neg k]
theorem step_yes {R : List Q4} {c : List Int} {i : Int} (h : 0 ≤ i ∧ i < R.length) (k : Allowed c (R[i.toNat]'(by omega))) : step R c i = some (after c (R[i.toNat]'(by omega))) := by
  unfold step
  rw [dif_pos h, if_pos k]
end Go.Proofs.Ytpiplaicnbapbaa
namespace Go.Proofs.Ytpiplaicnbapbaa
open Go.Rx Go.RowKit
structure BM (h : Hp) (Q r : Nat) (x : Bool) (q : Q4) (l : List Int) (n : Nat) (H : Hp) : Prop where
  la : H.at r = some (.row 3 x (l.map int))
  qa : H.at Q = some (.row 96 true (qcells q))
  gr : Grows h H
  len : l.length = n
  hr : h.next ≤ r
  ne : Q ≠ r
theorem BM.put {h : Hp} {Q r : Nat} {x : Bool} {q : Q4} {l : List Int} {n : Nat} {H : Hp} (k : BM h Q r x q l n H) (l' : List Int) (hl : l'.length = n) : BM h Q r x q l' n (H.set r (.row 3 x (l'.map int))) :=
  ⟨Hp.at_set_self _ (Hp.lt_of_at k.la), by rw [Hp.at_set_ne _ k.ne]; exact k.qa, k.gr.then_set _ k.hr, hl, k.hr, k.ne⟩
theorem BM.bump {h : Hp} {Q r : Nat} {e : Bool} {q : Q4} {l : List Int} {n : Nat} {H : Hp} (k : BM h Q r e q l n H) {i : Int} (hi : 0 ≤ i ∧ i < n) (x : Int) : storeAt H r (offAt 0 i.toNat 1) [int (gl l i.toNat + x)] = some (H.set r (.row 3 e ((Ytpiplaicnbapbaa.bump l (i, x)).map int))) := by
  have := row_store k.la (i := i.toNat) (by rw [k.len]; omega) (gl l i.toNat + x)
  rw [offAt_eq]
  unfold Ytpiplaicnbapbaa.bump
  simpa using this
theorem BM.load {h : Hp} {Q r : Nat} {e : Bool} {q : Q4} {l : List Int} {n : Nat} {H : Hp} (k : BM h Q r e q l n H) {i : Int} (hi : 0 ≤ i ∧ i < n) : cellAt H r (offAt 0 i.toNat 1) = some (int (gl l i.toNat)) := by
  have := row_load k.la (i := i.toNat) (by rw [k.len]; omega)
  rw [offAt_eq]
  simpa using this
end Go.Proofs.Ytpiplaicnbapbaa
namespace Go.Proofs.Ytpiplaicnbapbaa
open Go.Rx Go.RowKit
def PL (h : Hp) (v : Value) (p : Prot) : Prop := ∃ vo vs vr, v = pval p.n vo vs vr ∧ View h vo p.out ∧ View h vs p.start ∧ LentV h vr p.rules.length (flat4 p.rules)
theorem PL.ext {h h' : Hp} {v : Value} {p : Prot} (g : Grows h h') (k : PL h v p) : PL h' v p := by
  obtain ⟨a, b, c, e, h1, h2, h3⟩ := k
  exact ⟨a, b, c, e, h1.ext g, h2.ext g, h3.ext g⟩
end Go.Proofs.Ytpiplaicnbapbaa
namespace Go.Proofs.Ytpiplaicnbapbaa
open Go.Rx Go.RowKit
inductive Rs (R : List Q4) : List Int → List Int → Prop
  | refl (c) : Rs R c c
  | tail {c d e i} : Rs R c d → step R d i = some e → Rs R c e
theorem Rs.trans {R : List Q4} {a b c : List Int} (h : Rs R a b) (k : Rs R b c) : Rs R a c := by
  induction k with
  | refl => exact h
  | tail _ hs ih => exact ih.tail hs
theorem Rs.one {R : List Q4} {a b : List Int} {i : Int} (h : step R a i = some b) : Rs R a b := (Rs.refl a).tail h
theorem Rs.head {R : List Q4} {a b c : List Int} {i : Int} (h : step R a i = some b) (k : Rs R b c) : Rs R a c := (Rs.one h).trans k
theorem Rs.ok {n : Nat} {R : List Q4} (hR : ∀ x ∈ R, QIn n x) {c d : List Int} (h : Rs R c d) (hc : CrOk n c) : CrOk n d := by
  induction h with
  | refl => exact hc
  | tail _ hs ih => exact step_ok hR ih hs
structure Gr (R : List Q4) (c : List Int) (L : List (List Int)) : Prop where
  nodup : L.Nodup
  first : L[0]? = some c
  from_ : ∀ d ∈ L, Rs R c d
  closed : ∀ d ∈ L, ∀ i e, step R d i = some e → e ∈ L
theorem Gr.pos {R : List Q4} {c : List Int} {L : List (List Int)} (g : Gr R c L) : 0 < L.length := by
  have := g.first
  cases L with
  | nil => cases this
  | cons x l => simp
theorem Gr.mem {R : List Q4} {c : List Int} {L : List (List Int)} (g : Gr R c L) {d : List Int} : d ∈ L ↔ Rs R c d := by
  refine ⟨g.from_ d, fun h => ?_⟩
  induction h with
  | refl => exact List.mem_of_getElem? g.first
  | tail _ hs ih => exact g.closed _ ih _ _ hs
def Ed (R : List Q4) (L : List (List Int)) (a b : Nat) : Prop := ∃ d e i, L[a]? = some d ∧ L[b]? = some e ∧ step R d i = some e
theorem Ed.lt {R : List Q4} {L : List (List Int)} {a b : Nat} (h : Ed R L a b) : a < L.length ∧ b < L.length := by
  obtain ⟨d, e, i, h1, h2, _⟩ := h
  exact ⟨(List.getElem?_eq_some_iff.1 h1).1, (List.getElem?_eq_some_iff.1 h2).1⟩
inductive Pt (R : List Q4) (L : List (List Int)) : Nat → Nat → Prop
  | refl (a) : Pt R L a a
  | head {a b t} : Ed R L a b → Pt R L b t → Pt R L a t
theorem Pt.trans {R : List Q4} {L : List (List Int)} {a b c : Nat} (h : Pt R L a b) (k : Pt R L b c) : Pt R L a c := by
  induction h with
  | refl => exact k
  | head e _ ih => exact .head e (ih k)
theorem Pt.lt {R : List Q4} {L : List (List Int)} {a b : Nat} (h : Pt R L a b) (ha : a < L.length) : b < L.length := by
  induction h with
  | refl => exact ha
  | head e _ ih => exact ih e.lt.2
theorem Pt.rs {R : List Q4} {L : List (List Int)} {a b : Nat} (h : Pt R L a b) : ∀ {d e : List Int}, L[a]? = some d → L[b]? = some e → Rs R d e := by
  induction h with
  | refl => intro d e h1 h2; rw [h1] at h2; cases h2; exact .refl _
  | head e _ ih =>
    intro d e' h1 h2
    obtain ⟨d1, e1, i, k1, k2, k3⟩ := e
    rw [k1] at h1
    cases h1
    exact .head k3 (ih k2 h2)
theorem Gr.pt {R : List Q4} {c : List Int} {L : List (List Int)} (g : Gr R c L) {a : Nat} {d e : List Int} (h1 : L[a]? = some d) (h : Rs R d e) : ∃ b, L[b]? = some e ∧ Pt R L a b := by
  induction h with
  | refl => exact ⟨a, h1, .refl _⟩
  | tail _ hs ih =>
    obtain ⟨b, h2, h3⟩ := ih
    have hm := g.closed _ (List.mem_of_getElem? h2) _ _ hs
    obtain ⟨k, hk⟩ := List.getElem?_of_mem hm
    exact ⟨k, hk, h3.trans (.head ⟨_, _, _, h2, hk, hs⟩ (.refl _))⟩
def Lead (R : List Q4) (L : List (List Int)) (T : Nat → Prop) (a : Nat) : Prop := ∃ t, T t ∧ Pt R L a t
theorem Lead.self {R : List Q4} {L : List (List Int)} {T : Nat → Prop} {a : Nat} (h : T a) : Lead R L T a := ⟨a, h, .refl _⟩
theorem Lead.back {R : List Q4} {L : List (List Int)} {T : Nat → Prop} {a b : Nat} (h : Lead R L T b) (e : Ed R L a b) : Lead R L T a := by
  obtain ⟨t, h1, h2⟩ := h
  exact ⟨t, h1, .head e h2⟩
theorem Lead.least {R : List Q4} {L : List (List Int)} {T M : Nat → Prop} (h1 : ∀ t, T t → M t) (h2 : ∀ a b, Ed R L a b → M b → M a) {a : Nat} (h : Lead R L T a) : M a := by
  obtain ⟨t, ht, hp⟩ := h
  induction hp with
  | refl => exact h1 _ ht
  | head e _ ih => exact h2 _ _ e (ih ht)
def AllOut (out : List Int) (on : Int) (c : List Int) : Prop := ∀ s, s < out.length → 0 < gl c s → gl out s = on
def Oth (out : List Int) (on : Int) (L : List (List Int)) (a : Nat) : Prop := ∃ d, L[a]? = some d ∧ ¬ AllOut out on d
def SettC (R : List Q4) (out : List Int) (on : Int) (c : List Int) : Prop := ∀ d, Rs R c d → AllOut out on d
def DeciC (R : List Q4) (out : List Int) (on : Int) (c : List Int) : Prop := ∀ d, Rs R c d → ∃ e, Rs R d e ∧ SettC R out on e
def SetN (R : List Q4) (out : List Int) (on : Int) (L : List (List Int)) (a : Nat) : Prop := a < L.length ∧ ¬ Lead R L (Oth out on L) a
theorem Gr.sett {R : List Q4} {c : List Int} {L : List (List Int)} (g : Gr R c L) {out : List Int} {on : Int} {a : Nat} {d : List Int} (h : L[a]? = some d) : SetN R out on L a ↔ SettC R out on d := by
  constructor
  · rintro ⟨h1, h2⟩ e he
    refine Classical.byContradiction fun hn => h2 ?_
    obtain ⟨b, h3, h4⟩ := g.pt h he
    exact ⟨b, ⟨e, h3, hn⟩, h4⟩
  · intro h1
    refine ⟨(List.getElem?_eq_some_iff.1 h).1, ?_⟩
    rintro ⟨t, ⟨e, h2, h3⟩, h4⟩
    exact h3 (h1 e (h4.rs h h2))
theorem Gr.settled {R : List Q4} {c : List Int} {L : List (List Int)} (g : Gr R c L) {out : List Int} {on : Int} : SetN R out on L 0 ↔ SettC R out on c := g.sett g.first
theorem Gr.decides {R : List Q4} {c : List Int} {L : List (List Int)} (g : Gr R c L) {out : List Int} {on : Int} : (∀ a, a < L.length → Lead R L (SetN R out on L) a) ↔ DeciC R out on c := by
  constructor
  · intro h d hd
    obtain ⟨a, ha⟩ := List.getElem?_of_mem (g.mem.2 hd)
    obtain ⟨t, h1, h2⟩ := h a (List.getElem?_eq_some_iff.1 ha).1
    have ht := List.getElem?_eq_getElem h1.1
    exact ⟨_, h2.rs ha ht, (g.sett ht).1 h1⟩
  · intro h a ha
    have h1 := List.getElem?_eq_getElem ha
    obtain ⟨e, h2, h3⟩ := h _ (g.from_ _ (List.getElem_mem ha))
    obtain ⟨b, h4, h5⟩ := g.pt h1 h2
    exact ⟨b, (g.sett h4).2 h3, h5⟩
def firstOf (P : Int → Prop) (r : Int × Bool) : Prop := (P 0 → r = (0, true)) ∧ (¬ P 0 → P 1 → r = (1, true)) ∧ (¬ P 0 → ¬ P 1 → r = (0, false))
theorem firstOf.uniq {P : Int → Prop} {r s : Int × Bool} (h : firstOf P r) (k : firstOf P s) : r = s := by
  by_cases h0 : P 0
  · rw [h.1 h0, k.1 h0]
  · by_cases h1 : P 1
    · rw [h.2.1 h0 h1, k.2.1 h0 h1]
    · rw [h.2.2 h0 h1, k.2.2 h0 h1]
end Go.Proofs.Ytpiplaicnbapbaa
namespace Go.Proofs.Ytpiplaicnbapbaa
open Go.Rx Go.RowKit
theorem nodup_lt : ∀ (N : Nat) (l : List Nat), l.Nodup → (∀ x ∈ l, x < N) → l.length ≤ N
  | 0, l, _, h => by
    cases l with
    | nil => simp
    | cons x l => exact absurd (h x (by simp)) (Nat.not_lt_zero _)
  | N + 1, l, hn, h => by
    by_cases hm : N ∈ l
    · have h1 := nodup_lt N (l.erase N) (hn.erase N) (fun x hx => by
        have h2 := (List.Nodup.mem_erase_iff hn).1 hx
        have h3 := h x h2.2
        have h4 := h2.1
        omega)
      rw [List.length_erase_of_mem hm] at h1
      omega
    · have h1 := nodup_lt N l hn (fun x hx => by
        have h3 := h x hx
        have h4 : x ≠ N := fun e => hm (e ▸ hx)
        omega)
      omega
theorem nodup_map {α β : Type} {f : α → β} : ∀ {l : List α}, l.Nodup → (∀ a ∈ l, ∀ b ∈ l, f a = f b → a = b) → (l.map f).Nodup
  | [], _, _ => by simp
  | x :: l, hn, h => by
    have hc := List.nodup_cons.1 hn
    rw [List.map_cons, List.nodup_cons]
    refine ⟨fun hm => ?_, nodup_map hc.2 fun a ha b hb => h a (by simp [ha]) b (by simp [hb])⟩
    obtain ⟨y, hy, e⟩ := List.mem_map.1 hm
    have := h y (by simp [hy]) x (by simp) e
    subst this
    exact hc.1 hy
structure Gp (R : List Q4) (n : Nat) (c : List Int) (L : List (List Int)) (i : Nat) : Prop where
  nodup : L.Nodup
  first : L[0]? = some c
  from_ : ∀ d ∈ L, Rs R c d
  ok : ∀ d ∈ L, CrOk n d
  clo : ∀ a d, a < i → L[a]? = some d → ∀ k e, step R d k = some e → e ∈ L
theorem Gp.start {R : List Q4} {n : Nat} {c : List Int} (hc : CrOk n c) : Gp R n c [c] 0 :=
  ⟨by simp, rfl, fun d hd => by rw [List.mem_singleton.1 hd]; exact .refl _, fun d hd => by rw [List.mem_singleton.1 hd]; exact hc, fun a d h => absurd h (Nat.not_lt_zero _)⟩
theorem Gp.pos {R : List Q4} {n : Nat} {c : List Int} {L : List (List Int)} {i : Nat} (g : Gp R n c L i) : 0 < L.length := by
  have := g.first
  cases L with
  | nil => cases this
  | cons x l => simp
theorem getE_snoc {α : Type} {L : List α} {a : Nat} {d x : α} (h : L[a]? = some d) : (L ++ [x])[a]? = some d := by
  rw [List.getElem?_append_left (List.getElem?_eq_some_iff.1 h).1]
  exact h
theorem Gp.add {R : List Q4} {n : Nat} {c : List Int} {L : List (List Int)} {i : Nat} (g : Gp R n c L i) (hi : i ≤ L.length) (hR : ∀ x ∈ R, QIn n x) {d e : List Int} {k : Int} (hd : d ∈ L) (hs : step R d k = some e) (hn : e ∉ L) : Gp R n c (L ++ [e]) i := by
  refine ⟨?_, getE_snoc g.first, fun x hx => ?_, fun x hx => ?_, fun a x ha hx k' y hy => ?_⟩
  · rw [List.nodup_append]
    exact ⟨g.nodup, by simp, fun a ha b hb => by rw [List.mem_singleton.1 hb]; exact fun e => hn (e ▸ ha)⟩
  · rcases List.mem_append.1 hx with hx | hx
    · exact g.from_ x hx
    · rw [List.mem_singleton.1 hx]; exact (g.from_ d hd).tail hs
  · rcases List.mem_append.1 hx with hx | hx
    · exact g.ok x hx
    · rw [List.mem_singleton.1 hx]; exact step_ok hR (g.ok d hd) hs
  · rw [List.getElem?_append_left (by omega)] at hx
    exact List.mem_append_left _ (g.clo a x ha hx k' y hy)
theorem Gp.turn {R : List Q4} {n : Nat} {c : List Int} {L : List (List Int)} {i : Nat} (g : Gp R n c L i) {d : List Int} (hd : L[i]? = some d) (h : ∀ k e, step R d k = some e → e ∈ L) : Gp R n c L (i + 1) :=
  ⟨g.nodup, g.first, g.from_, g.ok, fun a x ha hx k e hs => by
    by_cases e2 : a = i
    · subst e2
      rw [hd] at hx
      cases hx
      exact h k e hs
    · exact g.clo a x (by omega) hx k e hs⟩
theorem Gp.done {R : List Q4} {n : Nat} {c : List Int} {L : List (List Int)} (g : Gp R n c L L.length) : Gr R c L :=
  ⟨g.nodup, g.first, g.from_, fun d hd k e hs => by
    obtain ⟨a, ha⟩ := List.getElem?_of_mem hd
    exact g.clo a d (List.getElem?_eq_some_iff.1 ha).1 ha k e hs⟩
structure RowOk (R : List Q4) (L : List (List Int)) (d : List Int) (r : Nat) (row : List Int) : Prop where
  fwd : ∀ x ∈ row, ∃ (k : Nat) (e : List Int) (j : Int), x = (k : Int) ∧ L[k]? = some e ∧ step R d j = some e
  bwd : ∀ (j : Int) (e : List Int), j < (r : Int) → step R d j = some e → ∃ k : Nat, L[k]? = some e ∧ (k : Int) ∈ row
  few : row.length ≤ r
theorem step_range {R : List Q4} {d e : List Int} {j : Int} (h : step R d j = some e) : 0 ≤ j ∧ j < R.length := by
  by_cases hc : 0 ≤ j ∧ j < R.length
  · exact hc
  · rw [step_no hc] at h; cases h
theorem RowOk.start {R : List Q4} {L : List (List Int)} {d : List Int} : RowOk R L d 0 [] :=
  ⟨fun x h => by simp at h, fun j e hj hs => by have := step_range hs; omega, by simp⟩
theorem RowOk.ext {R : List Q4} {L : List (List Int)} {d : List Int} {r : Nat} {row : List Int} (k : RowOk R L d r row) (x : List Int) : RowOk R (L ++ [x]) d r row :=
  ⟨fun y hy => let ⟨k', e, j, h1, h2, h3⟩ := k.fwd y hy; ⟨k', e, j, h1, getE_snoc h2, h3⟩, fun j e hj hs => let ⟨k', h1, h2⟩ := k.bwd j e hj hs; ⟨k', getE_snoc h1, h2⟩, k.few⟩
theorem RowOk.skip {R : List Q4} {L : List (List Int)} {d : List Int} {r : Nat} {row : List Int} (k : RowOk R L d r row) (h : step R d r = none) : RowOk R L d (r + 1) row :=
  ⟨k.fwd, fun j e hj hs => by
    by_cases e2 : j = (r : Int)
    · subst e2; rw [h] at hs; cases hs
    · exact k.bwd j e (by omega) hs, by have := k.few; omega⟩
theorem RowOk.add {R : List Q4} {L : List (List Int)} {d e : List Int} {r : Nat} {row : List Int} (k : RowOk R L d r row) (h : step R d r = some e) {a : Nat} (ha : L[a]? = some e) : RowOk R L d (r + 1) (row ++ [(a : Int)]) :=
  ⟨fun x hx => by
    rcases List.mem_append.1 hx with hx | hx
    · exact k.fwd x hx
    · exact ⟨a, e, r, List.mem_singleton.1 hx, ha, h⟩, fun j e' hj hs => by
    by_cases e2 : j = (r : Int)
    · subst e2
      rw [h] at hs
      cases hs
      exact ⟨a, ha, by simp⟩
    · obtain ⟨k', h1, h2⟩ := k.bwd j e' (by omega) hs
      exact ⟨k', h1, List.mem_append_left _ h2⟩, by have := k.few; rw [List.length_append, List.length_singleton]; omega⟩
theorem RowOk.all {R : List Q4} {L : List (List Int)} {d : List Int} {row : List Int} (k : RowOk R L d R.length row) {j : Int} {e : List Int} (hs : step R d j = some e) : e ∈ L := by
  obtain ⟨k', h1, _⟩ := k.bwd j e (step_range hs).2 hs
  exact List.mem_of_getElem? h1
inductive Wy (R : List Q4) : Nat → List Int → List Int → Prop
  | refl (c) : Wy R 0 c c
  | tail {k c d e i} : Wy R k c d → step R d i = some e → Wy R (k + 1) c e
theorem Wy.rs {R : List Q4} {k : Nat} {c d : List Int} (h : Wy R k c d) : Rs R c d := by
  induction h with
  | refl => exact .refl _
  | tail _ hs ih => exact ih.tail hs
structure St (R : List Q4) (c : List Int) (L : List (List Int)) (S : List Int) (i : Nat) : Prop where
  len : S.length = L.length
  way : ∀ a d, L[a]? = some d → ∃ k : Nat, gl S a = (k : Int) ∧ Wy R k c d
  start_ : gl S 0 = 0
  le : ∀ a, a < S.length → gl S a ≤ (a : Int)
  mono : ∀ a b, a ≤ b → b < S.length → gl S a ≤ gl S b
  near : ∀ a b, i ≤ a → a < S.length → b < S.length → gl S b ≤ gl S a + 1
  clo : ∀ a d, a < i → L[a]? = some d → ∀ k e, step R d k = some e → ∃ b, L[b]? = some e ∧ gl S b ≤ gl S a + 1
theorem St.start {R : List Q4} {c : List Int} : St R c [c] [0] 0 := by
  refine ⟨rfl, fun a d h => ?_, rfl, fun a ha => (by simp at ha; subst ha; exact Int.le_refl _), fun a b hab hb => ?_, fun a b _ ha hb => ?_, fun a d h => absurd h (Nat.not_lt_zero _)⟩
  · have : a = 0 := by have := (List.getElem?_eq_some_iff.1 h).1; simp at this; exact this
    subst this
    cases h
    exact ⟨0, rfl, .refl _⟩
  · simp at hb; subst hb; have : a = 0 := by omega
    subst this; exact Int.le_refl _
  · simp at ha hb; subst ha; subst hb; show gl [0] 0 ≤ gl [0] 0 + 1; omega
theorem gl_old {l : List Int} {x : Int} {j : Nat} (h : j < l.length) : gl (l ++ [x]) j = gl l j := by
  unfold gl
  rw [List.getD_eq_getElem?_getD, List.getD_eq_getElem?_getD, List.getElem?_append_left h]
theorem gl_last {l : List Int} {x : Int} : gl (l ++ [x]) l.length = x := by
  unfold gl
  rw [List.getD_eq_getElem?_getD, List.getElem?_append_right (Nat.le_refl _)]
  simp
theorem St.add {R : List Q4} {c : List Int} {L : List (List Int)} {S : List Int} {i : Nat} (s : St R c L S i) (hi : i < L.length) {d e : List Int} {k : Int} (hd : L[i]? = some d) (hs : step R d k = some e) : St R c (L ++ [e]) (S ++ [gl S i + 1]) i := by
  have hl := s.len
  have old : ∀ a, a < S.length → gl (S ++ [gl S i + 1]) a = gl S a := fun a ha => gl_old ha
  have new : gl (S ++ [gl S i + 1]) S.length = gl S i + 1 := gl_last
  refine ⟨by rw [List.length_append, List.length_append, hl]; rfl, fun a x hx => ?_, by rw [old 0 (by omega)]; exact s.start_, fun a ha => ?_, fun a b hab hb => ?_, fun a b ha1 ha hb => ?_, fun a x ha hx k' y hy => ?_⟩
  · by_cases ha : a < L.length
    · rw [List.getElem?_append_left ha] at hx
      rw [old a (by omega)]
      exact s.way a x hx
    · have h1 := (List.getElem?_eq_some_iff.1 hx).1
      rw [List.length_append, List.length_singleton] at h1
      have : a = S.length := by omega
      subst this
      rw [List.getElem?_append_right (by omega), hl] at hx
      simp at hx
      subst hx
      rw [new]
      obtain ⟨k0, e0, w0⟩ := s.way i d hd
      exact ⟨k0 + 1, by rw [e0]; rfl, w0.tail hs⟩
  · rw [List.length_append, List.length_singleton] at ha
    by_cases ha2 : a < S.length
    · rw [old a ha2]; exact s.le a ha2
    · have : a = S.length := by omega
      subst this
      rw [new]
      have := s.le i (by omega)
      omega
  · rw [List.length_append, List.length_singleton] at hb
    by_cases hb2 : b < S.length
    · rw [old a (by omega), old b hb2]; exact s.mono a b hab hb2
    · have : b = S.length := by omega
      subst this
      rw [new]
      by_cases ha2 : a < S.length
      · rw [old a ha2]; exact s.near i a (Nat.le_refl _) (by omega) ha2
      · have : a = S.length := by omega
        subst this
        rw [new]; exact Int.le_refl _
  · rw [List.length_append, List.length_singleton] at ha hb
    have hA : gl S i ≤ gl (S ++ [gl S i + 1]) a := by
      by_cases ha2 : a < S.length
      · rw [old a ha2]; exact s.mono i a ha1 ha2
      · have : a = S.length := by omega
        subst this
        rw [new]; omega
    have hB : gl (S ++ [gl S i + 1]) b ≤ gl S i + 1 := by
      by_cases hb2 : b < S.length
      · rw [old b hb2]; exact s.near i b (Nat.le_refl _) (by omega) hb2
      · have : b = S.length := by omega
        subst this
        rw [new]; exact Int.le_refl _
    omega
  · rw [List.getElem?_append_left (by omega)] at hx
    obtain ⟨b, h1, h2⟩ := s.clo a x ha hx k' y hy
    have hb := (List.getElem?_eq_some_iff.1 h1).1
    exact ⟨b, getE_snoc h1, by rw [old b (by omega), old a (by omega)]; exact h2⟩
theorem St.turn {R : List Q4} {c : List Int} {L : List (List Int)} {S : List Int} {i : Nat} (s : St R c L S i) (hi : i < L.length) {d : List Int} (hd : L[i]? = some d) {row : List Int} (h : RowOk R L d R.length row) : St R c L S (i + 1) :=
  ⟨s.len, s.way, s.start_, s.le, s.mono, fun a b ha => s.near a b (by omega), fun a x ha hx k e hs => by
    by_cases e2 : a = i
    · subst e2
      rw [hd] at hx
      cases hx
      obtain ⟨b, h1, _⟩ := h.bwd k e (step_range hs).2 hs
      have hb := (List.getElem?_eq_some_iff.1 h1).1
      exact ⟨b, h1, s.near a b (Nat.le_refl _) (by have := s.len; omega) (by have := s.len; omega)⟩
    · exact s.clo a x (by omega) hx k e hs⟩
theorem St.least {R : List Q4} {c : List Int} {L : List (List Int)} {S : List Int} (s : St R c L S L.length) (hf : L[0]? = some c) {k : Nat} {d : List Int} (w : Wy R k c d) : ∃ b, L[b]? = some d ∧ gl S b ≤ k := by
  induction w with
  | refl => exact ⟨0, hf, by rw [s.start_]; exact Int.le_refl _⟩
  | @tail k c d e i hw hs ih =>
    obtain ⟨a, h1, h2⟩ := ih s hf
    obtain ⟨b, h3, h4⟩ := s.clo a d (List.getElem?_eq_some_iff.1 h1).1 h1 i e hs
    exact ⟨b, h3, by omega⟩
structure Nx (R : List Q4) (L : List (List Int)) (N : List (List Int)) : Prop where
  row : ∀ (a : Nat) (d row : List Int), L[a]? = some d → N[a]? = some row → RowOk R L d R.length row
theorem Nx.ext {R : List Q4} {L N : List (List Int)} (k : Nx R L N) (hN : N.length ≤ L.length) (x : List Int) : Nx R (L ++ [x]) N :=
  ⟨fun a d row hd hr => by
    have := (List.getElem?_eq_some_iff.1 hr).1
    rw [List.getElem?_append_left (by omega)] at hd
    exact (k.row a d row hd hr).ext x⟩
theorem Nx.add {R : List Q4} {L N : List (List Int)} (k : Nx R L N) {d row : List Int} (hd : L[N.length]? = some d) (h : RowOk R L d R.length row) : Nx R L (N ++ [row]) :=
  ⟨fun a d' row' hd' hr => by
    by_cases e : a < N.length
    · rw [List.getElem?_append_left e] at hr
      exact k.row a d' row' hd' hr
    · have h1 := (List.getElem?_eq_some_iff.1 hr).1
      rw [List.length_append, List.length_singleton] at h1
      have : a = N.length := by omega
      subst this
      rw [List.getElem?_append_right (Nat.le_refl _)] at hr
      simp at hr
      subst hr
      rw [hd] at hd'
      cases hd'
      exact h⟩
end Go.Proofs.Ytpiplaicnbapbaa
