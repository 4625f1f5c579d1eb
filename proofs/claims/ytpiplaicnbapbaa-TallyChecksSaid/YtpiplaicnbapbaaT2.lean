/- Contracts of the functions that T27 comes to. -/
import Derived.Test.YtpiplaicnbapbaaT1
set_option maxRecDepth 100000
set_option maxHeartbeats 1000000
set_option linter.unusedVariables false
set_option linter.unusedSectionVars false
set_option linter.unusedSimpArgs false
namespace Go.Proofs.Ytpiplaicnbapbaa
open Go.Rx Go.RowKit
/-- A list tells of from 1 to 9, in so many numbers. -/
def Cnt (l : List Int) (m : Int) : Prop := (l.length : Int) = m ∧ (∀ x ∈ l, 0 ≤ x ∧ x ≤ 9) ∧ 1 ≤ l.sum ∧ l.sum ≤ 9
def outF : Value := .func (.func 99) ⟨[]⟩ ⟨[]⟩
theorem bo_yes {p : Prop} (h : p) : BoolOf true p := ⟨fun _ => h, fun _ => rfl⟩
theorem bo_no {p : Prop} (h : ¬ p) : BoolOf false p := ⟨fun e => (by cases e), fun hp => absurd hp h⟩
theorem bo_congr {b : Bool} {p q : Prop} (h : BoolOf b p) (e : p ↔ q) : BoolOf b q := Iff.trans h e
theorem bo_same {a b : Bool} {p : Prop} (h : BoolOf a p) (k : BoolOf b p) : a = b := by
  have e := h.trans k.symm
  cases a <;> cases b <;> simp_all
attribute [local irreducible] E idxN cellAt cellsAt storeAt callable helems hmoved lookIn findKey keyOk hentries Hp.at Hp.set Hp.lay arBits hupdated setAt CallP YieldP BoolOf IsWrap Rnd LoopP AppP CutP Int.tmod Int.tdiv Int.fdiv
section
variable [Unknowns]
theorem out_spec (n : Int) (h : Hp) : CallP E 99 [int n] h (fun r h' => (∃ b, r = .bool b ∧ BoolOf b (¬ (0 ≤ n ∧ n ≤ 9))) ∧ h' = h) := by
  refine enter99 (by simp) ?_
  ((conv => whnf); repeat (refine SeqP.go ?_; conv => whnf))
  refine cmpB (fun hb => ?_) (fun hb => ?_)
  · ((conv => whnf); repeat (refine SeqP.go ?_; conv => whnf))
    exact ⟨⟨true, rfl, bo_yes (by omega)⟩, rfl⟩
  ((conv => whnf); repeat (refine SeqP.go ?_; conv => whnf))
  refine cmpB (fun hb2 => ?_) (fun hb2 => ?_)
  · ((conv => whnf); repeat (refine SeqP.go ?_; conv => whnf))
    exact ⟨⟨true, rfl, bo_yes (by omega)⟩, rfl⟩
  · ((conv => whnf); repeat (refine SeqP.go ?_; conv => whnf))
    exact ⟨⟨false, rfl, bo_no (by omega)⟩, rfl⟩
theorem index_spec (v : Value) (l : List Int) (h : Hp) (hv : Ints h v l) (hl : l.length ≤ 1000000) : CallP E 112 [v, outF] h (fun r h' => (∃ k, r = int k ∧ (0 ≤ k ↔ ¬ ∀ x ∈ l, 0 ≤ x ∧ x ≤ 9)) ∧ h' = h) := by
  obtain ⟨a, cap, rfl, hc⟩ := id hv
  refine enter112 (by simp) ?_
  ((conv => whnf); repeat (refine SeqP.go ?_; conv => whnf))
  refine loop_inv (α := Nat) (fun k => [(8, int k), (7, int l.length), (6, .slice a l.length cap), (0, .slice a l.length cap), (1, outF)]) (fun _ => h) (fun k => k ≤ l.length ∧ ∀ x ∈ l.take k, 0 ≤ x ∧ x ≤ 9) (fun k => l.length - k) 0 ⟨by omega, by simp⟩ ⟨rfl, rfl, rfl, rfl, rfl, trivial⟩ (Hp.Le.refl _) ?_
  rintro k φ ⟨hk, hall⟩
  ((conv => whnf); repeat (refine SeqP.go ?_; conv => whnf))
  refine cmpB (fun hb => ?_) (fun hb => ?_)
  rotate_left
  · have : k = l.length := by omega
    subst this
    rw [List.take_length] at hall
    ((conv => whnf); repeat (refine SeqP.go ?_; conv => whnf))
    exact ⟨⟨-1, rfl, ⟨fun h => by omega, fun h => absurd hall h⟩⟩, rfl⟩
  have hk' : k < l.length := by omega
  obtain ⟨r, o, sp, rfl, hsp, hcell⟩ := hc k hk'
  ((conv => whnf); repeat (refine SeqP.go ?_; conv => whnf))
  refine ⟨hsp, ⟨by omega, by omega⟩, ?_⟩
  ((conv => whnf); repeat (refine SeqP.go ?_; conv => whnf))
  refine ⟨_, hcell, ?_⟩
  ((conv => whnf); repeat (refine SeqP.go ?_; conv => whnf))
  refine ⟨can99, ?_⟩
  refine CallP.mono (out_spec l[k] h) ?_
  rintro r2 h2 ⟨⟨b, rfl, hb2⟩, rfl⟩
  cases b with
  | true =>
    ((conv => whnf); repeat (refine SeqP.go ?_; conv => whnf))
    exact ⟨⟨k, rfl, ⟨fun _ hh => hb2.t (hh _ (List.getElem_mem hk')), fun _ => by omega⟩⟩, rfl⟩
  | false =>
    ((conv => whnf); repeat (refine SeqP.go ?_; conv => whnf))
    refine ⟨_, wid (by omega), ?_⟩
    ((conv => whnf); repeat (refine SeqP.go ?_; conv => whnf))
    refine Rnd.mk (k + 1) ⟨by omega, fun x hx => ?_⟩ (by omega) ⟨rfl, rfl, rfl, rfl, rfl, trivial⟩ (Hp.Le.refl _) rfl
    rw [List.take_succ_eq_append_getElem hk'] at hx
    rcases List.mem_append.1 hx with h1 | h1
    · exact hall x h1
    · rw [List.mem_singleton.1 h1]
      have := hb2.f
      omega
theorem isCount_spec (v : Value) (l : List Int) (m : Int) (h : Hp) (hv : Ints h v l) (hl : l.length ≤ 1000000) : CallP E 70 [v, int m] h (fun r h' => (∃ b, r = .bool b ∧ BoolOf b (Cnt l m)) ∧ h' = h) := by
  obtain ⟨a, cap, rfl, hc⟩ := id hv
  refine enter70 (by simp) ?_
  ((conv => whnf); repeat (refine SeqP.go ?_; conv => whnf))
  refine cmpB (fun hb => ?_) (fun hb => ?_)
  · ((conv => whnf); repeat (refine SeqP.go ?_; conv => whnf))
    exact ⟨⟨false, rfl, bo_no fun hn => hb hn.1⟩, rfl⟩
  have cf : CallP E 100 [.slice a l.length cap, outF] h (fun r h' => (∃ b, r = .bool b ∧ BoolOf b (¬ ∀ x ∈ l, 0 ≤ x ∧ x ≤ 9)) ∧ h' = h) := by
    refine enter100 (by simp) ?_
    ((conv => whnf); repeat (refine SeqP.go ?_; conv => whnf))
    refine CallP.mono (index_spec _ l h hv hl) ?_
    rintro r h2 ⟨⟨k, rfl, hk⟩, rfl⟩
    ((conv => whnf); repeat (refine SeqP.go ?_; conv => whnf))
    refine cmpB (fun hb2 => ?_) (fun hb2 => ?_)
    · ((conv => whnf); repeat (refine SeqP.go ?_; conv => whnf))
      exact ⟨⟨true, rfl, bo_yes (hk.1 hb2)⟩, rfl⟩
    · ((conv => whnf); repeat (refine SeqP.go ?_; conv => whnf))
      exact ⟨⟨false, rfl, bo_no fun hn => hb2 (hk.2 hn)⟩, rfl⟩
  ((conv => whnf); repeat (refine SeqP.go ?_; conv => whnf))
  refine CallP.mono cf ?_
  rintro r h2 ⟨⟨b, rfl, hb2⟩, rfl⟩
  cases b with
  | true =>
    ((conv => whnf); repeat (refine SeqP.go ?_; conv => whnf))
    exact ⟨⟨false, rfl, bo_no fun hn => hb2.t hn.2.1⟩, rfl⟩
  | false =>
    have hin : ∀ x ∈ l, 0 ≤ x ∧ x ≤ 9 := Classical.byContradiction fun hn => hb2.f hn
    have hsb := sum_bd l fun x hx => by have := hin x hx; omega
    ((conv => whnf); repeat (refine SeqP.go ?_; conv => whnf))
    refine CallP.mono (sum_spec _ l h2 hv hl fun x hx => by have := hin x hx; omega) ?_
    rintro r h3 ⟨rfl, rfl⟩
    ((conv => whnf); repeat (refine SeqP.go ?_; conv => whnf))
    refine cmpB (fun hb3 => ?_) (fun hb3 => ?_)
    rotate_left
    · ((conv => whnf); repeat (refine SeqP.go ?_; conv => whnf))
      exact ⟨⟨false, rfl, bo_no fun hn => by have := hn.2.2; omega⟩, rfl⟩
    ((conv => whnf); repeat (refine SeqP.go ?_; conv => whnf))
    refine cmpB (fun hb4 => ?_) (fun hb4 => ?_)
    · ((conv => whnf); repeat (refine SeqP.go ?_; conv => whnf))
      exact ⟨⟨true, rfl, bo_yes ⟨by omega, hin, by omega, by omega⟩⟩, rfl⟩
    · ((conv => whnf); repeat (refine SeqP.go ?_; conv => whnf))
      exact ⟨⟨false, rfl, bo_no fun hn => by have := hn.2.2; omega⟩, rfl⟩
theorem refsum_spec (v : Value) (l : List Int) (h : Hp) (hv : Ints h v l) (hl : l.length ≤ 1000000) (hin : ∀ x ∈ l, 0 ≤ x ∧ x ≤ 1000000) : CallP E 59 [v] h (fun r h' => r = int l.sum ∧ h' = h) := by
  obtain ⟨a, cap, rfl, hc⟩ := id hv
  refine enter59 (by simp) ?_
  ((conv => whnf); repeat (refine SeqP.go ?_; conv => whnf))
  refine loop_inv (α := Nat) (fun k => [(4, int k), (3, int (l.take k).sum), (0, .slice a l.length cap)]) (fun _ => h) (fun k => k ≤ l.length) (fun k => l.length - k) 0 (by omega) ⟨rfl, rfl, rfl, trivial⟩ (Hp.Le.refl _) ?_
  intro k φ hk
  ((conv => whnf); repeat (refine SeqP.go ?_; conv => whnf))
  refine cmpB (fun hb => ?_) (fun hb => ?_)
  · have hk' : k < l.length := by omega
    obtain ⟨r, o, sp, rfl, hsp, hcell⟩ := hc k hk'
    have b1 := sum_bd (l.take k) (fun x hx => hin x (List.mem_of_mem_take hx))
    have b2 := hin l[k] (List.getElem_mem hk')
    have e1 : (l.take (k + 1)).sum = (l.take k).sum + l[k] := by
      rw [List.take_succ_eq_append_getElem hk', List.sum_append]; simp
    have e2 : (l.take k).length = k := by rw [List.length_take]; omega
    ((conv => whnf); repeat (refine SeqP.go ?_; conv => whnf))
    refine ⟨hsp, ⟨by omega, by omega⟩, ?_⟩
    ((conv => whnf); repeat (refine SeqP.go ?_; conv => whnf))
    refine ⟨_, hcell, ?_⟩
    ((conv => whnf); repeat (refine SeqP.go ?_; conv => whnf))
    refine ⟨(l.take (k + 1)).sum, wie e1.symm (by rw [e1]; rw [e2] at b1; omega), ?_⟩
    ((conv => whnf); repeat (refine SeqP.go ?_; conv => whnf))
    refine ⟨_, wid (by omega), ?_⟩
    ((conv => whnf); repeat (refine SeqP.go ?_; conv => whnf))
    exact Rnd.mk (k + 1) (by omega) (by omega) ⟨rfl, rfl, rfl, trivial⟩ (Hp.Le.refl _) rfl
  · have : k = l.length := by omega
    subst this
    ((conv => whnf); repeat (refine SeqP.go ?_; conv => whnf))
    refine ⟨?_, rfl⟩
    show int (l.take l.length).sum = _
    rw [List.take_length]
theorem crowded_spec (v : Value) (l : List Int) (m : Int) (h : Hp) (hv : Ints h v l) (hl : l.length ≤ 1000000) : CallP E 26 [v, int m] h (fun r h' => (∃ b, r = .bool b ∧ BoolOf b (Cnt l m)) ∧ h' = h) := by
  obtain ⟨a, cap, rfl, hc⟩ := id hv
  refine enter26 (by simp) ?_
  ((conv => whnf); repeat (refine SeqP.go ?_; conv => whnf))
  refine loop_inv (α := Nat) (fun k => [(5, int k), (0, .slice a l.length cap), (1, int m)]) (fun _ => h) (fun k => k ≤ l.length ∧ ∀ x ∈ l.take k, 0 ≤ x ∧ x ≤ 9) (fun k => l.length - k) 0 ⟨by omega, by simp⟩ ⟨rfl, rfl, rfl, trivial⟩ (Hp.Le.refl _) ?_
  rintro k φ ⟨hk, hall⟩
  ((conv => whnf); repeat (refine SeqP.go ?_; conv => whnf))
  refine cmpB (fun hb => ?_) (fun hb => ?_)
  rotate_left
  · have : k = l.length := by omega
    subst this
    rw [List.take_length] at hall
    have hall6 : ∀ x ∈ l, 0 ≤ x ∧ x ≤ 1000000 := fun x hx => by have := hall x hx; omega
    have hsb := sum_bd l hall6
    ((conv => whnf); repeat (refine SeqP.go ?_; conv => whnf))
    refine cmpB (fun hb1 => ?_) (fun hb1 => ?_)
    rotate_left
    · ((conv => whnf); repeat (refine SeqP.go ?_; conv => whnf))
      exact ⟨⟨false, rfl, bo_no fun hn => hb1 hn.1⟩, rfl⟩
    ((conv => whnf); repeat (refine SeqP.go ?_; conv => whnf))
    refine CallP.mono (refsum_spec _ l h hv hl hall6) ?_
    rintro r h2 ⟨rfl, rfl⟩
    ((conv => whnf); repeat (refine SeqP.go ?_; conv => whnf))
    refine cmpB (fun hb2 => ?_) (fun hb2 => ?_)
    rotate_left
    · ((conv => whnf); repeat (refine SeqP.go ?_; conv => whnf))
      exact ⟨⟨false, rfl, bo_no fun hn => by have := hn.2.2; omega⟩, rfl⟩
    ((conv => whnf); repeat (refine SeqP.go ?_; conv => whnf))
    refine CallP.mono (refsum_spec _ l h2 hv hl hall6) ?_
    rintro r h3 ⟨rfl, rfl⟩
    ((conv => whnf); repeat (refine SeqP.go ?_; conv => whnf))
    refine cmpB (fun hb4 => ?_) (fun hb4 => ?_)
    · ((conv => whnf); repeat (refine SeqP.go ?_; conv => whnf))
      exact ⟨⟨true, rfl, bo_yes ⟨hb1, hall, by omega, by omega⟩⟩, rfl⟩
    · ((conv => whnf); repeat (refine SeqP.go ?_; conv => whnf))
      exact ⟨⟨false, rfl, bo_no fun hn => by have := hn.2.2; omega⟩, rfl⟩
  have hk' : k < l.length := by omega
  obtain ⟨r, o, sp, rfl, hsp, hcell⟩ := hc k hk'
  have no : ¬ (0 ≤ l[k] ∧ l[k] ≤ 9) → ¬ Cnt l m := fun h1 h2 => h1 (h2.2.1 _ (List.getElem_mem hk'))
  ((conv => whnf); repeat (refine SeqP.go ?_; conv => whnf))
  refine ⟨hsp, ⟨by omega, by omega⟩, ?_⟩
  ((conv => whnf); repeat (refine SeqP.go ?_; conv => whnf))
  refine ⟨_, hcell, ?_⟩
  ((conv => whnf); repeat (refine SeqP.go ?_; conv => whnf))
  refine cmpB (fun hb1 => ?_) (fun hb1 => ?_)
  · ((conv => whnf); repeat (refine SeqP.go ?_; conv => whnf))
    exact ⟨⟨false, rfl, bo_no (no (by omega))⟩, rfl⟩
  ((conv => whnf); repeat (refine SeqP.go ?_; conv => whnf))
  refine ⟨hsp, ⟨by omega, by omega⟩, ?_⟩
  ((conv => whnf); repeat (refine SeqP.go ?_; conv => whnf))
  refine ⟨_, hcell, ?_⟩
  ((conv => whnf); repeat (refine SeqP.go ?_; conv => whnf))
  refine cmpB (fun hb2 => ?_) (fun hb2 => ?_)
  · ((conv => whnf); repeat (refine SeqP.go ?_; conv => whnf))
    exact ⟨⟨false, rfl, bo_no (no (by omega))⟩, rfl⟩
  ((conv => whnf); repeat (refine SeqP.go ?_; conv => whnf))
  refine ⟨_, wid (by omega), ?_⟩
  ((conv => whnf); repeat (refine SeqP.go ?_; conv => whnf))
  refine Rnd.mk (k + 1) ⟨by omega, fun x hx => ?_⟩ (by omega) ⟨rfl, rfl, rfl, trivial⟩ (Hp.Le.refl _) rfl
  rw [List.take_succ_eq_append_getElem hk'] at hx
  rcases List.mem_append.1 hx with h1 | h1
  · exact hall x h1
  · rw [List.mem_singleton.1 h1]; omega
end
end Go.Proofs.Ytpiplaicnbapbaa
