/- Contracts of the functions that SKnuthM comes to. -/
import Derived.Test.YticmdpcahpimhaaCodeSKnuthM
import Derived.Test.YticmdpcahpimhaaWx12
set_option maxRecDepth 100000
set_option maxHeartbeats 1000000
set_option linter.unusedVariables false
set_option linter.unusedSectionVars false
set_option linter.unusedSimpArgs false
namespace Go.Proofs.Yticmdpcahpimhaa
open Go.Rx Go.RowKit
attribute [local irreducible] E idxN cellAt cellsAt storeAt callable helems hmoved lookIn findKey keyOk hentries Hp.at Hp.set Hp.lay arBits hupdated setAt CallP YieldP BoolOf IsWrap Rnd LoopP AppP CutP Int.tmod Int.tdiv Int.fdiv
/-- A list is a plan for the pieces from a to b. -/
inductive Pl : Nat → Nat → List Int → Prop
  | nil (a : Nat) : Pl a a []
  | node {a b g : Nat} {q1 q2 : List Int} (h1 : a ≤ g) (h2 : g < b) (l : Pl a g q1) (r : Pl (g + 1) b q2) : Pl a b ([(g : Int)] ++ q1 ++ q2)
theorem Pl.le {a b : Nat} {q : List Int} (h : Pl a b q) : a ≤ b := by
  induction h with
  | nil => omega
  | node _ _ _ _ h1 h2 => omega
theorem Pl.length {a b : Nat} {q : List Int} (h : Pl a b q) : q.length = b - a := by
  induction h with
  | nil => simp
  | node h1 h2 l r i1 i2 => simp [i1, i2]; omega
section
variable [Unknowns]
attribute [local irreducible] SeqP
theorem plan_spec (v : Value) (l : List Int) (hl : l.length < 9223372036854775808) : ∀ (n a b : Nat), b - a ≤ n → a ≤ b → b ≤ 12 → ∀ h, Ints h v l → CallP E 33 [v, int a, int b] h (fun r h' => ∃ q, Built h h' 3 r q ∧ Pl a b q ∧ Grows h h') := by
  intro n
  induction n with
  | zero =>
    intro a b hn hab hb h hv
    have : a = b := by omega
    subst this
    refine enter33 (by simp) ?_
    conv => whnf
    repeat (refine SeqP.go ?_; conv => whnf)
    refine cmpT (by omega) ?_
    conv => whnf
    repeat (refine SeqP.go ?_; conv => whnf)
    exact ⟨[], .inl ⟨rfl, rfl⟩, .nil _, .refl _⟩
  | succ n ih =>
    intro a b hn hab hb h hv
    by_cases hlt : a = b
    · subst hlt
      refine enter33 (by simp) ?_
      conv => whnf
      repeat (refine SeqP.go ?_; conv => whnf)
      refine cmpT (by omega) ?_
      conv => whnf
      repeat (refine SeqP.go ?_; conv => whnf)
      exact ⟨[], .inl ⟨rfl, rfl⟩, .nil _, .refl _⟩
    have tail : ∀ (g : Nat), a ≤ g → g < b → ∀ φ : Rx.Frame, CallP E 33 [v, int a, int g] (h.lay (.row 3 true [int g])) (fun r h' => ∃ q, Built (h.lay (.row 3 true [int g])) h' 3 r q ∧ Pl a g q ∧ Grows (h.lay (.row 3 true [int g])) h') := fun g h1 h2 φ => ih a g (by omega) h1 (by omega) _ (hv.ext (Grows.lay _ _))
    obtain ⟨av, cap, rfl, hc⟩ := id hv
    refine enter33 (by simp) ?_
    conv => whnf
    repeat (refine SeqP.go ?_; conv => whnf)
    refine cmpF (by omega) ?_
    conv => whnf
    refine SeqP.go ?_
    conv => whnf
    refine SeqP.cut (α := Nat) (fun g => [(0, .slice av l.length cap), (1, int a), (2, int b), (7, int g)]) (fun g h' => a ≤ g ∧ g < b ∧ h' = h) ?_ ?_
    · conv => whnf
      repeat (refine SeqP.go ?_; conv => whnf)
      refine cmpB (fun hb0 => ?_) (fun hb0 => ?_)
      rotate_left
      · conv => whnf
        exact ⟨a, ⟨rfl, rfl, rfl, rfl, trivial⟩, ⟨by omega, by omega, rfl⟩, rfl⟩
      conv => whnf
      refine ⟨((a + b : Nat) : Int), wie (by omega) (by omega), ?_⟩
      conv => whnf
      refine ⟨by omega, ?_⟩
      have b1 := tmod_bd (show (0 : Int) ≤ ((a + b : Nat) : Int) by omega) hb0
      obtain ⟨k, hk⟩ : ∃ k : Nat, ((a + b : Nat) : Int).tmod l.length = k := ⟨(((a + b : Nat) : Int).tmod l.length).toNat, by omega⟩
      have hkl : k < l.length := by omega
      obtain ⟨r, o, sp, rfl, hsp, hcell⟩ := hc k hkl
      conv => whnf
      refine ⟨hsp, ⟨by omega, by omega⟩, ?_⟩
      have hk2 : (((a + b : Nat) : Int).tmod l.length).toNat = k := by omega
      conv => whnf
      refine ⟨int l[k], ?_, ?_⟩
      · show cellAt h r (offAt o (((a + b : Nat) : Int).tmod l.length).toNat 1) = _
        rw [hk2, show offAt o k 1 = k + o by rw [offAt_eq]; omega]
        exact hcell
      conv => whnf
      obtain ⟨u, u0, u1, hu⟩ := u64_of l[k]
      refine ⟨u, hu, ?_⟩
      conv => whnf
      refine ⟨((b - a : Nat) : Int), wie (by omega) (by omega), ?_⟩
      conv => whnf
      refine ⟨((b - a : Nat) : Int), ?_, ?_⟩
      · have := u64_id (n := ((b - a : Nat) : Int)) (by omega)
        exact this
      conv => whnf
      refine ⟨by omega, ?_⟩
      have b2 := tmod_bd u0 (show (0 : Int) < ((b - a : Nat) : Int) by omega)
      obtain ⟨d, hd⟩ : ∃ d : Nat, u.tmod ((b - a : Nat) : Int) = d := ⟨(u.tmod ((b - a : Nat) : Int)).toNat, by omega⟩
      conv => whnf
      refine ⟨(d : Int), wie (by omega) (by omega), ?_⟩
      conv => whnf
      refine ⟨((a + d : Nat) : Int), wie (by omega) (by omega), ?_⟩
      conv => whnf
      exact ⟨a + d, ⟨rfl, rfl, rfl, rfl, trivial⟩, ⟨by omega, by omega, rfl⟩, rfl⟩
    · intro g φ h' hh
      obtain ⟨h1, h2, rfl⟩ := hh
      conv => whnf
      repeat (refine SeqP.go ?_; conv => whnf)
      refine CallP.mono (tail g h1 h2 φ) ?_
      rintro v h3 ⟨q1, hq1, hp1, hg1⟩
      conv => whnf
      refine AppP.ints ((Built.lay1 (h0 := h') (Nat.le_refl _)).ext hg1) ((Grows.lay _ _).trans hg1) hq1.elems (by have := hp1.length; simp; omega) ?_
      intro v4 h4 hb4 hg4 _
      conv => whnf
      repeat (refine SeqP.go ?_; conv => whnf)
      refine ⟨((g + 1 : Nat) : Int), wie (by omega) (by omega), ?_⟩
      conv => whnf
      refine CallP.mono (ih (g + 1) b (by omega) (by omega) hb h4 (hv.ext hg4)) ?_
      rintro v5 h5 ⟨q2, hq2, hp2, hg5⟩
      conv => whnf
      refine AppP.ints (hb4.ext hg5) (hg4.trans hg5) hq2.elems (by have := hp1.length; have := hp2.length; simp; omega) ?_
      intro v6 h6 hb6 hg6 _
      have hb6' := hb6
      rcases hb6' with ⟨rfl, e⟩ | ⟨r, rfl, _, _⟩
      · simp at e
      conv => whnf
      exact ⟨_, hb6, .node h1 h2 hp1 hp2, hg6⟩
end
end Go.Proofs.Yticmdpcahpimhaa
