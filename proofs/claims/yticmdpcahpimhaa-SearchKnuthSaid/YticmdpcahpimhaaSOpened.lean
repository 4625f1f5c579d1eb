/- Contracts of the functions that SKnuthM comes to. -/
import Derived.Test.YticmdpcahpimhaaSOpen
set_option maxRecDepth 100000
set_option maxHeartbeats 1000000
set_option linter.unusedVariables false
set_option linter.unusedSectionVars false
set_option linter.unusedSimpArgs false
namespace Go.Proofs.Yticmdpcahpimhaa
open Go.Rx Go.RowKit
attribute [local irreducible] E idxN cellAt cellsAt storeAt callable helems hmoved lookIn findKey keyOk hentries Hp.at Hp.set Hp.lay arBits hupdated setAt CallP YieldP BoolOf IsWrap Rnd LoopP AppP CutP Int.tmod Int.tdiv Int.fdiv
section
variable [Unknowns]
theorem Opened_of (n : Nat) (hn : n ≤ 13) (q : List Int) (v : Value) (hq : q.length < 1000000) (h : Hp) (hv : Ints h v q) : CallP E 21 [int n, v] h (fun r h' => (∃ x ok, r = .tuple ⟨[x, .bool ok]⟩ ∧ BoolOf ok (Pl 0 n q) ∧ (Pl 0 n q → ∃ vs, BuiltC h h' 22 1 x (n + 1) vs ∧ RowsB h h' vs (ansAll 0 n q))) ∧ Grows h h') := by
  obtain ⟨a, cap, rfl, hc⟩ := id hv
  refine enter21 (by simp) ?_
  conv => whnf
  refine CallP.mono (opened_any q _ hq n 0 0 n (by omega) (by omega) hn (by omega) h hv) ?_
  rintro v1 h1 ⟨hres, hg⟩
  rcases hres with ⟨q1, q2, x, vs, e, p, rfl, hb, hr⟩ | ⟨hno, rfl⟩
  · have hbk := hb.known
    obtain ⟨ax, rfl, -⟩ := hbk
    rw [List.drop_zero] at e
    have hlen : q.length = q1.length + q2.length := by rw [e]; simp
    have hp1 := p.length
    conv => whnf
    by_cases hz : q2 = []
    · have e1 : q = q1 := by rw [e, hz]; simp
      refine cmpT (by rw [hz] at hlen; simp only [List.length_nil] at hlen; omega) ?_
      conv => whnf
      exact ⟨⟨_, true, rfl, BoolOf.yes (by rw [e1]; exact p), fun _ => ⟨vs, hb, by rw [e1]; exact hr⟩⟩, hg⟩
    · have hne : q2.length ≠ 0 := fun e => hz (List.eq_nil_of_length_eq_zero e)
      have hnp : ¬ Pl 0 n q := fun hp => by have := hp.length; omega
      refine cmpF (by omega) ?_
      conv => whnf
      exact ⟨⟨_, false, rfl, BoolOf.no hnp, fun hp => absurd hp hnp⟩, hg⟩
  · have hnp : ¬ Pl 0 n q := fun hp => hno q [] (by simp) hp
    conv => whnf
    exact ⟨⟨_, false, rfl, BoolOf.no hnp, fun hp => absurd hp hnp⟩, hg⟩
end
end Go.Proofs.Yticmdpcahpimhaa
