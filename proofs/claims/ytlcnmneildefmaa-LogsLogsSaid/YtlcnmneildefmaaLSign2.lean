/- Contracts of the functions that LLogs comes to. -/
import Derived.Test.YtlcnmneildefmaaLSign
set_option maxRecDepth 100000
set_option maxHeartbeats 1000000
set_option linter.unusedVariables false
set_option linter.unusedSectionVars false
set_option linter.unusedSimpArgs false
namespace Go.Proofs.Ytlcnmneildefmaa
open Go.Rx Go.RowKit
attribute [local irreducible] E idxN cellAt cellsAt storeAt callable helems hmoved lookIn findKey keyOk hentries Hp.at Hp.set Hp.lay arBits hupdated setAt CallP YieldP BoolOf IsWrap Rnd LoopP AppP CutP Int.tmod Int.tdiv Int.fdiv
theorem at_next {h : Hp} {r r' : Nat} {o : Go.Rx.Obj} (e : r = r') (k : h.at r = some o) : h.at r' = some o := e ▸ k
/-- Memory while a sign is reckoned. -/
structure SF (h hh : Hp) (a cur : Int) : Prop where
  ha : hh.at h.next = some (.row 3 true [int a])
  ho : hh.at (h.next + 1) = some (.row 3 true [int cur])
  hd : hh.at (h.next + 3) = some .noDefers
  hg : Grows h hh
theorem SF.ext {h hh h2 : Hp} {a cur : Int} (k : SF h hh a cur) (g : Grows hh h2) : SF h h2 a cur := ⟨g.at_ _ _ k.ha, g.at_ _ _ k.ho, g.at_ _ _ k.hd, k.hg.trans g⟩
theorem SF.set {h hh : Hp} {a cur : Int} (k : SF h hh a cur) {r : Nat} (hr : h.next + 4 ≤ r) (o : Go.Rx.Obj) : SF h (hh.set r o) a cur :=
  ⟨by rw [Hp.at_set_ne _ (by omega)]; exact k.ha, by rw [Hp.at_set_ne _ (by omega)]; exact k.ho, by rw [Hp.at_set_ne _ (by omega)]; exact k.hd, k.hg.then_set _ (by omega)⟩
theorem SF.out {h hh : Hp} {a cur : Int} (k : SF h hh a cur) (new : Int) : SF h (hh.set (h.next + 1) (.row 3 true [int new])) a new :=
  ⟨by rw [Hp.at_set_ne _ (by omega)]; exact k.ha, Hp.at_set_self _ (Hp.lt_of_at k.ho), by rw [Hp.at_set_ne _ (by omega)]; exact k.hd, k.hg.then_set _ (by omega)⟩
theorem SF.keep {h hh h2 : Hp} {a cur : Int} {l : Nat} (k : SF h hh a cur) (g : Keeps l hh h2) (hl : h.next + 4 ≤ l) : SF h h2 a cur :=
  ⟨g.at_ _ _ (by omega) k.ha, g.at_ _ _ (by omega) k.ho, g.at_ _ _ (by omega) k.hd, g.grows k.hg (by omega)⟩
section
variable [Unknowns]
attribute [local irreducible] rangeQ finP bodyQ endQ
attribute [local irreducible] sameAt
theorem sign_spec (a : Int) (m : Nat) (ha : -1000000000 ≤ a ∧ a ≤ 1000000000) (hm : 1 ≤ m ∧ m ≤ 1000000) (hodd : m % 2 = 1) (h : Hp) : CallP E 73 [int a, int m] h (fun r h' => r = int (sgn a m) ∧ Grows h h') := by
  refine enter73 (by simp) ?_
  conv => whnf
  refine ⟨rfl, _, storeAt_all rfl rfl rfl, ?_⟩
  conv => whnf
  refine CallP.mono (factors_spec m _) ?_
  rintro r h' ⟨rfl, rfl⟩
  conv => whnf
  refine range_go ((FL m).map fv) (fun k hh => SF h hh a (sgnL a ((FL m).take k) 1)) (fun _ => False) can79 ?_ rfl ?_ ?_ ?_ ?_ ?_
  · intro k hk
    rw [List.getElem_map]; rfl
  · intro I S h0 hit
    refine facs_iter m hm.2 _ _ I S _ ?_ h0 hit
    exact cellAt_row (Hp.at_lay_old _ (Hp.at_lay_old _ (Hp.at_lay_self _ _))) rfl
  · exact ⟨Hp.at_lay_old _ (Hp.at_lay_old _ (Hp.at_lay_old _ (Hp.at_lay_old _ (Hp.at_lay_self _ _)))), at_next (by simp only [Hp.next_lay]) (Hp.at_lay_old _ (Hp.at_lay_old _ (Hp.at_lay_old _ (Hp.at_lay_self _ _)))), at_next (by simp only [Hp.next_lay]) (Hp.at_lay_old _ (Hp.at_lay_self _ _)), ((((Grows.lay _ _).then_lay _).then_lay _).then_lay _).then_lay _⟩
  · intro k xs hk h1 hl hI
    rw [List.getElem?_map] at hk
    have hkl : k < (FL m).length := by
      rcases Nat.lt_or_ge k (FL m).length with h1 | h1
      · exact h1
      · rw [List.getElem?_eq_none h1] at hk; cases hk
    rw [List.getElem?_eq_getElem hkl] at hk
    have hx := FL_ok hm.1 _ (List.getElem_mem hkl)
    have htk : sgnL a ((FL m).take (k + 1)) 1 = rep ((FL m)[k]).2 (leg a ((FL m)[k]).1) (sgnL a ((FL m).take k) 1) := by
      rw [List.take_succ_eq_append_getElem hkl, sgnL_snoc]
    have hacc := sgnL_bd a ((FL m).take k) 1 (by omega)
    have hexx : ∃ x, (FL m)[k] = x := ⟨_, rfl⟩
    obtain ⟨⟨p, t⟩, ex⟩ := hexx
    rw [ex] at hk hx htk
    obtain rfl : fv (p, t) = xs := by injection hk
    have hp2 := hx.1.1
    have hdv := hx.2.1
    have htm := hx.2.2.2
    dsimp only at hp2 hdv htm htk
    have hpm : p ≤ m := Nat.le_of_dvd (by omega) hdv
    have hp3 : 3 ≤ p := by
      rcases Nat.lt_or_ge p 3 with h3 | h3
      · exfalso
        obtain rfl : p = 2 := by omega
        have := Nat.mod_eq_zero_of_dvd hdv
        omega
      · exact h3
    have hexa : ∃ acc, sgnL a ((FL m).take k) 1 = acc := ⟨_, rfl⟩
    obtain ⟨acc, hacc'⟩ := hexa
    rw [hacc'] at hI hacc htk
    have htk' := htk
    have hlt := Hp.lt_of_at hl
    have hr6 : h.next + 4 < h1.next := by simp only [Hp.next_lay] at hlt; omega
    have hl4 := at_next (r' := h.next + 4) (by simp only [Hp.next_lay]) hl
    conv => whnf
    refine ⟨rfl, _, storeAt_all rfl rfl rfl, ?_⟩
    conv => whnf
    refine bodyQ_go (Hp.at_lay_old _ hl) ?_
    intro BO hb eBO hbl hbk
    have hSF := (hI.ext (Grows.lay h1 (.row 63 true [int p, int t]))).keep hbk (by simp only [Hp.next_lay]; omega)
    have hR6 := hbk.at_ _ _ (by simp only [Hp.next_lay]; omega) (Hp.at_lay_self h1 (.row 63 true [int p, int t]))
    conv => whnf
    refine ⟨int t, cellAt_row hR6 rfl, ?_⟩
    conv => whnf
    refine loop_inv (α := Nat × Int × Hp) (fun s => [(12, int s.1), (11, int t), (6, ptr0 h1.next), (5, ptr0 (h.next + 1)), (2, ptr0 h.next)]) (fun s => s.2.2) (fun s => s.1 ≤ t ∧ rep (t - s.1) (leg a p) s.2.1 = rep t (leg a p) acc ∧ (-1 ≤ s.2.1 ∧ s.2.1 ≤ 1) ∧ SF h s.2.2 a s.2.1 ∧ s.2.2.at h1.next = some (.row 63 true [int p, int t]) ∧ ∀ r o, r ≠ h.next + 1 → hb.at r = some o → s.2.2.at r = some o) (fun s => t - s.1) (0, acc, hb) ⟨Nat.zero_le _, rfl, hacc, hSF, hR6, fun r o _ h => h⟩ ⟨rfl, rfl, rfl, (show ptr0 (Hp.next (h.lay _)) = ptr0 (h.next + 1) from congrArg ptr0 (Hp.next_lay _ _)), rfl, trivial⟩ (Hp.Le.refl _) ?_
    rintro ⟨i, cur, hh⟩ φ ⟨hi, hrep, hcur, hS, h6, hkp⟩
    dsimp only at hi hrep hcur hS h6 hkp ⊢
    conv => whnf
    refine cmpB (fun hb1 => ?_) (fun hb1 => ?_)
    · conv => whnf
      refine ⟨int cur, cellAt_row hS.ho rfl, ?_⟩
      conv => whnf
      refine ⟨int a, cellAt_row hS.ha rfl, ?_⟩
      conv => whnf
      refine ⟨int p, cellAt_row h6 rfl, ?_⟩
      conv => whnf
      refine CallP.mono (legendre_spec a p ha hx.1 hp3 (by omega) hh) ?_
      rintro r h7 ⟨rfl, hg7⟩
      have hmu := mul_unit hcur (leg_bd a p)
      have hS7 := hS.ext hg7
      conv => whnf
      refine ⟨_, wid (by omega), ?_⟩
      conv => whnf
      refine ⟨rfl, _, storeAt_row hS7.ho (by simp) rfl, ?_⟩
      conv => whnf
      refine ⟨?_, ?_⟩
      · repeat' (first | exact True.intro | (refine And.intro ?_ ?_ <;> (conv => whnf)))
        all_goals first
          | (refine sameAt_val (h2 := hh) (show hval hh (cellAt hh (h.next + 1) 0) = _ by rw [cellAt_row hS.ho rfl]; rfl) (sameV_int _); done)
          | (refine sameAt_val (h2 := h7) (show hval h7 (cellAt h7 (h.next + 1) 0) = _ by rw [cellAt_row hS7.ho rfl]; rfl) (sameV_int _); done)
      conv => whnf
      refine ⟨_, wid (by omega), ?_⟩
      conv => whnf
      refine Rnd.mk (i + 1, cur * leg a p, _) ⟨by show i + 1 ≤ t; omega, ?_, hmu, hS7.out _, ?_, ?_⟩ (by show t - (i + 1) < t - i; omega) ⟨rfl, rfl, rfl, rfl, rfl, trivial⟩ (Hp.Le.refl _) rfl
      · show rep (t - (i + 1)) (leg a p) (cur * leg a p) = _
        rw [← hrep, show t - i = (t - (i + 1)) + 1 by omega]
        rfl
      · rw [Hp.at_set_ne _ (by omega)]
        exact hg7.at_ _ _ h6
      · intro r o hr hro
        rw [Hp.at_set_ne _ hr]
        exact hg7.at_ _ _ (hkp r o hr hro)
    · have : i = t := by omega
      subst this
      rw [Nat.sub_self] at hrep
      have hrep : cur = rep i (leg a p) acc := hrep
      conv => whnf
      refine endQ_next eBO (hkp _ _ (by simp only [Hp.next_lay]; omega) hbl) ?_
      intro h9 h9l h9k
      refine .inl ⟨rfl, h9l, ?_⟩
      have hS9 := hS.keep h9k (by simp only [Hp.next_lay]; omega)
      rw [hrep, ← htk'] at hS9
      exact hS9
  · intro h2 h3 hI hk3
    rw [List.length_map, List.take_length] at hI
    have hS2 := hI.keep hk3 (by simp only [Hp.next_lay]; omega)
    conv => whnf
    refine ⟨int (sgn a m), cellAt_row (at_next (by simp only [Hp.next_lay]) hS2.ho) rfl, ?_⟩
    conv => whnf
    refine finP_mark (at_next (by simp only [Hp.next_lay]) hS2.hd) ?_
    exact finP_one rfl rfl ⟨rfl, hS2.hg.then_set _ (by simp only [Hp.next_lay]; omega)⟩
  · intro h2 hf
    exact hf.elim
end
end Go.Proofs.Ytlcnmneildefmaa
