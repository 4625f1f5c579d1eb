/- Contracts of the functions that Plans comes to. -/
import Derived.Test.YticmdpcahpimhaaSPlans1
import Derived.Test.YticmdpcahpimhaaSOpened
set_option maxRecDepth 100000
set_option maxHeartbeats 1000000
set_option linter.unusedVariables false
set_option linter.unusedSectionVars false
set_option linter.unusedSimpArgs false
namespace Go.Proofs.Yticmdpcahpimhaa
open Go.Rx Go.RowKit
theorem bool_neq' (x y : Operand) (a b : Bool) : aBin E .neq 4 x y (.bool a) (.bool b) = some (.bool (a != b)) := by
  cases a <;> cases b <;> kernel_rfl
attribute [local irreducible] E idxN cellAt cellsAt storeAt callable helems hmoved lookIn findKey keyOk hentries Hp.at Hp.set Hp.lay arBits hupdated setAt CallP YieldP BoolOf IsWrap Rnd LoopP AppP CutP Int.tmod Int.tdiv Int.fdiv
section
variable [Unknowns]
attribute [local irreducible] SeqP ResP
theorem plans_spec (v0 : Value) (l : List Int) (hl : l.length ≤ maxLen) (hl' : ∀ n ∈ l, -9223372036854775808 ≤ n ∧ n < 9223372036854775808) (v1 : Value) (w : List Int) (hw : w.length ≤ maxLen) (hw' : ∀ n ∈ w, -9223372036854775808 ≤ n ∧ n < 9223372036854775808) (v2 : Value) (p : List Int) (hp : p.length ≤ maxLen) (hp' : ∀ n ∈ p, -9223372036854775808 ≤ n ∧ n < 9223372036854775808) :
    ∀ h vs, AllIs h vs [.s v0 l, .s v1 w, .s v2 p] → CallP E 4 vs h (fun r _ => r = .bool true) := by
  have hmax : maxLen < 9223372036854775808 := by decide
  intro h vs hvs
  match vs, hvs with
  | [a0, a1, a2], hvs =>
  obtain ⟨k0, k1, k2, -⟩ := hvs
  refine enter4 (by simp) ?_
  conv => whnf
  repeat (refine SeqP.go ?_; conv => whnf)
  refine CallP.mono (costs_spec a0 l h k0.ints (by omega)) ?_
  rintro vc h1 ⟨cs, hbc, hcl, hc, hg1⟩
  have hn : cs.length ≤ 12 := by omega
  have hC : CostsOk cs := ⟨hn, hc⟩
  have hvc := hbc.ints
  have hkc := hvc
  obtain ⟨ac, cc, rfl, hccell⟩ := hkc
  conv => whnf
  repeat (refine SeqP.go ?_; conv => whnf)
  refine CallP.mono (weights_spec a1 w cs.length hn h1 (k1.ints.ext hg1) (by omega)) ?_
  rintro vu h2 ⟨u, hbu, hul, hub, hup, hg2⟩
  have hW : WOk cs u := ⟨hub, hup, hul⟩
  have hg02 := hg1.trans hg2
  conv => whnf
  repeat (refine SeqP.go ?_; conv => whnf)
  refine CallP.mono (few_spec a2 p h2 (k2.view.ext hg02) (by omega) 13 (by omega)) ?_
  rintro vq h3 ⟨hbq, hg3⟩
  have hvq := hbq.view
  have hql : (p.take 13).length ≤ 13 := by rw [List.length_take]; omega
  have hg03 := hg02.trans hg3
  have hg13 := hg2.trans hg3
  have k23 := k2.ints.ext hg03
  have hvc3 := hvc.ext hg13
  have hvu3 := hbu.ints.ext hg3
  conv => whnf
  repeat (refine SeqP.go ?_; conv => whnf)
  refine loop_inv (α := Nat × Hp × Value × List Int) (fun s => [(10, int s.1), (7, .slice ac cs.length cc), (8, vu), (9, s.2.2.1), (2, a2)]) (fun s => s.2.1) (fun s => s.1 ≤ 2 ∧ Grows h3 s.2.1 ∧ View s.2.1 s.2.2.1 s.2.2.2 ∧ s.2.2.2.length ≤ 13) (fun s => 2 - s.1) (0, h3, vq, p.take 13) ⟨by simp, .refl _, hvq, hql⟩ ⟨rfl, rfl, rfl, rfl, rfl, trivial⟩ (Hp.Le.refl _) ?_
  rintro ⟨i, h4, vq, q⟩ φ ⟨hi, hg4, hvq, hql⟩
  dsimp only at hi hg4 hvq hql ⊢
  have hvc4 := hvc3.ext hg4
  have hvu4 := hvu3.ext hg4
  conv => whnf
  repeat (refine SeqP.go ?_; conv => whnf)
  refine cmpB (fun hb1 => ?_) (fun hb1 => ?_)
  rotate_left
  · conv => whnf
    repeat (refine SeqP.go ?_; conv => whnf)
    refine memo27 ?_
    conv => whnf
    rfl
  conv => whnf
  repeat (refine SeqP.go ?_; conv => whnf)
  refine CallP.mono (IsPlan_any cs q _ vq h4 hvc4 hvq (by omega) (by omega)) ?_
  rintro r h5 ⟨⟨ok1, e, rfl, -, hok⟩, hg5⟩
  have hok := hok hC
  obtain ⟨rfl, hok1⟩ := hok
  conv => whnf
  repeat (refine SeqP.go ?_; conv => whnf)
  refine CallP.mono (Opened_of cs.length (by omega) q vq (by omega) h5 (hvq.ints.ext hg5)) ?_
  rintro r h6 ⟨⟨xo, ok2, rfl, hok2, hop⟩, hg6⟩
  have hg46 := hg5.trans hg6
  have hvc6 := hvc4.ext hg46
  have hvu6 := hvu4.ext hg46
  have hvq6 := hvq.ext hg46
  by_cases hP : Pl 0 cs.length q
  rotate_left
  · have e1 : ok1 = false := hok1.of_f hP
    have e2 : ok2 = false := hok2.of_f hP
    subst e1 e2
    conv => whnf
    repeat (refine SeqP.go ?_; conv => whnf)
    refine cmpF (by omega) ?_
    conv => whnf
    refine resP_val (v := .bool false) (h := h6) ?_ ?_
    · show hval _ (aBin E .neq 4 _ _ (.bool false) (.bool false)) = _
      rw [bool_neq']
      rfl
    conv => whnf
    repeat (refine SeqP.go ?_; conv => whnf)
    refine CallP.mono (plan_spec a2 p (by omega) cs.length 0 cs.length (by omega) (by omega) hn h6 (k23.ext (hg4.trans hg46))) ?_
    rintro vq2 h7 ⟨q2, hbq2, hpl2, hg7⟩
    conv => whnf
    repeat (refine SeqP.go ?_; conv => whnf)
    refine ⟨_, wid (by omega), ?_⟩
    conv => whnf
    exact Rnd.mk (i + 1, h7, vq2, q2) ⟨by show i + 1 ≤ 2; omega, hg4.trans (hg46.trans hg7), hbq2.view, by have := hpl2.length; show q2.length ≤ 13; omega⟩ (by show 2 - (i + 1) < 2 - i; omega) ⟨rfl, rfl, rfl, rfl, rfl, trivial⟩ (Hp.Le.refl _) rfl
  have e1 : ok1 = true := hok1.of_t hP
  have e2 : ok2 = true := hok2.of_t hP
  subst e1 e2
  have hop := hop hP
  obtain ⟨vs, hbo, hro⟩ := hop
  have hbk := hbo.known
  obtain ⟨ao, rfl, hao⟩ := hbk
  have hpb := prices_bd hn hc hP
  have hpl : (pricesOf cs q).length = cs.length + 1 := by simp [pricesOf]
  conv => whnf
  repeat (refine SeqP.go ?_; conv => whnf)
  refine cmpF (by omega) ?_
  conv => whnf
  refine resP_val (v := .bool false) (h := h6) ?_ ?_
  · show hval _ (aBin E .neq 4 _ _ (.bool true) (.bool true)) = _
    rw [bool_neq']
    rfl
  conv => whnf
  repeat (refine SeqP.go ?_; conv => whnf)
  refine CallP.mono (refprices_spec cs q _ _ vs h5 h6 hvc6 hbo hro hn hc hP) ?_
  rintro vp h7 ⟨hbp, hg7⟩
  conv => whnf
  repeat (refine SeqP.go ?_; conv => whnf)
  refine CallP.mono (Prices_spec cs q _ vq h7 (hvc6.ext hg7) (hvq6.ext hg7) hn hc hP) ?_
  rintro r h8 ⟨xp, rfl, hbx, hg8⟩
  have hg68 := hg7.trans hg8
  conv => whnf
  repeat (refine SeqP.go ?_; conv => whnf)
  refine CallP.mono (PriceOf_spec cs u q _ vu vq h8 (hvc6.ext hg68) (hvu6.ext hg68) (hvq6.ext hg68) hC hW hP) ?_
  rintro r h9 ⟨rfl, hg9⟩
  have hg69 := hg68.trans hg9
  conv => whnf
  repeat (refine SeqP.go ?_; conv => whnf)
  refine cmpF (by omega) ?_
  conv => whnf
  refine CallP.mono (ints_same xp vp (pricesOf cs q) h9 (hbx.ints.ext hg9) (hbp.ints.ext (hg8.trans hg9)) (by omega)) ?_
  rintro r h10 ⟨rfl, rfl⟩
  conv => whnf
  refine cmpF (by omega) ?_
  conv => whnf
  refine CallP.mono (refweighed_spec vu vp u (pricesOf cs q) h10 (hvu6.ext hg69) (hbp.ints.ext (hg8.trans hg9)) (by omega) (by omega) hpb hub) ?_
  rintro r h11 ⟨rfl, rfl⟩
  conv => whnf
  refine cmpF (by omega) ?_
  conv => whnf
  repeat (refine SeqP.go ?_; conv => whnf)
  refine loop_inv (α := Nat × Hp) (fun s => [(20, int s.1), (13, .slice ao (cs.length + 1) (cs.length + 1)), (10, int i), (7, .slice ac cs.length cc), (8, vu), (9, vq), (2, a2)]) (fun s => s.2) (fun s => s.1 ≤ cs.length + 1 ∧ Grows h6 s.2) (fun s => cs.length + 1 - s.1) (0, h11) ⟨by simp, hg69⟩ ⟨rfl, rfl, rfl, rfl, rfl, rfl, rfl, trivial⟩ (Hp.Le.refl _) ?_
  rintro ⟨j, h12⟩ φ3 ⟨hj, hg12⟩
  dsimp only at hj hg12 ⊢
  conv => whnf
  repeat (refine SeqP.go ?_; conv => whnf)
  refine cmpB (fun hb2 => ?_) (fun hb2 => ?_)
  rotate_left
  · conv => whnf
    repeat (refine SeqP.go ?_; conv => whnf)
    refine CallP.mono (plan_spec a2 p (by omega) cs.length 0 cs.length (by omega) (by omega) hn h12 (k23.ext (hg4.trans (hg46.trans hg12)))) ?_
    rintro vq2 h13 ⟨q2, hbq2, hpl2, hg13⟩
    conv => whnf
    repeat (refine SeqP.go ?_; conv => whnf)
    refine ⟨_, wid (by omega), ?_⟩
    conv => whnf
    exact Rnd.mk (i + 1, h13, vq2, q2) ⟨by show i + 1 ≤ 2; omega, hg4.trans (hg46.trans (hg12.trans hg13)), hbq2.view, by have := hpl2.length; show q2.length ≤ 13; omega⟩ (by show 2 - (i + 1) < 2 - i; omega) ⟨rfl, rfl, rfl, rfl, rfl, trivial⟩ (Hp.Le.refl _) rfl
  have hj' : j ≤ cs.length := by omega
  have hx := hao j (by omega)
  obtain ⟨r1, e1, x1, hr1⟩ := hx
  subst e1
  have hx := hro.2 j (by rw [ansAll_length]; omega)
  obtain ⟨wr, ew, bw⟩ := hx
  have hw1 : (ansAll 0 cs.length q)[j]'(by rw [ansAll_length]; omega) = ans cs.length 0 q j := by
    simp only [ansAll, List.getElem_map, List.getElem_range, Nat.zero_add]
    exact ans_fuel _ _ 0 cs.length q j hP (by omega) (by omega)
  rw [hw1] at bw
  have halen := (ans_ok cs.length 0 cs.length q j hP (by omega) (by omega) hj').len
  conv => whnf
  repeat (refine SeqP.go ?_; conv => whnf)
  refine CallP.mono (Answer_spec cs q _ vq j hj' h12 (hvc6.ext hg12) (hvq6.ext hg12) hn hc hP) ?_
  rintro r h13 ⟨y, rfl, hby, hg13⟩
  have hg613 := hg12.trans hg13
  conv => whnf
  repeat (refine SeqP.go ?_; conv => whnf)
  refine cmpF (by omega) ?_
  conv => whnf
  refine ⟨rfl, ⟨by omega, by omega⟩, ?_⟩
  conv => whnf
  refine ⟨wr, hg613.cell (cellAt_row hr1 ew), ?_⟩
  conv => whnf
  refine CallP.mono (ints_same y wr (ans cs.length 0 q j) h13 hby.ints (bw.ints.ext hg613) (by omega)) ?_
  rintro r h14 ⟨rfl, rfl⟩
  conv => whnf
  repeat (refine SeqP.go ?_; conv => whnf)
  refine ⟨_, wid (by omega), ?_⟩
  conv => whnf
  exact Rnd.mk (j + 1, h14) ⟨by show j + 1 ≤ _; omega, hg613⟩ (by show _ - (j + 1) < _ - j; omega) ⟨rfl, rfl, rfl, rfl, rfl, rfl, rfl, trivial⟩ (Hp.Le.refl _) rfl
end
end Go.Proofs.Yticmdpcahpimhaa
