/- Contracts of the functions that Checks comes to. -/
import Derived.Test.YticmdpcahpimhaaSOpen
import Derived.Test.YticmdpcahpimhaaSFew
import Derived.Test.YticmdpcahpimhaaSAwake
set_option maxRecDepth 100000
set_option maxHeartbeats 1000000
set_option linter.unusedVariables false
set_option linter.unusedSectionVars false
set_option linter.unusedSimpArgs false
namespace Go.Proofs.Yticmdpcahpimhaa
open Go.Rx Go.RowKit
attribute [local irreducible] E idxN cellAt cellsAt storeAt callable helems hmoved lookIn findKey keyOk hentries Hp.at Hp.set Hp.lay arBits hupdated setAt CallP YieldP BoolOf IsWrap Rnd LoopP AppP CutP Int.tmod Int.tdiv Int.fdiv
section
variable [Unknowns]
theorem Opened_any (n : Nat) (hn : n ≤ 13) (q : List Int) (v : Value) (hq : q.length < 1000000) (h : Hp) (hv : Ints h v q) : CallP E 21 [int n, v] h (fun r h' => (∃ x ok, r = .tuple ⟨[x, .bool ok]⟩ ∧ BoolOf ok (Pl 0 n q) ∧ (Pl 0 n q → ∃ vs, BuiltC h h' 22 1 x (n + 1) vs ∧ RowsB h h' vs (ansAll 0 n q))) ∧ Grows h h') := by
  obtain ⟨a, cap, rfl, hc⟩ := id hv
  refine enter21 (by simp) ?_
  conv => whnf
  refine CallP.mono (opened_any q _ hq n 0 0 n (by omega) (by omega) hn (by omega) h hv) ?_
  rintro v1 h1 ⟨hres, hg⟩
  rcases hres with ⟨q1, q2, x, vs, e, p, rfl, hb, hr⟩ | ⟨hno, rfl⟩
  · have hbk := hb.known
    obtain ⟨ax, rfl, -⟩ := hbk
    rw [List.drop_zero] at e
    have hlen : q.length = q1.length + q2.length := by rw [e]; simp
    have hp1 := p.length
    conv => whnf
    by_cases hz : q2 = []
    · have e1 : q = q1 := by rw [e, hz]; simp
      refine cmpT (by rw [hz] at hlen; simp only [List.length_nil] at hlen; omega) ?_
      conv => whnf
      exact ⟨⟨_, true, rfl, BoolOf.yes (by rw [e1]; exact p), fun _ => ⟨vs, hb, by rw [e1]; exact hr⟩⟩, hg⟩
    · have hne : q2.length ≠ 0 := fun e => hz (List.eq_nil_of_length_eq_zero e)
      have hnp : ¬ Pl 0 n q := fun hp => by have := hp.length; omega
      refine cmpF (by omega) ?_
      conv => whnf
      exact ⟨⟨_, false, rfl, BoolOf.no hnp, fun hp => absurd hp hnp⟩, hg⟩
  · have hnp : ¬ Pl 0 n q := fun hp => hno q [] (by simp) hp
    conv => whnf
    exact ⟨⟨_, false, rfl, BoolOf.no hnp, fun hp => absurd hp hnp⟩, hg⟩
theorem want_of {cs : List Int} {p : Prop} {e w : Int} (he : ErrOf cs p e) (hw : (¬ CostsOk cs → w = 80) ∧ (CostsOk cs → w = 1)) (hn : ¬ (CostsOk cs ∧ p)) : e = w := by
  by_cases hC : CostsOk cs
  · rw [hw.2 hC]; exact he.2.1 hC (fun hp => hn ⟨hC, hp⟩)
  · rw [hw.1 hC]; exact he.1 hC
attribute [local irreducible] SeqP
theorem checks_spec (v0 : Value) (l : List Int) (hl : l.length ≤ maxLen) (hl' : ∀ n ∈ l, -9223372036854775808 ≤ n ∧ n < 9223372036854775808) (v1 : Value) (w : List Int) (hw : w.length ≤ maxLen) (hw' : ∀ n ∈ w, -9223372036854775808 ≤ n ∧ n < 9223372036854775808) (v2 : Value) (p : List Int) (hp : p.length ≤ maxLen) (hp' : ∀ n ∈ p, -9223372036854775808 ≤ n ∧ n < 9223372036854775808) :
    ∀ h vs, AllIs h vs [.s v0 l, .s v1 w, .s v2 p] → CallP E 3 vs h (fun r _ => r = .bool true) := by
  have hmax : maxLen < 9223372036854775808 := by decide
  intro h vs hvs
  match vs, hvs with
  | [a0, a1, a2], hvs =>
  obtain ⟨k0, k1, k2, -⟩ := hvs
  refine enter3 (by simp) ?_
  conv => whnf
  refine SeqP.go ?_
  conv => whnf
  refine SeqP.go ?_
  conv => whnf
  refine CallP.mono (few_spec a0 l h k0.view (by omega) 13 (by omega)) ?_
  rintro vc h1 ⟨hbc, hg1⟩
  conv => whnf
  refine CallP.mono (few_spec a1 w h1 (k1.view.ext hg1) (by omega) 14 (by omega)) ?_
  rintro vu h2 ⟨hbu, hg2⟩
  conv => whnf
  refine CallP.mono (few_spec a2 p h2 (k2.view.ext (hg1.trans hg2)) (by omega) 13 (by omega)) ?_
  rintro vq h3 ⟨hbq, hg3⟩
  have hcl : (l.take 13).length ≤ 13 := by rw [List.length_take]; omega
  have hul : (w.take 14).length ≤ 14 := by rw [List.length_take]; omega
  have hql : (p.take 13).length ≤ 13 := by rw [List.length_take]; omega
  have hbc := hbc.ext (hg2.trans hg3)
  have hbu := hbu.ext hg3
  have hexc : ∃ cs, l.take 13 = cs := ⟨_, rfl⟩
  have hexu : ∃ u, w.take 14 = u := ⟨_, rfl⟩
  have hexq : ∃ q, p.take 13 = q := ⟨_, rfl⟩
  obtain ⟨cs, ecs⟩ := hexc
  obtain ⟨u, eu⟩ := hexu
  obtain ⟨q, eq⟩ := hexq
  rw [ecs] at hbc hcl
  rw [eu] at hbu hul
  rw [eq] at hbq hql
  have hvc := hbc.ints
  have hvu := hbu.ints
  have hvq := hbq.ints
  have hvqv := hbq.view
  have hkc := hvc
  obtain ⟨ac, cc, rfl, hccell⟩ := hkc
  conv => whnf
  refine SeqP.go ?_
  conv => whnf
  refine SeqP.cut (α := Int) (fun x => [(7, .slice ac cs.length cc), (8, vu), (9, vq), (10, int x)]) (fun x h' => h' = h3 ∧ (CostsOk cs → x = 0) ∧ (¬ CostsOk cs → x = 80)) ?_ ?_
  · conv => whnf
    refine SeqP.go ?_
    conv => whnf
    refine CallP.mono (refcosts_any _ cs h3 hvc (by omega)) ?_
    rintro r h' ⟨⟨ok, rfl, hok⟩, rfl⟩
    cases ok with
    | true =>
      conv => whnf
      exact ⟨0, ⟨rfl, rfl, rfl, rfl, trivial⟩, ⟨rfl, fun _ => rfl, fun h => absurd hok.t h⟩, rfl⟩
    | false =>
      conv => whnf
      exact ⟨80, ⟨rfl, rfl, rfl, rfl, trivial⟩, ⟨rfl, fun h => absurd h hok.f, fun _ => rfl⟩, rfl⟩
  rintro x φ h' ⟨rfl, hx0, hx80⟩
  conv => whnf
  refine SeqP.go ?_
  conv => whnf
  refine SeqP.go ?_
  conv => whnf
  refine CallP.mono (check_spec _ cs h' hvc (by omega)) ?_
  rintro v1 h1 ⟨rfl, e, rfl, ok, bad⟩
  have hex : e = x := by
    by_cases hC : CostsOk cs
    · rw [ok hC, hx0 hC]
    · rw [bad hC, hx80 hC]
  conv => whnf
  refine cmpF (by omega) ?_
  conv => whnf
  clear ok bad hex
  refine SeqP.cut (α := Int × Hp) (fun x => [(7, .slice ac cs.length cc), (8, vu), (9, vq), (10, int x.1)]) (fun x h' => h' = x.2 ∧ Grows h1 x.2 ∧ ((¬ CostsOk cs → x.1 = 80) ∧ (CostsOk cs → x.1 = 1))) ?_ ?_
  · conv => whnf
    refine SeqP.go ?_
    conv => whnf
    by_cases hC : CostsOk cs
    · have hx := hx0 hC
      subst hx
      refine cmpF (by omega) ?_
      conv => whnf
      exact ⟨(1, h1), ⟨rfl, rfl, rfl, rfl, trivial⟩, ⟨rfl, .refl _, fun h => absurd hC h, fun _ => rfl⟩, rfl⟩
    · have hx := hx80 hC
      subst hx
      refine cmpT (by omega) ?_
      conv => whnf
      repeat (refine SeqP.go ?_; conv => whnf)
      refine CallP.mono (IsPlan_any cs q _ vq h1 hvc hvqv (by omega) (by omega)) ?_
      rintro v2 h2 ⟨⟨ok, e, rfl, hno, -⟩, hg2⟩
      have hno := hno hC
      obtain ⟨rfl, rfl⟩ := hno
      conv => whnf
      repeat (refine SeqP.go ?_; conv => whnf)
      refine CallP.mono (Worst_err cs _ h2 (hvc.ext hg2) (by omega) hC) ?_
      rintro v3 h3 ⟨rfl, hg3⟩
      conv => whnf
      repeat (refine SeqP.go ?_; conv => whnf)
      refine cmpF (by omega) ?_
      conv => whnf
      refine cmpF (by omega) ?_
      conv => whnf
      refine ⟨_, wid (by omega), ?_⟩
      conv => whnf
      refine cmpF (by omega) ?_
      conv => whnf
      exact ⟨(80, h3), ⟨rfl, rfl, rfl, rfl, trivial⟩, ⟨rfl, hg2.trans hg3, fun _ => rfl, fun h => absurd h hC⟩, rfl⟩
  rintro ⟨want, hx2⟩ φ h2 ⟨rfl, hg2, hwant⟩
  dsimp only at hg2 hwant ⊢
  conv => whnf
  refine SeqP.cut (α := Bool) (fun b => [(7, .slice ac cs.length cc), (8, vu), (9, vq), (10, int want), (16, .bool b)]) (fun b h' => h' = h2 ∧ BoolOf b (¬ CostsOk cs)) ?_ ?_
  · conv => whnf
    refine CallP.mono (refcosts_any _ cs h2 (hvc.ext hg2) (by omega)) ?_
    rintro r h3 ⟨⟨ok1, rfl, hok1⟩, rfl⟩
    cases ok1 with
    | true =>
      conv => whnf
      exact ⟨false, ⟨rfl, rfl, rfl, rfl, rfl, trivial⟩, ⟨rfl, BoolOf.no (fun h => h hok1.t)⟩, rfl⟩
    | false =>
      conv => whnf
      exact ⟨true, ⟨rfl, rfl, rfl, rfl, rfl, trivial⟩, ⟨rfl, BoolOf.yes hok1.f⟩, rfl⟩
  rintro bad φ h3 ⟨rfl, hbad⟩
  conv => whnf
  refine SeqP.go ?_
  conv => whnf
  refine CallP.mono (Opened_any cs.length hcl q vq (by omega) h3 (hvq.ext hg2)) ?_
  rintro r h4 ⟨⟨xo, ok2, rfl, hok2, hop⟩, hg4⟩
  have hg14 := hg2.trans hg4
  conv => whnf
  refine SeqP.cut (α := Hp) (fun _ => [(7, .slice ac cs.length cc), (8, vu), (9, vq), (10, int want), (16, .bool bad), (17, xo), (18, .bool ok2)]) (fun x h' => h' = x ∧ Grows h4 x) ?_ ?_
  · have errs : ∀ φ : Rx.Frame, ¬ (CostsOk cs ∧ WOk cs u) → True := fun _ _ => trivial
    have one : ¬ (CostsOk cs ∧ WOk cs u) → CallP E 23 [.slice ac cs.length cc, vu] h4 (fun r h' => r = .tuple ⟨[int 0, .slice none 0 0, int want]⟩ ∧ Grows h4 h') := fun hn =>
      (Weighed_err cs u _ vu h4 (hvc.ext hg14) (hvu.ext hg14) (by omega) (by omega) hn).mono fun r h' ⟨⟨e, e1, he⟩, hg⟩ => ⟨by rw [e1, want_of he hwant hn], hg⟩
    have two : ¬ (CostsOk cs ∧ WOk cs u) → ∀ h5, Grows h4 h5 → CallP E 24 [.slice ac cs.length cc, vu, vq] h5 (fun r h' => r = .tuple ⟨[int 0, int want]⟩ ∧ Grows h5 h') := fun hn h5 hg5 =>
      (PriceOf_err cs u q _ vu vq h5 (hvc.ext (hg14.trans hg5)) (hvu.ext (hg14.trans hg5)) (hvqv.ext (hg14.trans hg5)) (by omega) (by omega) (by omega) (fun h => hn ⟨h.1, h.2.1⟩)).mono fun r h' ⟨⟨e, e1, he⟩, hg⟩ => ⟨by rw [e1, want_of he hwant (fun h => hn ⟨h.1, h.2.1⟩)], hg⟩
    conv => whnf
    refine SeqP.go ?_
    conv => whnf
    cases bad with
    | true =>
      have hn : ¬ (CostsOk cs ∧ WOk cs u) := fun h => hbad.t h.1
      conv => whnf
      repeat (refine SeqP.go ?_; conv => whnf)
      refine CallP.mono (one hn) ?_
      rintro r h5 ⟨rfl, hg5⟩
      conv => whnf
      repeat (refine SeqP.go ?_; conv => whnf)
      refine CallP.mono (two hn h5 hg5) ?_
      rintro r h6 ⟨rfl, hg6⟩
      conv => whnf
      repeat (refine SeqP.go ?_; conv => whnf)
      refine cmpF (by omega) ?_
      conv => whnf
      refine cmpF (by omega) ?_
      conv => whnf
      refine ⟨_, wid (by omega), ?_⟩
      conv => whnf
      refine ⟨_, wid (by omega), ?_⟩
      conv => whnf
      refine cmpF (by omega) ?_
      conv => whnf
      exact ⟨h6, ⟨rfl, rfl, rfl, rfl, rfl, rfl, rfl, trivial⟩, ⟨rfl, hg5.trans hg6⟩, rfl⟩
    | false =>
      conv => whnf
      refine CallP.mono (refweights_any _ vu cs u h4 (hvc.ext hg14) (hvu.ext hg14) (by omega) (by omega)) ?_
      rintro r h' ⟨⟨okw, rfl, hokw⟩, rfl⟩
      cases okw with
      | true =>
        conv => whnf
        exact ⟨h', ⟨rfl, rfl, rfl, rfl, rfl, rfl, rfl, trivial⟩, ⟨rfl, .refl _⟩, rfl⟩
      | false =>
        have hn : ¬ (CostsOk cs ∧ WOk cs u) := fun h => hokw.f h.2
        conv => whnf
        repeat (refine SeqP.go ?_; conv => whnf)
        refine CallP.mono (one hn) ?_
        rintro r h5 ⟨rfl, hg5⟩
        conv => whnf
        repeat (refine SeqP.go ?_; conv => whnf)
        refine CallP.mono (two hn h5 hg5) ?_
        rintro r h6 ⟨rfl, hg6⟩
        conv => whnf
        repeat (refine SeqP.go ?_; conv => whnf)
        refine cmpF (by omega) ?_
        conv => whnf
        refine cmpF (by omega) ?_
        conv => whnf
        refine ⟨_, wid (by omega), ?_⟩
        conv => whnf
        refine ⟨_, wid (by omega), ?_⟩
        conv => whnf
        refine cmpF (by omega) ?_
        conv => whnf
        exact ⟨h6, ⟨rfl, rfl, rfl, rfl, rfl, rfl, rfl, trivial⟩, ⟨rfl, hg5.trans hg6⟩, rfl⟩
  rintro hx5 φ5 h5 ⟨rfl, hg5⟩
  have hg15 := hg14.trans hg5
  have hvc5 := hvc.ext hg15
  have hvu5 := hvu.ext hg15
  have hvq5 := hvqv.ext hg15
  have p1 : ¬ (CostsOk cs ∧ Pl 0 cs.length q) → CallP E 25 [.slice ac cs.length cc, vq] h5 (fun r h' => r = .tuple ⟨[.slice none 0 0, int want]⟩ ∧ Grows h5 h') := fun hn =>
    (Prices_err cs q _ vq h5 hvc5 hvq5 (by omega) (by omega) hn).mono fun r h' ⟨⟨e, e1, he⟩, hg⟩ => ⟨by rw [e1, want_of he hwant hn], hg⟩
  have p2 : ¬ (CostsOk cs ∧ Pl 0 cs.length q) → ∀ h6, Grows h5 h6 → CallP E 24 [.slice ac cs.length cc, vu, vq] h6 (fun r h' => r = .tuple ⟨[int 0, int want]⟩ ∧ Grows h6 h') := fun hn h6 hg6 =>
    (PriceOf_err cs u q _ vu vq h6 (hvc5.ext hg6) (hvu5.ext hg6) (hvq5.ext hg6) (by omega) (by omega) (by omega) (fun h => hn ⟨h.1, h.2.2⟩)).mono fun r h' ⟨⟨e, e1, he⟩, hg⟩ => ⟨by rw [e1, want_of he hwant (fun h => hn ⟨h.1, h.2.2⟩)], hg⟩
  have p3 : ∀ i : Int, ¬ (CostsOk cs ∧ Pl 0 cs.length q ∧ 0 ≤ i ∧ i ≤ cs.length) → ∀ h6, Grows h5 h6 → CallP E 26 [.slice ac cs.length cc, vq, int i] h6 (fun r h' => r = .tuple ⟨[.slice none 0 0, int want]⟩ ∧ Grows h6 h') := fun i hn h6 hg6 =>
    (Answer_err cs q _ vq i h6 (hvc5.ext hg6) (hvq5.ext hg6) (by omega) (by omega) hn).mono fun r h' ⟨⟨e, e1, he⟩, hg⟩ => ⟨by rw [e1, want_of he hwant hn], hg⟩
  by_cases hgood : CostsOk cs ∧ Pl 0 cs.length q
  · have h1t : bad = false := hbad.of_f (fun h => h hgood.1)
    have h2t : ok2 = true := hok2.of_t hgood.2
    have hw1 : want = 1 := hwant.2 hgood.1
    subst h1t h2t hw1
    have hvs := hop hgood.2
    obtain ⟨vs, hbo, -⟩ := hvs
    have hbk := hbo.known
    obtain ⟨ao, rfl, -⟩ := hbk
    conv => whnf
    repeat (refine SeqP.go ?_; conv => whnf)
    refine CallP.mono (p3 ((cs.length + 1 : Nat) : Int) (fun h => by omega) h5 (.refl _)) ?_
    rintro r h6 ⟨rfl, hg6⟩
    conv => whnf
    repeat (refine SeqP.go ?_; conv => whnf)
    refine CallP.mono (p3 (-1) (fun h => by omega) h6 hg6) ?_
    rintro r h7 ⟨rfl, hg7⟩
    conv => whnf
    repeat (refine SeqP.go ?_; conv => whnf)
    refine cmpT rfl ?_
    conv => whnf
    refine cmpT rfl ?_
    conv => whnf
    refine ⟨_, wid (by omega), ?_⟩
    conv => whnf
    refine cmpT (by omega) ?_
    conv => whnf
    refine memo27 ?_
    conv => whnf
    rfl
  have tail : ∀ φ : Rx.Frame, True := fun _ => trivial
  have i3 : ¬ (CostsOk cs ∧ Pl 0 cs.length q ∧ (0 : Int) ≤ 0 ∧ (0 : Int) ≤ cs.length) := fun h => hgood ⟨h.1, h.2.1⟩
  cases bad with
  | true =>
    conv => whnf
    repeat (refine SeqP.go ?_; conv => whnf)
    refine CallP.mono (p1 hgood) ?_
    rintro r h6 ⟨rfl, hg6⟩
    conv => whnf
    repeat (refine SeqP.go ?_; conv => whnf)
    refine CallP.mono (p2 hgood h6 hg6) ?_
    rintro r h7 ⟨rfl, hg7⟩
    conv => whnf
    repeat (refine SeqP.go ?_; conv => whnf)
    refine CallP.mono (p3 0 i3 h7 (hg6.trans hg7)) ?_
    rintro r h8 ⟨rfl, hg8⟩
    conv => whnf
    repeat (refine SeqP.go ?_; conv => whnf)
    refine cmpT rfl ?_
    conv => whnf
    refine cmpT rfl ?_
    conv => whnf
    refine cmpT rfl ?_
    conv => whnf
    refine ⟨_, wid (by omega), ?_⟩
    conv => whnf
    refine ⟨_, wid (by omega), ?_⟩
    conv => whnf
    refine cmpT (by omega) ?_
    conv => whnf
    refine memo27 ?_
    conv => whnf
    rfl
  | false =>
    have h2f : ok2 = false := hok2.of_f (fun h => hgood ⟨Classical.byContradiction fun hn => hbad.f hn, h⟩)
    subst h2f
    conv => whnf
    repeat (refine SeqP.go ?_; conv => whnf)
    refine CallP.mono (p1 hgood) ?_
    rintro r h6 ⟨rfl, hg6⟩
    conv => whnf
    repeat (refine SeqP.go ?_; conv => whnf)
    refine CallP.mono (p2 hgood h6 hg6) ?_
    rintro r h7 ⟨rfl, hg7⟩
    conv => whnf
    repeat (refine SeqP.go ?_; conv => whnf)
    refine CallP.mono (p3 0 i3 h7 (hg6.trans hg7)) ?_
    rintro r h8 ⟨rfl, hg8⟩
    conv => whnf
    repeat (refine SeqP.go ?_; conv => whnf)
    refine cmpT rfl ?_
    conv => whnf
    refine cmpT rfl ?_
    conv => whnf
    refine cmpT rfl ?_
    conv => whnf
    refine ⟨_, wid (by omega), ?_⟩
    conv => whnf
    refine ⟨_, wid (by omega), ?_⟩
    conv => whnf
    refine cmpT (by omega) ?_
    conv => whnf
    refine memo27 ?_
    conv => whnf
    rfl
end
end Go.Proofs.Yticmdpcahpimhaa
