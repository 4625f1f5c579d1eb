/- Contracts of the functions that SOwn comes to. -/
import Derived.Test.YticmdpcahpimhaaSWorst
import Derived.Test.YticmdpcahpimhaaSPlans1
import Derived.Test.YticmdpcahpimhaaSOpened
import Derived.Test.YticmdpcahpimhaaSFew
import Derived.Test.YticmdpcahpimhaaSAwake
set_option maxRecDepth 100000
set_option maxHeartbeats 1000000
set_option linter.unusedVariables false
set_option linter.unusedSectionVars false
set_option linter.unusedSimpArgs false
namespace Go.Proofs.Yticmdpcahpimhaa
open Go.Rx Go.RowKit
/-- Results that a caller may write over. -/
structure Own3 (h5 H : Hp) (c : Nat) (vs : List Value) : Prop where
  gr : Grows h5 H
  row : H.at c = some (.row 22 true vs)
  len : vs.length = 3
  each : ∀ k, k < 3 → ∃ v l, vs[k]? = some v ∧ Built h5 H 3 v l ∧ l.length ≤ 100
theorem Own3.set {h5 H : Hp} {c : Nat} {vs : List Value} (k : Own3 h5 H c vs) {r : Nat} {xx : Bool} {ll : List Int} (hr : H.at r = some (.row 3 xx (ll.map int))) (h5r : h5.next ≤ r) {j : Nat} {y : Int} (hl : ll.length ≤ 100) : Own3 h5 (H.set r (.row 3 xx ((ll.map int).set j (int y)))) c vs := by
  have hne : c ≠ r := fun e => by
    have := k.row
    rw [e, hr] at this
    cases this
  refine ⟨k.gr.then_set _ h5r, by rw [Hp.at_set_ne _ hne]; exact k.row, k.len, fun i hi => ?_⟩
  obtain ⟨v, l, hv, hb, hl1⟩ := k.each i hi
  rcases hb with ⟨rfl, rfl⟩ | ⟨r', rfl, h1, x, h2⟩
  · exact ⟨_, [], hv, .inl ⟨rfl, rfl⟩, by simp⟩
  · by_cases e : r' = r
    · subst e
      rw [h2] at hr
      have e2 : l.map int = ll.map int := by injection hr with h3; injection h3
      have e3 : l.length = ll.length := by have := congrArg List.length e2; simpa using this
      refine ⟨_, ll.set j y, hv, .inr ⟨r', by rw [List.length_set, e3], h1, xx, ?_⟩, by rw [List.length_set]; exact hl⟩
      rw [Hp.at_set_self _ (Hp.lt_of_at h2), List.map_set]
    · exact ⟨_, l, hv, .inr ⟨r', rfl, h1, x, by rw [Hp.at_set_ne _ e]; exact h2⟩, hl1⟩
attribute [local irreducible] E idxN cellAt cellsAt storeAt callable helems hmoved lookIn findKey keyOk hentries Hp.at Hp.set Hp.lay arBits hupdated setAt CallP YieldP BoolOf IsWrap Rnd LoopP AppP CutP Int.tmod Int.tdiv Int.fdiv
section
variable [Unknowns]
attribute [local irreducible] SeqP ResP tabV
theorem own_law (v0 : Value) (l : List Int) (hl : l.length ≤ maxLen) (hl' : ∀ n ∈ l, -9223372036854775808 ≤ n ∧ n < 9223372036854775808) (v1 : Value) (p : List Int) (hp : p.length ≤ maxLen) (hp' : ∀ n ∈ p, -9223372036854775808 ≤ n ∧ n < 9223372036854775808) :
    ∀ h vs, AllIs h vs [.s v0 l, .s v1 p] → CallP E 14 vs h (fun r _ => r = .bool true) := by
  have hmax : maxLen < 9223372036854775808 := by decide
  intro h vs hvs
  match vs, hvs with
  | [a0, a1], hvs =>
  obtain ⟨k0, k1, -⟩ := hvs
  refine enter14 (by simp) ?_
  conv => whnf
  repeat (refine SeqP.go ?_; conv => whnf)
  refine CallP.mono (costs_spec a0 l h k0.ints (by omega)) ?_
  rintro vc h1 ⟨cs, hbc, hcl, hc, hg1⟩
  have hn : cs.length ≤ 12 := by omega
  have hC : CostsOk cs := ⟨hn, hc⟩
  have hvc := hbc.ints
  have hkc := hvc
  obtain ⟨ac, cc, rfl, hccell⟩ := hkc
  conv => whnf
  repeat (refine SeqP.go ?_; conv => whnf)
  refine CallP.mono (few_spec _ cs h1 hbc.view (by omega) 20 (by omega)) ?_
  rintro vk h2 ⟨hbk, hg2⟩
  rw [List.take_of_length_le (by omega)] at hbk
  conv => whnf
  repeat (refine SeqP.go ?_; conv => whnf)
  refine CallP.mono (plan_spec a1 p (by omega) cs.length 0 cs.length (by omega) (by omega) hn h2 (k1.ints.ext (hg1.trans hg2))) ?_
  rintro vq h3 ⟨q, hbq, hpl, hg3⟩
  have hql := hpl.length
  conv => whnf
  repeat (refine SeqP.go ?_; conv => whnf)
  refine CallP.mono (few_spec _ q h3 hbq.view (by omega) 20 (by omega)) ?_
  rintro vk2 h4 ⟨hbk2, hg4⟩
  rw [List.take_of_length_le (by omega)] at hbk2
  have c4 := hvc.ext (hg2.trans (hg3.trans hg4))
  have k4 := hbk.ints.ext (hg3.trans hg4)
  have q4 := hbq.view.ext hg4
  have kq4 := hbk2.ints
  conv => whnf
  repeat (refine SeqP.go ?_; conv => whnf)
  refine CallP.mono (Worst_spec cs hc hn _ h4 c4) ?_
  rintro r h5 ⟨T, vw, qw, hT, rfl, hbw, hpw, hg5⟩
  conv => whnf
  repeat (refine SeqP.go ?_; conv => whnf)
  refine CallP.mono (Prices_spec cs q _ vq h5 (c4.ext hg5) (q4.ext hg5) hn hc hpl) ?_
  rintro r h6 ⟨vp, rfl, hbp, hg6⟩
  conv => whnf
  repeat (refine SeqP.go ?_; conv => whnf)
  refine CallP.mono (Answer_spec cs q _ vq 0 (by omega) h6 (c4.ext (hg5.trans hg6)) (q4.ext (hg5.trans hg6)) hn hc hpl) ?_
  rintro r h7 ⟨va, rfl, hba, hg7⟩
  have hao := ans_ok cs.length 0 cs.length q 0 hpl (by omega) (by omega) (by omega)
  have halen := hao.len
  have hwl := hpw.pl.length
  have hplen : (pricesOf cs q).length = cs.length + 1 := by simp [pricesOf]
  have hg47 := hg5.trans (hg6.trans hg7)
  have hvw := hbw.ints
  obtain ⟨aw, cw, rfl, -⟩ := hvw
  have hvp := hbp.ints
  obtain ⟨ap, cp, rfl, -⟩ := hvp
  have hva := hba.ints
  obtain ⟨aa, ca, rfl, -⟩ := hva
  have o7 : Own3 h4 (h7.lay (.row 22 true [.slice aw qw.length cw, .slice ap (pricesOf cs q).length cp, .slice aa (ans cs.length 0 q 0).length ca])) h7.next [.slice aw qw.length cw, .slice ap (pricesOf cs q).length cp, .slice aa (ans cs.length 0 q 0).length ca] := by
    refine ⟨hg47.then_lay _, Hp.at_lay_self _ _, rfl, fun k hk => ?_⟩
    match k, hk with
    | 0, _ => exact ⟨_, qw, rfl, (hbw.ext (hg6.trans hg7)).ext (Grows.lay _ _), by omega⟩
    | 1, _ => exact ⟨_, _, rfl, ((hbp.ext hg7).back hg5.next).ext (Grows.lay _ _), by omega⟩
    | 2, _ => exact ⟨_, _, rfl, (hba.back (Nat.le_trans hg5.next hg6.next)).ext (Grows.lay _ _), by omega⟩
  conv => whnf
  refine SeqP.go ?_
  conv => whnf
  refine SeqP.cut (α := Unit) (fun _ => [(5, .slice ac cs.length cc), (6, vk), (7, vq), (8, vk2), (11, int 0), (13, int 0), (15, int 0)]) (fun _ H => Grows h4 H) ?_ ?_
  · conv => whnf
    repeat (refine SeqP.go ?_; conv => whnf)
    refine loop_inv (α := Nat × Hp) (fun s => [(17, int s.1), (16, slc h7.next 0 3 3), (5, .slice ac cs.length cc), (6, vk), (7, vq), (8, vk2), (11, int 0), (13, int 0), (15, int 0)]) (fun s => s.2) (fun s => s.1 ≤ 3 ∧ ∃ vs, Own3 h4 s.2 h7.next vs) (fun s => 3 - s.1) (0, _) ⟨by simp, _, o7⟩ ⟨rfl, rfl, rfl, rfl, rfl, rfl, rfl, rfl, rfl, trivial⟩ (Hp.Le.refl _) ?_
    rintro ⟨i, H⟩ φ ⟨hi, ws, ho⟩
    dsimp only at hi ho ⊢
    conv => whnf
    repeat (refine SeqP.go ?_; conv => whnf)
    refine cmpB (fun hb1 => ?_) (fun hb1 => ?_)
    rotate_left
    · conv => whnf
      repeat (refine SeqP.go ?_; conv => whnf)
      exact ⟨(), ⟨rfl, rfl, rfl, rfl, rfl, rfl, rfl, trivial⟩, ho.gr, rfl⟩
    conv => whnf
    refine SeqP.cut (α := Hp) (fun _ => [(17, int i), (16, slc h7.next 0 3 3), (5, .slice ac cs.length cc), (6, vk), (7, vq), (8, vk2), (11, int 0), (13, int 0), (15, int 0)]) (fun H1 H2 => H2 = H1 ∧ ∃ vs, Own3 h4 H1 h7.next vs) ?_ ?_
    rotate_left
    · rintro _ φ1 H1 ⟨rfl, hos⟩
      conv => whnf
      refine ⟨((i + 1 : Nat) : Int), wie (by omega) (by omega), ?_⟩
      conv => whnf
      exact Rnd.mk (i + 1, _) ⟨by show i + 1 ≤ 3; omega, hos⟩ (by show 3 - (i + 1) < 3 - i; omega) ⟨rfl, rfl, rfl, rfl, rfl, rfl, rfl, rfl, rfl, trivial⟩ (Hp.Le.refl _) rfl
    conv => whnf
    repeat (refine SeqP.go ?_; conv => whnf)
    refine loop_inv (α := Nat × Hp) (fun s => [(18, int s.1), (17, int i), (16, slc h7.next 0 3 3), (5, .slice ac cs.length cc), (6, vk), (7, vq), (8, vk2), (11, int 0), (13, int 0), (15, int 0)]) (fun s => s.2) (fun s => s.1 ≤ 100 ∧ ∃ vs, Own3 h4 s.2 h7.next vs) (fun s => 100 - s.1) (0, H) ⟨by simp, ws, ho⟩ ⟨rfl, rfl, rfl, rfl, rfl, rfl, rfl, rfl, rfl, rfl, trivial⟩ (Hp.Le.refl _) ?_
    clear ho
    rintro ⟨j, H1⟩ φ1 ⟨hj, us, ho⟩
    dsimp only at hj ho ⊢
    have hoe := ho.each i (by omega)
    obtain ⟨x, lx, hx, hbx, hlx⟩ := hoe
    have hul := ho.len
    have hcx : cellAt H1 h7.next (i + 0) = some x := cellAt_row ho.row (by simpa using hx)
    rcases hbx with ⟨rfl, rfl⟩ | ⟨rx, rfl, hrx, xx, hax⟩
    · conv => whnf
      repeat (refine SeqP.go ?_; conv => whnf)
      refine ⟨rfl, ⟨by omega, by omega⟩, ?_⟩
      conv => whnf
      refine ⟨_, hcx, ?_⟩
      conv => whnf
      refine cmpF (by omega) ?_
      conv => whnf
      repeat (refine SeqP.go ?_; conv => whnf)
      exact ⟨H1, ⟨rfl, rfl, rfl, rfl, rfl, rfl, rfl, rfl, rfl, trivial⟩, ⟨rfl, us, ho⟩, rfl⟩
    conv => whnf
    repeat (refine SeqP.go ?_; conv => whnf)
    refine ⟨rfl, ⟨by omega, by omega⟩, ?_⟩
    conv => whnf
    refine ⟨_, hcx, ?_⟩
    conv => whnf
    refine cmpB (fun hb2 => ?_) (fun hb2 => ?_)
    rotate_left
    · conv => whnf
      repeat (refine SeqP.go ?_; conv => whnf)
      exact ⟨H1, ⟨rfl, rfl, rfl, rfl, rfl, rfl, rfl, rfl, rfl, trivial⟩, ⟨rfl, us, ho⟩, rfl⟩
    conv => whnf
    repeat (refine SeqP.go ?_; conv => whnf)
    refine ⟨rfl, ⟨by omega, by omega⟩, ?_⟩
    conv => whnf
    refine ⟨_, hcx, ?_⟩
    conv => whnf
    refine ⟨rfl, ⟨by omega, by omega⟩, ?_⟩
    conv => whnf
    refine ⟨rfl, _, storeAt_row hax (by rw [offAt_eq, List.length_map, Int.toNat_natCast]; omega) rfl, ?_⟩
    conv => whnf
    repeat (refine SeqP.go ?_; conv => whnf)
    refine ⟨((j + 1 : Nat) : Int), wie (by omega) (by omega), ?_⟩
    conv => whnf
    exact Rnd.mk (j + 1, _) ⟨by show j + 1 ≤ 100; omega, us, ho.set hax hrx hlx⟩ (by show 100 - (j + 1) < 100 - j; omega) ⟨rfl, rfl, rfl, rfl, rfl, rfl, rfl, rfl, rfl, rfl, trivial⟩ (Hp.Le.refl _) rfl
  rintro _ φ8 h8 hg8
  conv => whnf
  repeat (refine SeqP.go ?_; conv => whnf)
  refine CallP.mono (Prices_spec cs q _ vq h8 (c4.ext hg8) (q4.ext hg8) hn hc hpl) ?_
  rintro r h9 ⟨vx, rfl, hbx, hg9⟩
  have hg49 := hg8.trans hg9
  conv => whnf
  repeat (refine SeqP.go ?_; conv => whnf)
  refine CallP.mono (Opened_of cs.length (by omega) q vk2 (by omega) h9 (kq4.ext hg49)) ?_
  rintro r h10 ⟨⟨xo, ok2, rfl, hok2, hop⟩, hg10⟩
  have e2 : ok2 = true := hok2.of_t hpl
  subst e2
  have hop := hop hpl
  obtain ⟨vs, hbo, hro⟩ := hop
  have hg410 := hg49.trans hg10
  conv => whnf
  repeat (refine SeqP.go ?_; conv => whnf)
  refine cmpT (by omega) ?_
  conv => whnf
  refine cmpT (by omega) ?_
  conv => whnf
  refine cmpT (by omega) ?_
  conv => whnf
  refine cmpT (by omega) ?_
  conv => whnf
  refine CallP.mono (ints_same _ vk cs h10 (c4.ext hg410) (k4.ext hg410) (by omega)) ?_
  rintro r _ ⟨rfl, rfl⟩
  conv => whnf
  refine CallP.mono (ints_same vq vk2 q _ (q4.ints.ext hg410) (kq4.ext hg410) (by omega)) ?_
  rintro r _ ⟨rfl, rfl⟩
  conv => whnf
  refine CallP.mono (refprices_spec cs q _ _ vs h9 _ (k4.ext hg410) hbo hro hn hc hpl) ?_
  rintro vz h11 ⟨hbz, hg11⟩
  conv => whnf
  refine CallP.mono (ints_same vx vz (pricesOf cs q) h11 (hbx.ints.ext (hg10.trans hg11)) hbz.ints (by omega)) ?_
  rintro r _ ⟨rfl, rfl⟩
  conv => whnf
  refine memo27 ?_
  conv => whnf
  rfl
end
end Go.Proofs.Yticmdpcahpimhaa
