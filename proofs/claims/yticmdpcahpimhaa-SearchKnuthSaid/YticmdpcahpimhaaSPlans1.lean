/- Contracts of the functions that SKnuthM comes to. -/
import Derived.Test.YticmdpcahpimhaaSPlans0
set_option maxRecDepth 100000
set_option maxHeartbeats 1000000
set_option linter.unusedVariables false
set_option linter.unusedSectionVars false
set_option linter.unusedSimpArgs false
namespace Go.Proofs.Yticmdpcahpimhaa
open Go.Rx Go.RowKit
attribute [local irreducible] E idxN cellAt cellsAt storeAt callable helems hmoved lookIn findKey keyOk hentries Hp.at Hp.set Hp.lay arBits hupdated setAt CallP YieldP BoolOf IsWrap Rnd LoopP AppP CutP Int.tmod Int.tdiv Int.fdiv
section
variable [Unknowns]
attribute [local irreducible] SeqP
theorem weights_spec (v : Value) (l : List Int) (n : Nat) (hn : n ≤ 12) (h : Hp) (hv : Ints h v l) (hl : l.length < 9223372036854775808) : CallP E 29 [v, int n] h (fun r h' => ∃ u, Built h h' 3 r u ∧ u.length = n + 1 ∧ (∀ x ∈ u, 0 ≤ x ∧ x ≤ 1000) ∧ (∃ x ∈ u, 0 < x) ∧ Grows h h') := by
  obtain ⟨a, cap, rfl, hc⟩ := id hv
  refine enter29 (by simp) ?_
  conv => whnf
  refine SeqP.go ?_
  conv => whnf
  refine SeqP.go ?_
  conv => whnf
  refine SeqP.go ?_
  conv => whnf
  refine SeqP.cut (α := Hp × Value × List Int × Bool) (fun s => [(6, .bool s.2.2.2), (5, s.2.1)]) (fun s h' => h' = s.1 ∧ Grows h s.1 ∧ Built h s.1 3 s.2.1 s.2.2.1 ∧ s.2.2.1.length = n + 1 ∧ (∀ x ∈ s.2.2.1, 0 ≤ x ∧ x ≤ 1000) ∧ BoolOf s.2.2.2 (∃ x ∈ s.2.2.1, 0 < x)) ?_ ?_
  rotate_left
  · rintro ⟨hx, vo, u, some⟩ φ h1 ⟨rfl, hg, hb, hul, hub, hs⟩
    dsimp only at hg hb hul hub hs ⊢
    have hb' := hb
    rcases hb' with ⟨rfl, e⟩ | ⟨r, rfl, hr0, x, hr⟩
    · rw [e] at hul; simp at hul
    cases some with
    | true =>
      conv => whnf
      repeat (refine SeqP.go ?_; conv => whnf)
      exact ⟨u, hb, hul, hub, hs.t, hg⟩
    | false =>
      cases u with
      | nil => simp at hul
      | cons y u =>
      conv => whnf
      repeat (refine SeqP.go ?_; conv => whnf)
      refine ⟨rfl, ⟨by omega, by omega⟩, ?_⟩
      conv => whnf
      refine ⟨rfl, _, storeAt_row hr (by simp; show 0 + 0 < _; omega) rfl, ?_⟩
      conv => whnf
      repeat (refine SeqP.go ?_; conv => whnf)
      refine ⟨1 :: u, .inr ⟨r, rfl, hr0, x, ?_⟩, by simpa using hul, ?_, ⟨1, by simp, by omega⟩, hg.then_set _ hr0⟩
      · rw [Hp.at_set_self _ (Hp.lt_of_at hr)]
        rfl
      · intro z hz
        rcases List.mem_cons.1 hz with rfl | hz
        · omega
        · exact hub z (List.mem_cons_of_mem _ hz)
  conv => whnf
  repeat (refine SeqP.go ?_; conv => whnf)
  refine loop_inv (α := Nat × Hp × Value × List Int × Bool) (fun s => [(7, int s.1), (6, .bool s.2.2.2.2), (5, s.2.2.1), (0, .slice a l.length cap), (1, int n)]) (fun s => s.2.1) (fun s => s.1 ≤ n + 1 ∧ Grows h s.2.1 ∧ Built h s.2.1 3 s.2.2.1 s.2.2.2.1 ∧ s.2.2.2.1.length = s.1 ∧ (∀ x ∈ s.2.2.2.1, 0 ≤ x ∧ x ≤ 1000) ∧ BoolOf s.2.2.2.2 (∃ x ∈ s.2.2.2.1, 0 < x)) (fun s => n + 1 - s.1) (0, h, .slice none 0 0, [], false) ⟨by simp, .refl _, .inl ⟨rfl, rfl⟩, rfl, by simp, BoolOf.no (by simp)⟩ ⟨rfl, rfl, rfl, rfl, rfl, trivial⟩ (Hp.Le.refl _) ?_
  rintro ⟨i, h1, vo, u, some⟩ φ ⟨hi, hg, hb, hul, hub, hs⟩
  dsimp only at hi hg hb hul hub hs ⊢
  conv => whnf
  repeat (refine SeqP.go ?_; conv => whnf)
  refine cmpB (fun hb1 => ?_) (fun hb1 => ?_)
  rotate_left
  · have : i = n + 1 := by omega
    subst this
    conv => whnf
    exact ⟨(h1, vo, u, some), ⟨rfl, rfl, trivial⟩, ⟨rfl, hg, hb, by omega, hub, hs⟩, rfl⟩
  conv => whnf
  refine SeqP.go ?_
  conv => whnf
  refine SeqP.go ?_
  conv => whnf
  refine SeqP.cut (α := Int) (fun x => [(8, int x), (7, int i), (6, .bool some), (5, vo), (0, .slice a l.length cap), (1, int n)]) (fun x h' => h' = h1 ∧ 0 ≤ x ∧ x ≤ 1000) ?_ ?_
  · conv => whnf
    repeat (refine SeqP.go ?_; conv => whnf)
    refine cmpB (fun hb2 => ?_) (fun hb2 => ?_)
    rotate_left
    · conv => whnf
      exact ⟨0, ⟨rfl, rfl, rfl, rfl, rfl, rfl, trivial⟩, ⟨rfl, by omega, by omega⟩, rfl⟩
    have hk : i < l.length := by omega
    obtain ⟨r, o, sp, rfl, hsp, hcell⟩ := hc i hk
    conv => whnf
    refine ⟨hsp, ⟨by omega, by omega⟩, ?_⟩
    conv => whnf
    refine ⟨_, hg.cell hcell, ?_⟩
    conv => whnf
    have hex := u64_of l[i]
    obtain ⟨y, u0, u1, hu⟩ := hex
    refine ⟨y, hu, ?_⟩
    conv => whnf
    refine ⟨by omega, ?_⟩
    have b1 := tmod_bd u0 (show (0 : Int) < 1001 by omega)
    conv => whnf
    refine ⟨_, wid (by omega), ?_⟩
    conv => whnf
    exact ⟨_, ⟨rfl, rfl, rfl, rfl, rfl, rfl, trivial⟩, ⟨rfl, by omega, by omega⟩, rfl⟩
  rintro x φ2 h2 ⟨rfl, hx0, hx1⟩
  have hub' : ∀ z ∈ u ++ [x], 0 ≤ z ∧ z ≤ 1000 := by
    intro z hz
    rcases List.mem_append.1 hz with hz | hz
    · exact hub z hz
    · obtain rfl : z = x := by simpa using hz
      exact ⟨hx0, hx1⟩
  cases some with
  | true =>
    have hs' : BoolOf true (∃ z ∈ u ++ [x], 0 < z) := BoolOf.yes (by
      obtain ⟨z, hz, hp⟩ := hs.t
      exact ⟨z, List.mem_append_left _ hz, hp⟩)
    conv => whnf
    repeat (refine SeqP.go ?_; conv => whnf)
    refine AppP.ints (hb.ext (Grows.lay _ _)) (hg.then_lay _) Elems.lay1 (by simp; omega) ?_
    intro v4 h4 hb4 hg4 _
    conv => whnf
    refine ⟨_, wid (by omega), ?_⟩
    conv => whnf
    exact Rnd.mk (i + 1, h4, v4, u ++ [x], true) ⟨by show i + 1 ≤ _; omega, hg4, hb4, by simp [hul], hub', hs'⟩ (by show _ - (i + 1) < _ - i; omega) ⟨rfl, rfl, rfl, rfl, rfl, trivial⟩ (Hp.Le.refl _) rfl
  | false =>
    conv => whnf
    repeat (refine SeqP.go ?_; conv => whnf)
    refine (show ∀ b, BoolOf b (0 < x) → _ from fun b hbo => ?_)
    have hs' : BoolOf b (∃ z ∈ u ++ [x], 0 < z) := hbo.congr ⟨fun hp => ⟨x, by simp, hp⟩, fun ⟨z, hz, hp⟩ => by
      rcases List.mem_append.1 hz with hz | hz
      · exact absurd ⟨z, hz, hp⟩ hs.f
      · obtain rfl : z = x := by simpa using hz
        exact hp⟩
    conv => whnf
    repeat (refine SeqP.go ?_; conv => whnf)
    refine AppP.ints (hb.ext (Grows.lay _ _)) (hg.then_lay _) Elems.lay1 (by simp; omega) ?_
    intro v4 h4 hb4 hg4 _
    conv => whnf
    refine ⟨_, wid (by omega), ?_⟩
    conv => whnf
    exact Rnd.mk (i + 1, h4, v4, u ++ [x], b) ⟨by show i + 1 ≤ _; omega, hg4, hb4, by simp [hul], hub', hs'⟩ (by show _ - (i + 1) < _ - i; omega) ⟨rfl, rfl, rfl, rfl, rfl, trivial⟩ (Hp.Le.refl _) rfl
end
section
variable [Unknowns]
theorem PriceOf_spec (cs u q : List Int) (v w x : Value) (h : Hp) (hv : Ints h v cs) (hw : Ints h w u) (hx : View h x q) (hC : CostsOk cs) (hW : WOk cs u) (hp : Pl 0 cs.length q) : CallP E 24 [v, w, x] h (fun r h' => r = .tuple ⟨[int (dots (pricesOf cs q) u).sum, int 0]⟩ ∧ Grows h h') := by
  have hql := hp.length
  have hcl := hC.1
  have hul := hW.2.2
  refine enter24 (by simp) ?_
  conv => whnf
  refine CallP.mono (checkweights_any cs u v w h hv hw (by omega) (by omega)) ?_
  rintro v1 h1 ⟨⟨e, rfl, he⟩, hg⟩
  have he0 := he.2.2 hC hW
  subst he0
  conv => whnf
  refine cmpF (by omega) ?_
  conv => whnf
  refine CallP.mono (checkplan_spec cs q v x h1 (hv.ext hg) (hx.ext hg) hC.1 hC.2 hp) ?_
  rintro v2 h2 ⟨rfl, hg2⟩
  have hg02 := hg.trans hg2
  conv => whnf
  refine cmpF (by omega) ?_
  conv => whnf
  refine CallP.mono (prices_spec cs q v x h2 (hv.ext hg02) (hx.ext hg02) hC.1 hC.2 hp) ?_
  rintro v3 h3 ⟨hb, hg3⟩
  have hg03 := hg02.trans hg3
  have hpl : (pricesOf cs q).length = cs.length + 1 := by simp [pricesOf]
  have hpb := prices_bd hC.1 hC.2 hp
  have hex : ∃ p, pricesOf cs q = p := ⟨_, rfl⟩
  obtain ⟨p, ep⟩ := hex
  rw [ep] at hb hpl hpb ⊢
  rcases hb with ⟨rfl, e⟩ | ⟨r, rfl, hr0, xx, hr⟩
  · rw [e] at hpl; simp at hpl
  have hdl : (dots p u).length = p.length := by simp [dots]
  have hdb := dots_bd hpb hW.1
  obtain ⟨aw, cw, rfl, hcw⟩ := id hw
  have e0 : p.map int = rowF p.length (fun k => if k < 0 then (dots p u).getD k 0 else p.getD k 0) := by
    apply List.ext_getElem
    · simp [rowF]
    · intro k h1 h2
      rw [List.length_map] at h1
      simp [rowF, h1]
  rw [e0] at hr
  conv => whnf
  refine loop_inv (α := Nat × Hp) (fun s => [(30, int s.1), (29, int u.length), (28, .slice aw u.length cw), (10, slc r 0 p.length p.length)]) (fun s => s.2) (fun s => s.1 ≤ u.length ∧ Grows h s.2 ∧ s.2.at r = some (.row 3 xx (rowF p.length (fun k => if k < s.1 then (dots p u).getD k 0 else p.getD k 0)))) (fun s => u.length - s.1) (0, h3) ⟨by simp, hg03, hr⟩ ⟨rfl, rfl, rfl, rfl, trivial⟩ (Hp.Le.refl _) ?_
  rintro ⟨i, h4⟩ φ ⟨hi, hg4, hr4⟩
  dsimp only at hi hg4 hr4 ⊢
  conv => whnf
  refine cmpB (fun hb1 => ?_) (fun hb1 => ?_)
  · have hi' : i < u.length := by omega
    have hip : i < p.length := by omega
    obtain ⟨r1, o1, sp1, e1, hsp1, hcell⟩ := hcw i hi'
    subst e1
    have b1 := mul_bd (hpb _ (List.getElem_mem hip)) (hW.1 _ (List.getElem_mem hi'))
    have hld : cellAt h4 r (i + 0) = some (int p[i]) := by
      have := cellAt_row hr4 (rowF_get (f := fun k => if k < i then (dots p u).getD k 0 else p.getD k 0) hip)
      rw [if_neg (by omega), getD_at hip] at this
      exact this
    have hprod : (dots p u).getD i 0 = p[i] * u[i] := by
      rw [getD_at (by omega)]
      simp only [dots, List.getElem_map, List.getElem_range, getD_at hip, getD_at hi']
    conv => whnf
    refine ⟨hsp1, ⟨by omega, by omega⟩, ?_⟩
    conv => whnf
    refine ⟨_, hg4.cell hcell, ?_⟩
    conv => whnf
    refine ⟨rfl, ⟨by omega, by omega⟩, ?_⟩
    conv => whnf
    refine ⟨_, hld, ?_⟩
    conv => whnf
    refine ⟨(dots p u).getD i 0, wie hprod.symm (by rw [hprod]; omega), ?_⟩
    conv => whnf
    refine ⟨rfl, ⟨by omega, by omega⟩, ?_⟩
    conv => whnf
    refine ⟨rfl, _, storeAt_row hr4 (by rw [rowF_length]; show i + 0 < _; omega) rfl, ?_⟩
    conv => whnf
    refine ⟨_, wid (by omega), ?_⟩
    conv => whnf
    have hgs : Grows h2 h3 := hg3
    refine Rnd.mk (i + 1, _) ⟨by show i + 1 ≤ _; omega, hg4.then_set _ (Nat.le_trans hg02.next hr0), ?_⟩ (by show _ - (i + 1) < _ - i; omega) ⟨rfl, rfl, rfl, rfl, trivial⟩ (Hp.Le.refl _) rfl
    rw [Hp.at_set_self _ (Hp.lt_of_at hr4)]
    show some (Obj.row 3 xx ((rowF _ _).set (i + 0) (int _))) = _
    rw [rowF_set]
    refine congrArg some (congrArg _ (rowF_congr fun k hk => ?_))
    by_cases hki : k = i
    · subst hki; simp
    · have : (k < i + 1) = (k < i) := by simp; omega
      simp [hki, this]
  · have : i = u.length := by omega
    subst this
    have e9 : rowF p.length (fun k => if k < u.length then (dots p u).getD k 0 else p.getD k 0) = (dots p u).map int := by
      apply List.ext_getElem
      · simp [rowF, hdl]
      · intro k h1 h2
        rw [List.length_map] at h2
        have hk : k < u.length := by omega
        simp only [rowF, List.getElem_map, List.getElem_range, if_pos hk, getD_at h2]
    rw [e9] at hr4
    have hvi : Ints h4 (slc r 0 p.length p.length) (dots p u) := by
      have := ints_of_row (l := dots p u) (c := p.length) hr4 (fun k hk => by simp [hk])
      rw [hdl] at this
      exact this
    conv => whnf
    refine CallP.mono (sum_big _ _ h4 hvi (by omega) (fun z hz => by have := hdb z hz; omega)) ?_
    rintro v5 h5 ⟨rfl, rfl⟩
    conv => whnf
    exact ⟨rfl, hg4⟩
end
end Go.Proofs.Yticmdpcahpimhaa
