/- Contracts of the functions that T27 comes to. -/
import Derived.Test.YtpiplaicnbapbaaT26
import Derived.Test.YtpiplaicnbapbaaTAwake
import Derived.Test.YtpiplaicnbapbaaT15
set_option maxRecDepth 100000
set_option maxHeartbeats 2000000
set_option linter.unusedVariables false
set_option linter.unusedSectionVars false
set_option linter.unusedSimpArgs false
namespace Go.Proofs.Ytpiplaicnbapbaa
open Go.Rx Go.RowKit
attribute [local irreducible] E idxN cellAt cellsAt storeAt callable helems hmoved lookIn findKey keyOk hentries Hp.at Hp.set Hp.lay arBits hupdated setAt CallP YieldP BoolOf IsWrap Rnd LoopP AppP CutP Int.tmod Int.tdiv Int.fdiv
section
variable [Unknowns]
attribute [local irreducible] ResP sameAt
theorem checks_law (ts0 : List Tr) (hy0 : TyT Try.prog 25 ts0) (t1 : Tr) (hy1 : TyT Try.prog 22 [t1]) : ∀ h vs, AllT h vs [.ag ts0, t1] → CallP E 3 vs h (fun r _ => r = .bool true) := by
  have hmax : maxLen < 9223372036854775808 := by decide
  intro h vs hvs
  match vs, hvs with
  | [a0, a1], hvs =>
  obtain ⟨k0, k1, -⟩ := hvs
  obtain ⟨P, pn, po, ps, pr, hP⟩ := prot_lent hy0
  obtain ⟨l1, rfl, hl1, -⟩ := ty_ints under22 cells3 under3 hy1
  have hP := hP h a0 k0
  have hL1 := k1.view
  have hPx := id hP
  obtain ⟨vo, vs', vr, ea0, -⟩ := hPx
  have hexb : ∃ bp : List Value, a0 = .agg ⟨bp⟩ ∧ bp.length = 4 := ⟨_, ea0, rfl⟩
  clear ea0
  obtain ⟨bp, rfl, hbp⟩ := hexb
  have hk := hL1.known
  obtain ⟨al1, cl1, rfl⟩ := hk
  have g0 : Grows h (h.lay (.row 25 true bp)) := Grows.lay _ _
  have x0 : (h.lay (.row 25 true bp)).at h.next = some (.row 25 true bp) := Hp.at_lay_self _ _
  have hexx : ∃ x : Prot, x = ⟨P.n, P.out.take 6, P.start.take 3, P.rules.take 16⟩ := ⟨_, rfl⟩
  obtain ⟨x, ex⟩ := hexx
  have xo : x.out.length ≤ 6 := by rw [ex]; show (P.out.take 6).length ≤ 6; rw [List.length_take]; omega
  have xs : x.start.length ≤ 3 := by rw [ex]; show (P.start.take 3).length ≤ 3; rw [List.length_take]; omega
  have xr : x.rules.length ≤ 16 := by rw [ex]; show (P.rules.take 16).length ≤ 16; rw [List.length_take]; omega
  have xn : InR x.n := by rw [ex]; exact pn
  refine enter3 (by simp) ?_
  conv => whnf
  refine SeqP.go ?_
  conv => whnf
  refine SeqP.cut (α := List Value × Hp × Nat) (fun s => [(5, ptr s.2.2 0), (1, .slice al1 l1.length cl1)]) (fun s H => s.2.1 = H ∧ Grows h s.2.1 ∧ s.2.1.at s.2.2 = some (.row 26 true s.1) ∧ s.1.length = 4 ∧ PV s.2.1 (.agg ⟨s.1⟩) x) ?_ ?_
  · conv => whnf
    refine ⟨bp, all_cells x0 hbp, ?_⟩
    conv => whnf
    refine CallP.mono (own_spec _ P _ (hP.ext g0) (by omega) (by omega) (by omega)) ?_
    rintro r H2 ⟨hx, g2⟩
    rw [← ex] at hx
    obtain ⟨v1, v2, v3, rfl, e1, e2, e3⟩ := id hx
    obtain ⟨w1, rfl⟩ := e1.known
    obtain ⟨w2, rfl⟩ := e2.known
    obtain ⟨w3, rfl, -⟩ := e3.slice
    unfold pval at hx ⊢
    conv => whnf
    refine ⟨rfl, _, storeAt_all (vs := [int x.n, .slice w1 x.out.length x.out.length, .slice w2 x.start.length x.start.length, .slice w3 x.rules.length x.rules.length]) rfl rfl rfl, ?_⟩
    conv => whnf
    exact ⟨([int x.n, .slice w1 x.out.length x.out.length, .slice w2 x.start.length x.start.length, .slice w3 x.rules.length x.rules.length], _, H2.next), ⟨rfl, rfl, trivial⟩, ⟨rfl, (g0.trans g2).then_lay _, Hp.at_lay_self _ _, rfl, hx.ext (Grows.lay _ _)⟩, rfl⟩
  rintro ⟨b9, H2, X⟩ φ2 _ ⟨rfl, hg2, hX, hb9, hPV⟩
  dsimp only at hg2 hX hb9 hPV ⊢
  obtain ⟨b9', eb9, -, y0, -, ⟨z2, y2, j2⟩, -⟩ := hPV.box
  cases eb9
  conv => whnf
  refine SeqP.cut (α := List Value × Hp × Nat) (fun s => [(6, ptr s.2.2 0), (5, ptr X 0), (1, .slice al1 l1.length cl1)]) (fun s H => s.2.1 = H ∧ Grows H2 s.2.1 ∧ s.2.1.at s.2.2 = some (.row 25 true s.1) ∧ s.1.length = 4 ∧ PV s.2.1 (.agg ⟨s.1⟩) x) ?_ ?_
  · conv => whnf
    refine ⟨b9, all_cells hX hb9, ?_⟩
    conv => whnf
    refine CallP.mono (given_spec _ x _ hPV (by omega) (by omega) (by omega)) ?_
    rintro r H3 ⟨hx, g3⟩
    obtain ⟨v1, v2, v3, rfl, e1, e2, e3⟩ := id hx
    obtain ⟨w1, rfl⟩ := e1.known
    obtain ⟨w2, rfl⟩ := e2.known
    obtain ⟨w3, rfl, -⟩ := e3.slice
    unfold pval at hx ⊢
    conv => whnf
    refine ⟨rfl, _, storeAt_all (vs := [int x.n, .slice w1 x.out.length x.out.length, .slice w2 x.start.length x.start.length, .slice w3 x.rules.length x.rules.length]) rfl rfl rfl, ?_⟩
    conv => whnf
    exact ⟨([int x.n, .slice w1 x.out.length x.out.length, .slice w2 x.start.length x.start.length, .slice w3 x.rules.length x.rules.length], _, H3.next), ⟨rfl, rfl, rfl, trivial⟩, ⟨rfl, g3.then_lay _, Hp.at_lay_self _ _, rfl, hx.ext (Grows.lay _ _)⟩, rfl⟩
  rintro ⟨b8, H3, Y⟩ φ3 _ ⟨rfl, hg3, hY, hb8, hPY⟩
  dsimp only at hg3 hY hb8 hPY ⊢
  conv => whnf
  refine SeqP.cut (α := Value × Hp) (fun s => [(7, s.1), (6, ptr Y 0), (5, ptr X 0)]) (fun s H => s.2 = H ∧ LV s.2 s.1 (l1.take 6) ∧ Grows H3 s.2) ?_ ?_
  · conv => whnf
    refine CallP.mono (few_spec _ l1 _ (hL1.ext (hg2.trans hg3)) (by omega) 6 (by omega)) ?_
    rintro r4 H4 ⟨hb, g4⟩
    conv => whnf
    exact ⟨(r4, H4), ⟨rfl, rfl, rfl, trivial⟩, ⟨rfl, LV.of hb, g4⟩, rfl⟩
  rintro ⟨cv0, H4⟩ φ4 _ ⟨rfl, hcv, hg4⟩
  dsimp only at hcv hg4 ⊢
  have hexc : ∃ c, l1.take 6 = c ∧ c.length ≤ 6 := ⟨_, rfl, by rw [List.length_take]; omega⟩
  obtain ⟨c, ec, hc6⟩ := hexc
  rw [ec] at hcv
  have hkk := hcv.known
  obtain ⟨ac, rfl⟩ := hkk
  have hX4 := (hg3.trans hg4).at_ _ _ hX
  have hY4 := hg4.at_ _ _ hY
  have hPX4 := hPV.ext (hg3.trans hg4)
  have hPY4 := hPY.ext hg4
  clear hX hY hPV hPY
  conv => whnf
  refine SeqP.go ?_
  conv => whnf
  refine SeqP.cut (α := Int × Hp) (fun s => [(8, int s.1), (7, .slice ac c.length c.length), (6, ptr Y 0), (5, ptr X 0)]) (fun s H => s.2 = H ∧ PChk x s.1 ∧ Grows H4 s.2) ?_ ?_
  · conv => whnf
    refine ⟨b9, all_cells hX4 hb9, ?_⟩
    conv => whnf
    refine CallP.mono (RCheck_spec _ x _ hPX4 (by omega) (by omega) (by omega)) ?_
    rintro r5 H5 ⟨⟨b, rfl, hb⟩, g5⟩
    cases b with
    | true =>
      conv => whnf
      repeat (refine SeqP.go ?_; conv => whnf)
      exact ⟨(0, H5), ⟨rfl, rfl, rfl, rfl, trivial⟩, ⟨rfl, ⟨fun _ => rfl, fun k => absurd hb.t k⟩, g5⟩, rfl⟩
    | false =>
      conv => whnf
      repeat (refine SeqP.go ?_; conv => whnf)
      exact ⟨(60, H5), ⟨rfl, rfl, rfl, rfl, trivial⟩, ⟨rfl, PChk.bad hb.f, g5⟩, rfl⟩
  rintro ⟨want, H5⟩ φ5 _ ⟨rfl, hwant, hg5⟩
  dsimp only at hwant hg5 ⊢
  have hX5 := hg5.at_ _ _ hX4
  have hY5 := hg5.at_ _ _ hY4
  have hPX5 := hPX4.ext hg5
  have hPY5 := hPY4.ext hg5
  have hcv5 := hcv.ext hg5
  clear hX4 hY4 hPX4 hPY4 hcv
  conv => whnf
  refine SeqP.cut (α := Hp) (fun s => [(8, int want), (7, .slice ac c.length c.length), (6, ptr Y 0), (5, ptr X 0)]) (fun s H => s = H ∧ Grows H5 s) ?_ ?_
  · conv => whnf
    refine ⟨b8, all_cells hY5 hb8, ?_⟩
    conv => whnf
    refine CallP.mono (check_spec _ x _ hPY5 xn (by omega) (by omega) (by omega)) ?_
    rintro r6 H6 ⟨⟨e, rfl, he⟩, g6⟩
    have ee : e = want := by
      by_cases hp : POk x
      · rw [he.1 hp, hwant.1 hp]
      · rw [he.2 hp, hwant.2 hp]
    subst ee
    conv => whnf
    refine cmpF (fun k => k rfl) ?_
    conv => whnf
    repeat (refine SeqP.go ?_; conv => whnf)
    exact ⟨H6, ⟨rfl, rfl, rfl, rfl, trivial⟩, ⟨rfl, g6⟩, rfl⟩
  rintro H6 φ6 _ ⟨rfl, hg6⟩
  have hX6 := hg6.at_ _ _ hX5
  have hY6 := hg6.at_ _ _ hY5
  have hPX6 := hPX5.ext hg6
  have hPY6 := hPY5.ext hg6
  have hcv6 := hcv5.ext hg6
  clear hX5 hY5 hPX5 hPY5 hcv5
  conv => whnf
  refine SeqP.cut (α := Int × Hp) (fun s => [(8, int s.1), (7, .slice ac c.length c.length), (6, ptr Y 0), (5, ptr X 0)]) (fun s H => s.2 = H ∧ (¬ POk x → s.1 = 60) ∧ (POk x → s.1 = 1) ∧ Grows H6 s.2) ?_ ?_
  · conv => whnf
    by_cases hp : POk x
    · have ew := hwant.1 hp
      subst ew
      repeat (refine SeqP.go ?_; conv => whnf)
      refine cmpF (by omega) ?_
      conv => whnf
      repeat (refine SeqP.go ?_; conv => whnf)
      refine ⟨b8, all_cells hY6 hb8, ?_⟩
      conv => whnf
      refine CallP.mono (Crowd_spec _ _ x c _ hPY6 hcv6.ints xn (by omega) (by omega) (by omega) (by omega)) ?_
      rintro r7 H7 ⟨⟨w7, e7, rfl, -, m1, m2⟩, g7⟩
      have hX7 := g7.at_ _ _ hX6
      by_cases hC : Cnt c x.start.length
      · obtain ⟨rfl, hw7⟩ := m2 hp hC
        have hkk := (LV.of hw7).known
        obtain ⟨a7, rfl⟩ := hkk
        conv => whnf
        refine ⟨_, cellAt_row hX7 y2, ?_⟩
        conv => whnf
        refine CallP.mono (crowded_spec _ c x.start.length _ (hcv6.ext g7).ints (by omega)) ?_
        rintro r8 H8 ⟨⟨b, rfl, hb⟩, rfl⟩
        have eb : b = true := hb.of_t hC
        subst eb
        conv => whnf
        refine cmpT rfl ?_
        conv => whnf
        refine resP_val (v := .bool false) (h := H8) ?_ ?_
        · show hval _ (aBin E .neq 4 _ _ (.bool true) (.bool true)) = _
          rw [bool_neq]
          rfl
        conv => whnf
        refine cmpF (by omega) ?_
        conv => whnf
        repeat (refine SeqP.go ?_; conv => whnf)
        exact ⟨(1, H8), ⟨rfl, rfl, rfl, rfl, trivial⟩, ⟨rfl, fun k => absurd hp k, fun _ => rfl, g7⟩, rfl⟩
      · obtain ⟨rfl, rfl⟩ := m1 hp hC
        conv => whnf
        refine ⟨_, cellAt_row hX7 y2, ?_⟩
        conv => whnf
        refine CallP.mono (crowded_spec _ c x.start.length _ (hcv6.ext g7).ints (by omega)) ?_
        rintro r8 H8 ⟨⟨b, rfl, hb⟩, rfl⟩
        have eb : b = false := hb.of_f hC
        subst eb
        conv => whnf
        refine cmpF (by omega) ?_
        conv => whnf
        refine resP_val (v := .bool false) (h := H8) ?_ ?_
        · show hval _ (aBin E .neq 4 _ _ (.bool false) (.bool false)) = _
          rw [bool_neq]
          rfl
        conv => whnf
        refine cmpT (by omega) ?_
        conv => whnf
        refine cmpF (fun k => k rfl) ?_
        conv => whnf
        refine cmpF (by omega) ?_
        conv => whnf
        repeat (refine SeqP.go ?_; conv => whnf)
        exact ⟨(1, H8), ⟨rfl, rfl, rfl, rfl, trivial⟩, ⟨rfl, fun k => absurd hp k, fun _ => rfl, g7⟩, rfl⟩
    · have ew := hwant.2 hp
      subst ew
      repeat (refine SeqP.go ?_; conv => whnf)
      refine cmpT (by omega) ?_
      conv => whnf
      repeat (refine SeqP.go ?_; conv => whnf)
      refine ⟨b8, all_cells hY6 hb8, ?_⟩
      conv => whnf
      refine CallP.mono (Answers_bad _ x _ hPY6 xn (by omega) (by omega) (by omega) hp) ?_
      rintro r7 H7 ⟨rfl, g7⟩
      conv => whnf
      repeat (refine SeqP.go ?_; conv => whnf)
      refine ⟨b8, all_cells (g7.at_ _ _ hY6) hb8, ?_⟩
      conv => whnf
      refine CallP.mono (Kept_bad _ x _ (hPY6.ext g7) xn (by omega) (by omega) (by omega) hp) ?_
      rintro r8 H8 ⟨rfl, g8⟩
      have g78 := g7.trans g8
      conv => whnf
      repeat (refine SeqP.go ?_; conv => whnf)
      refine ⟨b8, all_cells (g78.at_ _ _ hY6) hb8, ?_⟩
      conv => whnf
      refine CallP.mono (Weighs_bad _ x _ (hPY6.ext g78) xn (by omega) (by omega) (by omega) hp) ?_
      rintro r9 H9 ⟨rfl, g9⟩
      have g79 := g78.trans g9
      conv => whnf
      repeat (refine SeqP.go ?_; conv => whnf)
      refine ⟨b8, all_cells (g79.at_ _ _ hY6) hb8, ?_⟩
      conv => whnf
      refine CallP.mono (Crowd_spec _ _ x c _ (hPY6.ext g79) (hcv6.ext g79).ints xn (by omega) (by omega) (by omega) (by omega)) ?_
      rintro r10 H10 ⟨⟨w7, e7, rfl, m0, -, -⟩, g10⟩
      obtain ⟨rfl, rfl⟩ := m0 hp
      conv => whnf
      repeat (refine SeqP.go ?_; conv => whnf)
      refine cmpF (fun k => k rfl) ?_
      conv => whnf
      refine cmpF (fun k => k rfl) ?_
      conv => whnf
      refine cmpF (fun k => k rfl) ?_
      conv => whnf
      refine cmpF (fun k => k rfl) ?_
      conv => whnf
      refine ⟨0, wie rfl (by omega), ?_⟩
      conv => whnf
      refine ⟨0, wie rfl (by omega), ?_⟩
      conv => whnf
      refine cmpF (by omega) ?_
      conv => whnf
      repeat (refine SeqP.go ?_; conv => whnf)
      exact ⟨(60, H10), ⟨rfl, rfl, rfl, rfl, trivial⟩, ⟨rfl, fun _ => rfl, fun k => absurd k hp, g79.trans g10⟩, rfl⟩
  rintro ⟨wt, H7⟩ φ7 _ ⟨rfl, hwt0, hwt1, hg7⟩
  dsimp only at hwt0 hwt1 hg7 ⊢
  have hX7 := hg7.at_ _ _ hX6
  have hY7 := hg7.at_ _ _ hY6
  have hPX7 := hPX6.ext hg7
  have hPY7 := hPY6.ext hg7
  have hcv7 := hcv6.ext hg7
  clear hX6 hY6 hPX6 hPY6 hcv6
  have hwt : ∀ ok e, Err x ok e → ¬ (POk x ∧ ok) → e = wt := fun ok e he hn => by
    by_cases hp : POk x
    · rw [hwt1 hp, he.2 hp fun k => hn ⟨hp, k⟩]
    · rw [hwt0 hp, he.1 hp]
  have hwr : -9223372036854775808 ≤ wt ∧ wt < 9223372036854775808 := by
    by_cases hp : POk x
    · rw [hwt1 hp]; omega
    · rw [hwt0 hp]; omega
  conv => whnf
  refine SeqP.cut (α := Hp) (fun s => [(8, int wt), (7, .slice ac c.length c.length), (6, ptr Y 0), (5, ptr X 0)]) (fun s H => s = H ∧ ¬ (POk x ∧ Cnt c x.n) ∧ Grows H7 s) ?_ ?_
  · conv => whnf
    refine ⟨b9, all_cells hX7 hb9, ?_⟩
    conv => whnf
    refine CallP.mono (RCheck_spec _ x _ hPX7 (by omega) (by omega) (by omega)) ?_
    rintro r8 H8 ⟨⟨b, rfl, hb⟩, g8⟩
    cases b with
    | false =>
      conv => whnf
      repeat (refine SeqP.go ?_; conv => whnf)
      exact ⟨H8, ⟨rfl, rfl, rfl, rfl, trivial⟩, ⟨rfl, fun k => hb.f k.1, g8⟩, rfl⟩
    | true =>
      conv => whnf
      refine ⟨_, cellAt_row (g8.at_ _ _ hX7) y0, ?_⟩
      conv => whnf
      refine CallP.mono (crowded_spec _ c x.n _ (hcv7.ext g8).ints (by omega)) ?_
      rintro r9 H9 ⟨⟨b2, rfl, hb2⟩, rfl⟩
      cases b2 with
      | false =>
        conv => whnf
        repeat (refine SeqP.go ?_; conv => whnf)
        exact ⟨H9, ⟨rfl, rfl, rfl, rfl, trivial⟩, ⟨rfl, fun k => hb2.f k.2, g8⟩, rfl⟩
      | true =>
        conv => whnf
        repeat (refine SeqP.go ?_; conv => whnf)
        refine memo27 ?_
        conv => whnf
        repeat (refine SeqP.go ?_; conv => whnf)
        rfl
  rintro H8 φ8 _ ⟨rfl, hbad, hg8⟩
  have hX8 := hg8.at_ _ _ hX7
  have hY8 := hg8.at_ _ _ hY7
  have hPY8 := hPY7.ext hg8
  have hcv8 := hcv7.ext hg8
  clear hX7 hY7 hPX7 hPY7 hcv7
  conv => whnf
  refine SeqP.cut (α := Nat × Nat × Hp) (fun s => [(20, slc s.1 0 s.2.1 s.2.1), (8, int wt), (7, .slice ac c.length c.length), (6, ptr Y 0), (5, ptr X 0)]) (fun s H => s.2.2 = H ∧ s.2.1 ≤ 9 ∧ s.2.2.at s.1 = some (.row 3 true ((List.replicate s.2.1 0).map int)) ∧ H8.next ≤ s.1 ∧ Grows H8 s.2.2) ?_ ?_
  · conv => whnf
    refine ⟨_, cellAt_row hX8 y0, ?_⟩
    conv => whnf
    refine resP_val (v := int (min x.n 9)) (h := H8) ?_ ?_
    · conv => lhs; whnf
      exact congrArg (HRes.val · _) (min_eq3 _ _)
    have hexk : ∃ k : Nat, max 0 (min x.n 9) = (k : Int) ∧ k ≤ 9 := ⟨(max 0 (min x.n 9)).toNat, by omega, by omega⟩
    obtain ⟨k, hk, hk9⟩ := hexk
    conv => whnf
    refine resP_val (v := int (k : Int)) (h := H8) ?_ ?_
    · conv => lhs; whnf
      exact congrArg (HRes.val · _) ((max_eq3 _ _).trans (congrArg int hk))
    conv => whnf
    refine ⟨⟨by omega, by omega, by omega, by omega⟩, ?_⟩
    conv => whnf
    refine ⟨(H8.next, k, _), ⟨rfl, rfl, rfl, rfl, rfl, trivial⟩, ⟨rfl, hk9, ?_, Nat.le_refl _, Grows.lay _ _⟩, rfl⟩
    rw [← rep_row]
    exact Hp.at_lay_self _ _
  rintro ⟨Z, k, H9⟩ φ9 _ ⟨rfl, hk9, hZ, hZ0, hg9⟩
  dsimp only at hk9 hZ hZ0 hg9 ⊢
  conv => whnf
  refine SeqP.cut (α := List Int × Hp) (fun s => [(20, slc Z 0 k k), (8, int wt), (7, .slice ac c.length c.length), (6, ptr Y 0), (5, ptr X 0)]) (fun s H => s.2 = H ∧ Built H8 s.2 3 (slc Z 0 k k) s.1 ∧ s.1.length ≤ 9 ∧ Grows H8 s.2) ?_ ?_
  · conv => whnf
    repeat (refine SeqP.go ?_; conv => whnf)
    refine cmpB (fun c1 => ?_) (fun c1 => ?_)
    rotate_left
    · conv => whnf
      repeat (refine SeqP.go ?_; conv => whnf)
      refine ⟨(List.replicate k 0, H9), ⟨rfl, rfl, rfl, rfl, rfl, trivial⟩, ⟨rfl, .inr ⟨Z, by rw [List.length_replicate], hZ0, true, hZ⟩, by show (List.replicate k (0 : Int)).length ≤ 9; rw [List.length_replicate]; exact hk9, hg9⟩, rfl⟩
    · conv => whnf
      refine ⟨rfl, ⟨by omega, by omega⟩, ?_⟩
      conv => whnf
      have e9 : storeAt H9 Z (offAt 0 (0 : Int).toNat 1) [int 1] = some (H9.set Z (.row 3 true (((List.replicate k (0 : Int)).set 0 1).map int))) := by
        have := row_store hZ (i := 0) (by rw [List.length_replicate]; omega) 1
        rw [offAt_eq]
        exact this
      refine ⟨rfl, _, e9, ?_⟩
      conv => whnf
      refine ⟨((List.replicate k (0 : Int)).set 0 1, _), ⟨rfl, rfl, rfl, rfl, rfl, trivial⟩, ⟨rfl, .inr ⟨Z, by rw [List.length_set, List.length_replicate], hZ0, true, Hp.at_set_self _ (Hp.lt_of_at hZ)⟩, by show ((List.replicate k (0 : Int)).set 0 1).length ≤ 9; rw [List.length_set, List.length_replicate]; exact hk9, hg9.then_set _ hZ0⟩, rfl⟩
  rintro ⟨zl, H10⟩ φ10 _ ⟨rfl, hzb, hz9, hg10⟩
  dsimp only at hzb hz9 hg10 ⊢
  have hzv := (LV.of hzb).view
  have hY10 := hg10.at_ _ _ hY8
  have hPY10 := hPY8.ext hg10
  have hcv10 := hcv8.ext hg10
  clear hX8 hY8 hPY8 hcv8 hzb hZ hg9 hZ0
  have hexz : ∃ zv : Value, zv = slc Z 0 k k := ⟨_, rfl⟩
  obtain ⟨zv, ezv⟩ := hexz
  have hzs := hzv.known
  conv => whnf
  refine SeqP.cut (α := Hp) (fun s => [(21, .slice none 0 0), (22, int 0), (23, int wt), (8, int wt), (7, .slice ac c.length c.length), (6, ptr Y 0), (20, slc Z 0 k k)]) (fun s H => s = H ∧ Grows H10 s) ?_ ?_
  · conv => whnf
    refine ⟨b8, all_cells hY10 hb8, ?_⟩
    conv => whnf
    refine CallP.mono (Meet_spec _ _ _ x c [] _ hPY10 hcv10.view ⟨none, 0, rfl, fun k hk => by simp at hk⟩ xn (by omega) (by omega) (by omega) (by omega) (by simp)) ?_
    rintro r H11 ⟨⟨w, kk, e, rfl, m0, m1, -⟩, g11⟩
    have hm : e = wt ∧ kk = 0 ∧ w = .slice none 0 0 := by
      by_cases hp : POk x
      · have := m1 hp fun k => hbad ⟨hp, k⟩
        exact ⟨by rw [hwt1 hp]; exact this.1, this.2⟩
      · have := m0 hp
        exact ⟨by rw [hwt0 hp]; exact this.1, this.2⟩
    obtain ⟨rfl, rfl, rfl⟩ := hm
    conv => whnf
    exact ⟨H11, ⟨rfl, rfl, rfl, rfl, rfl, rfl, rfl, trivial⟩, ⟨rfl, g11⟩, rfl⟩
  rintro H11 φ11 _ ⟨rfl, hg11⟩
  have hY11 := hg11.at_ _ _ hY10
  have hPY11 := hPY10.ext hg11
  have hcv11 := hcv10.ext hg11
  have hzv11 := hzv.ext hg11
  conv => whnf
  refine SeqP.cut (α := Hp) (fun s => [(24, .slice none 0 0), (25, .bool false), (26, int wt), (21, .slice none 0 0), (22, int 0), (23, int wt), (8, int wt), (7, .slice ac c.length c.length), (6, ptr Y 0), (20, slc Z 0 k k)]) (fun s H => s = H ∧ Grows H11 s) ?_ ?_
  · conv => whnf
    refine ⟨b8, all_cells hY11 hb8, ?_⟩
    conv => whnf
    refine CallP.mono (Way_bad _ _ _ x zl c _ hPY11 (hzv11) (hcv11.view) xn (by omega) (by omega) (by omega) (by omega) (by omega) (fun k => hbad ⟨k.1, k.2.2⟩)) ?_
    rintro r H12 ⟨⟨e, rfl, he⟩, g12⟩
    have ee := hwt _ _ he (fun k => hbad ⟨k.1, k.2.2⟩)
    subst ee
    conv => whnf
    exact ⟨H12, ⟨rfl, rfl, rfl, rfl, rfl, rfl, rfl, rfl, rfl, rfl, trivial⟩, ⟨rfl, g12⟩, rfl⟩
  rintro H12 φ12 _ ⟨rfl, hg12⟩
  have hY12 := hg12.at_ _ _ hY11
  have hPY12 := hPY11.ext hg12
  have hcv12 := hcv11.ext hg12
  have hzv12 := hzv11.ext hg12
  conv => whnf
  refine SeqP.cut (α := Hp) (fun s => [(27, .slice none 0 0), (28, .bool false), (29, int wt), (24, .slice none 0 0), (25, .bool false), (26, int wt), (21, .slice none 0 0), (22, int 0), (23, int wt), (8, int wt), (7, .slice ac c.length c.length), (6, ptr Y 0), (20, slc Z 0 k k)]) (fun s H => s = H ∧ Grows H12 s) ?_ ?_
  · conv => whnf
    refine ⟨b8, all_cells hY12 hb8, ?_⟩
    conv => whnf
    refine CallP.mono (Way_bad _ _ _ x c zl _ hPY12 (hcv12.view) (hzv12) xn (by omega) (by omega) (by omega) (by omega) (by omega) (fun k => hbad ⟨k.1, k.2.1⟩)) ?_
    rintro r H13 ⟨⟨e, rfl, he⟩, g13⟩
    have ee := hwt _ _ he (fun k => hbad ⟨k.1, k.2.1⟩)
    subst ee
    conv => whnf
    exact ⟨H13, ⟨rfl, rfl, rfl, rfl, rfl, rfl, rfl, rfl, rfl, rfl, rfl, rfl, rfl, trivial⟩, ⟨rfl, g13⟩, rfl⟩
  rintro H13 φ13 _ ⟨rfl, hg13⟩
  have hY13 := hg13.at_ _ _ hY12
  have hPY13 := hPY12.ext hg13
  have hcv13 := hcv12.ext hg13
  have hzv13 := hzv12.ext hg13
  conv => whnf
  refine SeqP.cut (α := Hp) (fun s => [(30, int 0), (31, int wt), (27, .slice none 0 0), (28, .bool false), (29, int wt), (24, .slice none 0 0), (25, .bool false), (26, int wt), (21, .slice none 0 0), (22, int 0), (23, int wt), (8, int wt), (7, .slice ac c.length c.length), (6, ptr Y 0), (20, slc Z 0 k k)]) (fun s H => s = H ∧ Grows H13 s) ?_ ?_
  · conv => whnf
    refine ⟨b8, all_cells hY13 hb8, ?_⟩
    conv => whnf
    refine CallP.mono (Reached_bad _ _ x c _ hPY13 hcv13.view xn (by omega) (by omega) (by omega) (by omega) hbad) ?_
    rintro r H14 ⟨⟨e, rfl, he⟩, g14⟩
    have ee := hwt _ _ he hbad
    subst ee
    conv => whnf
    exact ⟨H14, ⟨rfl, rfl, rfl, rfl, rfl, rfl, rfl, rfl, rfl, rfl, rfl, rfl, rfl, rfl, rfl, trivial⟩, ⟨rfl, g14⟩, rfl⟩
  rintro H14 φ14 _ ⟨rfl, hg14⟩
  have hY14 := hg14.at_ _ _ hY13
  have hPY14 := hPY13.ext hg14
  have hcv14 := hcv13.ext hg14
  have hzv14 := hzv13.ext hg14
  conv => whnf
  refine SeqP.cut (α := Hp) (fun s => [(32, int 0), (33, .bool false), (34, int wt), (30, int 0), (31, int wt), (27, .slice none 0 0), (28, .bool false), (29, int wt), (24, .slice none 0 0), (25, .bool false), (26, int wt), (21, .slice none 0 0), (22, int 0), (23, int wt), (8, int wt), (7, .slice ac c.length c.length), (6, ptr Y 0), (20, slc Z 0 k k)]) (fun s H => s = H ∧ Grows H14 s) ?_ ?_
  · conv => whnf
    refine ⟨b8, all_cells hY14 hb8, ?_⟩
    conv => whnf
    refine CallP.mono (Settled_bad _ _ x c _ hPY14 hcv14.view xn (by omega) (by omega) (by omega) (by omega) hbad) ?_
    rintro r H15 ⟨⟨e, rfl, he⟩, g15⟩
    have ee := hwt _ _ he hbad
    subst ee
    conv => whnf
    exact ⟨H15, ⟨rfl, rfl, rfl, rfl, rfl, rfl, rfl, rfl, rfl, rfl, rfl, rfl, rfl, rfl, rfl, rfl, rfl, rfl, trivial⟩, ⟨rfl, g15⟩, rfl⟩
  rintro H15 φ15 _ ⟨rfl, hg15⟩
  have hY15 := hg15.at_ _ _ hY14
  have hPY15 := hPY14.ext hg15
  have hcv15 := hcv14.ext hg15
  have hzv15 := hzv14.ext hg15
  conv => whnf
  refine SeqP.cut (α := Hp) (fun s => [(35, int 0), (36, .bool false), (37, int wt), (32, int 0), (33, .bool false), (34, int wt), (30, int 0), (31, int wt), (27, .slice none 0 0), (28, .bool false), (29, int wt), (24, .slice none 0 0), (25, .bool false), (26, int wt), (21, .slice none 0 0), (22, int 0), (23, int wt), (8, int wt), (7, .slice ac c.length c.length), (6, ptr Y 0), (20, slc Z 0 k k)]) (fun s H => s = H ∧ Grows H15 s) ?_ ?_
  · conv => whnf
    refine ⟨b8, all_cells hY15 hb8, ?_⟩
    conv => whnf
    refine CallP.mono (Decides_bad _ _ x c _ hPY15 hcv15.view xn (by omega) (by omega) (by omega) (by omega) hbad) ?_
    rintro r H16 ⟨⟨e, rfl, he⟩, g16⟩
    have ee := hwt _ _ he hbad
    subst ee
    conv => whnf
    exact ⟨H16, ⟨rfl, rfl, rfl, rfl, rfl, rfl, rfl, rfl, rfl, rfl, rfl, rfl, rfl, rfl, rfl, rfl, rfl, rfl, rfl, rfl, rfl, trivial⟩, ⟨rfl, g16⟩, rfl⟩
  rintro H16 φ16 _ ⟨rfl, hg16⟩
  have hY16 := hg16.at_ _ _ hY15
  have hPY16 := hPY15.ext hg16
  have hcv16 := hcv15.ext hg16
  have hzv16 := hzv15.ext hg16
  conv => whnf
  refine SeqP.cut (α := Hp) (fun s => [(38, .slice none 0 0), (39, .bool false), (40, int wt), (35, int 0), (36, .bool false), (37, int wt), (32, int 0), (33, .bool false), (34, int wt), (30, int 0), (31, int wt), (27, .slice none 0 0), (28, .bool false), (29, int wt), (24, .slice none 0 0), (25, .bool false), (26, int wt), (21, .slice none 0 0), (22, int 0), (23, int wt), (8, int wt), (7, .slice ac c.length c.length), (6, ptr Y 0), (20, slc Z 0 k k)]) (fun s H => s = H ∧ Grows H16 s) ?_ ?_
  · conv => whnf
    refine ⟨b8, all_cells hY16 hb8, ?_⟩
    conv => whnf
    refine CallP.mono (Forbids_bad _ _ _ x zl c _ hPY16 (hzv16) (hcv16.view) xn (by omega) (by omega) (by omega) (by omega) (by omega) (fun k => hbad ⟨k.1, k.2.2⟩)) ?_
    rintro r H17 ⟨⟨e, rfl, he⟩, g17⟩
    have ee := hwt _ _ he (fun k => hbad ⟨k.1, k.2.2⟩)
    subst ee
    conv => whnf
    exact ⟨H17, ⟨rfl, rfl, rfl, rfl, rfl, rfl, rfl, rfl, rfl, rfl, rfl, rfl, rfl, rfl, rfl, rfl, rfl, rfl, rfl, rfl, rfl, rfl, rfl, rfl, trivial⟩, ⟨rfl, g17⟩, rfl⟩
  rintro H17 φ17 _ ⟨rfl, hg17⟩
  have hY17 := hg17.at_ _ _ hY16
  have hPY17 := hPY16.ext hg17
  have hcv17 := hcv16.ext hg17
  have hzv17 := hzv16.ext hg17
  conv => whnf
  repeat (refine SeqP.go ?_; conv => whnf)
  refine cmpT rfl ?_
  conv => whnf
  refine cmpT rfl ?_
  conv => whnf
  refine cmpT rfl ?_
  conv => whnf
  refine cmpT rfl ?_
  conv => whnf
  refine cmpT rfl ?_
  conv => whnf
  refine cmpT rfl ?_
  conv => whnf
  refine cmpT rfl ?_
  conv => whnf
  refine ⟨0, wie rfl (by omega), ?_⟩
  conv => whnf
  refine ⟨0, wie rfl (by omega), ?_⟩
  conv => whnf
  refine ⟨0, wie rfl (by omega), ?_⟩
  conv => whnf
  refine ⟨0, wie rfl (by omega), ?_⟩
  conv => whnf
  refine ⟨0, wie rfl (by omega), ?_⟩
  conv => whnf
  refine ⟨0, wie rfl (by omega), ?_⟩
  conv => whnf
  refine ⟨0, wie rfl (by omega), ?_⟩
  conv => whnf
  refine cmpT rfl ?_
  conv => whnf
  refine memo27 ?_
  conv => whnf
  repeat (refine SeqP.go ?_; conv => whnf)
  rfl
end
end Go.Proofs.Ytpiplaicnbapbaa
