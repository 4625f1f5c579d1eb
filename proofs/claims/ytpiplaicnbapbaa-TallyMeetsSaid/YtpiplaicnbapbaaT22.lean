/- Contracts of the functions that T22 comes to. -/
import Derived.Test.YtpiplaicnbapbaaT21
import Derived.Test.YtpiplaicnbapbaaTAwake
import Derived.Test.YtpiplaicnbapbaaT15
set_option maxRecDepth 100000
set_option maxHeartbeats 2000000
set_option linter.unusedVariables false
set_option linter.unusedSectionVars false
set_option linter.unusedSimpArgs false
namespace Go.Proofs.Ytpiplaicnbapbaa
open Go.Rx Go.RowKit
theorem keep_view {Hb Ha H1 H2 : Hp} {nv w : Value} {N c : List Int} (hn : Built Hb Ha 3 nv N) (hc : Built Ha H1 3 w c) (keep : ∀ r o, H1.at r = some o → (∀ n c, nv ≠ slc r 0 n c) → H2.at r = some o) : View H2 w c := by
  rcases hc with h1 | ⟨r, e1, h2, y, h3⟩
  · exact Built.view (h0 := H1) (e := 3) (.inl h1)
  · refine Built.view (h0 := Ha) (e := 3) (.inr ⟨r, e1, h2, y, keep r _ h3 ?_⟩)
    intro n c e
    rcases hn with ⟨rfl, _⟩ | ⟨r2, rfl, _, z, h4⟩
    · cases e
    · have : r2 = r := by simp [slc] at e; exact e.1
      subst this
      have := Hp.lt_of_at h4
      omega
attribute [local irreducible] E idxN cellAt cellsAt storeAt callable helems hmoved lookIn findKey keyOk hentries Hp.at Hp.set Hp.lay arBits hupdated setAt CallP YieldP BoolOf IsWrap Rnd LoopP AppP CutP Int.tmod Int.tdiv Int.fdiv
section
variable [Unknowns]
attribute [local irreducible] ResP sameAt
theorem meets_law (ts0 : List Tr) (hy0 : TyT Try.prog 25 ts0) (t1 : Tr) (hy1 : TyT Try.prog 22 [t1]) (t2 : Tr) (hy2 : TyT Try.prog 22 [t2]) : ∀ h vs, AllT h vs [.ag ts0, t1, t2] → CallP E 4 vs h (fun r _ => r = .bool true) := by
  have hmax : maxLen < 9223372036854775808 := by decide
  intro h vs hvs
  match vs, hvs with
  | [a0, a1, a2], hvs =>
  obtain ⟨k0, k1, k2, -⟩ := hvs
  obtain ⟨P, pn, po, ps, pr, hP⟩ := prot_arg hy0
  obtain ⟨l1, rfl, hl1, -⟩ := ty_ints under22 cells3 under3 hy1
  obtain ⟨l2, rfl, hl2, -⟩ := ty_ints under22 cells3 under3 hy2
  have hP := hP h a0 k0
  have hL1 := k1.view
  have hL2 := k2.view
  obtain ⟨bp, rfl, hbp⟩ := hP.box
  have hk := hL1.known
  obtain ⟨al1, cl1, rfl⟩ := hk
  have hk := hL2.known
  obtain ⟨al2, cl2, rfl⟩ := hk
  have g0 : Grows h (h.lay (.row 25 true bp)) := Grows.lay _ _
  have x0 : (h.lay (.row 25 true bp)).at h.next = some (.row 25 true bp) := Hp.at_lay_self _ _
  refine enter4 (by simp) ?_
  conv => whnf
  refine SeqP.go ?_
  conv => whnf
  refine SeqP.cut (α := Prot × List Value × Hp × Nat) (fun s => [(7, ptr s.2.2.2 0), (1, .slice al1 l1.length cl1), (2, .slice al2 l2.length cl2)]) (fun s H => s.2.2.1 = H ∧ Grows h s.2.2.1 ∧ s.2.2.1.at s.2.2.2 = some (.row 26 true s.2.1) ∧ s.2.1.length = 4 ∧ PV s.2.2.1 (.agg ⟨s.2.1⟩) s.1 ∧ POk s.1) ?_ ?_
  · conv => whnf
    refine ⟨bp, all_cells x0 hbp, ?_⟩
    conv => whnf
    refine CallP.mono (tame_spec _ P _ (hP.ext g0) pn (by omega) (by omega) (by omega) 5 (by omega) (by omega)) ?_
    rintro r H2 ⟨⟨x, hx, hok, -⟩, g2⟩
    obtain ⟨v1, v2, v3, rfl, e1, e2, e3⟩ := id hx
    obtain ⟨w1, rfl⟩ := e1.known
    obtain ⟨w2, rfl⟩ := e2.known
    obtain ⟨w3, rfl, -⟩ := e3.slice
    unfold pval at hx ⊢
    conv => whnf
    refine ⟨rfl, _, storeAt_all (vs := [int x.n, .slice w1 x.out.length x.out.length, .slice w2 x.start.length x.start.length, .slice w3 x.rules.length x.rules.length]) rfl rfl rfl, ?_⟩
    conv => whnf
    exact ⟨(x, [int x.n, .slice w1 x.out.length x.out.length, .slice w2 x.start.length x.start.length, .slice w3 x.rules.length x.rules.length], _, H2.next), ⟨rfl, rfl, rfl, trivial⟩, ⟨rfl, (g0.trans g2).then_lay _, Hp.at_lay_self _ _, rfl, hx.ext (Grows.lay _ _), hok⟩, rfl⟩
  rintro ⟨x, b9, H2, X⟩ φ2 _ ⟨rfl, hg2, hX, hb9, hPV, hOk⟩
  dsimp only at hg2 hX hb9 hPV hOk ⊢
  obtain ⟨b9', eb9, -, y0, -, -, ⟨z3, y3, j3⟩, -⟩ := hPV.box
  cases eb9
  have hol := hOk.outl
  have hst2 := hOk.st2
  have hrl := hOk.rl
  have hexn : ∃ n : Nat, x.n = (n : Int) := ⟨x.n.toNat, by have := hOk.n1; omega⟩
  obtain ⟨n, en⟩ := hexn
  have hn5 : n ≤ 5 := by have := hOk.n5; omega
  have hn1 : 1 ≤ n := by have := hOk.n1; omega
  rw [en] at y0
  conv => whnf
  refine SeqP.cut (α := Value × List Int × Hp) (fun s => [(8, s.1), (7, ptr X 0), (2, .slice al2 l2.length cl2)]) (fun s H => s.2.2 = H ∧ LV s.2.2 s.1 s.2.1 ∧ CrOk n s.2.1 ∧ Grows H2 s.2.2) ?_ ?_
  · conv => whnf
    refine ⟨_, cellAt_row hX y0, ?_⟩
    conv => whnf
    refine CallP.mono (gathered_spec _ l1 _ (hL1.ext hg2).ints (by omega) n 9 (by omega) (by omega) (by omega) (by omega)) ?_
    rintro r4 H4 ⟨c, hc1, hc2, hc3, hc4, hc5, g4⟩
    conv => whnf
    exact ⟨(r4, c, H4), ⟨rfl, rfl, rfl, trivial⟩, ⟨rfl, LV.of hc1, ⟨hc2, gl_mem (p := fun x => 0 ≤ x) hc3 (by omega), hc4, by show c.sum ≤ 9; omega⟩, g4⟩, rfl⟩
  rintro ⟨cvv, c, H3⟩ φ3 _ ⟨rfl, hcv, hcr, hg3⟩
  dsimp only at hcv hcr hg3 ⊢
  have hkk := hcv.known
  obtain ⟨acv, rfl⟩ := hkk
  conv => whnf
  refine SeqP.cut (α := Value × Hp) (fun s => [(9, s.1), (8, .slice acv c.length c.length), (7, ptr X 0)]) (fun s H => s.2 = H ∧ LV s.2 s.1 (l2.take 60) ∧ Grows H3 s.2) ?_ ?_
  · conv => whnf
    refine CallP.mono (few_spec _ l2 _ (hL2.ext (hg2.trans hg3)) (by omega) 60 (by omega)) ?_
    rintro r4 H4 ⟨hb, g4⟩
    conv => whnf
    exact ⟨(r4, H4), ⟨rfl, rfl, rfl, trivial⟩, ⟨rfl, LV.of hb, g4⟩, rfl⟩
  rintro ⟨wv, H4⟩ φ4 _ ⟨rfl, hwv, hg4⟩
  dsimp only at hwv hg4 ⊢
  have hX4 := (hg3.trans hg4).at_ _ _ hX
  have hPV4 := hPV.ext (hg3.trans hg4)
  have hcv4 := hcv.ext hg4
  clear hcv hPV hX
  conv => whnf
  refine SeqP.cut (α := Unit) (fun _ => []) (fun _ H => True) ?_ ?_
  rotate_left
  · rintro _ φ9 H9 -
    conv => whnf
    repeat (refine SeqP.go ?_; conv => whnf)
    refine memo27 ?_
    conv => whnf
    rfl
  conv => whnf
  repeat (refine SeqP.go ?_; conv => whnf)
  refine loop_inv (α := Nat × Value × List Int × Hp) (fun s => [(10, int s.1), (9, s.2.1), (8, .slice acv c.length c.length), (7, ptr X 0)]) (fun s => s.2.2.2) (fun s => s.1 ≤ 2 ∧ LV s.2.2.2 s.2.1 s.2.2.1 ∧ s.2.2.1.length ≤ 60 ∧ Grows H4 s.2.2.2) (fun s => 2 - s.1) (0, wv, l2.take 60, H4) ⟨Nat.zero_le _, hwv, by show (l2.take 60).length ≤ 60; rw [List.length_take]; omega, .refl _⟩ ⟨rfl, rfl, rfl, rfl, trivial⟩ (Hp.Le.refl _) ?_
  clear hwv
  rintro ⟨i, wv, W, H⟩ φ5 ⟨hi, hwv, hWl, hgH⟩
  dsimp only at hi hwv hWl hgH ⊢
  conv => whnf
  repeat (refine SeqP.go ?_; conv => whnf)
  refine cmpB (fun c1 => ?_) (fun c1 => ?_)
  rotate_left
  · conv => whnf
    repeat (refine SeqP.go ?_; conv => whnf)
    exact ⟨(), trivial, trivial, rfl⟩
  have hkk := hwv.known
  obtain ⟨aw, rfl⟩ := hkk
  have hXH := hgH.at_ _ _ hX4
  have hPVH := hPV4.ext hgH
  have hcvH := hcv4.ext hgH
  conv => whnf
  refine SeqP.cut (α := Value × List Int × Hp) (fun s => [(10, int i), (9, s.1), (8, .slice acv c.length c.length), (7, ptr X 0)]) (fun s H' => s.2.2 = H' ∧ LV s.2.2 s.1 s.2.1 ∧ s.2.1.length ≤ 60 ∧ Grows H s.2.2) ?_ ?_
  rotate_left
  · rintro ⟨wv', W', H'⟩ φ6 _ ⟨rfl, e1, e2, e3⟩
    dsimp only at e1 e2 e3 ⊢
    conv => whnf
    refine ⟨((i + 1 : Nat) : Int), wie (by omega) (by omega), ?_⟩
    conv => whnf
    exact Rnd.mk (i + 1, wv', W', H') ⟨by show i + 1 ≤ 2; omega, e1, e2, hgH.trans e3⟩ (by show 2 - (i + 1) < 2 - i; omega) ⟨rfl, rfl, rfl, rfl, trivial⟩ (Hp.Le.refl _) rfl
  have hCnt : Cnt c x.n := by rw [en]; exact hcr.cnt
  conv => whnf
  refine SeqP.cut (α := Value × Hp) (fun s => [(11, s.1), (12, int (doW x.rules c W).2), (13, int 0), (10, int i), (9, .slice aw W.length W.length), (8, .slice acv c.length c.length), (7, ptr X 0)]) (fun s H' => s.2 = H' ∧ LV s.2 s.1 (doW x.rules c W).1 ∧ Grows H s.2) ?_ ?_
  · conv => whnf
    refine ⟨b9, all_cells hXH hb9, ?_⟩
    conv => whnf
    refine CallP.mono (given_spec _ x _ hPVH (by omega) (by omega) (by omega)) ?_
    rintro r5 H5 ⟨hr5, g5⟩
    conv => whnf
    refine CallP.mono (Meet_spec _ _ _ x c W _ hr5 (hcvH.ext g5).view (hwv.ext g5).ints (by unfold InR; omega) (by omega) (by omega) (by omega) (by have := hcr.len; omega) (by omega)) ?_
    rintro r6 H6 ⟨⟨w6, k6, e6, rfl, -, -, hm⟩, g6⟩
    obtain ⟨rfl, rfl, hw6⟩ := hm hOk hCnt
    conv => whnf
    exact ⟨(w6, H6), ⟨rfl, rfl, rfl, rfl, rfl, rfl, rfl, trivial⟩, ⟨rfl, LV.of hw6, g5.trans g6⟩, rfl⟩
  rintro ⟨w6, H6⟩ φ6 _ ⟨rfl, hw6, g6⟩
  dsimp only at hw6 g6 ⊢
  have hkk := hw6.known
  obtain ⟨a6, rfl⟩ := hkk
  conv => whnf
  refine SeqP.cut (α := Value × Hp) (fun s => [(14, s.1), (15, int (doW x.rules c W).2), (11, .slice a6 (doW x.rules c W).1.length (doW x.rules c W).1.length), (12, int (doW x.rules c W).2), (13, int 0), (10, int i), (9, .slice aw W.length W.length), (8, .slice acv c.length c.length), (7, ptr X 0)]) (fun s H' => s.2 = H' ∧ View s.2 s.1 (doW x.rules c W).1 ∧ CrOk n (doW x.rules c W).1 ∧ Grows H6 s.2) ?_ ?_
  · conv => whnf
    refine ⟨b9, all_cells (g6.at_ _ _ hXH) hb9, ?_⟩
    conv => whnf
    refine CallP.mono (RDo_spec _ _ _ x c W n _ (hPVH.ext g6) (hcvH.ext g6).view (hwv.ext g6).ints (by omega) hOk en hcr) ?_
    rintro r7 H7 ⟨⟨w7, rfl, hw7⟩, hcr7, g7⟩
    conv => whnf
    exact ⟨(w7, H7), ⟨rfl, rfl, rfl, rfl, rfl, rfl, rfl, rfl, rfl, trivial⟩, ⟨rfl, hw7, hcr7, g7⟩, rfl⟩
  rintro ⟨w7, H7⟩ φ7 _ ⟨rfl, hw7, hcr7, g7⟩
  dsimp only at hw7 hcr7 g7 ⊢
  have hkk := hw7.known
  obtain ⟨a7, c7, rfl⟩ := hkk
  have hdl := hcr7.len
  conv => whnf
  refine SeqP.cut (α := Unit) (fun s => [(10, int i), (9, .slice aw W.length W.length), (8, .slice acv c.length c.length), (7, ptr X 0)]) (fun s H' => H7 = H') ?_ ?_
  · conv => whnf
    repeat (refine SeqP.go ?_; conv => whnf)
    refine cmpF (by omega) ?_
    conv => whnf
    refine CallP.mono (ints_same _ _ _ _ (hw6.ext g7).ints hw7.ints (by omega)) ?_
    rintro r8 H8 ⟨rfl, rfl⟩
    conv => whnf
    refine cmpF (fun k => k rfl) ?_
    conv => whnf
    repeat (refine SeqP.go ?_; conv => whnf)
    exact ⟨(), ⟨rfl, rfl, rfl, rfl, trivial⟩, rfl, rfl⟩
  rintro _ φ8 _ rfl
  have g7' := g6.trans g7
  have hX7 := g7'.at_ _ _ hXH
  have hPV7 := hPVH.ext g7'
  have hcv7 := hcvH.ext g7'
  have hwv7 := hwv.ext g7'
  conv => whnf
  refine SeqP.go ?_
  conv => whnf
  refine SeqP.go ?_
  conv => whnf
  refine SeqP.cut (α := Value × List Int × Hp) (fun s => [(17, s.1), (10, int i), (8, .slice acv c.length c.length), (7, ptr X 0)]) (fun s H' => s.2.2 = H' ∧ LV s.2.2 s.1 s.2.1 ∧ s.2.1.length ≤ 60 ∧ Grows H7 s.2.2) ?_ ?_
  rotate_left
  · rintro ⟨wv', W', H'⟩ φ9 _ ⟨rfl, e1, e2, e3⟩
    dsimp only at e1 e2 e3 ⊢
    have hkk := e1.known
    obtain ⟨a9, rfl⟩ := hkk
    conv => whnf
    exact ⟨(_, W', H'), ⟨rfl, rfl, rfl, rfl, trivial⟩, ⟨rfl, e1, e2, g7'.trans e3⟩, rfl⟩
  conv => whnf
  repeat (refine SeqP.go ?_; conv => whnf)
  refine loop_inv (α := Nat × Value × List Int × Value × List Int × Hp) (fun s => [(18, int s.1), (17, s.2.2.2.1), (16, s.2.1), (10, int i), (9, .slice aw W.length W.length), (8, .slice acv c.length c.length), (7, ptr X 0)]) (fun s => s.2.2.2.2.2) (fun s => s.1 ≤ W.length ∧ View s.2.2.2.2.2 s.2.1 s.2.2.1 ∧ CrOk n s.2.2.1 ∧ Built H7 s.2.2.2.2.2 3 s.2.2.2.1 s.2.2.2.2.1 ∧ s.2.2.2.2.1.length ≤ s.1 ∧ Grows H7 s.2.2.2.2.2) (fun s => W.length - s.1) (0, _, c, .slice none 0 0, [], H7) ⟨Nat.zero_le _, hcv7.view, hcr, .inl ⟨rfl, rfl⟩, Nat.le_refl _, .refl _⟩ ⟨rfl, rfl, rfl, rfl, rfl, rfl, rfl, trivial⟩ (Hp.Le.refl _) ?_
  rintro ⟨j, cuv, cur, nv, N, Hj⟩ φ10 ⟨hj, hcu, hcuk, hnv, hNl, hgj⟩
  dsimp only at hj hcu hcuk hnv hNl hgj ⊢
  have hkk := (LV.of hnv).known
  obtain ⟨an, rfl⟩ := hkk
  have hkk := hcu.known
  obtain ⟨acu, ccu, rfl⟩ := hkk
  conv => whnf
  repeat (refine SeqP.go ?_; conv => whnf)
  refine cmpB (fun c2 => ?_) (fun c2 => ?_)
  rotate_left
  · conv => whnf
    repeat (refine SeqP.go ?_; conv => whnf)
    exact ⟨(_, N, Hj), ⟨rfl, rfl, rfl, rfl, trivial⟩, ⟨rfl, LV.of hnv, by show N.length ≤ 60; omega, hgj⟩, rfl⟩
  have hjl : j < W.length := by omega
  conv => whnf
  refine SeqP.cut (α := Value × List Int × Value × List Int × Hp) (fun s => [(18, int j), (17, s.2.2.1), (16, s.1), (10, int i), (9, .slice aw W.length W.length), (8, .slice acv c.length c.length), (7, ptr X 0)]) (fun s H' => s.2.2.2.2 = H' ∧ View s.2.2.2.2 s.1 s.2.1 ∧ CrOk n s.2.1 ∧ Built H7 s.2.2.2.2 3 s.2.2.1 s.2.2.2.1 ∧ s.2.2.2.1.length ≤ j + 1 ∧ Grows H7 s.2.2.2.2) ?_ ?_
  rotate_left
  · rintro ⟨cuv', cur', nv', N', H'⟩ φ11 _ ⟨rfl, e1, e2, e3, e4, e5⟩
    dsimp only at e1 e2 e3 e4 e5 ⊢
    conv => whnf
    refine ⟨((j + 1 : Nat) : Int), wie (by omega) (by omega), ?_⟩
    conv => whnf
    exact Rnd.mk (j + 1, cuv', cur', nv', N', H') ⟨by show j + 1 ≤ _; omega, e1, e2, e3, e4, e5⟩ (by show _ - (j + 1) < _ - j; omega) ⟨rfl, rfl, rfl, rfl, rfl, rfl, rfl, trivial⟩ (Hp.Le.refl _) rfl
  conv => whnf
  repeat (refine SeqP.go ?_; conv => whnf)
  refine loop_inv (α := Nat × Hp) (fun s => [(19, int s.1), (18, int j), (17, .slice an N.length N.length), (16, .slice acu cur.length ccu), (10, int i), (9, .slice aw W.length W.length), (8, .slice acv c.length c.length), (7, ptr X 0)]) (fun s => s.2) (fun s => s.1 ≤ x.rules.length ∧ Grows Hj s.2) (fun s => x.rules.length - s.1) (0, Hj) ⟨Nat.zero_le _, .refl _⟩ ⟨rfl, rfl, rfl, rfl, rfl, rfl, rfl, rfl, trivial⟩ (Hp.Le.refl _) ?_
  rintro ⟨t, Ht⟩ φ12 ⟨ht, hgt⟩
  dsimp only at ht hgt ⊢
  have hg7t := hgj.trans hgt
  have hXt := hg7t.at_ _ _ hX7
  conv => whnf
  repeat (refine SeqP.go ?_; conv => whnf)
  refine ⟨_, cellAt_row hXt y3, ?_⟩
  conv => whnf
  refine cmpB (fun c3 => ?_) (fun c3 => ?_)
  rotate_left
  · conv => whnf
    repeat (refine SeqP.go ?_; conv => whnf)
    exact ⟨(_, cur, _, N, Ht), ⟨rfl, rfl, rfl, rfl, rfl, rfl, rfl, trivial⟩, ⟨rfl, hcu.ext hgt, hcuk, hnv.ext hgt, by show N.length ≤ j + 1; omega, hg7t⟩, rfl⟩
  have htl : t < x.rules.length := by omega
  have hcc := (hwv7.ext hg7t).ints
  obtain ⟨aw', cw', ew, hcc⟩ := hcc
  cases ew
  have hcc := hcc j hjl
  obtain ⟨r, o, sp, ea, hsp, hci⟩ := hcc
  subst ea
  have hux := u64_of W[j]
  obtain ⟨u, u0, u1, hu⟩ := hux
  have b1 := tmod_bd u0 (show (0 : Int) < (x.rules.length : Int) by omega)
  have hexa : ∃ a : Nat, u.tmod x.rules.length = (a : Int) := ⟨(u.tmod x.rules.length).toNat, by omega⟩
  obtain ⟨a, hna⟩ := hexa
  conv => whnf
  repeat (refine SeqP.go ?_; conv => whnf)
  refine ⟨hsp, ⟨by omega, by omega⟩, ?_⟩
  conv => whnf
  refine ⟨int W[j], by rw [offAt_eq, Nat.add_comm]; simpa using hci, ?_⟩
  conv => whnf
  refine ⟨u, hu, ?_⟩
  conv => whnf
  refine ⟨_, cellAt_row hXt y3, ?_⟩
  conv => whnf
  refine ⟨(x.rules.length : Int), u64_id (by omega), ?_⟩
  conv => whnf
  refine ⟨by omega, ?_⟩
  conv => whnf
  refine ⟨(a : Int), wie hna (by omega), ?_⟩
  conv => whnf
  refine ⟨((a + t : Nat) : Int), wie (by omega) (by omega), ?_⟩
  conv => whnf
  refine ⟨_, cellAt_row hXt y3, ?_⟩
  conv => whnf
  refine ⟨by omega, ?_⟩
  conv => whnf
  refine ⟨b9, all_cells hXt hb9, ?_⟩
  conv => whnf
  refine CallP.mono (RMeet_spec _ _ x cur _ n _ (hPV7.ext hg7t) (hcu.ext hgt) hOk en hcuk) ?_
  rintro r1 H1 ⟨⟨w1, b, rfl, e1, e2⟩, g1⟩
  cases hst : step x.rules cur (((a + t : Nat) : Int).tmod x.rules.length) with
  | none =>
    obtain ⟨rfl, rfl⟩ := e1 hst
    conv => whnf
    repeat (refine SeqP.go ?_; conv => whnf)
    refine ⟨((t + 1 : Nat) : Int), wie (by omega) (by omega), ?_⟩
    conv => whnf
    exact Rnd.mk (t + 1, H1) ⟨by show t + 1 ≤ _; omega, hgt.trans g1⟩ (by show _ - (t + 1) < _ - t; omega) ⟨rfl, rfl, rfl, rfl, rfl, rfl, rfl, rfl, trivial⟩ (Hp.Le.refl _) rfl
  | some cur' =>
    obtain ⟨rfl, hb1⟩ := e2 _ hst
    have hkk := hb1.view.known
    obtain ⟨a1', c1', rfl⟩ := hkk
    have hnvt := hnv.ext hgt
    conv => whnf
    repeat (refine SeqP.go ?_; conv => whnf)
    refine AppP.ints (hnvt.ext (g1.then_lay _)) ((hg7t.trans g1).then_lay _) Elems.lay1 (by simp; omega) ?_
    intro v2 H2' hb2 hg2' keep
    have hcu2 := keep_view hnvt (hb1.ext (Grows.lay _ _)) keep
    have hcr2 := step_ok (fun y hy => by
      obtain ⟨k, hk, rfl⟩ := List.getElem_of_mem hy
      rw [← en]
      exact hOk.qin k hk) hcuk hst
    conv => whnf
    repeat (refine SeqP.go ?_; conv => whnf)
    exact ⟨(_, cur', v2, N ++ [_], H2'), ⟨rfl, rfl, rfl, rfl, rfl, rfl, rfl, trivial⟩, ⟨rfl, hcu2, hcr2, hb2, by show (N ++ [_]).length ≤ j + 1; rw [List.length_append]; simp; omega, hg2'⟩, rfl⟩
end
end Go.Proofs.Ytpiplaicnbapbaa
