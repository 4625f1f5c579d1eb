/- Contracts of the functions that PWD comes to. -/
import Derived.Test.YtpiplaicnbapbaaPWA
import Derived.Test.YtpiplaicnbapbaaWx21
set_option maxRecDepth 100000
set_option maxHeartbeats 2000000
set_option linter.unusedVariables false
set_option linter.unusedSectionVars false
set_option linter.unusedSimpArgs false
namespace Go.Proofs.Ytpiplaicnbapbaa
open Go.Rx Go.RowKit
def qcells (q : Q4) : List Value := [int q.a, int q.b, int q.c, int q.d]
def qv (q : Q4) : Value := .agg ⟨qcells q⟩
theorem allowed_pad {c : List Int} {q : Q4} : Allowed (pad5 c) q ↔ Allowed c q := by unfold Allowed; rw [gl_pad, gl_pad]
theorem after_pad {c : List Int} {q : Q4} (h : QIn c.length q) : after (pad5 c) q = pad5 (after c q) := by
  obtain ⟨h1, h2, h3, h4⟩ := qin h
  unfold after
  rw [bump_pad h1, bump_pad (by rw [bump_len]; exact h2), bump_pad (by rw [bump_len, bump_len]; exact h3), bump_pad (by rw [bump_len, bump_len, bump_len]; exact h4)]
structure AM (h : Hp) (q : Q4) (l : List Int) (H : Hp) : Prop where
  la : H.at h.next = some (.row 107 true (l.map int))
  qa : H.at (h.next + 1) = some (.row 96 true (qcells q))
  za : H.at (h.next + 2) = some (.row 107 true (zero5.map int))
  gr : Grows h H
  len : l.length = 5
theorem AM.put {h : Hp} {q : Q4} {l : List Int} {H : Hp} (k : AM h q l H) (l' : List Int) (hl : l'.length = 5) : AM h q l' (H.set h.next (.row 107 true (l'.map int))) :=
  ⟨Hp.at_set_self _ (Hp.lt_of_at k.la), by rw [Hp.at_set_ne _ (by omega)]; exact k.qa, by rw [Hp.at_set_ne _ (by omega)]; exact k.za, k.gr.then_set _ (Nat.le_refl _), hl⟩
theorem AM.bump {h : Hp} {q : Q4} {l : List Int} {H : Hp} (k : AM h q l H) {i : Int} (hi : 0 ≤ i ∧ i < 5) (x : Int) : storeAt H h.next (offAt 0 i.toNat 1) [int (gl l i.toNat + x)] = some (H.set h.next (.row 107 true ((Ytpiplaicnbapbaa.bump l (i, x)).map int))) := by
  have := row_store k.la (i := i.toNat) (by rw [k.len]; omega) (gl l i.toNat + x)
  rw [offAt_eq]
  unfold Ytpiplaicnbapbaa.bump
  simpa using this
theorem AM.load {h : Hp} {q : Q4} {l : List Int} {H : Hp} (k : AM h q l H) {i : Int} (hi : 0 ≤ i ∧ i < 5) : cellAt H h.next (offAt 0 i.toNat 1) = some (int (gl l i.toNat)) := by
  have := row_load k.la (i := i.toNat) (by rw [k.len]; omega)
  rw [offAt_eq]
  simpa using this
theorem gl_bd_bump {l : List Int} {i x M : Int} (hi : i.toNat < l.length) (h : ∀ j, -M ≤ gl l j ∧ gl l j ≤ M) (hx : -1 ≤ x ∧ x ≤ 1) : ∀ j, -(M + 1) ≤ gl (bump l (i, x)) j ∧ gl (bump l (i, x)) j ≤ M + 1 := fun j => by
  rw [gl_bump hi]
  have := h j
  split <;> omega
attribute [local irreducible] E idxN cellAt cellsAt storeAt callable helems hmoved lookIn findKey keyOk hentries Hp.at Hp.set Hp.lay arBits hupdated setAt CallP YieldP BoolOf IsWrap Rnd LoopP AppP CutP Int.tmod Int.tdiv Int.fdiv
section
variable [Unknowns]
attribute [local irreducible] ResP sameAt finP
theorem after_spec (c : List Int) (q : Q4) (h : Hp) (hc : c.length = 5) (hb : ∀ j, -100 ≤ gl c j ∧ gl c j ≤ 100) (hq : QIn 5 q) : CallP E 75 [cv c, qv q] h (fun r h' => r = cv (after c q) ∧ Grows h h') := by
  have hq' := qin' (n := 5) hq
  have n1 : ∀ o, (h.lay o).next = h.next + 1 := fun o => Hp.next_lay _ _
  unfold cv qv
  refine enter75 (by simp) ?_
  conv => whnf
  refine SeqP.cut (α := Unit) (fun _ => [(2, ptr h.next 0), (3, ptr (h.next + 1) 0), (4, ptr (h.next + 2) 0)]) (fun _ H => AM h q c H) ?_ ?_
  · conv => whnf
    refine ⟨(), ⟨rfl, congrArg (fun k => ptr k 0) (n1 _), congrArg (fun k => ptr k 0) (by simp only [Hp.next_lay]), trivial⟩, ⟨Hp.at_lay_old _ (Hp.at_lay_old _ (Hp.at_lay_self _ _)), Hp.at_lay_old _ (at_nx2 (n1 _) (Hp.at_lay_self _ _)), at_nx2 (by simp only [Hp.next_lay]) (Hp.at_lay_self _ _), ((Grows.lay _ _).then_lay _).then_lay _, hc⟩, rfl⟩
  rintro _ φ0 H0 m0
  have b1l : (bump c (q.a, -1)).length = 5 := by rw [bump_len, hc]
  have b2l : (bump (bump c (q.a, -1)) (q.b, -1)).length = 5 := by rw [bump_len, b1l]
  have b3l : (bump (bump (bump c (q.a, -1)) (q.b, -1)) (q.c, 1)).length = 5 := by rw [bump_len, b2l]
  have b4l : (after c q).length = 5 := by rw [after_len, hc]
  have g1 := gl_bd_bump (i := q.a) (x := -1) (by omega) hb (by omega)
  have g2 := gl_bd_bump (i := q.b) (x := -1) (by omega) g1 (by omega)
  have g3 := gl_bd_bump (i := q.c) (x := 1) (by omega) g2 (by omega)
  conv => whnf
  refine SeqP.cut (α := Unit) (fun _ => [(2, ptr h.next 0), (3, ptr (h.next + 1) 0), (4, ptr (h.next + 2) 0)]) (fun _ H => AM h q (bump c (q.a, -1)) H) ?_ ?_
  · have hx := hb q.a.toNat
    conv => whnf
    refine ⟨⟨by omega, by omega⟩, ?_⟩
    conv => whnf
    refine ⟨_, cellAt_row m0.qa rfl, ?_⟩
    conv => whnf
    refine ⟨⟨by omega, by omega⟩, ?_⟩
    conv => whnf
    refine ⟨_, m0.load hq'.1, ?_⟩
    conv => whnf
    refine ⟨gl c q.a.toNat + -1, wie (by omega) (by omega), ?_⟩
    conv => whnf
    refine ⟨⟨by omega, by omega⟩, ?_⟩
    conv => whnf
    refine ⟨rfl, _, m0.bump hq'.1 (-1), ?_⟩
    conv => whnf
    exact ⟨(), ⟨rfl, rfl, rfl, trivial⟩, m0.put _ b1l, rfl⟩
  rintro _ φ1 H1 m1
  have hexl : ∃ l, bump c (q.a, -1) = l := ⟨_, rfl⟩
  obtain ⟨l1, el1⟩ := hexl
  rw [el1] at m1 g1
  conv => whnf
  refine SeqP.cut (α := Unit) (fun _ => [(2, ptr h.next 0), (3, ptr (h.next + 1) 0), (4, ptr (h.next + 2) 0)]) (fun _ H => AM h q (bump l1 (q.b, -1)) H) ?_ ?_
  · have hx := g1 q.b.toNat
    conv => whnf
    refine ⟨⟨by omega, by omega⟩, ?_⟩
    conv => whnf
    refine ⟨_, cellAt_row m1.qa rfl, ?_⟩
    conv => whnf
    refine ⟨⟨by omega, by omega⟩, ?_⟩
    conv => whnf
    refine ⟨_, m1.load hq'.2.1, ?_⟩
    conv => whnf
    refine ⟨gl l1 q.b.toNat + -1, wie (by omega) (by omega), ?_⟩
    conv => whnf
    refine ⟨⟨by omega, by omega⟩, ?_⟩
    conv => whnf
    refine ⟨rfl, _, m1.bump hq'.2.1 (-1), ?_⟩
    conv => whnf
    exact ⟨(), ⟨rfl, rfl, rfl, trivial⟩, m1.put _ (by rw [← el1]; exact b2l), rfl⟩
  rintro _ φ2 H2 m2
  rw [el1] at b2l b3l g2 g3
  have hexl : ∃ l, bump l1 (q.b, -1) = l := ⟨_, rfl⟩
  obtain ⟨l2, el2⟩ := hexl
  rw [el2] at m2 g2 b2l b3l g3
  conv => whnf
  refine SeqP.cut (α := Unit) (fun _ => [(2, ptr h.next 0), (3, ptr (h.next + 1) 0), (4, ptr (h.next + 2) 0)]) (fun _ H => AM h q (bump l2 (q.c, 1)) H) ?_ ?_
  · have hx := g2 q.c.toNat
    conv => whnf
    refine ⟨⟨by omega, by omega⟩, ?_⟩
    conv => whnf
    refine ⟨_, cellAt_row m2.qa rfl, ?_⟩
    conv => whnf
    refine ⟨⟨by omega, by omega⟩, ?_⟩
    conv => whnf
    refine ⟨_, m2.load hq'.2.2.1, ?_⟩
    conv => whnf
    refine ⟨gl l2 q.c.toNat + 1, wie (by omega) (by omega), ?_⟩
    conv => whnf
    refine ⟨⟨by omega, by omega⟩, ?_⟩
    conv => whnf
    refine ⟨rfl, _, m2.bump hq'.2.2.1 1, ?_⟩
    conv => whnf
    exact ⟨(), ⟨rfl, rfl, rfl, trivial⟩, m2.put _ b3l, rfl⟩
  rintro _ φ3 H3 m3
  have hexl : ∃ l, bump l2 (q.c, 1) = l := ⟨_, rfl⟩
  obtain ⟨l3, el3⟩ := hexl
  rw [el3] at m3 b3l g3
  have eaf : after c q = bump l3 (q.d, 1) := by unfold after; rw [el1, el2, el3]
  rw [eaf] at b4l ⊢
  conv => whnf
  refine SeqP.cut (α := Unit) (fun _ => [(2, ptr h.next 0), (3, ptr (h.next + 1) 0), (4, ptr (h.next + 2) 0)]) (fun _ H => AM h q (bump l3 (q.d, 1)) H) ?_ ?_
  · have hx := g3 q.d.toNat
    conv => whnf
    refine ⟨⟨by omega, by omega⟩, ?_⟩
    conv => whnf
    refine ⟨_, cellAt_row m3.qa rfl, ?_⟩
    conv => whnf
    refine ⟨⟨by omega, by omega⟩, ?_⟩
    conv => whnf
    refine ⟨_, m3.load hq'.2.2.2, ?_⟩
    conv => whnf
    refine ⟨gl l3 q.d.toNat + 1, wie (by omega) (by omega), ?_⟩
    conv => whnf
    refine ⟨⟨by omega, by omega⟩, ?_⟩
    conv => whnf
    refine ⟨rfl, _, m3.bump hq'.2.2.2 1, ?_⟩
    conv => whnf
    exact ⟨(), ⟨rfl, rfl, rfl, trivial⟩, m3.put _ b4l, rfl⟩
  rintro _ φ4 H4 m4
  have hexl : ∃ l, bump l3 (q.d, 1) = l := ⟨_, rfl⟩
  obtain ⟨l4, el4⟩ := hexl
  rw [el4] at m4 b4l ⊢
  conv => whnf
  repeat (refine SeqP.go ?_; conv => whnf)
  refine ⟨l4.map int, all_cells m4.la (by rw [List.length_map, b4l]), ?_⟩
  conv => whnf
  refine ⟨by show (l4.map int).length = 5; rw [List.length_map, b4l], _, storeAt_full (vs := l4.map int) m4.za (by rw [List.length_map, b4l]; rfl) (ints_one _) (over_int (k := zero5) (by rw [b4l]; rfl)), ?_⟩
  conv => whnf
  repeat (refine SeqP.go ?_; conv => whnf)
  obtain ⟨i107, t107, ag107, sz107⟩ := ty107
  refine leave_cell (r := h.next + 2) (o := 0) (cs := l4.map int) rfl t107 ag107 ?_ ⟨rfl, m4.gr.then_set _ (by omega)⟩
  rw [sz107]
  exact all_cells (Hp.at_set_self _ (Hp.lt_of_at m4.za)) (by rw [List.length_map, b4l])
theorem allows_spec (c : List Int) (q : Q4) (h : Hp) (hc : c.length = 5) (hq : QIn 5 q) : CallP E 74 [cv c, qv q] h (fun r h' => (∃ b, r = .bool b ∧ BoolOf b (Allowed c q)) ∧ Grows h h') := by
  have hq' := qin' (n := 5) hq
  have n1 : ∀ o, (h.lay o).next = h.next + 1 := fun o => Hp.next_lay _ _
  have g0 : Grows h ((h.lay (.row 107 true (c.map int))).lay (.row 96 true (qcells q))) := (Grows.lay _ _).then_lay _
  have a0 : ((h.lay (.row 107 true (c.map int))).lay (.row 96 true (qcells q))).at h.next = some (.row 107 true (c.map int)) := Hp.at_lay_old _ (Hp.at_lay_self _ _)
  have a1 : ((h.lay (.row 107 true (c.map int))).lay (.row 96 true (qcells q))).at (h.lay (.row 107 true (c.map int))).next = some (.row 96 true (qcells q)) := Hp.at_lay_self _ _
  have ld : ∀ i : Int, 0 ≤ i ∧ i < 5 → cellAt ((h.lay (.row 107 true (c.map int))).lay (.row 96 true (qcells q))) h.next (offAt 0 i.toNat 1) = some (int (gl c i.toNat)) := fun i hi => by
    have := row_load a0 (i := i.toNat) (by omega)
    rw [offAt_eq]
    simpa using this
  unfold cv qv
  refine enter74 (by simp) ?_
  conv => whnf
  repeat (refine SeqP.go ?_; conv => whnf)
  refine ⟨⟨by omega, by omega⟩, ?_⟩
  conv => whnf
  refine ⟨_, cellAt_row a1 rfl, ?_⟩
  conv => whnf
  refine ⟨⟨by omega, by omega⟩, ?_⟩
  conv => whnf
  refine ⟨_, cellAt_row a1 rfl, ?_⟩
  conv => whnf
  repeat (refine SeqP.go ?_; conv => whnf)
  refine cmpB (fun c1 => ?_) (fun c1 => ?_)
  · conv => whnf
    repeat (refine SeqP.go ?_; conv => whnf)
    refine ⟨⟨by omega, by omega⟩, ?_⟩
    conv => whnf
    refine ⟨_, ld q.a hq'.1, ?_⟩
    conv => whnf
    refine cmpB (fun c2 => ?_) (fun c2 => ?_)
    · conv => whnf
      repeat (refine SeqP.go ?_; conv => whnf)
      exact finP_one rfl rfl ⟨⟨true, rfl, bo_yes (by unfold Allowed; rw [if_pos c1]; omega)⟩, g0⟩
    · conv => whnf
      repeat (refine SeqP.go ?_; conv => whnf)
      exact finP_one rfl rfl ⟨⟨false, rfl, bo_no (by unfold Allowed; rw [if_pos c1]; omega)⟩, g0⟩
  conv => whnf
  repeat (refine SeqP.go ?_; conv => whnf)
  refine ⟨⟨by omega, by omega⟩, ?_⟩
  conv => whnf
  refine ⟨_, ld q.a hq'.1, ?_⟩
  conv => whnf
  refine cmpB (fun c2 => ?_) (fun c2 => ?_)
  rotate_left
  · conv => whnf
    repeat (refine SeqP.go ?_; conv => whnf)
    exact finP_one rfl rfl ⟨⟨false, rfl, bo_no (by unfold Allowed; rw [if_neg c1]; omega)⟩, g0⟩
  conv => whnf
  refine ⟨⟨by omega, by omega⟩, ?_⟩
  conv => whnf
  refine ⟨_, ld q.b hq'.2.1, ?_⟩
  conv => whnf
  refine cmpB (fun c3 => ?_) (fun c3 => ?_)
  · conv => whnf
    repeat (refine SeqP.go ?_; conv => whnf)
    exact finP_one rfl rfl ⟨⟨true, rfl, bo_yes (by unfold Allowed; rw [if_neg c1]; omega)⟩, g0⟩
  · conv => whnf
    repeat (refine SeqP.go ?_; conv => whnf)
    exact finP_one rfl rfl ⟨⟨false, rfl, bo_no (by unfold Allowed; rw [if_neg c1]; omega)⟩, g0⟩
end
end Go.Proofs.Ytpiplaicnbapbaa
namespace Go.Proofs.Ytpiplaicnbapbaa
open Go.Rx Go.RowKit
attribute [local irreducible] E idxN cellAt cellsAt storeAt callable helems hmoved lookIn findKey keyOk hentries Hp.at Hp.set Hp.lay arBits hupdated setAt CallP YieldP BoolOf IsWrap Rnd LoopP AppP CutP Int.tmod Int.tdiv Int.fdiv
section
variable [Unknowns]
attribute [local irreducible] ResP sameAt finP
theorem read_spec (v w : Value) (p : Prot) (c : List Int) (h : Hp) (hv : PV h v p) (hw : View h w c) (hn : InR p.n) (ho : p.out.length ≤ 1000000) (hs : p.start.length ≤ 1000000) (hr : p.rules.length ≤ 1000000) (hcl : c.length ≤ 1000000) : CallP E 73 [v, w] h (fun r h' => ReadR p c r ∧ Grows h h') := by
  obtain ⟨bx, rfl, hbl, b0, -⟩ := hv.box
  obtain ⟨ak, ck, rfl⟩ := hw.known
  have hexR : ∃ R, (h.lay (.row 25 true bx)).next = R ∧ h.next < R := ⟨_, rfl, by rw [Hp.next_lay]; omega⟩
  obtain ⟨R, eR, hR⟩ := hexR
  have g2 : Grows h ((h.lay (.row 25 true bx)).lay (.row 107 true (zero5.map int))) := (Grows.lay _ _).then_lay _
  have a1 : ((h.lay (.row 25 true bx)).lay (.row 107 true (zero5.map int))).at h.next = some (.row 25 true bx) := Hp.at_lay_old _ (Hp.at_lay_self _ _)
  have a2 : ((h.lay (.row 25 true bx)).lay (.row 107 true (zero5.map int))).at (h.lay (.row 25 true bx)).next = some (.row 107 true (zero5.map int)) := Hp.at_lay_self _ _
  obtain ⟨i107, t107, ag107, sz107⟩ := ty107
  have fin : ∀ (φ : Rx.Frame) (H : Hp) (l : List Int) (e : Int), φ 4 = ptr R 0 → φ 5 = int e → H.at R = some (.row 107 true (l.map int)) → l.length = 5 → Grows h H → ReadR p c (.tuple ⟨[cv l, int e]⟩) → finP E [.cell 4 107, .tmp 5] ⟨φ, H, []⟩ (fun r h' => ReadR p c r ∧ Grows h h') := by
    intro φ H l e h4 h5 hat hl hg hq
    refine leave_cell2 (cs := l.map int) h4 h5 rfl t107 ag107 ?_ ⟨hq, hg⟩
    rw [sz107]
    exact all_cells hat (by rw [List.length_map, hl])
  refine enter73 (by simp) ?_
  conv => whnf
  refine SeqP.go ?_
  conv => whnf
  refine SeqP.cut (α := Hp) (fun _ => [(2, ptr h.next 0), (4, ptr (h.lay (.row 25 true bx)).next 0), (1, .slice ak c.length ck)]) (fun s H => s = H ∧ POk p ∧ Grows h s ∧ s.at h.next = some (.row 25 true bx) ∧ s.at (h.lay (.row 25 true bx)).next = some (.row 107 true (zero5.map int))) ?_ ?_
  · conv => whnf
    repeat (refine SeqP.go ?_; conv => whnf)
    refine ⟨bx, all_cells a1 hbl, ?_⟩
    conv => whnf
    refine CallP.mono (check_spec _ p _ (hv.ext g2) hn ho hs hr) ?_
    rintro r h1 ⟨⟨e, rfl, he1, he2⟩, g1⟩
    have g1' : Grows ((h.lay (.row 25 true bx)).lay (.row 107 true (zero5.map int))) h1 := g1
    by_cases hP : POk p
    · have := he1 hP
      subst this
      conv => whnf
      repeat (refine SeqP.go ?_; conv => whnf)
      refine cmpF (by omega) ?_
      conv => whnf
      repeat (refine SeqP.go ?_; conv => whnf)
      exact ⟨h1, ⟨rfl, rfl, rfl, trivial⟩, ⟨rfl, hP, g2.trans g1', g1'.at_ _ _ a1, g1'.at_ _ _ a2⟩, rfl⟩
    · have := he2 hP
      subst this
      conv => whnf
      repeat (refine SeqP.go ?_; conv => whnf)
      refine cmpT (by omega) ?_
      conv => whnf
      refine ⟨rfl, _, storeAt_full (vs := zero5.map int) (g1'.at_ _ _ a2) rfl rfl rfl, ?_⟩
      conv => whnf
      repeat (refine SeqP.go ?_; conv => whnf)
      exact fin _ _ zero5 60 (congrArg (fun k => ptr k 0) eR) rfl (by rw [← eR]; exact Hp.at_set_self _ (Hp.lt_of_at (g1'.at_ _ _ a2))) rfl ((g2.trans g1').then_set _ (by rw [Hp.next_lay]; omega)) ⟨zero5, 60, rfl, rfl, fun _ => rfl, fun k => absurd k hP, fun k => absurd k hP⟩
  rintro h1 φ1 _ ⟨rfl, hP, g1, b1, b2⟩
  rw [eR] at b2 ⊢
  conv => whnf
  refine SeqP.cut (α := Unit) (fun _ => [(2, ptr h.next 0), (4, ptr R 0), (1, .slice ak c.length ck)]) (fun s H => h1 = H ∧ Cnt c p.n) ?_ ?_
  · conv => whnf
    repeat (refine SeqP.go ?_; conv => whnf)
    refine ⟨_, cellAt_row b1 b0, ?_⟩
    conv => whnf
    refine CallP.mono (isCount_spec _ c p.n _ (hw.ext g1).ints hcl) ?_
    rintro r h2 ⟨⟨b, rfl, hb⟩, rfl⟩
    cases b with
    | true =>
      have hC := hb.t
      conv => whnf
      repeat (refine SeqP.go ?_; conv => whnf)
      exact ⟨(), ⟨rfl, rfl, rfl, trivial⟩, ⟨rfl, hC⟩, rfl⟩
    | false =>
      have hC := hb.f
      conv => whnf
      repeat (refine SeqP.go ?_; conv => whnf)
      refine ⟨rfl, _, storeAt_full (vs := zero5.map int) b2 rfl rfl rfl, ?_⟩
      conv => whnf
      repeat (refine SeqP.go ?_; conv => whnf)
      exact fin _ _ zero5 1 rfl rfl (Hp.at_set_self _ (Hp.lt_of_at b2)) rfl (g1.then_set _ (by omega)) ⟨zero5, 1, rfl, rfl, fun k => absurd hP k, fun _ _ => rfl, fun _ k => absurd k hC⟩
  rintro _ φ2 _ ⟨rfl, hC⟩
  have hc5 : c.length ≤ 5 := by have := hC.1; have := hP.n5; omega
  have hp5 := pad5_len hc5
  conv => whnf
  repeat (refine SeqP.go ?_; conv => whnf)
  refine CallP.mono (crowdOf_spec _ c _ (hw.ext g1) hc5) ?_
  rintro r h3 ⟨rfl, g3⟩
  have b3 := g3.at_ _ _ b2
  unfold cv
  conv => whnf
  refine ⟨by show ((pad5 c).map int).length = 5; rw [List.length_map, hp5], _, storeAt_full (vs := (pad5 c).map int) b3 (by rw [List.length_map, hp5]; rfl) (ints_one _) (over_int (k := zero5) (by rw [hp5]; rfl)), ?_⟩
  conv => whnf
  repeat (refine SeqP.go ?_; conv => whnf)
  exact fin _ _ (pad5 c) 0 rfl rfl (Hp.at_set_self _ (Hp.lt_of_at b3)) hp5 ((g1.trans g3).then_set _ (by omega)) ⟨pad5 c, 0, rfl, hp5, fun k => absurd hP k, fun _ k => absurd hC k, fun _ _ => ⟨rfl, rfl⟩⟩
end
end Go.Proofs.Ytpiplaicnbapbaa
namespace Go.Proofs.Ytpiplaicnbapbaa
open Go.Rx Go.RowKit
theorem POk.qin {p : Prot} (h : POk p) : ∀ k, (hk : k < p.rules.length) → QIn p.n p.rules[k] := fun k hk => (h.rs k hk hk).1
theorem step_no {R : List Q4} {c : List Int} {i : Int} (h : ¬ (0 ≤ i ∧ i < R.length)) : step R c i = none := dif_neg h
theorem step_not {R : List Q4} {c : List Int} {i : Int} (h : 0 ≤ i ∧ i < R.length) (k : ¬ Allowed c (R[i.toNat]'(by omega))) : step R c i = none := by
  unfold step
  rw [dif_pos h, if_neg k]
theorem step_yes {R : List Q4} {c : List Int} {i : Int} (h : 0 ≤ i ∧ i < R.length) (k : Allowed c (R[i.toNat]'(by omega))) : step R c i = some (after c (R[i.toNat]'(by omega))) := by
  unfold step
  rw [dif_pos h, if_pos k]
theorem doW_stop {R : List Q4} {c cur W : List Int} {k : Nat} (hk : k < W.length) (e : doW R c W = ((doW R cur (W.drop k)).1, k + (doW R cur (W.drop k)).2)) (h : step R cur W[k] = none) : doW R c W = (cur, k) := by
  rw [List.drop_eq_getElem_cons hk, doW_none h] at e
  simpa using e
theorem doW_end {R : List Q4} {c cur W : List Int} {k : Nat} (hk : W.length ≤ k) (e : doW R c W = ((doW R cur (W.drop k)).1, k + (doW R cur (W.drop k)).2)) : doW R c W = (cur, k) := by
  rw [List.drop_of_length_le hk] at e
  simpa [doW] using e
theorem doW_go {R : List Q4} {c cur cur' W : List Int} {k : Nat} (hk : k < W.length) (e : doW R c W = ((doW R cur (W.drop k)).1, k + (doW R cur (W.drop k)).2)) (h : step R cur W[k] = some cur') : doW R c W = ((doW R cur' (W.drop (k + 1))).1, (k + 1) + (doW R cur' (W.drop (k + 1))).2) := by
  rw [List.drop_eq_getElem_cons hk, doW_some h] at e
  rw [e]
  refine congrArg _ ?_
  dsimp only
  omega
end Go.Proofs.Ytpiplaicnbapbaa
namespace Go.Proofs.Ytpiplaicnbapbaa
open Go.Rx Go.RowKit
structure BM (h : Hp) (Q r : Nat) (x : Bool) (q : Q4) (l : List Int) (n : Nat) (H : Hp) : Prop where
  la : H.at r = some (.row 3 x (l.map int))
  qa : H.at Q = some (.row 96 true (qcells q))
  gr : Grows h H
  len : l.length = n
  hr : h.next ≤ r
  ne : Q ≠ r
theorem BM.put {h : Hp} {Q r : Nat} {x : Bool} {q : Q4} {l : List Int} {n : Nat} {H : Hp} (k : BM h Q r x q l n H) (l' : List Int) (hl : l'.length = n) : BM h Q r x q l' n (H.set r (.row 3 x (l'.map int))) :=
  ⟨Hp.at_set_self _ (Hp.lt_of_at k.la), by rw [Hp.at_set_ne _ k.ne]; exact k.qa, k.gr.then_set _ k.hr, hl, k.hr, k.ne⟩
theorem BM.bump {h : Hp} {Q r : Nat} {e : Bool} {q : Q4} {l : List Int} {n : Nat} {H : Hp} (k : BM h Q r e q l n H) {i : Int} (hi : 0 ≤ i ∧ i < n) (x : Int) : storeAt H r (offAt 0 i.toNat 1) [int (gl l i.toNat + x)] = some (H.set r (.row 3 e ((Ytpiplaicnbapbaa.bump l (i, x)).map int))) := by
  have := row_store k.la (i := i.toNat) (by rw [k.len]; omega) (gl l i.toNat + x)
  rw [offAt_eq]
  unfold Ytpiplaicnbapbaa.bump
  simpa using this
theorem BM.load {h : Hp} {Q r : Nat} {e : Bool} {q : Q4} {l : List Int} {n : Nat} {H : Hp} (k : BM h Q r e q l n H) {i : Int} (hi : 0 ≤ i ∧ i < n) : cellAt H r (offAt 0 i.toNat 1) = some (int (gl l i.toNat)) := by
  have := row_load k.la (i := i.toNat) (by rw [k.len]; omega)
  rw [offAt_eq]
  simpa using this
theorem BM.built {h : Hp} {Q r : Nat} {x : Bool} {q : Q4} {l : List Int} {n : Nat} {H : Hp} (k : BM h Q r x q l n H) : Built h H 3 (slc r 0 n n) l := .inr ⟨r, by rw [k.len], k.hr, x, k.la⟩
def RMeetR (p : Prot) (c : List Int) (i : Int) (w : Value) (h h' : Hp) (r : Value) : Prop := ∃ (wv : Value) (b : Bool), r = .tuple ⟨[wv, .bool b]⟩ ∧ (step p.rules c i = none → b = false ∧ wv = w) ∧ (∀ c', step p.rules c i = some c' → b = true ∧ Built h h' 3 wv c')
attribute [local irreducible] E idxN cellAt cellsAt storeAt callable helems hmoved lookIn findKey keyOk hentries Hp.at Hp.set Hp.lay arBits hupdated setAt CallP YieldP BoolOf IsWrap Rnd LoopP AppP CutP Int.tmod Int.tdiv Int.fdiv
section
variable [Unknowns]
attribute [local irreducible] ResP sameAt
theorem RMeet_spec (v w : Value) (p : Prot) (c : List Int) (i : Int) (n : Nat) (h : Hp) (hv : PV h v p) (hw : View h w c) (hP : POk p) (en : p.n = n) (hc : CrOk n c) : CallP E 38 [v, w, int i] h (fun r h' => RMeetR p c i w h h' r ∧ Grows h h') := by
  obtain ⟨bx, rfl, hbl, b0, -, -, ⟨a3, b3, k3⟩, -⟩ := hv.box
  obtain ⟨ac, cc, rfl⟩ := hw.known
  have hcl := hc.len
  have hn5 : n ≤ 5 := by have := hP.n5; omega
  have hn1 : 1 ≤ n := by have := hP.n1; omega
  have hrl := hP.rl
  have hqin := hP.qin
  rw [en] at hqin
  have g0 : Grows h (h.lay (.row 26 true bx)) := Grows.lay _ _
  have a0 : (h.lay (.row 26 true bx)).at h.next = some (.row 26 true bx) := Hp.at_lay_self _ _
  refine enter38 (by simp) ?_
  conv => whnf
  refine SeqP.go ?_
  conv => whnf
  refine SeqP.cut (α := Unit) (fun _ => [(3, ptr h.next 0), (2, int i), (1, .slice ac c.length cc)]) (fun _ H => H = h.lay (.row 26 true bx) ∧ 0 ≤ i ∧ i < p.rules.length) ?_ ?_
  · conv => whnf
    repeat (refine SeqP.go ?_; conv => whnf)
    refine cmpB (fun c2 => ?_) (fun c2 => ?_)
    · conv => whnf
      repeat (refine SeqP.go ?_; conv => whnf)
      exact ⟨⟨_, false, rfl, fun _ => ⟨rfl, rfl⟩, fun c' e => by rw [step_no (by omega)] at e; cases e⟩, g0⟩
    conv => whnf
    refine ⟨_, cellAt_row a0 b3, ?_⟩
    conv => whnf
    refine cmpB (fun c3 => ?_) (fun c3 => ?_)
    · conv => whnf
      repeat (refine SeqP.go ?_; conv => whnf)
      exact ⟨⟨_, false, rfl, fun _ => ⟨rfl, rfl⟩, fun c' e => by rw [step_no (by omega)] at e; cases e⟩, g0⟩
    · conv => whnf
      repeat (refine SeqP.go ?_; conv => whnf)
      exact ⟨(), ⟨rfl, rfl, rfl, trivial⟩, ⟨rfl, by omega, by omega⟩, rfl⟩
  rintro _ φ1 _ ⟨rfl, hi0, hi1⟩
  have hii : 0 ≤ i ∧ i < p.rules.length := ⟨hi0, hi1⟩
  have hil : i.toNat < p.rules.length := by omega
  have hkf := RV.cells (show RV (h.lay (.row 26 true bx)) _ p.rules from BuiltC.ext g0 k3)
  obtain ⟨a3', e3', hkf⟩ := hkf
  cases e3'
  have hkg := hkf i.toNat hil
  clear hkf
  obtain ⟨rr, ear, hkc⟩ := hkg
  subst ear
  have hqi := hqin i.toNat hil
  have hno := fun x => step_not (c := c) hii x
  have hyes := fun x => step_yes (c := c) hii x
  have hexq : ∃ q, p.rules[i.toNat] = q := ⟨_, rfl⟩
  obtain ⟨q, eq⟩ := hexq
  rw [eq] at hkc hqi hno hyes
  have hq' := qin' hqi
  have hexQ : ∃ Q, (h.lay (.row 26 true bx)).next = Q ∧ h.next < Q := ⟨_, rfl, by rw [Hp.next_lay]; omega⟩
  obtain ⟨Q, eQ, hQ⟩ := hexQ
  conv => whnf
  refine SeqP.cut (α := Unit) (fun _ => [(8, ptr Q 0), (1, .slice ac c.length cc)]) (fun _ H => H = (h.lay (.row 26 true bx)).lay (.row 96 true (qcells q))) ?_ ?_
  · conv => whnf
    refine ⟨_, cellAt_row a0 b3, ?_⟩
    conv => whnf
    refine ⟨rfl, ⟨by omega, by omega⟩, ?_⟩
    conv => whnf
    refine ⟨[int q.a, int q.b, int q.c, int q.d], by rw [offAt_eq]; simpa using hkc, ?_⟩
    conv => whnf
    refine ⟨rfl, _, storeAt_all (vs := [int q.a, int q.b, int q.c, int q.d]) rfl rfl rfl, ?_⟩
    conv => whnf
    exact ⟨(), ⟨congrArg (fun k => ptr k 0) eQ, rfl, trivial⟩, rfl, rfl⟩
  rintro _ φ2 H2 eH2
  have hQa : H2.at Q = some (.row 96 true (qcells q)) := by rw [eH2, ← eQ]; exact Hp.at_lay_self _ _
  have g2 : Grows h H2 := by rw [eH2]; exact g0.then_lay _
  clear eH2 eQ
  have hn2 : Q < H2.next := Hp.lt_of_at hQa
  conv => whnf
  refine SeqP.go ?_
  conv => whnf
  refine SeqP.cut (α := Nat × Bool) (fun s => [(9, slc s.1 0 n n), (8, ptr Q 0), (1, .slice ac c.length cc)]) (fun s H => BM h Q s.1 s.2 q c n H) ?_ ?_
  · conv => whnf
    refine AppP.ints (h0 := H2) (l := []) (new := c) (.inl ⟨rfl, rfl⟩) (Grows.refl _) (hw.ext g2).elems (by simp; omega) ?_
    intro v3 H3 hb3 hg3 _
    rw [List.nil_append] at hb3
    rcases hb3 with ⟨rfl, e⟩ | ⟨r, rfl, hr, x, hat⟩
    · rw [e] at hcl; simp at hcl; omega
    conv => whnf
    exact ⟨(r, x), ⟨by rw [← hcl]; rfl, rfl, rfl, trivial⟩, ⟨hat, hg3.at_ _ _ hQa, g2.trans hg3, hcl, by show h.next ≤ r; omega, by show Q ≠ r; omega⟩, rfl⟩
  rintro ⟨r, x⟩ φ3 H3 m0
  dsimp only at m0 ⊢
  have hb : ∀ j, -100 ≤ gl c j ∧ gl c j ≤ 100 := fun j => by
    have := hc.nn j
    have := hc.le j
    omega
  have hga := gl_bump2 (l := c) (j := q.a) (x := -1) (by omega)
  have b1l : (bump c (q.a, -1)).length = n := by rw [bump_len, hcl]
  have b2l : (bump (bump c (q.a, -1)) (q.b, -1)).length = n := by rw [bump_len, b1l]
  have hgb := gl_bump2 (l := bump c (q.a, -1)) (j := q.b) (x := -1) (by omega)
  have b3l : (bump (bump (bump c (q.a, -1)) (q.b, -1)) (q.c, 1)).length = n := by rw [bump_len, b2l]
  have b4l : (after c q).length = n := by rw [after_len, hcl]
  have g1 := gl_bd_bump (i := q.a) (x := -1) (by omega) hb (by omega)
  have g22 := gl_bd_bump (i := q.b) (x := -1) (by omega) g1 (by omega)
  have g3 := gl_bd_bump (i := q.c) (x := 1) (by omega) g22 (by omega)
  conv => whnf
  refine SeqP.cut (α := Unit) (fun _ => [(9, slc r 0 n n), (8, ptr Q 0), (1, .slice ac c.length cc)]) (fun _ H => BM h Q r x q (bump c (q.a, -1)) n H) ?_ ?_
  · have hx := hb q.a.toNat
    conv => whnf
    refine ⟨⟨by omega, by omega⟩, ?_⟩
    conv => whnf
    refine ⟨_, cellAt_row m0.qa rfl, ?_⟩
    conv => whnf
    refine ⟨rfl, ⟨by omega, by omega⟩, ?_⟩
    conv => whnf
    refine ⟨_, m0.load hq'.1, ?_⟩
    conv => whnf
    refine ⟨gl c q.a.toNat + -1, wie (by omega) (by omega), ?_⟩
    conv => whnf
    refine ⟨rfl, ⟨by omega, by omega⟩, ?_⟩
    conv => whnf
    refine ⟨rfl, _, m0.bump hq'.1 (-1), ?_⟩
    conv => whnf
    exact ⟨(), ⟨rfl, rfl, rfl, trivial⟩, m0.put _ (b1l), rfl⟩
  rintro _ φ_m1 H_m1 m1
  have hexl : ∃ l, bump c (q.a, -1) = l := ⟨_, rfl⟩
  obtain ⟨l1, el1⟩ := hexl
  rw [el1] at m1 g1 b1l hga hgb
  conv => whnf
  refine SeqP.cut (α := Unit) (fun _ => [(9, slc r 0 n n), (8, ptr Q 0), (1, .slice ac c.length cc)]) (fun _ H => BM h Q r x q (bump l1 (q.b, -1)) n H) ?_ ?_
  · have hx := g1 q.b.toNat
    conv => whnf
    refine ⟨⟨by omega, by omega⟩, ?_⟩
    conv => whnf
    refine ⟨_, cellAt_row m1.qa rfl, ?_⟩
    conv => whnf
    refine ⟨rfl, ⟨by omega, by omega⟩, ?_⟩
    conv => whnf
    refine ⟨_, m1.load hq'.2.1, ?_⟩
    conv => whnf
    refine ⟨gl l1 q.b.toNat + -1, wie (by omega) (by omega), ?_⟩
    conv => whnf
    refine ⟨rfl, ⟨by omega, by omega⟩, ?_⟩
    conv => whnf
    refine ⟨rfl, _, m1.bump hq'.2.1 (-1), ?_⟩
    conv => whnf
    exact ⟨(), ⟨rfl, rfl, rfl, trivial⟩, m1.put _ (by rw [← el1]; exact b2l), rfl⟩
  rintro _ φ_m2 H_m2 m2
  rw [el1] at b2l b3l g22 g3
  have hexl : ∃ l, bump l1 (q.b, -1) = l := ⟨_, rfl⟩
  obtain ⟨l2, el2⟩ := hexl
  rw [el2] at m2 g22 b2l b3l g3 hgb
  have hall : Allowed c q ↔ ¬ (gl l2 q.a.toNat < 0) ∧ ¬ (gl l2 q.b.toNat < 0) := by
    rw [hgb, hga, hgb, hga]
    unfold Allowed
    have i1 := ind_eq (rfl : q.a.toNat = q.a.toNat)
    have i2 := ind_eq (rfl : q.b.toNat = q.b.toNat)
    by_cases e : q.a = q.b
    · rw [if_pos e, e] at *
      omega
    · rw [if_neg e, ind_ne (show q.a.toNat ≠ q.b.toNat by omega), ind_ne (show q.b.toNat ≠ q.a.toNat by omega), i1, i2]
      omega
  conv => whnf
  refine SeqP.cut (α := Unit) (fun _ => [(9, slc r 0 n n), (8, ptr Q 0), (1, .slice ac c.length cc)]) (fun _ H => H_m2 = H ∧ Allowed c q) ?_ ?_
  · conv => whnf
    refine ⟨⟨by omega, by omega⟩, ?_⟩
    conv => whnf
    refine ⟨_, cellAt_row m2.qa rfl, ?_⟩
    conv => whnf
    refine ⟨rfl, ⟨by omega, by omega⟩, ?_⟩
    conv => whnf
    refine ⟨_, m2.load hq'.1, ?_⟩
    conv => whnf
    refine cmpB (fun c2 => ?_) (fun c2 => ?_)
    · have hna : ¬ Allowed c q := fun k => (hall.1 k).1 c2
      conv => whnf
      repeat (refine SeqP.go ?_; conv => whnf)
      exact ⟨⟨_, false, rfl, fun _ => ⟨rfl, rfl⟩, fun c' e => by rw [hno hna] at e; cases e⟩, m2.gr⟩
    conv => whnf
    refine ⟨⟨by omega, by omega⟩, ?_⟩
    conv => whnf
    refine ⟨_, cellAt_row m2.qa rfl, ?_⟩
    conv => whnf
    refine ⟨rfl, ⟨by omega, by omega⟩, ?_⟩
    conv => whnf
    refine ⟨_, m2.load hq'.2.1, ?_⟩
    conv => whnf
    refine cmpB (fun c3 => ?_) (fun c3 => ?_)
    · have hna : ¬ Allowed c q := fun k => (hall.1 k).2 c3
      conv => whnf
      repeat (refine SeqP.go ?_; conv => whnf)
      exact ⟨⟨_, false, rfl, fun _ => ⟨rfl, rfl⟩, fun c' e => by rw [hno hna] at e; cases e⟩, m2.gr⟩
    · conv => whnf
      repeat (refine SeqP.go ?_; conv => whnf)
      exact ⟨(), ⟨rfl, rfl, rfl, trivial⟩, ⟨rfl, hall.2 ⟨c2, c3⟩⟩, rfl⟩
  rintro _ φ8 _ ⟨rfl, hal⟩
  conv => whnf
  refine SeqP.cut (α := Unit) (fun _ => [(9, slc r 0 n n), (8, ptr Q 0), (1, .slice ac c.length cc)]) (fun _ H => BM h Q r x q (bump l2 (q.c, 1)) n H) ?_ ?_
  · have hx := g22 q.c.toNat
    conv => whnf
    refine ⟨⟨by omega, by omega⟩, ?_⟩
    conv => whnf
    refine ⟨_, cellAt_row m2.qa rfl, ?_⟩
    conv => whnf
    refine ⟨rfl, ⟨by omega, by omega⟩, ?_⟩
    conv => whnf
    refine ⟨_, m2.load hq'.2.2.1, ?_⟩
    conv => whnf
    refine ⟨gl l2 q.c.toNat + 1, wie (by omega) (by omega), ?_⟩
    conv => whnf
    refine ⟨rfl, ⟨by omega, by omega⟩, ?_⟩
    conv => whnf
    refine ⟨rfl, _, m2.bump hq'.2.2.1 (1), ?_⟩
    conv => whnf
    exact ⟨(), ⟨rfl, rfl, rfl, trivial⟩, m2.put _ (b3l), rfl⟩
  rintro _ φ_m3 H_m3 m3
  have hexl : ∃ l, bump l2 (q.c, 1) = l := ⟨_, rfl⟩
  obtain ⟨l3, el3⟩ := hexl
  rw [el3] at m3 b3l g3
  have eaf : after c q = bump l3 (q.d, 1) := by unfold after; rw [el1, el2, el3]
  have hyes := hyes hal
  rw [eaf] at b4l hyes
  conv => whnf
  refine SeqP.cut (α := Unit) (fun _ => [(9, slc r 0 n n), (8, ptr Q 0), (1, .slice ac c.length cc)]) (fun _ H => BM h Q r x q (bump l3 (q.d, 1)) n H) ?_ ?_
  · have hx := g3 q.d.toNat
    conv => whnf
    refine ⟨⟨by omega, by omega⟩, ?_⟩
    conv => whnf
    refine ⟨_, cellAt_row m3.qa rfl, ?_⟩
    conv => whnf
    refine ⟨rfl, ⟨by omega, by omega⟩, ?_⟩
    conv => whnf
    refine ⟨_, m3.load hq'.2.2.2, ?_⟩
    conv => whnf
    refine ⟨gl l3 q.d.toNat + 1, wie (by omega) (by omega), ?_⟩
    conv => whnf
    refine ⟨rfl, ⟨by omega, by omega⟩, ?_⟩
    conv => whnf
    refine ⟨rfl, _, m3.bump hq'.2.2.2 (1), ?_⟩
    conv => whnf
    exact ⟨(), ⟨rfl, rfl, rfl, trivial⟩, m3.put _ (b4l), rfl⟩
  rintro _ φ_m4 H_m4 m4
  conv => whnf
  repeat (refine SeqP.go ?_; conv => whnf)
  exact ⟨⟨_, true, rfl, fun e => (by rw [hyes] at e; cases e), fun c' e => by rw [hyes] at e; cases e; exact ⟨rfl, m4.built⟩⟩, m4.gr⟩
end
end Go.Proofs.Ytpiplaicnbapbaa
namespace Go.Proofs.Ytpiplaicnbapbaa
open Go.Rx Go.RowKit
def RDoR (p : Prot) (c W : List Int) (h' : Hp) (r : Value) : Prop := ∃ (wv : Value), r = .tuple ⟨[wv, int (doW p.rules c W).2]⟩ ∧ View h' wv (doW p.rules c W).1
attribute [local irreducible] E idxN cellAt cellsAt storeAt callable helems hmoved lookIn findKey keyOk hentries Hp.at Hp.set Hp.lay arBits hupdated setAt CallP YieldP BoolOf IsWrap Rnd LoopP AppP CutP Int.tmod Int.tdiv Int.fdiv
section
variable [Unknowns]
attribute [local irreducible] ResP sameAt
theorem RDo_spec (v w u : Value) (p : Prot) (c W : List Int) (n : Nat) (h : Hp) (hv : PV h v p) (hw : View h w c) (hu : Ints h u W) (hWl : W.length ≤ 1000000) (hP : POk p) (en : p.n = n) (hc : CrOk n c) : CallP E 36 [v, w, u] h (fun r h' => RDoR p c W h' r ∧ CrOk n (doW p.rules c W).1 ∧ Grows h h') := by
  obtain ⟨bx, rfl, hbl, b0, -⟩ := hv.box
  obtain ⟨ac, cc, rfl⟩ := hw.known
  obtain ⟨aw, cw, rfl, hcw⟩ := id hu
  have hR : ∀ x ∈ p.rules, QIn n x := fun x hx => by
    obtain ⟨k, hk, rfl⟩ := List.getElem_of_mem hx
    rw [← en]
    exact hP.qin k hk
  have g0 : Grows h (h.lay (.row 26 true bx)) := Grows.lay _ _
  have a0 : (h.lay (.row 26 true bx)).at h.next = some (.row 26 true bx) := Hp.at_lay_self _ _
  refine enter36 (by simp) ?_
  conv => whnf
  refine SeqP.go ?_
  conv => whnf
  refine SeqP.cut (α := Nat × List Int × Value × Hp) (fun s => [(1, s.2.2.1), (2, .slice aw W.length cw)]) (fun s H => s.2.2.2 = H ∧ s.1 = W.length ∧ doW p.rules c W = (s.2.1, s.1) ∧ CrOk n s.2.1 ∧ Grows h s.2.2.2 ∧ View s.2.2.2 s.2.2.1 s.2.1) ?_ ?_
  rotate_left
  · rintro ⟨k, cur, wv, H⟩ φ9 _ ⟨rfl, hk, hdo, hcu, hg, hvw⟩
    dsimp only at hk hdo hcu hg hvw ⊢
    have kk := hvw.known
    obtain ⟨a', c', rfl⟩ := kk
    conv => whnf
    repeat (refine SeqP.go ?_; conv => whnf)
    exact ⟨⟨_, by rw [hdo, ← hk]; rfl, by rw [hdo]; exact hvw⟩, by rw [hdo]; exact hcu, hg⟩
  conv => whnf
  repeat (refine SeqP.go ?_; conv => whnf)
  refine loop_inv (α := Nat × List Int × Value × Hp) (fun s => [(8, int s.1), (1, s.2.2.1), (3, ptr h.next 0), (2, .slice aw W.length cw)]) (fun s => s.2.2.2) (fun s => s.1 ≤ W.length ∧ CrOk n s.2.1 ∧ doW p.rules c W = ((doW p.rules s.2.1 (W.drop s.1)).1, s.1 + (doW p.rules s.2.1 (W.drop s.1)).2) ∧ Grows h s.2.2.2 ∧ s.2.2.2.at h.next = some (.row 26 true bx) ∧ View s.2.2.2 s.2.2.1 s.2.1) (fun s => W.length - s.1) (0, c, _, _) ⟨Nat.zero_le _, hc, by simp, g0, a0, hw.ext g0⟩ ⟨rfl, rfl, rfl, rfl, trivial⟩ (Hp.Le.refl _) ?_
  rintro ⟨k, cur, wv, H0⟩ φ3 ⟨hk, hcu, hdo, hg, ha, hvw⟩
  dsimp only at hk hcu hdo hg ha hvw ⊢
  have kk := hvw.known
  obtain ⟨a', c', rfl⟩ := kk
  conv => whnf
  repeat (refine SeqP.go ?_; conv => whnf)
  refine cmpB (fun c1 => ?_) (fun c1 => ?_)
  rotate_left
  · conv => whnf
    repeat (refine SeqP.go ?_; conv => whnf)
    exact ⟨(k, cur, _, H0), ⟨rfl, rfl, trivial⟩, ⟨rfl, by show k = _; omega, doW_end (by omega) hdo, hcu, hg, hvw⟩, rfl⟩
  have hkl : k < W.length := by omega
  have hcc := (hu.ext hg)
  obtain ⟨aw', cw', ew, hcc⟩ := hcc
  cases ew
  have hcc := hcc k hkl
  obtain ⟨r, o, sp, ea, hsp, hci⟩ := hcc
  subst ea
  have hstop := doW_stop hkl hdo
  have hgo := fun cur' => doW_go (cur' := cur') hkl hdo
  have hexi : ∃ i, W[k] = i := ⟨_, rfl⟩
  obtain ⟨i, ei⟩ := hexi
  rw [ei] at hci hstop hgo
  conv => whnf
  repeat (refine SeqP.go ?_; conv => whnf)
  refine ⟨bx, all_cells ha hbl, ?_⟩
  conv => whnf
  refine ⟨hsp, ⟨by omega, by omega⟩, ?_⟩
  conv => whnf
  refine ⟨int i, by rw [offAt_eq, Nat.add_comm]; simpa using hci, ?_⟩
  conv => whnf
  refine CallP.mono (RMeet_spec _ _ p cur i n _ (hv.ext hg) hvw hP en hcu) ?_
  rintro r1 H1 ⟨⟨w1, b, rfl, e1, e2⟩, g1⟩
  have hg1 := hg.trans g1
  cases hst : step p.rules cur i with
  | none =>
    obtain ⟨rfl, rfl⟩ := e1 hst
    have hfin := hstop hst
    conv => whnf
    repeat (refine SeqP.go ?_; conv => whnf)
    exact ⟨⟨_, by rw [hfin]; rfl, by rw [hfin]; exact hvw.ext g1⟩, by rw [hfin]; exact hcu, hg1⟩
  | some cur' =>
    obtain ⟨rfl, hb1⟩ := e2 _ hst
    have hv1 := hb1.view
    have kk := hv1.known
    obtain ⟨a2, c2, rfl⟩ := kk
    conv => whnf
    repeat (refine SeqP.go ?_; conv => whnf)
    refine ⟨((k + 1 : Nat) : Int), wie (by omega) (by omega), ?_⟩
    conv => whnf
    exact Rnd.mk (k + 1, cur', _, H1) ⟨by show k + 1 ≤ _; omega, step_ok hR hcu hst, hgo _ hst, hg1, g1.at_ _ _ ha, hv1⟩ (by show _ - (k + 1) < _ - k; omega) ⟨rfl, rfl, rfl, rfl, trivial⟩ (Hp.Le.refl _) rfl
end
end Go.Proofs.Ytpiplaicnbapbaa
namespace Go.Proofs.Ytpiplaicnbapbaa
open Go.Rx Go.RowKit
def PL (h : Hp) (v : Value) (p : Prot) : Prop := ∃ vo vs vr, v = pval p.n vo vs vr ∧ View h vo p.out ∧ View h vs p.start ∧ LentV h vr p.rules.length (flat4 p.rules)
theorem PL.ext {h h' : Hp} {v : Value} {p : Prot} (g : Grows h h') (k : PL h v p) : PL h' v p := by
  obtain ⟨a, b, c, e, h1, h2, h3⟩ := k
  exact ⟨a, b, c, e, h1.ext g, h2.ext g, h3.ext g⟩
end Go.Proofs.Ytpiplaicnbapbaa
namespace Go.Proofs.Ytpiplaicnbapbaa
open Go.Rx Go.RowKit
theorem leave_cell3 {φ : Rx.Frame} {h : Hp} {a b c : Nat} {t : TypeId} {r s : Nat} {i : TI} {cs ds : List Value} {w : Value} {Q : Value → Hp → Prop} (ha : φ a = ptr r 0) (hb : φ b = ptr s 0) (hc : φ c = w) (hw : isUndef w = false) (ht : E.ty t = some i) (hi : i.agg = true) (h1 : cellsAt h r 0 i.size = some cs) (h2 : cellsAt h s 0 i.size = some ds) (hq : Q (.tuple ⟨[.agg ⟨cs⟩, .agg ⟨ds⟩, w]⟩) h) : finP E [.cell a t, .cell b t, .tmp c] ⟨φ, h, []⟩ Q := by
  have e1 : ∀ (a r : Nat) (cs : List Value), φ a = ptr r 0 → cellsAt h r 0 i.size = some cs → resultφ E φ h (.cell a t) = some (.agg ⟨cs⟩) := by
    intro a r cs ha h1
    unfold resultφ
    dsimp only
    rw [ha]
    dsimp only [ptr]
    unfold hload
    rw [ht]
    dsimp only
    unfold hloadTI
    rw [hi]
    dsimp only
    rw [h1]
    rfl
  have e2 : resultφ E φ h (.tmp c) = some w := by
    unfold resultφ
    dsimp only
    rw [hc, hw]
  have e : resultsφ E φ h [.cell a t, .cell b t, .tmp c] = some [.agg ⟨cs⟩, .agg ⟨ds⟩, w] := by
    simp only [resultsφ, e1 a r cs ha h1, e1 b s ds hb h2, e2]
  unfold finP
  dsimp only
  rw [show takeMarksφ [] h = some h from rfl]
  dsimp only
  rw [e]
  exact hq
theorem sameV_int3 (n : Int) : sameV 3 (int n) (int n) = true := by
  show eqI n n = true
  unfold eqI
  cases n <;> simp
theorem all_same : ∀ l : List Int, ((l.map int).zip (l.map int)).all (fun p => sameV 3 p.1 p.2) = true
  | [] => rfl
  | x :: l => by
    show (sameV 3 (int x) (int x) && ((l.map int).zip (l.map int)).all (fun p => sameV 3 p.1 p.2)) = true
    rw [sameV_int3, all_same l]
    rfl
theorem sameV_cv (l : List Int) : sameV 4 (.agg ⟨l.map int⟩) (.agg ⟨l.map int⟩) = true := by
  show (Nat.beq _ _ && ((l.map int).zip (l.map int)).all fun p => sameV 3 p.1 p.2) = true
  rw [all_same, Nat.beq_refl]
  rfl
def BothR (p : Prot) (a b : List Int) (r : Value) : Prop := ∃ (la lb : List Int) (e : Int), r = .tuple ⟨[cv la, cv lb, int e]⟩ ∧ la.length = 5 ∧ lb.length = 5 ∧ (¬ POk p → e = 60) ∧ (POk p → ¬ (Cnt a p.n ∧ Cnt b p.n) → e = 1) ∧ (POk p → Cnt a p.n → Cnt b p.n → e = 0 ∧ la = pad5 a ∧ lb = pad5 b)
attribute [local irreducible] E idxN cellAt cellsAt storeAt callable helems hmoved lookIn findKey keyOk hentries Hp.at Hp.set Hp.lay arBits hupdated setAt CallP YieldP BoolOf IsWrap Rnd LoopP AppP CutP Int.tmod Int.tdiv Int.fdiv
section
variable [Unknowns]
attribute [local irreducible] ResP sameAt finP
theorem both_spec (v w u : Value) (p : Prot) (a b : List Int) (h : Hp) (hv : PV h v p) (hw : View h w a) (hu : View h u b) (hn : InR p.n) (ho : p.out.length ≤ 1000000) (hs : p.start.length ≤ 1000000) (hr : p.rules.length ≤ 1000000) (hal : a.length ≤ 1000000) (hbl' : b.length ≤ 1000000) : CallP E 76 [v, w, u] h (fun r h' => BothR p a b r ∧ Grows h h') := by
  obtain ⟨bx, rfl, hbl, b0, -⟩ := hv.box
  obtain ⟨aa, ca, rfl⟩ := hw.known
  obtain ⟨ab, cb, rfl⟩ := hu.known
  have hexA : ∃ A, (h.lay (.row 25 true bx)).next = A ∧ h.next < A := ⟨_, rfl, by rw [Hp.next_lay]; omega⟩
  obtain ⟨A, eA, hA⟩ := hexA
  have hexB : ∃ B, ((h.lay (.row 25 true bx)).lay (.row 107 true (zero5.map int))).next = B ∧ A < B := ⟨_, rfl, by rw [Hp.next_lay, eA]; omega⟩
  obtain ⟨B, eB, hB⟩ := hexB
  have g3 : Grows h (((h.lay (.row 25 true bx)).lay (.row 107 true (zero5.map int))).lay (.row 107 true (zero5.map int))) := ((Grows.lay _ _).then_lay _).then_lay _
  have a1 : (((h.lay (.row 25 true bx)).lay (.row 107 true (zero5.map int))).lay (.row 107 true (zero5.map int))).at h.next = some (.row 25 true bx) := Hp.at_lay_old _ (Hp.at_lay_old _ (Hp.at_lay_self _ _))
  have a2 : (((h.lay (.row 25 true bx)).lay (.row 107 true (zero5.map int))).lay (.row 107 true (zero5.map int))).at A = some (.row 107 true (zero5.map int)) := by rw [← eA]; exact Hp.at_lay_old _ (Hp.at_lay_self _ _)
  have a3 : (((h.lay (.row 25 true bx)).lay (.row 107 true (zero5.map int))).lay (.row 107 true (zero5.map int))).at B = some (.row 107 true (zero5.map int)) := by rw [← eB]; exact Hp.at_lay_self _ _
  obtain ⟨i107, t107, ag107, sz107⟩ := ty107
  have fin : ∀ (φ : Rx.Frame) (H : Hp) (l m : List Int) (e : Int), φ 6 = ptr A 0 → φ 7 = ptr B 0 → φ 8 = int e → H.at A = some (.row 107 true (l.map int)) → H.at B = some (.row 107 true (m.map int)) → l.length = 5 → m.length = 5 → Grows h H → BothR p a b (.tuple ⟨[cv l, cv m, int e]⟩) → finP E [.cell 6 107, .cell 7 107, .tmp 8] ⟨φ, H, []⟩ (fun r h' => BothR p a b r ∧ Grows h h') := by
    intro φ H l m e h4 h5 h6 hat hat2 hl hm hg hq
    refine leave_cell3 (cs := l.map int) (ds := m.map int) h4 h5 h6 rfl t107 ag107 ?_ ?_ ⟨hq, hg⟩
    · rw [sz107]
      exact all_cells hat (by rw [List.length_map, hl])
    · rw [sz107]
      exact all_cells hat2 (by rw [List.length_map, hm])
  refine enter76 (by simp) ?_
  conv => whnf
  refine SeqP.go ?_
  conv => whnf
  refine SeqP.cut (α := Hp × List Int × Int) (fun s => [(8, int s.2.2), (6, ptr A 0), (7, ptr B 0), (3, ptr h.next 0), (2, .slice ab b.length cb)]) (fun s H => s.1 = H ∧ s.2.1.length = 5 ∧ Grows h s.1 ∧ s.1.at h.next = some (.row 25 true bx) ∧ s.1.at A = some (.row 107 true (s.2.1.map int)) ∧ s.1.at B = some (.row 107 true (zero5.map int)) ∧ (¬ POk p → s.2.2 = 60) ∧ (POk p → ¬ Cnt a p.n → s.2.2 = 1) ∧ (POk p → Cnt a p.n → s.2.2 = 0 ∧ s.2.1 = pad5 a)) ?_ ?_
  · conv => whnf
    refine ⟨bx, all_cells a1 hbl, ?_⟩
    conv => whnf
    refine CallP.mono (read_spec _ _ p a _ (hv.ext g3) (hw.ext g3) hn ho hs hr hal) ?_
    rintro r h1 ⟨⟨l, e, rfl, hl, e1, e2, e3⟩, g1⟩
    have g1' : Grows (((h.lay (.row 25 true bx)).lay (.row 107 true (zero5.map int))).lay (.row 107 true (zero5.map int))) h1 := g1
    have d1 := g1'.at_ _ _ a1
    have d2 := g1'.at_ _ _ a2
    have d3 := g1'.at_ _ _ a3
    unfold cv
    conv => whnf
    refine ⟨by show (l.map int).length = 5; rw [List.length_map, hl], _, storeAt_full (vs := l.map int) (at_nx2 eA.symm d2) (by rw [List.length_map, hl]; rfl) (ints_one _) (over_int (k := zero5) (by rw [hl]; rfl)), ?_⟩
    conv => whnf
    refine ⟨(_, l, e), ⟨rfl, congrArg (fun k => ptr k 0) eA, congrArg (fun k => ptr k 0) eB, rfl, rfl, trivial⟩, ⟨rfl, hl, (g3.trans g1').then_set _ (by rw [eA]; omega), ?_, ?_, ?_, e1, e2, e3⟩, rfl⟩
    · show (h1.set _ _).at _ = _
      rw [Hp.at_set_ne _ (by rw [eA]; omega)]; exact d1
    · show (h1.set _ _).at _ = _
      rw [eA]; exact Hp.at_set_self _ (Hp.lt_of_at d2)
    · show (h1.set _ _).at _ = _
      rw [Hp.at_set_ne _ (by rw [eA]; omega)]; exact d3
  rintro ⟨h1, l, e⟩ φ1 _ ⟨rfl, hl, g1, d1, d2, d3, e1, e2, e3⟩
  dsimp only at hl g1 d1 d2 d3 e1 e2 e3 ⊢
  have put2 : ∀ (H : Hp) (l m : List Int), H.at A = some (.row 107 true (l.map int)) → H.at B = some (.row 107 true (m.map int)) → l.length = 5 → m.length = 5 → ∃ H', storeAt H A 0 (zero5.map int) = some (H.set A (.row 107 true (zero5.map int))) ∧ storeAt (H.set A (.row 107 true (zero5.map int))) B 0 (zero5.map int) = some H' ∧ H'.at A = some (.row 107 true (zero5.map int)) ∧ H'.at B = some (.row 107 true (zero5.map int)) ∧ (Grows h H → Grows h H') := by
    intro H l m hA' hB' hl hm
    have hB2 : (H.set A (.row 107 true (zero5.map int))).at B = some (.row 107 true (m.map int)) := by rw [Hp.at_set_ne _ (by omega)]; exact hB'
    refine ⟨_, storeAt_full hA' (by rw [List.length_map, List.length_map, hl]; rfl) rfl (over_int (by rw [hl]; rfl)), storeAt_full hB2 (by rw [List.length_map, List.length_map, hm]; rfl) rfl (over_int (by rw [hm]; rfl)), ?_, ?_, fun g => (g.then_set _ (by omega)).then_set _ (by omega)⟩
    · rw [Hp.at_set_ne _ (by omega)]
      exact Hp.at_set_self _ (Hp.lt_of_at hA')
    · exact Hp.at_set_self _ (Hp.lt_of_at hB2)
  have z5 : zero5.length = 5 := rfl
  conv => whnf
  refine SeqP.cut (α := Unit) (fun s => [(6, ptr A 0), (7, ptr B 0), (3, ptr h.next 0), (2, .slice ab b.length cb)]) (fun s H => h1 = H ∧ POk p ∧ Cnt a p.n ∧ l = pad5 a) ?_ ?_
  · conv => whnf
    repeat (refine SeqP.go ?_; conv => whnf)
    by_cases hP : POk p
    · by_cases hC : Cnt a p.n
      · obtain ⟨ee, el⟩ := e3 hP hC
        subst ee
        refine cmpF (by omega) ?_
        conv => whnf
        repeat (refine SeqP.go ?_; conv => whnf)
        exact ⟨(), ⟨rfl, rfl, rfl, rfl, trivial⟩, ⟨rfl, hP, hC, el⟩, rfl⟩
      · have ee := e2 hP hC
        subst ee
        refine cmpT (by omega) ?_
        conv => whnf
        obtain ⟨H', s1, s2, s3, s4, s5⟩ := put2 h1 l zero5 d2 d3 hl rfl
        refine ⟨rfl, _, s1, ?_⟩
        conv => whnf
        refine ⟨rfl, _, s2, ?_⟩
        conv => whnf
        repeat (refine SeqP.go ?_; conv => whnf)
        exact fin _ _ zero5 zero5 1 rfl rfl rfl s3 s4 rfl rfl (s5 g1) ⟨_, _, _, rfl, rfl, rfl, fun k => absurd hP k, fun _ _ => rfl, fun _ k => absurd k hC⟩
    · have ee := e1 hP
      subst ee
      refine cmpT (by omega) ?_
      conv => whnf
      obtain ⟨H', s1, s2, s3, s4, s5⟩ := put2 h1 l zero5 d2 d3 hl rfl
      refine ⟨rfl, _, s1, ?_⟩
      conv => whnf
      refine ⟨rfl, _, s2, ?_⟩
      conv => whnf
      repeat (refine SeqP.go ?_; conv => whnf)
      exact fin _ _ zero5 zero5 60 rfl rfl rfl s3 s4 rfl rfl (s5 g1) ⟨_, _, _, rfl, rfl, rfl, fun _ => rfl, fun k => absurd k hP, fun k => absurd k hP⟩
  rintro _ φ2 _ ⟨rfl, hP, hC, rfl⟩
  conv => whnf
  refine SeqP.cut (α := Hp × List Int × Int) (fun s => [(8, int s.2.2), (6, ptr A 0), (7, ptr B 0)]) (fun s H => s.1 = H ∧ s.2.1.length = 5 ∧ Grows h s.1 ∧ s.1.at A = some (.row 107 true ((pad5 a).map int)) ∧ s.1.at B = some (.row 107 true (s.2.1.map int)) ∧ (¬ Cnt b p.n → s.2.2 = 1) ∧ (Cnt b p.n → s.2.2 = 0 ∧ s.2.1 = pad5 b)) ?_ ?_
  · conv => whnf
    refine ⟨bx, all_cells d1 hbl, ?_⟩
    conv => whnf
    refine CallP.mono (read_spec _ _ p b _ (hv.ext g1) (hu.ext g1) hn ho hs hr hbl') ?_
    rintro r h2 ⟨⟨m, e, rfl, hm, f1, f2, f3⟩, g2⟩
    have c1 := g2.at_ _ _ d2
    have c2 := g2.at_ _ _ d3
    unfold cv
    conv => whnf
    refine ⟨by show (m.map int).length = 5; rw [List.length_map, hm], _, storeAt_full (vs := m.map int) c2 (by rw [List.length_map, hm]; rfl) (ints_one _) (over_int (k := zero5) (by rw [hm]; rfl)), ?_⟩
    conv => whnf
    refine ⟨(_, m, e), ⟨rfl, rfl, rfl, trivial⟩, ⟨rfl, hm, (g1.trans g2).then_set _ (by omega), ?_, ?_, f2 hP, f3 hP⟩, rfl⟩
    · show (h2.set _ _).at _ = _
      rw [Hp.at_set_ne _ (by omega)]; exact c1
    · show (h2.set _ _).at _ = _
      exact Hp.at_set_self _ (Hp.lt_of_at c2)
  rintro ⟨h2, m, e'⟩ φ3 _ ⟨rfl, hm, g2, c1, c2, f1, f2⟩
  dsimp only at hm g2 c1 c2 f1 f2 ⊢
  conv => whnf
  refine SeqP.cut (α := Unit) (fun s => [(6, ptr A 0), (7, ptr B 0)]) (fun s H => h2 = H ∧ Cnt b p.n ∧ m = pad5 b) ?_ ?_
  · conv => whnf
    repeat (refine SeqP.go ?_; conv => whnf)
    by_cases hC2 : Cnt b p.n
    · obtain ⟨ee, el⟩ := f2 hC2
      subst ee
      refine cmpF (by omega) ?_
      conv => whnf
      repeat (refine SeqP.go ?_; conv => whnf)
      exact ⟨(), ⟨rfl, rfl, trivial⟩, ⟨rfl, hC2, el⟩, rfl⟩
    · have ee := f1 hC2
      subst ee
      refine cmpT (by omega) ?_
      conv => whnf
      obtain ⟨H', s1, s2, s3, s4, s5⟩ := put2 h2 _ m c1 c2 hl hm
      refine ⟨rfl, _, s1, ?_⟩
      conv => whnf
      refine ⟨rfl, _, s2, ?_⟩
      conv => whnf
      repeat (refine SeqP.go ?_; conv => whnf)
      exact fin _ _ zero5 zero5 1 rfl rfl rfl s3 s4 rfl rfl (s5 g2) ⟨_, _, _, rfl, rfl, rfl, fun k => absurd hP k, fun _ _ => rfl, fun _ _ k => absurd k hC2⟩
  rintro _ φ4 _ ⟨rfl, hC2, rfl⟩
  conv => whnf
  repeat (refine SeqP.go ?_; conv => whnf)
  refine ⟨(pad5 a).map int, all_cells c1 (by rw [List.length_map, hl]), ?_⟩
  conv => whnf
  refine ⟨(pad5 b).map int, all_cells c2 (by rw [List.length_map, hm]), ?_⟩
  conv => whnf
  have c2' : (h2.set A (.row 107 true ((pad5 a).map int))).at B = some (.row 107 true ((pad5 b).map int)) := by rw [Hp.at_set_ne _ (by omega)]; exact c2
  refine ⟨by show ((pad5 a).map int).length = 5; rw [List.length_map, hl], _, storeAt_full (vs := (pad5 a).map int) c1 rfl (ints_one _) (over_int rfl), ?_⟩
  conv => whnf
  refine ⟨by show ((pad5 b).map int).length = 5; rw [List.length_map, hm], _, storeAt_full (vs := (pad5 b).map int) c2' rfl (ints_one _) (over_int rfl), ?_⟩
  conv => whnf
  have c1' : (h2.set A (.row 107 true ((pad5 a).map int))).at A = some (.row 107 true ((pad5 a).map int)) := Hp.at_set_self _ (Hp.lt_of_at c1)
  have c1'' : ((h2.set A (.row 107 true ((pad5 a).map int))).set B (.row 107 true ((pad5 b).map int))).at A = some (.row 107 true ((pad5 a).map int)) := by rw [Hp.at_set_ne _ (by omega)]; exact c1'
  have c2'' : ((h2.set A (.row 107 true ((pad5 a).map int))).set B (.row 107 true ((pad5 b).map int))).at B = some (.row 107 true ((pad5 b).map int)) := Hp.at_set_self _ (Hp.lt_of_at c2')
  have ld : ∀ (H : Hp) (r : Nat) (l : List Int), l.length = 5 → H.at r = some (.row 107 true (l.map int)) → hval H (aggOf (cellsAt H r 0 5)) = .val (.agg ⟨l.map int⟩) H := fun H r l hl e => by
    rw [all_cells e (by rw [List.length_map, hl])]
    rfl
  refine ⟨?_, ?_⟩
  · repeat' (first | exact True.intro | (refine And.intro ?_ ?_ <;> (conv => whnf)))
    all_goals first
      | exact sameAt_val (h2 := _) rfl (sameV_ptr3 _ _)
      | exact sameAt_val (h2 := _) (ld _ _ _ hm c2) (sameV_cv _)
      | exact sameAt_val (h2 := _) (ld _ _ _ hm c2') (sameV_cv _)
      | exact sameAt_val (h2 := _) (ld _ _ _ hm c2'') (sameV_cv _)
      | exact sameAt_val (h2 := _) (ld _ _ _ hl c1) (sameV_cv _)
      | exact sameAt_val (h2 := _) (ld _ _ _ hl c1') (sameV_cv _)
      | exact sameAt_val (h2 := _) (ld _ _ _ hl c1'') (sameV_cv _)
      | trace_state
  conv => whnf
  repeat (refine SeqP.go ?_; conv => whnf)
  exact fin _ _ (pad5 a) (pad5 b) 0 rfl rfl rfl c1'' c2'' hl hm ((g2.then_set _ (by omega)).then_set _ (by omega)) ⟨_, _, _, rfl, hl, hm, fun k => absurd hP k, fun _ k => absurd ⟨hC, hC2⟩ k, fun _ _ _ => ⟨rfl, rfl, rfl⟩⟩
end
end Go.Proofs.Ytpiplaicnbapbaa
namespace Go.Proofs.Ytpiplaicnbapbaa
open Go.Rx Go.RowKit
inductive Rs (R : List Q4) : List Int → List Int → Prop
  | refl (c) : Rs R c c
  | tail {c d e i} : Rs R c d → step R d i = some e → Rs R c e
theorem Rs.trans {R : List Q4} {a b c : List Int} (h : Rs R a b) (k : Rs R b c) : Rs R a c := by
  induction k with
  | refl => exact h
  | tail _ hs ih => exact ih.tail hs
theorem Rs.one {R : List Q4} {a b : List Int} {i : Int} (h : step R a i = some b) : Rs R a b := (Rs.refl a).tail h
theorem Rs.head {R : List Q4} {a b c : List Int} {i : Int} (h : step R a i = some b) (k : Rs R b c) : Rs R a c := (Rs.one h).trans k
theorem Rs.ok {n : Nat} {R : List Q4} (hR : ∀ x ∈ R, QIn n x) {c d : List Int} (h : Rs R c d) (hc : CrOk n c) : CrOk n d := by
  induction h with
  | refl => exact hc
  | tail _ hs ih => exact step_ok hR ih hs
structure Gr (R : List Q4) (c : List Int) (L : List (List Int)) : Prop where
  nodup : L.Nodup
  first : L[0]? = some c
  from_ : ∀ d ∈ L, Rs R c d
  closed : ∀ d ∈ L, ∀ i e, step R d i = some e → e ∈ L
theorem Gr.pos {R : List Q4} {c : List Int} {L : List (List Int)} (g : Gr R c L) : 0 < L.length := by
  have := g.first
  cases L with
  | nil => cases this
  | cons x l => simp
theorem Gr.mem {R : List Q4} {c : List Int} {L : List (List Int)} (g : Gr R c L) {d : List Int} : d ∈ L ↔ Rs R c d := by
  refine ⟨g.from_ d, fun h => ?_⟩
  induction h with
  | refl => exact List.mem_of_getElem? g.first
  | tail _ hs ih => exact g.closed _ ih _ _ hs
def Ed (R : List Q4) (L : List (List Int)) (a b : Nat) : Prop := ∃ d e i, L[a]? = some d ∧ L[b]? = some e ∧ step R d i = some e
theorem Ed.lt {R : List Q4} {L : List (List Int)} {a b : Nat} (h : Ed R L a b) : a < L.length ∧ b < L.length := by
  obtain ⟨d, e, i, h1, h2, _⟩ := h
  exact ⟨(List.getElem?_eq_some_iff.1 h1).1, (List.getElem?_eq_some_iff.1 h2).1⟩
inductive Pt (R : List Q4) (L : List (List Int)) : Nat → Nat → Prop
  | refl (a) : Pt R L a a
  | head {a b t} : Ed R L a b → Pt R L b t → Pt R L a t
theorem Pt.trans {R : List Q4} {L : List (List Int)} {a b c : Nat} (h : Pt R L a b) (k : Pt R L b c) : Pt R L a c := by
  induction h with
  | refl => exact k
  | head e _ ih => exact .head e (ih k)
theorem Pt.lt {R : List Q4} {L : List (List Int)} {a b : Nat} (h : Pt R L a b) (ha : a < L.length) : b < L.length := by
  induction h with
  | refl => exact ha
  | head e _ ih => exact ih e.lt.2
theorem Pt.rs {R : List Q4} {L : List (List Int)} {a b : Nat} (h : Pt R L a b) : ∀ {d e : List Int}, L[a]? = some d → L[b]? = some e → Rs R d e := by
  induction h with
  | refl => intro d e h1 h2; rw [h1] at h2; cases h2; exact .refl _
  | head e _ ih =>
    intro d e' h1 h2
    obtain ⟨d1, e1, i, k1, k2, k3⟩ := e
    rw [k1] at h1
    cases h1
    exact .head k3 (ih k2 h2)
def Lead (R : List Q4) (L : List (List Int)) (T : Nat → Prop) (a : Nat) : Prop := ∃ t, T t ∧ Pt R L a t
theorem Lead.self {R : List Q4} {L : List (List Int)} {T : Nat → Prop} {a : Nat} (h : T a) : Lead R L T a := ⟨a, h, .refl _⟩
theorem Lead.back {R : List Q4} {L : List (List Int)} {T : Nat → Prop} {a b : Nat} (h : Lead R L T b) (e : Ed R L a b) : Lead R L T a := by
  obtain ⟨t, h1, h2⟩ := h
  exact ⟨t, h1, .head e h2⟩
theorem Lead.least {R : List Q4} {L : List (List Int)} {T M : Nat → Prop} (h1 : ∀ t, T t → M t) (h2 : ∀ a b, Ed R L a b → M b → M a) {a : Nat} (h : Lead R L T a) : M a := by
  obtain ⟨t, ht, hp⟩ := h
  induction hp with
  | refl => exact h1 _ ht
  | head e _ ih => exact h2 _ _ e (ih ht)
end Go.Proofs.Ytpiplaicnbapbaa
namespace Go.Proofs.Ytpiplaicnbapbaa
open Go.Rx Go.RowKit
theorem nodup_lt : ∀ (N : Nat) (l : List Nat), l.Nodup → (∀ x ∈ l, x < N) → l.length ≤ N
  | 0, l, _, h => by
    cases l with
    | nil => simp
    | cons x l => exact absurd (h x (by simp)) (Nat.not_lt_zero _)
  | N + 1, l, hn, h => by
    by_cases hm : N ∈ l
    · have h1 := nodup_lt N (l.erase N) (hn.erase N) (fun x hx => by
        have h2 := (List.Nodup.mem_erase_iff hn).1 hx
        have h3 := h x h2.2
        have h4 := h2.1
        omega)
      rw [List.length_erase_of_mem hm] at h1
      omega
    · have h1 := nodup_lt N l hn (fun x hx => by
        have h3 := h x hx
        have h4 : x ≠ N := fun e => hm (e ▸ hx)
        omega)
      omega
theorem nodup_map {α β : Type} {f : α → β} : ∀ {l : List α}, l.Nodup → (∀ a ∈ l, ∀ b ∈ l, f a = f b → a = b) → (l.map f).Nodup
  | [], _, _ => by simp
  | x :: l, hn, h => by
    have hc := List.nodup_cons.1 hn
    rw [List.map_cons, List.nodup_cons]
    refine ⟨fun hm => ?_, nodup_map hc.2 fun a ha b hb => h a (by simp [ha]) b (by simp [hb])⟩
    obtain ⟨y, hy, e⟩ := List.mem_map.1 hm
    have := h y (by simp [hy]) x (by simp) e
    subst this
    exact hc.1 hy
structure Gp (R : List Q4) (n : Nat) (c : List Int) (L : List (List Int)) (i : Nat) : Prop where
  nodup : L.Nodup
  first : L[0]? = some c
  from_ : ∀ d ∈ L, Rs R c d
  ok : ∀ d ∈ L, CrOk n d
  clo : ∀ a d, a < i → L[a]? = some d → ∀ k e, step R d k = some e → e ∈ L
theorem Gp.start {R : List Q4} {n : Nat} {c : List Int} (hc : CrOk n c) : Gp R n c [c] 0 :=
  ⟨by simp, rfl, fun d hd => by rw [List.mem_singleton.1 hd]; exact .refl _, fun d hd => by rw [List.mem_singleton.1 hd]; exact hc, fun a d h => absurd h (Nat.not_lt_zero _)⟩
theorem Gp.pos {R : List Q4} {n : Nat} {c : List Int} {L : List (List Int)} {i : Nat} (g : Gp R n c L i) : 0 < L.length := by
  have := g.first
  cases L with
  | nil => cases this
  | cons x l => simp
theorem getE_snoc {α : Type} {L : List α} {a : Nat} {d x : α} (h : L[a]? = some d) : (L ++ [x])[a]? = some d := by
  rw [List.getElem?_append_left (List.getElem?_eq_some_iff.1 h).1]
  exact h
theorem Gp.add {R : List Q4} {n : Nat} {c : List Int} {L : List (List Int)} {i : Nat} (g : Gp R n c L i) (hi : i ≤ L.length) (hR : ∀ x ∈ R, QIn n x) {d e : List Int} {k : Int} (hd : d ∈ L) (hs : step R d k = some e) (hn : e ∉ L) : Gp R n c (L ++ [e]) i := by
  refine ⟨?_, getE_snoc g.first, fun x hx => ?_, fun x hx => ?_, fun a x ha hx k' y hy => ?_⟩
  · rw [List.nodup_append]
    exact ⟨g.nodup, by simp, fun a ha b hb => by rw [List.mem_singleton.1 hb]; exact fun e => hn (e ▸ ha)⟩
  · rcases List.mem_append.1 hx with hx | hx
    · exact g.from_ x hx
    · rw [List.mem_singleton.1 hx]; exact (g.from_ d hd).tail hs
  · rcases List.mem_append.1 hx with hx | hx
    · exact g.ok x hx
    · rw [List.mem_singleton.1 hx]; exact step_ok hR (g.ok d hd) hs
  · rw [List.getElem?_append_left (by omega)] at hx
    exact List.mem_append_left _ (g.clo a x ha hx k' y hy)
theorem Gp.turn {R : List Q4} {n : Nat} {c : List Int} {L : List (List Int)} {i : Nat} (g : Gp R n c L i) {d : List Int} (hd : L[i]? = some d) (h : ∀ k e, step R d k = some e → e ∈ L) : Gp R n c L (i + 1) :=
  ⟨g.nodup, g.first, g.from_, g.ok, fun a x ha hx k e hs => by
    by_cases e2 : a = i
    · subst e2
      rw [hd] at hx
      cases hx
      exact h k e hs
    · exact g.clo a x (by omega) hx k e hs⟩
theorem Gp.done {R : List Q4} {n : Nat} {c : List Int} {L : List (List Int)} (g : Gp R n c L L.length) : Gr R c L :=
  ⟨g.nodup, g.first, g.from_, fun d hd k e hs => by
    obtain ⟨a, ha⟩ := List.getElem?_of_mem hd
    exact g.clo a d (List.getElem?_eq_some_iff.1 ha).1 ha k e hs⟩
structure RowOk (R : List Q4) (L : List (List Int)) (d : List Int) (r : Nat) (row : List Int) : Prop where
  fwd : ∀ x ∈ row, ∃ (k : Nat) (e : List Int) (j : Int), x = (k : Int) ∧ L[k]? = some e ∧ step R d j = some e
  bwd : ∀ (j : Int) (e : List Int), j < (r : Int) → step R d j = some e → ∃ k : Nat, L[k]? = some e ∧ (k : Int) ∈ row
  few : row.length ≤ r
theorem step_range {R : List Q4} {d e : List Int} {j : Int} (h : step R d j = some e) : 0 ≤ j ∧ j < R.length := by
  by_cases hc : 0 ≤ j ∧ j < R.length
  · exact hc
  · rw [step_no hc] at h; cases h
theorem RowOk.start {R : List Q4} {L : List (List Int)} {d : List Int} : RowOk R L d 0 [] :=
  ⟨fun x h => by simp at h, fun j e hj hs => by have := step_range hs; omega, by simp⟩
theorem RowOk.ext {R : List Q4} {L : List (List Int)} {d : List Int} {r : Nat} {row : List Int} (k : RowOk R L d r row) (x : List Int) : RowOk R (L ++ [x]) d r row :=
  ⟨fun y hy => let ⟨k', e, j, h1, h2, h3⟩ := k.fwd y hy; ⟨k', e, j, h1, getE_snoc h2, h3⟩, fun j e hj hs => let ⟨k', h1, h2⟩ := k.bwd j e hj hs; ⟨k', getE_snoc h1, h2⟩, k.few⟩
theorem RowOk.skip {R : List Q4} {L : List (List Int)} {d : List Int} {r : Nat} {row : List Int} (k : RowOk R L d r row) (h : step R d r = none) : RowOk R L d (r + 1) row :=
  ⟨k.fwd, fun j e hj hs => by
    by_cases e2 : j = (r : Int)
    · subst e2; rw [h] at hs; cases hs
    · exact k.bwd j e (by omega) hs, by have := k.few; omega⟩
theorem RowOk.add {R : List Q4} {L : List (List Int)} {d e : List Int} {r : Nat} {row : List Int} (k : RowOk R L d r row) (h : step R d r = some e) {a : Nat} (ha : L[a]? = some e) : RowOk R L d (r + 1) (row ++ [(a : Int)]) :=
  ⟨fun x hx => by
    rcases List.mem_append.1 hx with hx | hx
    · exact k.fwd x hx
    · exact ⟨a, e, r, List.mem_singleton.1 hx, ha, h⟩, fun j e' hj hs => by
    by_cases e2 : j = (r : Int)
    · subst e2
      rw [h] at hs
      cases hs
      exact ⟨a, ha, by simp⟩
    · obtain ⟨k', h1, h2⟩ := k.bwd j e' (by omega) hs
      exact ⟨k', h1, List.mem_append_left _ h2⟩, by have := k.few; rw [List.length_append, List.length_singleton]; omega⟩
theorem RowOk.all {R : List Q4} {L : List (List Int)} {d : List Int} {row : List Int} (k : RowOk R L d R.length row) {j : Int} {e : List Int} (hs : step R d j = some e) : e ∈ L := by
  obtain ⟨k', h1, _⟩ := k.bwd j e (step_range hs).2 hs
  exact List.mem_of_getElem? h1
inductive Wy (R : List Q4) : Nat → List Int → List Int → Prop
  | refl (c) : Wy R 0 c c
  | tail {k c d e i} : Wy R k c d → step R d i = some e → Wy R (k + 1) c e
theorem Wy.rs {R : List Q4} {k : Nat} {c d : List Int} (h : Wy R k c d) : Rs R c d := by
  induction h with
  | refl => exact .refl _
  | tail _ hs ih => exact ih.tail hs
structure St (R : List Q4) (c : List Int) (L : List (List Int)) (S : List Int) (i : Nat) : Prop where
  len : S.length = L.length
  way : ∀ a d, L[a]? = some d → ∃ k : Nat, gl S a = (k : Int) ∧ Wy R k c d
  start_ : gl S 0 = 0
  le : ∀ a, a < S.length → gl S a ≤ (a : Int)
  mono : ∀ a b, a ≤ b → b < S.length → gl S a ≤ gl S b
  near : ∀ a b, i ≤ a → a < S.length → b < S.length → gl S b ≤ gl S a + 1
  clo : ∀ a d, a < i → L[a]? = some d → ∀ k e, step R d k = some e → ∃ b, L[b]? = some e ∧ gl S b ≤ gl S a + 1
theorem St.start {R : List Q4} {c : List Int} : St R c [c] [0] 0 := by
  refine ⟨rfl, fun a d h => ?_, rfl, fun a ha => (by simp at ha; subst ha; exact Int.le_refl _), fun a b hab hb => ?_, fun a b _ ha hb => ?_, fun a d h => absurd h (Nat.not_lt_zero _)⟩
  · have : a = 0 := by have := (List.getElem?_eq_some_iff.1 h).1; simp at this; exact this
    subst this
    cases h
    exact ⟨0, rfl, .refl _⟩
  · simp at hb; subst hb; have : a = 0 := by omega
    subst this; exact Int.le_refl _
  · simp at ha hb; subst ha; subst hb; show gl [0] 0 ≤ gl [0] 0 + 1; omega
theorem gl_old {l : List Int} {x : Int} {j : Nat} (h : j < l.length) : gl (l ++ [x]) j = gl l j := by
  unfold gl
  rw [List.getD_eq_getElem?_getD, List.getD_eq_getElem?_getD, List.getElem?_append_left h]
theorem gl_last {l : List Int} {x : Int} : gl (l ++ [x]) l.length = x := by
  unfold gl
  rw [List.getD_eq_getElem?_getD, List.getElem?_append_right (Nat.le_refl _)]
  simp
theorem St.add {R : List Q4} {c : List Int} {L : List (List Int)} {S : List Int} {i : Nat} (s : St R c L S i) (hi : i < L.length) {d e : List Int} {k : Int} (hd : L[i]? = some d) (hs : step R d k = some e) : St R c (L ++ [e]) (S ++ [gl S i + 1]) i := by
  have hl := s.len
  have old : ∀ a, a < S.length → gl (S ++ [gl S i + 1]) a = gl S a := fun a ha => gl_old ha
  have new : gl (S ++ [gl S i + 1]) S.length = gl S i + 1 := gl_last
  refine ⟨by rw [List.length_append, List.length_append, hl]; rfl, fun a x hx => ?_, by rw [old 0 (by omega)]; exact s.start_, fun a ha => ?_, fun a b hab hb => ?_, fun a b ha1 ha hb => ?_, fun a x ha hx k' y hy => ?_⟩
  · by_cases ha : a < L.length
    · rw [List.getElem?_append_left ha] at hx
      rw [old a (by omega)]
      exact s.way a x hx
    · have h1 := (List.getElem?_eq_some_iff.1 hx).1
      rw [List.length_append, List.length_singleton] at h1
      have : a = S.length := by omega
      subst this
      rw [List.getElem?_append_right (by omega), hl] at hx
      simp at hx
      subst hx
      rw [new]
      obtain ⟨k0, e0, w0⟩ := s.way i d hd
      exact ⟨k0 + 1, by rw [e0]; rfl, w0.tail hs⟩
  · rw [List.length_append, List.length_singleton] at ha
    by_cases ha2 : a < S.length
    · rw [old a ha2]; exact s.le a ha2
    · have : a = S.length := by omega
      subst this
      rw [new]
      have := s.le i (by omega)
      omega
  · rw [List.length_append, List.length_singleton] at hb
    by_cases hb2 : b < S.length
    · rw [old a (by omega), old b hb2]; exact s.mono a b hab hb2
    · have : b = S.length := by omega
      subst this
      rw [new]
      by_cases ha2 : a < S.length
      · rw [old a ha2]; exact s.near i a (Nat.le_refl _) (by omega) ha2
      · have : a = S.length := by omega
        subst this
        rw [new]; exact Int.le_refl _
  · rw [List.length_append, List.length_singleton] at ha hb
    have hA : gl S i ≤ gl (S ++ [gl S i + 1]) a := by
      by_cases ha2 : a < S.length
      · rw [old a ha2]; exact s.mono i a ha1 ha2
      · have : a = S.length := by omega
        subst this
        rw [new]; omega
    have hB : gl (S ++ [gl S i + 1]) b ≤ gl S i + 1 := by
      by_cases hb2 : b < S.length
      · rw [old b hb2]; exact s.near i b (Nat.le_refl _) (by omega) hb2
      · have : b = S.length := by omega
        subst this
        rw [new]; exact Int.le_refl _
    omega
  · rw [List.getElem?_append_left (by omega)] at hx
    obtain ⟨b, h1, h2⟩ := s.clo a x ha hx k' y hy
    have hb := (List.getElem?_eq_some_iff.1 h1).1
    exact ⟨b, getE_snoc h1, by rw [old b (by omega), old a (by omega)]; exact h2⟩
theorem St.turn {R : List Q4} {c : List Int} {L : List (List Int)} {S : List Int} {i : Nat} (s : St R c L S i) (hi : i < L.length) {d : List Int} (hd : L[i]? = some d) {row : List Int} (h : RowOk R L d R.length row) : St R c L S (i + 1) :=
  ⟨s.len, s.way, s.start_, s.le, s.mono, fun a b ha => s.near a b (by omega), fun a x ha hx k e hs => by
    by_cases e2 : a = i
    · subst e2
      rw [hd] at hx
      cases hx
      obtain ⟨b, h1, _⟩ := h.bwd k e (step_range hs).2 hs
      have hb := (List.getElem?_eq_some_iff.1 h1).1
      exact ⟨b, h1, s.near a b (Nat.le_refl _) (by have := s.len; omega) (by have := s.len; omega)⟩
    · exact s.clo a x (by omega) hx k e hs⟩
theorem St.least {R : List Q4} {c : List Int} {L : List (List Int)} {S : List Int} (s : St R c L S L.length) (hf : L[0]? = some c) {k : Nat} {d : List Int} (w : Wy R k c d) : ∃ b, L[b]? = some d ∧ gl S b ≤ k := by
  induction w with
  | refl => exact ⟨0, hf, by rw [s.start_]; exact Int.le_refl _⟩
  | @tail k c d e i hw hs ih =>
    obtain ⟨a, h1, h2⟩ := ih s hf
    obtain ⟨b, h3, h4⟩ := s.clo a d (List.getElem?_eq_some_iff.1 h1).1 h1 i e hs
    exact ⟨b, h3, by omega⟩
structure Nx (R : List Q4) (L : List (List Int)) (N : List (List Int)) : Prop where
  row : ∀ (a : Nat) (d row : List Int), L[a]? = some d → N[a]? = some row → RowOk R L d R.length row
theorem Nx.ext {R : List Q4} {L N : List (List Int)} (k : Nx R L N) (hN : N.length ≤ L.length) (x : List Int) : Nx R (L ++ [x]) N :=
  ⟨fun a d row hd hr => by
    have := (List.getElem?_eq_some_iff.1 hr).1
    rw [List.getElem?_append_left (by omega)] at hd
    exact (k.row a d row hd hr).ext x⟩
theorem Nx.add {R : List Q4} {L N : List (List Int)} (k : Nx R L N) {d row : List Int} (hd : L[N.length]? = some d) (h : RowOk R L d R.length row) : Nx R L (N ++ [row]) :=
  ⟨fun a d' row' hd' hr => by
    by_cases e : a < N.length
    · rw [List.getElem?_append_left e] at hr
      exact k.row a d' row' hd' hr
    · have h1 := (List.getElem?_eq_some_iff.1 hr).1
      rw [List.length_append, List.length_singleton] at h1
      have : a = N.length := by omega
      subst this
      rw [List.getElem?_append_right (Nat.le_refl _)] at hr
      simp at hr
      subst hr
      rw [hd] at hd'
      cases hd'
      exact h⟩
end Go.Proofs.Ytpiplaicnbapbaa
namespace Go.Proofs.Ytpiplaicnbapbaa
open Go.Rx Go.RowKit
def SL (h : Hp) (v : Value) (LL : List (List Int)) : Prop := ∃ a c, v = .slice a LL.length c ∧ ∀ j, (hj : j < LL.length) → ∃ r o sp w, a = some ⟨r, o, sp⟩ ∧ voidSp sp = false ∧ cellAt h r (j + o) = some w ∧ View h w LL[j]
theorem SL.ext {h h' : Hp} {v : Value} {LL : List (List Int)} (g : Grows h h') (k : SL h v LL) : SL h' v LL := by
  obtain ⟨a, c, e, hc⟩ := k
  exact ⟨a, c, e, fun j hj => let ⟨r, o, sp, w, e1, e2, e3, e4⟩ := hc j hj; ⟨r, o, sp, w, e1, e2, g.cell e3, e4.ext g⟩⟩
abbrev gb (l : List Bool) (i : Nat) : Bool := l.getD i false
theorem gb_at {l : List Bool} {i : Nat} (h : i < l.length) : gb l i = l[i] := by
  unfold gb; rw [List.getD_eq_getElem?_getD, List.getElem?_eq_getElem h]; rfl
theorem gb_set {l : List Bool} {i : Nat} (h : i < l.length) (b : Bool) (j : Nat) : gb (l.set i b) j = if j = i then b else gb l j := by
  unfold gb
  rw [List.getD_eq_getElem?_getD, List.getElem?_set, List.getD_eq_getElem?_getD]
  by_cases e : i = j
  · subst e; rw [if_pos rfl, if_pos h, if_pos rfl]; rfl
  · rw [if_neg e, if_neg (fun x => e x.symm)]
def nf : List Bool → Nat
  | [] => 0
  | b :: l => (if b = true then 0 else 1) + nf l
theorem nf_set : ∀ {l : List Bool} {i : Nat}, i < l.length → gb l i = false → nf (l.set i true) + 1 = nf l
  | [], i, h, _ => by simp at h
  | b :: l, 0, _, e => by
    have : b = false := by simpa [gb] using e
    subst this
    simp [nf]
    omega
  | b :: l, i + 1, h, e => by
    have := nf_set (l := l) (i := i) (by simpa using h) (by simpa [gb] using e)
    simp only [List.set_cons_succ, nf]
    omega
structure SM (h : Hp) (r : Nat) (x : Bool) (ms : List Bool) (H : Hp) : Prop where
  at_ : H.at r = some (.row 4 x (ms.map .bool))
  gr : Grows h H
  hr : h.next ≤ r
theorem SM.put {h : Hp} {r : Nat} {x : Bool} {ms : List Bool} {H : Hp} (k : SM h r x ms H) (ms' : List Bool) : SM h r x ms' (H.set r (.row 4 x (ms'.map .bool))) := ⟨Hp.at_set_self _ (Hp.lt_of_at k.at_), k.gr.then_set _ k.hr, k.hr⟩
theorem SM.load {h : Hp} {r : Nat} {x : Bool} {ms : List Bool} {H : Hp} (k : SM h r x ms H) {i : Nat} (hi : i < ms.length) : cellAt H r (offAt 0 i 1) = some (.bool (gb ms i)) := by
  rw [offAt_eq]
  refine cellAt_row k.at_ ?_
  rw [List.getElem?_map, gb_at hi]
  simp [hi]
def BV (h : Hp) (v : Value) (ms : List Bool) : Prop := ∃ r x, v = slc r 0 ms.length ms.length ∧ h.at r = some (.row 4 x (ms.map .bool))
theorem BV.ext {h h' : Hp} {v : Value} {ms : List Bool} (g : Grows h h') (k : BV h v ms) : BV h' v ms := by
  obtain ⟨r, x, e, h1⟩ := k
  exact ⟨r, x, e, g.at_ _ _ h1⟩
theorem bools_one (l : List Bool) : (l.map Value.bool).all oneCell = true := by
  rw [List.all_eq_true]
  intro v hv
  obtain ⟨n, _, rfl⟩ := List.mem_map.1 hv
  rfl
theorem BV.elems {h : Hp} {v : Value} {ms : List Bool} (k : BV h v ms) : ElemsC h 1 v ms.length (ms.map .bool) := by
  obtain ⟨r, x, rfl, h1⟩ := k
  refine ⟨rfl, ?_, by rw [List.length_map, Nat.mul_one], bools_one _⟩
  show cellsAt h r 0 (ms.length * 1) = _
  rw [cellsAt_row h1 (by rw [List.length_map]; omega), List.drop_zero, List.take_of_length_le (by rw [List.length_map]; omega)]
structure NxOk (R : List Q4) (L : List (List Int)) (N : List (List Int)) : Prop where
  len : N.length = L.length
  fwd : ∀ i, (hi : i < N.length) → ∀ x ∈ N[i], ∃ k : Nat, x = (k : Int) ∧ Ed R L i k
  bwd : ∀ i k, Ed R L i k → ∃ hi : i < N.length, (k : Int) ∈ N[i]
  small : ∀ i, (hi : i < N.length) → N[i].length ≤ 1000
structure Mk (R : List Q4) (L : List (List Int)) (T : Nat → Prop) (ms : List Bool) : Prop where
  len : ms.length = L.length
  all : ∀ t, t < L.length → T t → gb ms t = true
  only : ∀ a, gb ms a = true → Lead R L T a
theorem Mk.set {R : List Q4} {L : List (List Int)} {T : Nat → Prop} {ms : List Bool} (k : Mk R L T ms) {i : Nat} (hi : i < L.length) (h : Lead R L T i) : Mk R L T (ms.set i true) := by
  have hl := k.len
  refine ⟨by rw [List.length_set]; exact hl, fun t ht hT => ?_, fun a ha => ?_⟩
  · rw [gb_set (by omega)]
    split
    · rfl
    · exact k.all t ht hT
  · rw [gb_set (by omega)] at ha
    split at ha
    · rename_i e; rw [e]; exact h
    · exact k.only a ha
def Still (R : List Q4) (L : List (List Int)) (ms : List Bool) (n : Nat) : Prop := ∀ a k, a < n → Ed R L a k → gb ms k = true → gb ms a = true
theorem Mk.done {R : List Q4} {L : List (List Int)} {T : Nat → Prop} {ms : List Bool} (k : Mk R L T ms) (hT : ∀ t, T t → t < L.length) (hs : Still R L ms L.length) (a : Nat) : gb ms a = true ↔ Lead R L T a :=
  ⟨k.only a, fun h => h.least (M := fun a => gb ms a = true) (fun t ht => k.all t (hT t ht) ht) fun a b e hb => hs a b e.lt.1 e hb⟩
end Go.Proofs.Ytpiplaicnbapbaa
namespace Go.Proofs.Ytpiplaicnbapbaa
open Go.Rx Go.RowKit
structure Ps (R : List Q4) (L : List (List Int)) (T : Nat → Prop) (ms0 : List Bool) (i : Nat) (ag : Bool) (ms : List Bool) : Prop where
  km : Mk R L T ms
  le : nf ms ≤ nf ms0
  lt : ag = true → nf ms < nf ms0
  st : ag = false → ms = ms0 ∧ Still R L ms0 i
theorem Ps.start {R : List Q4} {L : List (List Int)} {T : Nat → Prop} {ms : List Bool} (h : Mk R L T ms) : Ps R L T ms 0 false ms := ⟨h, Nat.le_refl _, fun e => (by cases e), fun _ => ⟨rfl, fun a k ha => by omega⟩⟩
theorem Ps.next {R : List Q4} {L : List (List Int)} {T : Nat → Prop} {ms0 ms : List Bool} {i : Nat} {ag : Bool} (h : Ps R L T ms0 i ag ms) (hs : ag = false → ∀ k, Ed R L i k → gb ms0 k = true → gb ms0 i = true) : Ps R L T ms0 (i + 1) ag ms :=
  ⟨h.km, h.le, h.lt, fun e => ⟨(h.st e).1, fun a k ha he hk => by
    by_cases e2 : a = i
    · subst e2; exact hs e k he hk
    · exact (h.st e).2 a k (by omega) he hk⟩⟩
end Go.Proofs.Ytpiplaicnbapbaa
namespace Go.Proofs.Ytpiplaicnbapbaa
open Go.Rx Go.RowKit
structure CR (h : Hp) (bx : List Value) (R : List Q4) (n : Nat) (c : List Int) (L N : List (List Int)) : Prop where
  len : bx.length = 3
  one : bx.all oneCell = true
  lv : ∃ v, bx[0]? = some v ∧ SL h v L
  nv : ∃ v, bx[2]? = some v ∧ SL h v N
  nx : NxOk R L N
  gr : Gr R c L
  ok : ∀ d ∈ L, CrOk n d
  few : L.length ≤ 100000
  sv : ∃ v S, bx[1]? = some v ∧ View h v S ∧ St R c L S L.length
theorem CR.ext {h h' : Hp} {bx : List Value} {R : List Q4} {n : Nat} {c : List Int} {L N : List (List Int)} (g : Grows h h') (k : CR h bx R n c L N) : CR h' bx R n c L N := by
  obtain ⟨h1, h2, ⟨v, h3, h4⟩, ⟨w, h5, h6⟩, h7, h8, h9, h10, ⟨u, S, h11, h12, h13⟩⟩ := k
  exact ⟨h1, h2, ⟨v, h3, h4.ext g⟩, ⟨w, h5, h6.ext g⟩, h7, h8, h9, h10, ⟨u, S, h11, h12.ext g, h13⟩⟩
theorem gb_rep (n a : Nat) : gb (List.replicate n false) a = false := by
  unfold gb
  rw [List.getD_eq_getElem?_getD, List.getElem?_replicate]
  split <;> rfl
end Go.Proofs.Ytpiplaicnbapbaa
namespace Go.Proofs.Ytpiplaicnbapbaa
open Go.Rx Go.RowKit
def keyN (l : List Int) : Nat → Int
  | 0 => 0
  | k + 1 => 10 * keyN l k + gl l k
theorem keyN_bd {l : List Int} (h : ∀ i, 0 ≤ gl l i ∧ gl l i ≤ 9) : ∀ k, 0 ≤ keyN l k ∧ keyN l k < 10 ^ k
  | 0 => by simp [keyN]
  | k + 1 => by
    have := keyN_bd h k
    have := h k
    rw [show (10 : Int) ^ (k + 1) = 10 ^ k * 10 from Int.pow_succ ..]
    unfold keyN
    omega
theorem keyN_inj {l m : List Int} (hl : ∀ i, 0 ≤ gl l i ∧ gl l i ≤ 9) (hm : ∀ i, 0 ≤ gl m i ∧ gl m i ≤ 9) : ∀ k, keyN l k = keyN m k → ∀ i, i < k → gl l i = gl m i
  | 0, _, i, hi => by omega
  | k + 1, e, i, hi => by
    unfold keyN at e
    have h1 := hl k
    have h2 := hm k
    by_cases e2 : i = k
    · subst e2; omega
    · exact keyN_inj hl hm k (by omega) i (by omega)
def keyOf (l : List Int) : Int := keyN l l.length
theorem keyOf_inj {n : Nat} {l m : List Int} (hl : CrOk n l) (hm : CrOk n m) (e : keyOf l = keyOf m) : l = m := by
  unfold keyOf at e
  rw [hl.len, hm.len] at e
  have := keyN_inj (fun i => ⟨hl.nn i, hl.le i⟩) (fun i => ⟨hm.nn i, hm.le i⟩) n e
  apply List.ext_getElem (by rw [hl.len, hm.len])
  intro i h1 h2
  have := this i (by rw [hl.len] at h1; exact h1)
  rwa [gl_at h1, gl_at h2] at this
theorem keyOf_bd {n : Nat} {l : List Int} (hn : n ≤ 5) (hl : CrOk n l) : 0 ≤ keyOf l ∧ keyOf l < 100000 := by
  unfold keyOf
  rw [hl.len]
  have := keyN_bd (l := l) (fun i => ⟨hl.nn i, hl.le i⟩) n
  have h2 : (10 : Int) ^ n ≤ 100000 := by
    have : n = 0 ∨ n = 1 ∨ n = 2 ∨ n = 3 ∨ n = 4 ∨ n = 5 := by omega
    rcases this with e | e | e | e | e | e <;> subst e <;> decide
  omega
attribute [local irreducible] E idxN cellAt cellsAt storeAt callable helems hmoved lookIn findKey keyOk hentries Hp.at Hp.set Hp.lay arBits hupdated setAt CallP YieldP BoolOf IsWrap Rnd LoopP AppP CutP Int.tmod Int.tdiv Int.fdiv
section
variable [Unknowns]
attribute [local irreducible] ResP sameAt
theorem key_spec (v : Value) (l : List Int) (h : Hp) (hv : Ints h v l) (hl : l.length ≤ 5) (hd : ∀ i, 0 ≤ gl l i ∧ gl l i ≤ 9) : CallP E 81 [v] h (fun r h' => r = int (keyOf l) ∧ h' = h) := by
  obtain ⟨a, c, rfl, hc⟩ := id hv
  have hbd := keyN_bd hd
  refine enter81 (by simp) ?_
  conv => whnf
  refine SeqP.go ?_
  conv => whnf
  refine SeqP.go ?_
  conv => whnf
  refine SeqP.cut (α := Unit) (fun _ => [(3, int (keyOf l))]) (fun _ H => H = h) ?_ ?_
  rotate_left
  · rintro _ φ9 _ rfl
    conv => whnf
    repeat (refine SeqP.go ?_; conv => whnf)
    exact ⟨rfl, rfl⟩
  conv => whnf
  repeat (refine SeqP.go ?_; conv => whnf)
  refine loop_inv (α := Nat) (fun k => [(4, int k), (3, int (keyN l k)), (0, .slice a l.length c)]) (fun _ => h) (fun k => k ≤ l.length) (fun k => l.length - k) 0 (Nat.zero_le _) ⟨rfl, rfl, rfl, trivial⟩ (Hp.Le.refl _) ?_
  intro k φ hk
  conv => whnf
  repeat (refine SeqP.go ?_; conv => whnf)
  refine cmpB (fun c1 => ?_) (fun c1 => ?_)
  rotate_left
  · have : k = l.length := by omega
    subst this
    conv => whnf
    repeat (refine SeqP.go ?_; conv => whnf)
    exact ⟨(), ⟨rfl, trivial⟩, rfl, rfl⟩
  have hkl : k < l.length := by omega
  have hck := hc k hkl
  clear hc
  obtain ⟨r, o, sp, ea, hsp, hci⟩ := hck
  subst ea
  rw [← gl_at hkl] at hci
  have h1 := hbd k
  have h2 := hd k
  have h5 : keyN l (k + 1) = 10 * keyN l k + gl l k := rfl
  have h4 : (10 : Int) ^ k ≤ 10000 := by
    have : k = 0 ∨ k = 1 ∨ k = 2 ∨ k = 3 ∨ k = 4 := by omega
    rcases this with e | e | e | e | e <;> subst e <;> decide
  conv => whnf
  repeat (refine SeqP.go ?_; conv => whnf)
  refine ⟨10 * keyN l k, wie rfl (by omega), ?_⟩
  conv => whnf
  refine ⟨hsp, ⟨by omega, by omega⟩, ?_⟩
  conv => whnf
  refine ⟨int (gl l k), by rw [offAt_eq, Nat.add_comm]; simpa using hci, ?_⟩
  conv => whnf
  refine ⟨keyN l (k + 1), wie rfl (by omega), ?_⟩
  conv => whnf
  refine ⟨((k + 1 : Nat) : Int), wie (by omega) (by omega), ?_⟩
  conv => whnf
  exact Rnd.mk (k + 1) (by show k + 1 ≤ _; omega) (by show _ - (k + 1) < _ - k; omega) ⟨rfl, rfl, rfl, trivial⟩ (Hp.Le.refl _) rfl
end
end Go.Proofs.Ytpiplaicnbapbaa
namespace Go.Proofs.Ytpiplaicnbapbaa
open Go.Rx Go.RowKit
structure BfOk (R : List Q4) (L : List (List Int)) (B : List (List Int)) : Prop where
  len : B.length = L.length
  fwd : ∀ i, (hi : i < B.length) → ∀ x ∈ B[i], ∃ k : Nat, x = (k : Int) ∧ Ed R L k i
  bwd : ∀ k i, Ed R L k i → ∃ hi : i < B.length, (k : Int) ∈ B[i]
  small : ∀ i, (hi : i < B.length) → B[i].length ≤ 10000000
structure Nums (m : Nat) (l : List Int) : Prop where
  rng : ∀ x ∈ l, ∃ k : Nat, x = (k : Int) ∧ k < m
  once : ∀ i j, i < j → j < l.length → gl l i ≠ gl l j
structure Wk (R : List Q4) (L : List (List Int)) (T : Nat → Prop) (at_ : Nat) (l : List Int) (ms : List Bool) : Prop where
  len : ms.length = L.length
  cnt : l.length + nf ms = L.length
  rng : ∀ x ∈ l, ∃ k : Nat, x = (k : Int) ∧ k < L.length
  same : ∀ k : Nat, gb ms k = true ↔ (k : Int) ∈ l
  lead : ∀ k : Nat, (k : Int) ∈ l → Lead R L T k
  all : ∀ t : Nat, T t → (t : Int) ∈ l
  clo : ∀ j a b : Nat, j < at_ → j < l.length → gl l j = (b : Int) → Ed R L a b → (a : Int) ∈ l
theorem gl_snoc {l : List Int} {x : Int} {j : Nat} (h : j < l.length) : gl (l ++ [x]) j = gl l j := by
  unfold gl
  rw [List.getD_eq_getElem?_getD, List.getD_eq_getElem?_getD, List.getElem?_append_left h]
theorem Wk.add {R : List Q4} {L : List (List Int)} {T : Nat → Prop} {at_ : Nat} {l : List Int} {ms : List Bool} (w : Wk R L T at_ l ms) (ha : at_ ≤ l.length) {k : Nat} (hk : k < L.length) (hf : gb ms k = false) (hl : Lead R L T k) : Wk R L T at_ (l ++ [(k : Int)]) (ms.set k true) := by
  have hlen := w.len
  have hn := nf_set (l := ms) (i := k) (by omega) hf
  have hc := w.cnt
  refine ⟨by rw [List.length_set]; exact w.len, by rw [List.length_append, List.length_singleton]; omega, fun x hx => ?_, fun j => ?_, fun j hj => ?_, fun t ht => List.mem_append_left _ (w.all t ht), fun j a b hj hj2 e he => ?_⟩
  · rcases List.mem_append.1 hx with hx | hx
    · exact w.rng x hx
    · exact ⟨k, List.mem_singleton.1 hx, hk⟩
  · rw [gb_set (by omega), List.mem_append, List.mem_singleton, ← w.same j]
    by_cases e : j = k
    · subst e; simp
    · rw [if_neg e]
      constructor
      · intro h; exact .inl h
      · rintro (h | h)
        · exact h
        · exact absurd (by omega) e
  · rcases List.mem_append.1 hj with hj | hj
    · exact w.lead j hj
    · have := List.mem_singleton.1 hj
      have : j = k := by omega
      rw [this]; exact hl
  · rw [gl_snoc (by omega)] at e
    exact List.mem_append_left _ (w.clo j a b hj (by omega) e he)
theorem Wk.turn {R : List Q4} {L : List (List Int)} {T : Nat → Prop} {at_ : Nat} {l : List Int} {ms : List Bool} (w : Wk R L T at_ l ms) (h : ∀ a b : Nat, gl l at_ = (b : Int) → Ed R L a b → (a : Int) ∈ l) : Wk R L T (at_ + 1) l ms :=
  ⟨w.len, w.cnt, w.rng, w.same, w.lead, w.all, fun j a b hj hj2 e he => by
    by_cases e2 : j = at_
    · subst e2; exact h a b e he
    · exact w.clo j a b (by omega) hj2 e he⟩
theorem Wk.done {R : List Q4} {L : List (List Int)} {T : Nat → Prop} {l : List Int} {ms : List Bool} (w : Wk R L T l.length l ms) (a : Nat) : gb ms a = true ↔ Lead R L T a := by
  rw [w.same]
  refine ⟨w.lead a, fun h => h.least (M := fun a : Nat => (a : Int) ∈ l) w.all fun a b e hb => ?_⟩
  obtain ⟨j, hj, ej⟩ := List.getElem_of_mem hb
  exact w.clo j a b hj hj (by rw [gl_at hj]; exact ej) e
structure Mt (m : Nat) (to : List Int) (k : Nat) (ms : List Bool) : Prop where
  len : ms.length = m
  cnt : k + nf ms = m
  same : ∀ a : Nat, gb ms a = true ↔ ∃ i, i < k ∧ gl to i = (a : Int)
theorem nf_rep (n : Nat) : nf (List.replicate n false) = n := by
  induction n with
  | zero => rfl
  | succ n ih => rw [List.replicate_succ]; simp [nf, ih]; omega
theorem Mt.start (m : Nat) (to : List Int) : Mt m to 0 (List.replicate m false) := ⟨List.length_replicate, by rw [nf_rep]; omega, fun a => ⟨fun e => (by rw [gb_rep] at e; cases e), fun ⟨i, hi, _⟩ => absurd hi (Nat.not_lt_zero _)⟩⟩
theorem Mt.next {m : Nat} {to : List Int} {k : Nat} {ms : List Bool} (w : Mt m to k ms) (ht : Nums m to) (hk : k < to.length) {a : Nat} (ea : gl to k = (a : Int)) (ha : a < m) : Mt m to (k + 1) (ms.set a true) := by
  have hf : gb ms a = false := by
    cases e : gb ms a with
    | false => rfl
    | true =>
      obtain ⟨i, hi, e2⟩ := (w.same a).1 e
      exact absurd (e2.trans ea.symm) (ht.once i k hi hk)
  have hl := w.len
  have hn := nf_set (l := ms) (i := a) (by omega) hf
  have hc := w.cnt
  refine ⟨by rw [List.length_set]; exact hl, by omega, fun b => ?_⟩
  rw [gb_set (by omega)]
  constructor
  · intro e
    split at e
    · rename_i e2; exact ⟨k, Nat.lt_succ_self _, by rw [ea, e2]⟩
    · obtain ⟨i, hi, e2⟩ := (w.same b).1 e
      exact ⟨i, by omega, e2⟩
  · rintro ⟨i, hi, e⟩
    split
    · rfl
    · rename_i e2
      refine (w.same b).2 ⟨i, ?_, e⟩
      by_cases e3 : i = k
      · subst e3; exact absurd (by omega) e2
      · omega
theorem Mt.done {R : List Q4} {L : List (List Int)} {to : List Int} {ms : List Bool} (w : Mt L.length to to.length ms) (ht : Nums L.length to) : Wk R L (fun t => (t : Int) ∈ to) 0 to ms :=
  ⟨w.len, w.cnt, ht.rng, fun k => by
    rw [w.same]
    constructor
    · rintro ⟨i, hi, e⟩
      rw [← e, gl_at hi]
      exact List.getElem_mem _
    · intro h
      obtain ⟨i, hi, e⟩ := List.getElem_of_mem h
      exact ⟨i, hi, by rw [gl_at hi]; exact e⟩, fun k hk => Lead.self hk, fun t ht => ht, fun j a b hj => absurd hj (Nat.not_lt_zero _)⟩
end Go.Proofs.Ytpiplaicnbapbaa
namespace Go.Proofs.Ytpiplaicnbapbaa
open Go.Rx Go.RowKit
def AL (h : Hp) (v : Value) (L : List (List Int)) : Prop := ∃ a c, v = .slice a L.length c ∧ ∀ j, (hj : j < L.length) → ∃ r o, a = some ⟨r, o, none⟩ ∧ cellsAt h r (j * 5 + o) 5 = some ((pad5 L[j]).map int)
theorem AL.ext {h h' : Hp} {v : Value} {L : List (List Int)} (g : Grows h h') (k : AL h v L) : AL h' v L := by
  obtain ⟨a, c, e, hc⟩ := k
  exact ⟨a, c, e, fun j hj => let ⟨r, o, e1, e2⟩ := hc j hj; ⟨r, o, e1, g.cells e2⟩⟩
structure PR (h : Hp) (bx : List Value) (R : List Q4) (n : Nat) (c : List Int) (L B : List (List Int)) : Prop where
  len : bx.length = 2
  one : bx.all oneCell = true
  lv : ∃ v, bx[0]? = some v ∧ AL h v L
  bv : ∃ v, bx[1]? = some v ∧ SL h v B
  bf : BfOk R L B
  gr : Gr R c L
  ok : ∀ d ∈ L, CrOk n d
  few : L.length ≤ 100000
theorem PR.ext {h h' : Hp} {bx : List Value} {R : List Q4} {n : Nat} {c : List Int} {L B : List (List Int)} (g : Grows h h') (k : PR h bx R n c L B) : PR h' bx R n c L B := by
  obtain ⟨h1, h2, ⟨v, h3, h4⟩, ⟨w, h5, h6⟩, h7, h8, h9, h10⟩ := k
  exact ⟨h1, h2, ⟨v, h3, h4.ext g⟩, ⟨w, h5, h6.ext g⟩, h7, h8, h9, h10⟩
structure Up (P : Nat → Prop) (i : Nat) (l : List Int) : Prop where
  rng : ∀ x ∈ l, ∃ k : Nat, x = (k : Int) ∧ k < i
  once : ∀ a b, a < b → b < l.length → gl l a ≠ gl l b
  mem : ∀ k : Nat, (k : Int) ∈ l ↔ k < i ∧ P k
  cnt : l.length ≤ i
theorem Up.start (P : Nat → Prop) : Up P 0 [] := ⟨fun x h => by simp at h, fun a b _ h => by simp at h, fun k => ⟨fun h => by simp at h, fun h => absurd h.1 (Nat.not_lt_zero _)⟩, Nat.le_refl _⟩
theorem Up.skip {P : Nat → Prop} {i : Nat} {l : List Int} (u : Up P i l) (h : ¬ P i) : Up P (i + 1) l :=
  ⟨fun x hx => let ⟨k, e, hk⟩ := u.rng x hx; ⟨k, e, by omega⟩, u.once, fun k => (u.mem k).trans ⟨fun e => ⟨by omega, e.2⟩, fun e => ⟨by
    by_cases e2 : k = i
    · subst e2; exact absurd e.2 h
    · omega, e.2⟩⟩, by have := u.cnt; omega⟩
theorem Up.add {P : Nat → Prop} {i : Nat} {l : List Int} (u : Up P i l) (h : P i) : Up P (i + 1) (l ++ [(i : Int)]) := by
  refine ⟨fun x hx => ?_, fun a b hab hb => ?_, fun k => ?_, by have := u.cnt; rw [List.length_append, List.length_singleton]; omega⟩
  · rcases List.mem_append.1 hx with hx | hx
    · obtain ⟨k, e, hk⟩ := u.rng x hx
      exact ⟨k, e, by omega⟩
    · exact ⟨i, List.mem_singleton.1 hx, by omega⟩
  · rw [List.length_append, List.length_singleton] at hb
    by_cases e : b < l.length
    · rw [gl_snoc e, gl_snoc (by omega)]
      exact u.once a b hab e
    · have e2 : b = l.length := by omega
      subst e2
      rw [gl_snoc hab]
      have e3 : gl (l ++ [(i : Int)]) l.length = (i : Int) := by
        rw [gl_at (by simp)]
        simp
      rw [e3]
      intro e4
      have hm : gl l a ∈ l := by rw [gl_at hab]; exact List.getElem_mem _
      obtain ⟨k, e5, hk⟩ := u.rng _ hm
      omega
  · rw [List.mem_append, List.mem_singleton, u.mem k]
    constructor
    · rintro (e | e)
      · exact ⟨by omega, e.2⟩
      · have : k = i := by omega
        subst this
        exact ⟨by omega, h⟩
    · rintro ⟨e1, e2⟩
      by_cases e3 : k = i
      · exact .inr (by omega)
      · exact .inl ⟨by omega, e2⟩
end Go.Proofs.Ytpiplaicnbapbaa
namespace Go.Proofs.Ytpiplaicnbapbaa
open Go.Rx Go.RowKit
attribute [local irreducible] E idxN cellAt cellsAt storeAt callable helems hmoved lookIn findKey keyOk hentries Hp.at Hp.set Hp.lay arBits hupdated setAt CallP YieldP BoolOf IsWrap Rnd LoopP AppP CutP Int.tmod Int.tdiv Int.fdiv
section
variable [Unknowns]
attribute [local irreducible] ResP sameAt
theorem sameV_slice3 (a : Option Addr) (n m : Nat) : sameV 3 (.slice a n m) (.slice a n m) = true := sameV_slice a n m
end
end Go.Proofs.Ytpiplaicnbapbaa
namespace Go.Proofs.Ytpiplaicnbapbaa
open Go.Rx Go.RowKit
def RReachedOk [Unknowns] : Prop := ∀ (v w : Value) (p : Prot) (n : Nat) (c : List Int) (h : Hp), PV h v p → View h w c → POk p → p.n = n → CrOk n c → CallP E 39 [v, w] h (fun r h' => (∃ bx L N, r = .agg ⟨bx⟩ ∧ CR h' bx p.rules n c L N) ∧ Grows h h')
attribute [local irreducible] E idxN cellAt cellsAt storeAt callable helems hmoved lookIn findKey keyOk hentries Hp.at Hp.set Hp.lay arBits hupdated setAt CallP YieldP BoolOf IsWrap Rnd LoopP AppP CutP Int.tmod Int.tdiv Int.fdiv
section
variable [Unknowns]
attribute [local irreducible] ResP sameAt
theorem CR.stored {h : Hp} {bx : List Value} {R : List Q4} {n : Nat} {c : List Int} {L N : List (List Int)} (k : CR h bx R n c L N) : ∃ a0 n0 c0 a1 n1 c1 a2 n2 c2, bx = [.slice a0 n0 c0, .slice a1 n1 c1, .slice a2 n2 c2] := by
  obtain ⟨hl, -, ⟨v, x0, hL⟩, ⟨w, x2, hN⟩, -, -, -, -, ⟨u, S, x1, hS, -⟩⟩ := k
  obtain ⟨a0, c0, rfl, -⟩ := hL
  obtain ⟨a2, c2, rfl, -⟩ := hN
  obtain ⟨a1, c1, rfl⟩ := hS.known
  match bx, hl, x0, x1, x2 with
  | [_, _, _], _, x0, x1, x2 =>
    cases x0
    cases x1
    cases x2
    exact ⟨_, _, _, _, _, _, _, _, _, rfl⟩
end
end Go.Proofs.Ytpiplaicnbapbaa
namespace Go.Proofs.Ytpiplaicnbapbaa
open Go.Rx Go.RowKit
attribute [local irreducible] E idxN cellAt cellsAt storeAt callable helems hmoved lookIn findKey keyOk hentries Hp.at Hp.set Hp.lay arBits hupdated setAt CallP YieldP BoolOf IsWrap Rnd LoopP AppP CutP Int.tmod Int.tdiv Int.fdiv
section
variable [Unknowns]
attribute [local irreducible] ResP sameAt
theorem CR.same {h : Hp} {bx : List Value} {R : List Q4} {n : Nat} {c : List Int} {L N : List (List Int)} (k : CR h bx R n c L N) : sameV 4 (.agg ⟨bx⟩) (.agg ⟨bx⟩) = true := by
  obtain ⟨u0, m0, k0, u1, m1, k1, u2, m2, k2, ebx⟩ := k.stored
  subst ebx
  show (Nat.beq 3 3 && (sameV 3 (.slice u0 m0 k0) (.slice u0 m0 k0) && (sameV 3 (.slice u1 m1 k1) (.slice u1 m1 k1) && (sameV 3 (.slice u2 m2 k2) (.slice u2 m2 k2) && true)))) = true
  rw [sameV_slice3, sameV_slice3, sameV_slice3]
  rfl
end
end Go.Proofs.Ytpiplaicnbapbaa
namespace Go.Proofs.Ytpiplaicnbapbaa
open Go.Rx Go.RowKit
def PReachedOk [Unknowns] : Prop := ∀ (v : Value) (p : Prot) (n : Nat) (c : List Int) (h : Hp), PV h v p → POk p → p.n = n → CrOk n c → CallP E 66 [v, cv (pad5 c)] h (fun r h' => (∃ bx L B, r = .agg ⟨bx⟩ ∧ PR h' bx p.rules n c L B) ∧ Grows h h')
theorem PV.stored {h : Hp} {bp : List Value} {p : Prot} (k : PV h (.agg ⟨bp⟩) p) : ∃ a1 n1 c1 a2 n2 c2 a3 n3 c3, bp = [int p.n, .slice a1 n1 c1, .slice a2 n2 c2, .slice a3 n3 c3] := by
  obtain ⟨vo, vs, vr, e, h1, h2, h3⟩ := k
  obtain ⟨a1, rfl⟩ := h1.known
  obtain ⟨a2, rfl⟩ := h2.known
  obtain ⟨a3, rfl, -⟩ := h3.slice
  cases e
  exact ⟨_, _, _, _, _, _, _, _, _, rfl⟩
theorem sameV_int3' (n : Int) : sameV 3 (int n) (int n) = true := sameV_int n
theorem sameV_slice3' (a : Option Addr) (n m : Nat) : sameV 3 (.slice a n m) (.slice a n m) = true := sameV_slice a n m
theorem PV.same {h : Hp} {bp : List Value} {p : Prot} (k : PV h (.agg ⟨bp⟩) p) : sameV 4 (.agg ⟨bp⟩) (.agg ⟨bp⟩) = true := by
  obtain ⟨a1, n1, c1, a2, n2, c2, a3, n3, c3, e⟩ := k.stored
  subst e
  show (Nat.beq 4 4 && (sameV 3 (int p.n) (int p.n) && (sameV 3 (.slice a1 n1 c1) (.slice a1 n1 c1) && (sameV 3 (.slice a2 n2 c2) (.slice a2 n2 c2) && (sameV 3 (.slice a3 n3 c3) (.slice a3 n3 c3) && true))))) = true
  rw [sameV_int3', sameV_slice3', sameV_slice3', sameV_slice3']
  rfl
end Go.Proofs.Ytpiplaicnbapbaa
namespace Go.Proofs.Ytpiplaicnbapbaa
open Go.Rx Go.RowKit
def posN (R : List Q4) (c5 : List Int) : Nat → List Int
  | 0 => []
  | i + 1 => posN R c5 i ++ (if h : i < R.length then (if Allowed c5 R[i] then [(i : Int)] else []) else [])
theorem posN_skip {R : List Q4} {c5 : List Int} {i : Nat} (h : i < R.length) (k : ¬ Allowed c5 R[i]) : posN R c5 (i + 1) = posN R c5 i := by
  unfold posN
  rw [dif_pos h, if_neg k, List.append_nil]
  cases i <;> rfl
theorem posN_add {R : List Q4} {c5 : List Int} {i : Nat} (h : i < R.length) (k : Allowed c5 R[i]) : posN R c5 (i + 1) = posN R c5 i ++ [(i : Int)] := by
  show posN R c5 i ++ _ = _
  rw [dif_pos h, if_pos k]
theorem posN_len (R : List Q4) (c5 : List Int) : ∀ i, (posN R c5 i).length ≤ i
  | 0 => Nat.le_refl _
  | i + 1 => by
    have := posN_len R c5 i
    show (posN R c5 i ++ _).length ≤ _
    rw [List.length_append]
    split
    · split <;> simp <;> omega
    · simp; omega
theorem posN_mem (R : List Q4) (c5 : List Int) : ∀ i (x : Int), x ∈ posN R c5 i ↔ ∃ k : Nat, x = k ∧ k < i ∧ ∃ hk : k < R.length, Allowed c5 R[k]
  | 0, x => ⟨fun h => (by simp [posN] at h), fun ⟨k, _, h, _⟩ => absurd h (Nat.not_lt_zero _)⟩
  | i + 1, x => by
    show x ∈ posN R c5 i ++ _ ↔ _
    rw [List.mem_append, posN_mem R c5 i x]
    constructor
    · rintro (⟨k, h1, h2, h3⟩ | h)
      · exact ⟨k, h1, by omega, h3⟩
      · split at h
        · rename_i h4
          split at h
          · rename_i h5
            exact ⟨i, List.mem_singleton.1 h, by omega, h4, h5⟩
          · simp at h
        · simp at h
    · rintro ⟨k, h1, h2, h3, h4⟩
      by_cases e : k = i
      · subst e
        refine .inr ?_
        rw [dif_pos h3, if_pos h4, h1]
        simp
      · exact .inl ⟨k, h1, by omega, h3, h4⟩
attribute [local irreducible] E idxN cellAt cellsAt storeAt callable helems hmoved lookIn findKey keyOk hentries Hp.at Hp.set Hp.lay arBits hupdated setAt CallP YieldP BoolOf IsWrap Rnd LoopP AppP CutP Int.tmod Int.tdiv Int.fdiv
section
variable [Unknowns]
attribute [local irreducible] ResP sameAt
theorem possible_spec (v : Value) (R : List Q4) (c5 : List Int) (h : Hp) (hv : RV h v R) (hrl : R.length ≤ 15) (hc : c5.length = 5) (hR : ∀ k, (hk : k < R.length) → QIn 5 R[k]) : CallP E 109 [v, .func (.func 74) ⟨[cv c5]⟩ ⟨[]⟩] h (fun r h' => (∃ l, Built h h' 3 r l ∧ l = posN R c5 R.length) ∧ Grows h h') := by
  have hcells := hv.cells
  obtain ⟨a, rfl, hcells⟩ := hcells
  unfold cv
  refine enter109 (by simp) ?_
  conv => whnf
  refine SeqP.go ?_
  conv => whnf
  refine SeqP.go ?_
  conv => whnf
  refine SeqP.cut (α := Value × List Int × Hp) (fun s => [(5, s.1)]) (fun s H => s.2.2 = H ∧ Grows h s.2.2 ∧ Built h s.2.2 3 s.1 s.2.1 ∧ s.2.1 = posN R c5 R.length) ?_ ?_
  rotate_left
  · rintro ⟨wv, l, H⟩ φ9 _ ⟨rfl, h1, h2, h3⟩
    dsimp only at h1 h2 h3 ⊢
    have hkk := (LV.of h2).known
    obtain ⟨a9, rfl⟩ := hkk
    conv => whnf
    repeat (refine SeqP.go ?_; conv => whnf)
    exact ⟨⟨l, h2, h3⟩, h1⟩
  conv => whnf
  repeat (refine SeqP.go ?_; conv => whnf)
  refine loop_inv (α := Nat × Value × List Int × Hp) (fun s => [(10, int s.1), (9, int R.length), (8, .slice a R.length R.length), (5, s.2.1), (1, .func (.func 74) ⟨[.agg ⟨c5.map int⟩]⟩ ⟨[]⟩)]) (fun s => s.2.2.2) (fun s => s.1 ≤ R.length ∧ Grows h s.2.2.2 ∧ Built h s.2.2.2 3 s.2.1 s.2.2.1 ∧ s.2.2.1 = posN R c5 s.1) (fun s => R.length - s.1) (0, .slice none 0 0, [], h) ⟨Nat.zero_le _, .refl _, .inl ⟨rfl, rfl⟩, rfl⟩ ⟨rfl, rfl, rfl, rfl, rfl, trivial⟩ (Hp.Le.refl _) ?_
  rintro ⟨i, wv, l, H⟩ φ2 ⟨hi, hg, hb, hu⟩
  dsimp only at hi hg hb hu ⊢
  have hcnt : l.length ≤ i := by rw [hu]; exact posN_len R c5 i
  have hkk := (LV.of hb).known
  obtain ⟨aw, rfl⟩ := hkk
  conv => whnf
  repeat (refine SeqP.go ?_; conv => whnf)
  refine cmpB (fun c1 => ?_) (fun c1 => ?_)
  rotate_left
  · have : i = R.length := by omega
    subst this
    conv => whnf
    repeat (refine SeqP.go ?_; conv => whnf)
    exact ⟨(_, l, H), ⟨rfl, trivial⟩, ⟨rfl, hg, hb, hu⟩, rfl⟩
  have hil : i < R.length := by omega
  have hkg := hcells i hil
  obtain ⟨rr, ear, hkc⟩ := hkg
  subst ear
  have hkc := hg.cells hkc
  have hqi := hR i hil
  have hexq : ∃ q, R[i] = q := ⟨_, rfl⟩
  obtain ⟨q, eq⟩ := hexq
  rw [eq] at hkc hqi
  have hPi : (∃ hk : i < R.length, Allowed c5 R[i]) ↔ Allowed c5 q := by
    constructor
    · rintro ⟨hk, k⟩
      rw [← eq]
      exact k
    · intro k
      exact ⟨hil, by rw [eq]; exact k⟩
  conv => whnf
  repeat (refine SeqP.go ?_; conv => whnf)
  refine ⟨rfl, ⟨by omega, by omega⟩, ?_⟩
  conv => whnf
  refine ⟨[int q.a, int q.b, int q.c, int q.d], by rw [offAt_eq]; simpa using hkc, ?_⟩
  conv => whnf
  refine ⟨rfl, _, storeAt_all (vs := [int q.a, int q.b, int q.c, int q.d]) rfl rfl rfl, ?_⟩
  have hg1 := hg.then_lay (.row 96 true [int q.a, int q.b, int q.c, int q.d])
  conv => whnf
  repeat (refine SeqP.go ?_; conv => whnf)
  refine ⟨[int q.a, int q.b, int q.c, int q.d], all_cells (Hp.at_lay_self _ _) rfl, ?_⟩
  conv => whnf
  refine ⟨can74, ?_⟩
  refine CallP.mono (allows_spec c5 q _ hc hqi) ?_
  rintro r2 H2 ⟨⟨b, rfl, hb2⟩, g2⟩
  have hbb := hb.ext ((Grows.lay H (.row 96 true [int q.a, int q.b, int q.c, int q.d])).trans g2)
  cases b with
  | false =>
    conv => whnf
    repeat (refine SeqP.go ?_; conv => whnf)
    refine ⟨((i + 1 : Nat) : Int), wie (by omega) (by omega), ?_⟩
    conv => whnf
    exact Rnd.mk (i + 1, _, l, H2) ⟨by show i + 1 ≤ _; omega, hg1.trans g2, hbb, by show l = posN R c5 (i + 1); rw [posN_skip hil (fun k => hb2.f (by rw [← eq]; exact k))]; exact hu⟩ (by show _ - (i + 1) < _ - i; omega) ⟨rfl, rfl, rfl, rfl, rfl, trivial⟩ (Hp.Le.refl _) rfl
  | true =>
    conv => whnf
    repeat (refine SeqP.go ?_; conv => whnf)
    refine AppP.ints (hbb.ext (Grows.lay _ _)) ((hg1.trans g2).then_lay _) Elems.lay1 (by simp; omega) ?_
    intro v4 H4 hv4 hg4 _
    conv => whnf
    repeat (refine SeqP.go ?_; conv => whnf)
    refine ⟨((i + 1 : Nat) : Int), wie (by omega) (by omega), ?_⟩
    conv => whnf
    exact Rnd.mk (i + 1, v4, l ++ [(i : Int)], H4) ⟨by show i + 1 ≤ _; omega, hg4, hv4, by show l ++ [(i : Int)] = posN R c5 (i + 1); rw [posN_add hil (by rw [eq]; exact hb2.t), hu]⟩ (by show _ - (i + 1) < _ - i; omega) ⟨rfl, rfl, rfl, rfl, rfl, trivial⟩ (Hp.Le.refl _) rfl
end
end Go.Proofs.Ytpiplaicnbapbaa
namespace Go.Proofs.Ytpiplaicnbapbaa
open Go.Rx Go.RowKit
structure K5 where
  a : Int
  b : Int
  c : Int
  d : Int
  e : Int
  deriving DecidableEq
def enc5 (k : K5) : Value := .agg ⟨[int k.a, int k.b, int k.c, int k.d, int k.e]⟩
theorem key5_ok (k : K5) : keyOk E 107 (enc5 k) = true := by
  kernel_rfl
theorem key5_bits (k : K5) : Instr.sameBits 10000 (enc5 k) (enc5 k) = true := by
  obtain ⟨a, b, c, d, e⟩ := k
  unfold enc5
  simp [Instr.sameBits]
end Go.Proofs.Ytpiplaicnbapbaa
namespace Go.Proofs.Ytpiplaicnbapbaa
open Go.Rx Go.RowKit
theorem key5_eq (k k' : K5) : keyEq Try.prog 107 (enc5 k) (enc5 k') = some (decide (k = k')) := by
  obtain ⟨a, b, c, d, e⟩ := k
  obtain ⟨a', b', c', d', e'⟩ := k'
  have e1 : decide ((⟨a, b, c, d, e⟩ : K5) = ⟨a', b', c', d', e'⟩) = (decide (a = a') && decide (b = b') && decide (c = c') && decide (d = d') && decide (e = e')) := by
    rw [Bool.eq_iff_iff]
    simp [and_assoc]
  rw [e1]
  unfold enc5
  have st : ∀ (k : Program → Sem Bool), pureRun Try.prog (.program k) = pureRun Try.prog (k Try.prog) := fun k => rfl
  show _ = some ((a == a') && (b == b') && (c == c') && (d == d') && (e == e'))
  conv => lhs; whnf
  conv => lhs; arg 2; whnf
  conv => lhs; arg 2; arg 1; rw [Std.Legacy.Range.forIn_eq_forIn_range']
  conv => lhs; arg 2; whnf
  repeat (rw [st]; conv => lhs; arg 2; whnf)
  conv => lhs; arg 2; arg 1; whnf
  conv => lhs; arg 2; arg 1; arg 1; whnf
  dsimp only
  cases h1 : (a == a')
  · rfl
  conv => lhs; arg 2; whnf
  repeat (rw [st]; conv => lhs; arg 2; whnf)
  conv => lhs; arg 2; arg 1; whnf
  conv => lhs; arg 2; arg 1; arg 1; whnf
  dsimp only
  cases h2 : (b == b')
  · rfl
  conv => lhs; arg 2; whnf
  repeat (rw [st]; conv => lhs; arg 2; whnf)
  conv => lhs; arg 2; arg 1; whnf
  conv => lhs; arg 2; arg 1; arg 1; whnf
  dsimp only
  cases h3 : (c == c')
  · rfl
  conv => lhs; arg 2; whnf
  repeat (rw [st]; conv => lhs; arg 2; whnf)
  conv => lhs; arg 2; arg 1; whnf
  conv => lhs; arg 2; arg 1; arg 1; whnf
  dsimp only
  cases h4 : (d == d')
  · rfl
  conv => lhs; arg 2; whnf
  repeat (rw [st]; conv => lhs; arg 2; whnf)
  conv => lhs; arg 2; arg 1; whnf
  conv => lhs; arg 2; arg 1; arg 1; whnf
  dsimp only
  cases h5 : (e == e')
  · rfl
  · rfl
theorem key107 : KeyTy E 107 enc5 where
  ok := key5_ok
  eq := key5_eq
  bits := key5_bits
def k5 (l : List Int) : K5 := ⟨gl l 0, gl l 1, gl l 2, gl l 3, gl l 4⟩
theorem enc_k5 {l : List Int} (h : l.length = 5) : enc5 (k5 l) = .agg ⟨l.map int⟩ := by
  match l, h with
  | [a, b, c, d, e], _ => rfl
theorem k5_pad {n : Nat} {c d : List Int} (hc : CrOk n c) (hd : CrOk n d) (hn : n ≤ 5) (e : k5 (pad5 c) = k5 (pad5 d)) : c = d := by
  have h1 := hc.len
  have h2 := hd.len
  unfold k5 at e
  simp only [gl_pad, K5.mk.injEq] at e
  obtain ⟨e0, e1, e2, e3, e4⟩ := e
  apply List.ext_getElem (by omega)
  intro i hi hj
  rw [← gl_at hi, ← gl_at hj]
  have : i = 0 ∨ i = 1 ∨ i = 2 ∨ i = 3 ∨ i = 4 := by omega
  rcases this with x | x | x | x | x <;> subst x <;> assumption
end Go.Proofs.Ytpiplaicnbapbaa
namespace Go.Proofs.Ytpiplaicnbapbaa
open Go.Rx Go.RowKit
theorem ty122 : ∃ i, E.ty 122 = some i ∧ i.desc = .map 3 3 := by
  have hs : (tiOf Try.prog 122).isSome = true := by kernel_rfl
  refine ⟨(tiOf Try.prog 122).get hs, ty_get (by kernel_rfl) (Option.some_get hs).symm, ?_⟩
  kernel_rfl
theorem ty137 : ∃ i, E.ty 137 = some i ∧ i.desc = .map 107 3 := by
  have hs : (tiOf Try.prog 137).isSome = true := by kernel_rfl
  refine ⟨(tiOf Try.prog 137).get hs, ty_get (by kernel_rfl) (Option.some_get hs).symm, ?_⟩
  kernel_rfl
theorem ty3 : ∃ i, E.ty 3 = some i ∧ isI64 i.desc = true ∧ i.zero = some (int 0) := by
  have hs : (tiOf Try.prog 3).isSome = true := by kernel_rfl
  refine ⟨(tiOf Try.prog 3).get hs, ty_get (by kernel_rfl) (Option.some_get hs).symm, ?_, ?_⟩
  · kernel_rfl
  · kernel_rfl
theorem keyI : KeyTy E 3 (fun n : Int => int n) := by
  obtain ⟨i, hi, hd, _⟩ := ty3
  exact keyInt hi hd
abbrev encI : Int → Value := fun n : Int => int n
theorem raw_insert {κ : Type} [DecidableEq κ] {enc : κ → Value} {t kt et : TypeId} {ti : TI} (ht : E.ty t = some ti) (hd : ti.desc = .map kt et) (K : KeyTy E kt enc) {φ : Rx.Frame} {h : Hp} {ty : TypeId} {x j y : Operand} {r : Nat} {k : κ} {v : Value} {f : κ → Option Value} {n : Nat}
    (hx : evφ φ x = mapAt r) (hj : evφ φ j = enc k) (hy : evφ φ y = v) (hm : MapAt h r enc f n) {Q : Value → Hp → Prop}
    (q : ∀ h', MapAt h' r enc (fun k' => if k' = k then some v else f k') (if (f k).isSome then n else n + 1) → Keeps r h h' → Q undef h') : MapP E (.raw (.insert t x j y) ty) φ h Q := by
  have := raw_update (ty := ty) ht hd K hx hj hy hm q
  exact ⟨this.1⟩
def IxOf {κ : Type} (key : List Int → κ) (L : List (List Int)) (f : κ → Option Value) : Prop := (∀ i, (hi : i < L.length) → f (key L[i]) = some (int i)) ∧ ∀ k v, f k = some v → ∃ i, ∃ hi : i < L.length, k = key L[i] ∧ v = int i
theorem IxOf.add {κ : Type} [DecidableEq κ] {key : List Int → κ} {L : List (List Int)} {f : κ → Option Value} (h : IxOf key L f) {c : List Int} (hn : f (key c) = none) : IxOf key (L ++ [c]) (fun k' => if k' = key c then some (int L.length) else f k') := by
  refine ⟨fun i hi => ?_, fun k v hk => ?_⟩
  · rw [List.length_append, List.length_singleton] at hi
    by_cases e : i < L.length
    · rw [List.getElem_append_left e]
      dsimp only
      rw [if_neg (fun e2 => by rw [← e2, h.1 i e] at hn; cases hn)]
      exact h.1 i e
    · have e2 : i = L.length := by omega
      subst e2
      simp
  · dsimp only at hk
    by_cases e : k = key c
    · rw [if_pos e] at hk
      cases hk
      exact ⟨L.length, by simp, by simp [e], rfl⟩
    · rw [if_neg e] at hk
      obtain ⟨i, hi, h1, h2⟩ := h.2 k v hk
      exact ⟨i, by rw [List.length_append]; omega, by rw [List.getElem_append_left hi]; exact h1, h2⟩
theorem IxOf.none_iff {κ : Type} {key : List Int → κ} {L : List (List Int)} {f : κ → Option Value} (h : IxOf key L f) {c : List Int} (inj : ∀ d ∈ L, key d = key c → d = c) (hn : f (key c) = none) : c ∉ L := by
  intro hm
  obtain ⟨i, hi, e⟩ := List.getElem_of_mem hm
  have := h.1 i hi
  rw [e, hn] at this
  cases this
theorem IxOf.some_iff {κ : Type} {key : List Int → κ} {L : List (List Int)} {f : κ → Option Value} (h : IxOf key L f) {c : List Int} (inj : ∀ d ∈ L, key d = key c → d = c) {v : Value} (hs : f (key c) = some v) : ∃ i, ∃ hi : i < L.length, L[i] = c ∧ v = int i := by
  obtain ⟨i, hi, h1, h2⟩ := h.2 _ v hs
  exact ⟨i, hi, inj _ (List.getElem_mem _) h1.symm, h2⟩
end Go.Proofs.Ytpiplaicnbapbaa
namespace Go.Proofs.Ytpiplaicnbapbaa
open Go.Rx Go.RowKit
theorem crowds_few {n : Nat} {L : List (List Int)} (hn : n ≤ 5) (h : ∀ d ∈ L, CrOk n d) (hd : L.Nodup) : L.length ≤ 100000 := by
  have h1 := nodup_map (f := fun d => (keyOf d).toNat) hd (fun a ha b hb e => keyOf_inj (h a ha) (h b hb) (by
    have h2 := keyOf_bd hn (h a ha)
    have h3 := keyOf_bd hn (h b hb)
    omega))
  have h2 := nodup_lt 100000 _ h1 (fun x hx => by
    obtain ⟨d, hd2, rfl⟩ := List.mem_map.1 hx
    have := keyOf_bd hn (h d hd2)
    omega)
  rw [List.length_map] at h2
  exact h2
theorem Nx.done {R : List Q4} {L N : List (List Int)} (k : Nx R L N) (hl : N.length = L.length) (hd : L.Nodup) (hR : R.length ≤ 1000) : NxOk R L N := by
  refine ⟨hl, fun i hi x hx => ?_, fun i b he => ?_, fun i hi => ?_⟩
  · have h1 := List.getElem?_eq_getElem (l := L) (i := i) (by omega)
    obtain ⟨kk, e, j, h2, h3, h4⟩ := (k.row i _ _ h1 (List.getElem?_eq_getElem hi)).fwd x hx
    exact ⟨kk, h2, _, e, j, h1, h3, h4⟩
  · have hlt := he.lt
    obtain ⟨d, e, j, h1, h2, h3⟩ := he
    have hi : i < N.length := by omega
    obtain ⟨kk, h4, h5⟩ := (k.row i _ _ h1 (List.getElem?_eq_getElem hi)).bwd j e (step_range h3).2 h3
    have hkk := (List.getElem?_eq_some_iff.1 h4).1
    have : kk = b := (List.getElem?_inj hkk hd).1 (h4.trans h2.symm)
    subst this
    exact ⟨hi, h5⟩
  · have h1 := List.getElem?_eq_getElem (l := L) (i := i) (by omega)
    have := (k.row i _ _ h1 (List.getElem?_eq_getElem hi)).few
    omega
end Go.Proofs.Ytpiplaicnbapbaa
