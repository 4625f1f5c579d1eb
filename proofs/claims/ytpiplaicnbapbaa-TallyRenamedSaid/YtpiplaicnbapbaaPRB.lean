/- Contracts of the functions that PRD comes to. -/
import Derived.Test.YtpiplaicnbapbaaPRA
set_option maxRecDepth 100000
set_option maxHeartbeats 2000000
set_option linter.unusedVariables false
set_option linter.unusedSectionVars false
set_option linter.unusedSimpArgs false
namespace Go.Proofs.Ytpiplaicnbapbaa
open Go.Rx Go.RowKit
def qcells (q : Q4) : List Value := [int q.a, int q.b, int q.c, int q.d]
def qv (q : Q4) : Value := .agg ⟨qcells q⟩
theorem allowed_pad {c : List Int} {q : Q4} : Allowed (pad5 c) q ↔ Allowed c q := by unfold Allowed; rw [gl_pad, gl_pad]
theorem after_pad {c : List Int} {q : Q4} (h : QIn c.length q) : after (pad5 c) q = pad5 (after c q) := by
  obtain ⟨h1, h2, h3, h4⟩ := qin h
  unfold after
  rw [bump_pad h1, bump_pad (by rw [bump_len]; exact h2), bump_pad (by rw [bump_len, bump_len]; exact h3), bump_pad (by rw [bump_len, bump_len, bump_len]; exact h4)]
structure AM (h : Hp) (q : Q4) (l : List Int) (H : Hp) : Prop where
  la : H.at h.next = some (.row 107 true (l.map int))
  qa : H.at (h.next + 1) = some (.row 96 true (qcells q))
  za : H.at (h.next + 2) = some (.row 107 true (zero5.map int))
  gr : Grows h H
  len : l.length = 5
theorem AM.put {h : Hp} {q : Q4} {l : List Int} {H : Hp} (k : AM h q l H) (l' : List Int) (hl : l'.length = 5) : AM h q l' (H.set h.next (.row 107 true (l'.map int))) :=
  ⟨Hp.at_set_self _ (Hp.lt_of_at k.la), by rw [Hp.at_set_ne _ (by omega)]; exact k.qa, by rw [Hp.at_set_ne _ (by omega)]; exact k.za, k.gr.then_set _ (Nat.le_refl _), hl⟩
theorem AM.bump {h : Hp} {q : Q4} {l : List Int} {H : Hp} (k : AM h q l H) {i : Int} (hi : 0 ≤ i ∧ i < 5) (x : Int) : storeAt H h.next (offAt 0 i.toNat 1) [int (gl l i.toNat + x)] = some (H.set h.next (.row 107 true ((Ytpiplaicnbapbaa.bump l (i, x)).map int))) := by
  have := row_store k.la (i := i.toNat) (by rw [k.len]; omega) (gl l i.toNat + x)
  rw [offAt_eq]
  unfold Ytpiplaicnbapbaa.bump
  simpa using this
theorem AM.load {h : Hp} {q : Q4} {l : List Int} {H : Hp} (k : AM h q l H) {i : Int} (hi : 0 ≤ i ∧ i < 5) : cellAt H h.next (offAt 0 i.toNat 1) = some (int (gl l i.toNat)) := by
  have := row_load k.la (i := i.toNat) (by rw [k.len]; omega)
  rw [offAt_eq]
  simpa using this
theorem gl_bd_bump {l : List Int} {i x M : Int} (hi : i.toNat < l.length) (h : ∀ j, -M ≤ gl l j ∧ gl l j ≤ M) (hx : -1 ≤ x ∧ x ≤ 1) : ∀ j, -(M + 1) ≤ gl (bump l (i, x)) j ∧ gl (bump l (i, x)) j ≤ M + 1 := fun j => by
  rw [gl_bump hi]
  have := h j
  split <;> omega
attribute [local irreducible] E idxN cellAt cellsAt storeAt callable helems hmoved lookIn findKey keyOk hentries Hp.at Hp.set Hp.lay arBits hupdated setAt CallP YieldP BoolOf IsWrap Rnd LoopP AppP CutP Int.tmod Int.tdiv Int.fdiv
section
variable [Unknowns]
attribute [local irreducible] ResP sameAt finP
theorem after_spec (c : List Int) (q : Q4) (h : Hp) (hc : c.length = 5) (hb : ∀ j, -100 ≤ gl c j ∧ gl c j ≤ 100) (hq : QIn 5 q) : CallP E 75 [cv c, qv q] h (fun r h' => r = cv (after c q) ∧ Grows h h') := by
  have hq' := qin' (n := 5) hq
  have n1 : ∀ o, (h.lay o).next = h.next + 1 := fun o => Hp.next_lay _ _
  unfold cv qv
  refine enter75 (by simp) ?_
  conv => whnf
  refine SeqP.cut (α := Unit) (fun _ => [(2, ptr h.next 0), (3, ptr (h.next + 1) 0), (4, ptr (h.next + 2) 0)]) (fun _ H => AM h q c H) ?_ ?_
  · conv => whnf
    refine ⟨(), ⟨rfl, congrArg (fun k => ptr k 0) (n1 _), congrArg (fun k => ptr k 0) (by simp only [Hp.next_lay]), trivial⟩, ⟨Hp.at_lay_old _ (Hp.at_lay_old _ (Hp.at_lay_self _ _)), Hp.at_lay_old _ (at_nx2 (n1 _) (Hp.at_lay_self _ _)), at_nx2 (by simp only [Hp.next_lay]) (Hp.at_lay_self _ _), ((Grows.lay _ _).then_lay _).then_lay _, hc⟩, rfl⟩
  rintro _ φ0 H0 m0
  have b1l : (bump c (q.a, -1)).length = 5 := by rw [bump_len, hc]
  have b2l : (bump (bump c (q.a, -1)) (q.b, -1)).length = 5 := by rw [bump_len, b1l]
  have b3l : (bump (bump (bump c (q.a, -1)) (q.b, -1)) (q.c, 1)).length = 5 := by rw [bump_len, b2l]
  have b4l : (after c q).length = 5 := by rw [after_len, hc]
  have g1 := gl_bd_bump (i := q.a) (x := -1) (by omega) hb (by omega)
  have g2 := gl_bd_bump (i := q.b) (x := -1) (by omega) g1 (by omega)
  have g3 := gl_bd_bump (i := q.c) (x := 1) (by omega) g2 (by omega)
  conv => whnf
  refine SeqP.cut (α := Unit) (fun _ => [(2, ptr h.next 0), (3, ptr (h.next + 1) 0), (4, ptr (h.next + 2) 0)]) (fun _ H => AM h q (bump c (q.a, -1)) H) ?_ ?_
  · have hx := hb q.a.toNat
    conv => whnf
    refine ⟨⟨by omega, by omega⟩, ?_⟩
    conv => whnf
    refine ⟨_, cellAt_row m0.qa rfl, ?_⟩
    conv => whnf
    refine ⟨⟨by omega, by omega⟩, ?_⟩
    conv => whnf
    refine ⟨_, m0.load hq'.1, ?_⟩
    conv => whnf
    refine ⟨gl c q.a.toNat + -1, wie (by omega) (by omega), ?_⟩
    conv => whnf
    refine ⟨⟨by omega, by omega⟩, ?_⟩
    conv => whnf
    refine ⟨rfl, _, m0.bump hq'.1 (-1), ?_⟩
    conv => whnf
    exact ⟨(), ⟨rfl, rfl, rfl, trivial⟩, m0.put _ b1l, rfl⟩
  rintro _ φ1 H1 m1
  have hexl : ∃ l, bump c (q.a, -1) = l := ⟨_, rfl⟩
  obtain ⟨l1, el1⟩ := hexl
  rw [el1] at m1 g1
  conv => whnf
  refine SeqP.cut (α := Unit) (fun _ => [(2, ptr h.next 0), (3, ptr (h.next + 1) 0), (4, ptr (h.next + 2) 0)]) (fun _ H => AM h q (bump l1 (q.b, -1)) H) ?_ ?_
  · have hx := g1 q.b.toNat
    conv => whnf
    refine ⟨⟨by omega, by omega⟩, ?_⟩
    conv => whnf
    refine ⟨_, cellAt_row m1.qa rfl, ?_⟩
    conv => whnf
    refine ⟨⟨by omega, by omega⟩, ?_⟩
    conv => whnf
    refine ⟨_, m1.load hq'.2.1, ?_⟩
    conv => whnf
    refine ⟨gl l1 q.b.toNat + -1, wie (by omega) (by omega), ?_⟩
    conv => whnf
    refine ⟨⟨by omega, by omega⟩, ?_⟩
    conv => whnf
    refine ⟨rfl, _, m1.bump hq'.2.1 (-1), ?_⟩
    conv => whnf
    exact ⟨(), ⟨rfl, rfl, rfl, trivial⟩, m1.put _ (by rw [← el1]; exact b2l), rfl⟩
  rintro _ φ2 H2 m2
  rw [el1] at b2l b3l g2 g3
  have hexl : ∃ l, bump l1 (q.b, -1) = l := ⟨_, rfl⟩
  obtain ⟨l2, el2⟩ := hexl
  rw [el2] at m2 g2 b2l b3l g3
  conv => whnf
  refine SeqP.cut (α := Unit) (fun _ => [(2, ptr h.next 0), (3, ptr (h.next + 1) 0), (4, ptr (h.next + 2) 0)]) (fun _ H => AM h q (bump l2 (q.c, 1)) H) ?_ ?_
  · have hx := g2 q.c.toNat
    conv => whnf
    refine ⟨⟨by omega, by omega⟩, ?_⟩
    conv => whnf
    refine ⟨_, cellAt_row m2.qa rfl, ?_⟩
    conv => whnf
    refine ⟨⟨by omega, by omega⟩, ?_⟩
    conv => whnf
    refine ⟨_, m2.load hq'.2.2.1, ?_⟩
    conv => whnf
    refine ⟨gl l2 q.c.toNat + 1, wie (by omega) (by omega), ?_⟩
    conv => whnf
    refine ⟨⟨by omega, by omega⟩, ?_⟩
    conv => whnf
    refine ⟨rfl, _, m2.bump hq'.2.2.1 1, ?_⟩
    conv => whnf
    exact ⟨(), ⟨rfl, rfl, rfl, trivial⟩, m2.put _ b3l, rfl⟩
  rintro _ φ3 H3 m3
  have hexl : ∃ l, bump l2 (q.c, 1) = l := ⟨_, rfl⟩
  obtain ⟨l3, el3⟩ := hexl
  rw [el3] at m3 b3l g3
  have eaf : after c q = bump l3 (q.d, 1) := by unfold after; rw [el1, el2, el3]
  rw [eaf] at b4l ⊢
  conv => whnf
  refine SeqP.cut (α := Unit) (fun _ => [(2, ptr h.next 0), (3, ptr (h.next + 1) 0), (4, ptr (h.next + 2) 0)]) (fun _ H => AM h q (bump l3 (q.d, 1)) H) ?_ ?_
  · have hx := g3 q.d.toNat
    conv => whnf
    refine ⟨⟨by omega, by omega⟩, ?_⟩
    conv => whnf
    refine ⟨_, cellAt_row m3.qa rfl, ?_⟩
    conv => whnf
    refine ⟨⟨by omega, by omega⟩, ?_⟩
    conv => whnf
    refine ⟨_, m3.load hq'.2.2.2, ?_⟩
    conv => whnf
    refine ⟨gl l3 q.d.toNat + 1, wie (by omega) (by omega), ?_⟩
    conv => whnf
    refine ⟨⟨by omega, by omega⟩, ?_⟩
    conv => whnf
    refine ⟨rfl, _, m3.bump hq'.2.2.2 1, ?_⟩
    conv => whnf
    exact ⟨(), ⟨rfl, rfl, rfl, trivial⟩, m3.put _ b4l, rfl⟩
  rintro _ φ4 H4 m4
  have hexl : ∃ l, bump l3 (q.d, 1) = l := ⟨_, rfl⟩
  obtain ⟨l4, el4⟩ := hexl
  rw [el4] at m4 b4l ⊢
  conv => whnf
  repeat (refine SeqP.go ?_; conv => whnf)
  refine ⟨l4.map int, all_cells m4.la (by rw [List.length_map, b4l]), ?_⟩
  conv => whnf
  refine ⟨by show (l4.map int).length = 5; rw [List.length_map, b4l], _, storeAt_full (vs := l4.map int) m4.za (by rw [List.length_map, b4l]; rfl) (ints_one _) (over_int (k := zero5) (by rw [b4l]; rfl)), ?_⟩
  conv => whnf
  repeat (refine SeqP.go ?_; conv => whnf)
  obtain ⟨i107, t107, ag107, sz107⟩ := ty107
  refine leave_cell (r := h.next + 2) (o := 0) (cs := l4.map int) rfl t107 ag107 ?_ ⟨rfl, m4.gr.then_set _ (by omega)⟩
  rw [sz107]
  exact all_cells (Hp.at_set_self _ (Hp.lt_of_at m4.za)) (by rw [List.length_map, b4l])
theorem allows_spec (c : List Int) (q : Q4) (h : Hp) (hc : c.length = 5) (hq : QIn 5 q) : CallP E 74 [cv c, qv q] h (fun r h' => (∃ b, r = .bool b ∧ BoolOf b (Allowed c q)) ∧ Grows h h') := by
  have hq' := qin' (n := 5) hq
  have n1 : ∀ o, (h.lay o).next = h.next + 1 := fun o => Hp.next_lay _ _
  have g0 : Grows h ((h.lay (.row 107 true (c.map int))).lay (.row 96 true (qcells q))) := (Grows.lay _ _).then_lay _
  have a0 : ((h.lay (.row 107 true (c.map int))).lay (.row 96 true (qcells q))).at h.next = some (.row 107 true (c.map int)) := Hp.at_lay_old _ (Hp.at_lay_self _ _)
  have a1 : ((h.lay (.row 107 true (c.map int))).lay (.row 96 true (qcells q))).at (h.lay (.row 107 true (c.map int))).next = some (.row 96 true (qcells q)) := Hp.at_lay_self _ _
  have ld : ∀ i : Int, 0 ≤ i ∧ i < 5 → cellAt ((h.lay (.row 107 true (c.map int))).lay (.row 96 true (qcells q))) h.next (offAt 0 i.toNat 1) = some (int (gl c i.toNat)) := fun i hi => by
    have := row_load a0 (i := i.toNat) (by omega)
    rw [offAt_eq]
    simpa using this
  unfold cv qv
  refine enter74 (by simp) ?_
  conv => whnf
  repeat (refine SeqP.go ?_; conv => whnf)
  refine ⟨⟨by omega, by omega⟩, ?_⟩
  conv => whnf
  refine ⟨_, cellAt_row a1 rfl, ?_⟩
  conv => whnf
  refine ⟨⟨by omega, by omega⟩, ?_⟩
  conv => whnf
  refine ⟨_, cellAt_row a1 rfl, ?_⟩
  conv => whnf
  repeat (refine SeqP.go ?_; conv => whnf)
  refine cmpB (fun c1 => ?_) (fun c1 => ?_)
  · conv => whnf
    repeat (refine SeqP.go ?_; conv => whnf)
    refine ⟨⟨by omega, by omega⟩, ?_⟩
    conv => whnf
    refine ⟨_, ld q.a hq'.1, ?_⟩
    conv => whnf
    refine cmpB (fun c2 => ?_) (fun c2 => ?_)
    · conv => whnf
      repeat (refine SeqP.go ?_; conv => whnf)
      exact finP_one rfl rfl ⟨⟨true, rfl, bo_yes (by unfold Allowed; rw [if_pos c1]; omega)⟩, g0⟩
    · conv => whnf
      repeat (refine SeqP.go ?_; conv => whnf)
      exact finP_one rfl rfl ⟨⟨false, rfl, bo_no (by unfold Allowed; rw [if_pos c1]; omega)⟩, g0⟩
  conv => whnf
  repeat (refine SeqP.go ?_; conv => whnf)
  refine ⟨⟨by omega, by omega⟩, ?_⟩
  conv => whnf
  refine ⟨_, ld q.a hq'.1, ?_⟩
  conv => whnf
  refine cmpB (fun c2 => ?_) (fun c2 => ?_)
  rotate_left
  · conv => whnf
    repeat (refine SeqP.go ?_; conv => whnf)
    exact finP_one rfl rfl ⟨⟨false, rfl, bo_no (by unfold Allowed; rw [if_neg c1]; omega)⟩, g0⟩
  conv => whnf
  refine ⟨⟨by omega, by omega⟩, ?_⟩
  conv => whnf
  refine ⟨_, ld q.b hq'.2.1, ?_⟩
  conv => whnf
  refine cmpB (fun c3 => ?_) (fun c3 => ?_)
  · conv => whnf
    repeat (refine SeqP.go ?_; conv => whnf)
    exact finP_one rfl rfl ⟨⟨true, rfl, bo_yes (by unfold Allowed; rw [if_neg c1]; omega)⟩, g0⟩
  · conv => whnf
    repeat (refine SeqP.go ?_; conv => whnf)
    exact finP_one rfl rfl ⟨⟨false, rfl, bo_no (by unfold Allowed; rw [if_neg c1]; omega)⟩, g0⟩
end
end Go.Proofs.Ytpiplaicnbapbaa
namespace Go.Proofs.Ytpiplaicnbapbaa
open Go.Rx Go.RowKit
attribute [local irreducible] E idxN cellAt cellsAt storeAt callable helems hmoved lookIn findKey keyOk hentries Hp.at Hp.set Hp.lay arBits hupdated setAt CallP YieldP BoolOf IsWrap Rnd LoopP AppP CutP Int.tmod Int.tdiv Int.fdiv
section
variable [Unknowns]
attribute [local irreducible] ResP sameAt finP
theorem read_spec (v w : Value) (p : Prot) (c : List Int) (h : Hp) (hv : PV h v p) (hw : View h w c) (hn : InR p.n) (ho : p.out.length ≤ 1000000) (hs : p.start.length ≤ 1000000) (hr : p.rules.length ≤ 1000000) (hcl : c.length ≤ 1000000) : CallP E 73 [v, w] h (fun r h' => ReadR p c r ∧ Grows h h') := by
  obtain ⟨bx, rfl, hbl, b0, -⟩ := hv.box
  obtain ⟨ak, ck, rfl⟩ := hw.known
  have hexR : ∃ R, (h.lay (.row 25 true bx)).next = R ∧ h.next < R := ⟨_, rfl, by rw [Hp.next_lay]; omega⟩
  obtain ⟨R, eR, hR⟩ := hexR
  have g2 : Grows h ((h.lay (.row 25 true bx)).lay (.row 107 true (zero5.map int))) := (Grows.lay _ _).then_lay _
  have a1 : ((h.lay (.row 25 true bx)).lay (.row 107 true (zero5.map int))).at h.next = some (.row 25 true bx) := Hp.at_lay_old _ (Hp.at_lay_self _ _)
  have a2 : ((h.lay (.row 25 true bx)).lay (.row 107 true (zero5.map int))).at (h.lay (.row 25 true bx)).next = some (.row 107 true (zero5.map int)) := Hp.at_lay_self _ _
  obtain ⟨i107, t107, ag107, sz107⟩ := ty107
  have fin : ∀ (φ : Rx.Frame) (H : Hp) (l : List Int) (e : Int), φ 4 = ptr R 0 → φ 5 = int e → H.at R = some (.row 107 true (l.map int)) → l.length = 5 → Grows h H → ReadR p c (.tuple ⟨[cv l, int e]⟩) → finP E [.cell 4 107, .tmp 5] ⟨φ, H, []⟩ (fun r h' => ReadR p c r ∧ Grows h h') := by
    intro φ H l e h4 h5 hat hl hg hq
    refine leave_cell2 (cs := l.map int) h4 h5 rfl t107 ag107 ?_ ⟨hq, hg⟩
    rw [sz107]
    exact all_cells hat (by rw [List.length_map, hl])
  refine enter73 (by simp) ?_
  conv => whnf
  refine SeqP.go ?_
  conv => whnf
  refine SeqP.cut (α := Hp) (fun _ => [(2, ptr h.next 0), (4, ptr (h.lay (.row 25 true bx)).next 0), (1, .slice ak c.length ck)]) (fun s H => s = H ∧ POk p ∧ Grows h s ∧ s.at h.next = some (.row 25 true bx) ∧ s.at (h.lay (.row 25 true bx)).next = some (.row 107 true (zero5.map int))) ?_ ?_
  · conv => whnf
    repeat (refine SeqP.go ?_; conv => whnf)
    refine ⟨bx, all_cells a1 hbl, ?_⟩
    conv => whnf
    refine CallP.mono (check_spec _ p _ (hv.ext g2) hn ho hs hr) ?_
    rintro r h1 ⟨⟨e, rfl, he1, he2⟩, g1⟩
    have g1' : Grows ((h.lay (.row 25 true bx)).lay (.row 107 true (zero5.map int))) h1 := g1
    by_cases hP : POk p
    · have := he1 hP
      subst this
      conv => whnf
      repeat (refine SeqP.go ?_; conv => whnf)
      refine cmpF (by omega) ?_
      conv => whnf
      repeat (refine SeqP.go ?_; conv => whnf)
      exact ⟨h1, ⟨rfl, rfl, rfl, trivial⟩, ⟨rfl, hP, g2.trans g1', g1'.at_ _ _ a1, g1'.at_ _ _ a2⟩, rfl⟩
    · have := he2 hP
      subst this
      conv => whnf
      repeat (refine SeqP.go ?_; conv => whnf)
      refine cmpT (by omega) ?_
      conv => whnf
      refine ⟨rfl, _, storeAt_full (vs := zero5.map int) (g1'.at_ _ _ a2) rfl rfl rfl, ?_⟩
      conv => whnf
      repeat (refine SeqP.go ?_; conv => whnf)
      exact fin _ _ zero5 60 (congrArg (fun k => ptr k 0) eR) rfl (by rw [← eR]; exact Hp.at_set_self _ (Hp.lt_of_at (g1'.at_ _ _ a2))) rfl ((g2.trans g1').then_set _ (by rw [Hp.next_lay]; omega)) ⟨zero5, 60, rfl, rfl, fun _ => rfl, fun k => absurd k hP, fun k => absurd k hP⟩
  rintro h1 φ1 _ ⟨rfl, hP, g1, b1, b2⟩
  rw [eR] at b2 ⊢
  conv => whnf
  refine SeqP.cut (α := Unit) (fun _ => [(2, ptr h.next 0), (4, ptr R 0), (1, .slice ak c.length ck)]) (fun s H => h1 = H ∧ Cnt c p.n) ?_ ?_
  · conv => whnf
    repeat (refine SeqP.go ?_; conv => whnf)
    refine ⟨_, cellAt_row b1 b0, ?_⟩
    conv => whnf
    refine CallP.mono (isCount_spec _ c p.n _ (hw.ext g1).ints hcl) ?_
    rintro r h2 ⟨⟨b, rfl, hb⟩, rfl⟩
    cases b with
    | true =>
      have hC := hb.t
      conv => whnf
      repeat (refine SeqP.go ?_; conv => whnf)
      exact ⟨(), ⟨rfl, rfl, rfl, trivial⟩, ⟨rfl, hC⟩, rfl⟩
    | false =>
      have hC := hb.f
      conv => whnf
      repeat (refine SeqP.go ?_; conv => whnf)
      refine ⟨rfl, _, storeAt_full (vs := zero5.map int) b2 rfl rfl rfl, ?_⟩
      conv => whnf
      repeat (refine SeqP.go ?_; conv => whnf)
      exact fin _ _ zero5 1 rfl rfl (Hp.at_set_self _ (Hp.lt_of_at b2)) rfl (g1.then_set _ (by omega)) ⟨zero5, 1, rfl, rfl, fun k => absurd hP k, fun _ _ => rfl, fun _ k => absurd k hC⟩
  rintro _ φ2 _ ⟨rfl, hC⟩
  have hc5 : c.length ≤ 5 := by have := hC.1; have := hP.n5; omega
  have hp5 := pad5_len hc5
  conv => whnf
  repeat (refine SeqP.go ?_; conv => whnf)
  refine CallP.mono (crowdOf_spec _ c _ (hw.ext g1) hc5) ?_
  rintro r h3 ⟨rfl, g3⟩
  have b3 := g3.at_ _ _ b2
  unfold cv
  conv => whnf
  refine ⟨by show ((pad5 c).map int).length = 5; rw [List.length_map, hp5], _, storeAt_full (vs := (pad5 c).map int) b3 (by rw [List.length_map, hp5]; rfl) (ints_one _) (over_int (k := zero5) (by rw [hp5]; rfl)), ?_⟩
  conv => whnf
  repeat (refine SeqP.go ?_; conv => whnf)
  exact fin _ _ (pad5 c) 0 rfl rfl (Hp.at_set_self _ (Hp.lt_of_at b3)) hp5 ((g1.trans g3).then_set _ (by omega)) ⟨pad5 c, 0, rfl, hp5, fun k => absurd hP k, fun _ k => absurd hC k, fun _ _ => ⟨rfl, rfl⟩⟩
end
end Go.Proofs.Ytpiplaicnbapbaa
namespace Go.Proofs.Ytpiplaicnbapbaa
open Go.Rx Go.RowKit
theorem POk.qin {p : Prot} (h : POk p) : ∀ k, (hk : k < p.rules.length) → QIn p.n p.rules[k] := fun k hk => (h.rs k hk hk).1
theorem step_no {R : List Q4} {c : List Int} {i : Int} (h : ¬ (0 ≤ i ∧ i < R.length)) : step R c i = none := dif_neg h
theorem step_not {R : List Q4} {c : List Int} {i : Int} (h : 0 ≤ i ∧ i < R.length) (k : ¬ Allowed c (R[i.toNat]'(by omega))) : step R c i = none := by
  unfold step
  rw [dif_pos h, if_neg k]
theorem step_yes {R : List Q4} {c : List Int} {i : Int} (h : 0 ≤ i ∧ i < R.length) (k : Allowed c (R[i.toNat]'(by omega))) : step R c i = some (after c (R[i.toNat]'(by omega))) := by
  unfold step
  rw [dif_pos h, if_pos k]
end Go.Proofs.Ytpiplaicnbapbaa
namespace Go.Proofs.Ytpiplaicnbapbaa
open Go.Rx Go.RowKit
structure BM (h : Hp) (Q r : Nat) (x : Bool) (q : Q4) (l : List Int) (n : Nat) (H : Hp) : Prop where
  la : H.at r = some (.row 3 x (l.map int))
  qa : H.at Q = some (.row 96 true (qcells q))
  gr : Grows h H
  len : l.length = n
  hr : h.next ≤ r
  ne : Q ≠ r
theorem BM.put {h : Hp} {Q r : Nat} {x : Bool} {q : Q4} {l : List Int} {n : Nat} {H : Hp} (k : BM h Q r x q l n H) (l' : List Int) (hl : l'.length = n) : BM h Q r x q l' n (H.set r (.row 3 x (l'.map int))) :=
  ⟨Hp.at_set_self _ (Hp.lt_of_at k.la), by rw [Hp.at_set_ne _ k.ne]; exact k.qa, k.gr.then_set _ k.hr, hl, k.hr, k.ne⟩
theorem BM.bump {h : Hp} {Q r : Nat} {e : Bool} {q : Q4} {l : List Int} {n : Nat} {H : Hp} (k : BM h Q r e q l n H) {i : Int} (hi : 0 ≤ i ∧ i < n) (x : Int) : storeAt H r (offAt 0 i.toNat 1) [int (gl l i.toNat + x)] = some (H.set r (.row 3 e ((Ytpiplaicnbapbaa.bump l (i, x)).map int))) := by
  have := row_store k.la (i := i.toNat) (by rw [k.len]; omega) (gl l i.toNat + x)
  rw [offAt_eq]
  unfold Ytpiplaicnbapbaa.bump
  simpa using this
theorem BM.load {h : Hp} {Q r : Nat} {e : Bool} {q : Q4} {l : List Int} {n : Nat} {H : Hp} (k : BM h Q r e q l n H) {i : Int} (hi : 0 ≤ i ∧ i < n) : cellAt H r (offAt 0 i.toNat 1) = some (int (gl l i.toNat)) := by
  have := row_load k.la (i := i.toNat) (by rw [k.len]; omega)
  rw [offAt_eq]
  simpa using this
end Go.Proofs.Ytpiplaicnbapbaa
namespace Go.Proofs.Ytpiplaicnbapbaa
open Go.Rx Go.RowKit
def PL (h : Hp) (v : Value) (p : Prot) : Prop := ∃ vo vs vr, v = pval p.n vo vs vr ∧ View h vo p.out ∧ View h vs p.start ∧ LentV h vr p.rules.length (flat4 p.rules)
theorem PL.ext {h h' : Hp} {v : Value} {p : Prot} (g : Grows h h') (k : PL h v p) : PL h' v p := by
  obtain ⟨a, b, c, e, h1, h2, h3⟩ := k
  exact ⟨a, b, c, e, h1.ext g, h2.ext g, h3.ext g⟩
end Go.Proofs.Ytpiplaicnbapbaa
namespace Go.Proofs.Ytpiplaicnbapbaa
open Go.Rx Go.RowKit
inductive Rs (R : List Q4) : List Int → List Int → Prop
  | refl (c) : Rs R c c
  | tail {c d e i} : Rs R c d → step R d i = some e → Rs R c e
theorem Rs.trans {R : List Q4} {a b c : List Int} (h : Rs R a b) (k : Rs R b c) : Rs R a c := by
  induction k with
  | refl => exact h
  | tail _ hs ih => exact ih.tail hs
theorem Rs.one {R : List Q4} {a b : List Int} {i : Int} (h : step R a i = some b) : Rs R a b := (Rs.refl a).tail h
theorem Rs.head {R : List Q4} {a b c : List Int} {i : Int} (h : step R a i = some b) (k : Rs R b c) : Rs R a c := (Rs.one h).trans k
theorem Rs.ok {n : Nat} {R : List Q4} (hR : ∀ x ∈ R, QIn n x) {c d : List Int} (h : Rs R c d) (hc : CrOk n c) : CrOk n d := by
  induction h with
  | refl => exact hc
  | tail _ hs ih => exact step_ok hR ih hs
structure Gr (R : List Q4) (c : List Int) (L : List (List Int)) : Prop where
  nodup : L.Nodup
  first : L[0]? = some c
  from_ : ∀ d ∈ L, Rs R c d
  closed : ∀ d ∈ L, ∀ i e, step R d i = some e → e ∈ L
theorem Gr.pos {R : List Q4} {c : List Int} {L : List (List Int)} (g : Gr R c L) : 0 < L.length := by
  have := g.first
  cases L with
  | nil => cases this
  | cons x l => simp
theorem Gr.mem {R : List Q4} {c : List Int} {L : List (List Int)} (g : Gr R c L) {d : List Int} : d ∈ L ↔ Rs R c d := by
  refine ⟨g.from_ d, fun h => ?_⟩
  induction h with
  | refl => exact List.mem_of_getElem? g.first
  | tail _ hs ih => exact g.closed _ ih _ _ hs
def Ed (R : List Q4) (L : List (List Int)) (a b : Nat) : Prop := ∃ d e i, L[a]? = some d ∧ L[b]? = some e ∧ step R d i = some e
theorem Ed.lt {R : List Q4} {L : List (List Int)} {a b : Nat} (h : Ed R L a b) : a < L.length ∧ b < L.length := by
  obtain ⟨d, e, i, h1, h2, _⟩ := h
  exact ⟨(List.getElem?_eq_some_iff.1 h1).1, (List.getElem?_eq_some_iff.1 h2).1⟩
inductive Pt (R : List Q4) (L : List (List Int)) : Nat → Nat → Prop
  | refl (a) : Pt R L a a
  | head {a b t} : Ed R L a b → Pt R L b t → Pt R L a t
theorem Pt.trans {R : List Q4} {L : List (List Int)} {a b c : Nat} (h : Pt R L a b) (k : Pt R L b c) : Pt R L a c := by
  induction h with
  | refl => exact k
  | head e _ ih => exact .head e (ih k)
theorem Pt.lt {R : List Q4} {L : List (List Int)} {a b : Nat} (h : Pt R L a b) (ha : a < L.length) : b < L.length := by
  induction h with
  | refl => exact ha
  | head e _ ih => exact ih e.lt.2
theorem Pt.rs {R : List Q4} {L : List (List Int)} {a b : Nat} (h : Pt R L a b) : ∀ {d e : List Int}, L[a]? = some d → L[b]? = some e → Rs R d e := by
  induction h with
  | refl => intro d e h1 h2; rw [h1] at h2; cases h2; exact .refl _
  | head e _ ih =>
    intro d e' h1 h2
    obtain ⟨d1, e1, i, k1, k2, k3⟩ := e
    rw [k1] at h1
    cases h1
    exact .head k3 (ih k2 h2)
theorem Gr.pt {R : List Q4} {c : List Int} {L : List (List Int)} (g : Gr R c L) {a : Nat} {d e : List Int} (h1 : L[a]? = some d) (h : Rs R d e) : ∃ b, L[b]? = some e ∧ Pt R L a b := by
  induction h with
  | refl => exact ⟨a, h1, .refl _⟩
  | tail _ hs ih =>
    obtain ⟨b, h2, h3⟩ := ih
    have hm := g.closed _ (List.mem_of_getElem? h2) _ _ hs
    obtain ⟨k, hk⟩ := List.getElem?_of_mem hm
    exact ⟨k, hk, h3.trans (.head ⟨_, _, _, h2, hk, hs⟩ (.refl _))⟩
def Lead (R : List Q4) (L : List (List Int)) (T : Nat → Prop) (a : Nat) : Prop := ∃ t, T t ∧ Pt R L a t
theorem Lead.self {R : List Q4} {L : List (List Int)} {T : Nat → Prop} {a : Nat} (h : T a) : Lead R L T a := ⟨a, h, .refl _⟩
theorem Lead.back {R : List Q4} {L : List (List Int)} {T : Nat → Prop} {a b : Nat} (h : Lead R L T b) (e : Ed R L a b) : Lead R L T a := by
  obtain ⟨t, h1, h2⟩ := h
  exact ⟨t, h1, .head e h2⟩
theorem Lead.least {R : List Q4} {L : List (List Int)} {T M : Nat → Prop} (h1 : ∀ t, T t → M t) (h2 : ∀ a b, Ed R L a b → M b → M a) {a : Nat} (h : Lead R L T a) : M a := by
  obtain ⟨t, ht, hp⟩ := h
  induction hp with
  | refl => exact h1 _ ht
  | head e _ ih => exact h2 _ _ e (ih ht)
def AllOut (out : List Int) (on : Int) (c : List Int) : Prop := ∀ s, s < out.length → 0 < gl c s → gl out s = on
def Oth (out : List Int) (on : Int) (L : List (List Int)) (a : Nat) : Prop := ∃ d, L[a]? = some d ∧ ¬ AllOut out on d
def SettC (R : List Q4) (out : List Int) (on : Int) (c : List Int) : Prop := ∀ d, Rs R c d → AllOut out on d
def DeciC (R : List Q4) (out : List Int) (on : Int) (c : List Int) : Prop := ∀ d, Rs R c d → ∃ e, Rs R d e ∧ SettC R out on e
def SetN (R : List Q4) (out : List Int) (on : Int) (L : List (List Int)) (a : Nat) : Prop := a < L.length ∧ ¬ Lead R L (Oth out on L) a
theorem Gr.sett {R : List Q4} {c : List Int} {L : List (List Int)} (g : Gr R c L) {out : List Int} {on : Int} {a : Nat} {d : List Int} (h : L[a]? = some d) : SetN R out on L a ↔ SettC R out on d := by
  constructor
  · rintro ⟨h1, h2⟩ e he
    refine Classical.byContradiction fun hn => h2 ?_
    obtain ⟨b, h3, h4⟩ := g.pt h he
    exact ⟨b, ⟨e, h3, hn⟩, h4⟩
  · intro h1
    refine ⟨(List.getElem?_eq_some_iff.1 h).1, ?_⟩
    rintro ⟨t, ⟨e, h2, h3⟩, h4⟩
    exact h3 (h1 e (h4.rs h h2))
theorem Gr.settled {R : List Q4} {c : List Int} {L : List (List Int)} (g : Gr R c L) {out : List Int} {on : Int} : SetN R out on L 0 ↔ SettC R out on c := g.sett g.first
theorem Gr.decides {R : List Q4} {c : List Int} {L : List (List Int)} (g : Gr R c L) {out : List Int} {on : Int} : (∀ a, a < L.length → Lead R L (SetN R out on L) a) ↔ DeciC R out on c := by
  constructor
  · intro h d hd
    obtain ⟨a, ha⟩ := List.getElem?_of_mem (g.mem.2 hd)
    obtain ⟨t, h1, h2⟩ := h a (List.getElem?_eq_some_iff.1 ha).1
    have ht := List.getElem?_eq_getElem h1.1
    exact ⟨_, h2.rs ha ht, (g.sett ht).1 h1⟩
  · intro h a ha
    have h1 := List.getElem?_eq_getElem ha
    obtain ⟨e, h2, h3⟩ := h _ (g.from_ _ (List.getElem_mem ha))
    obtain ⟨b, h4, h5⟩ := g.pt h1 h2
    exact ⟨b, (g.sett h4).2 h3, h5⟩
def firstOf (P : Int → Prop) (r : Int × Bool) : Prop := (P 0 → r = (0, true)) ∧ (¬ P 0 → P 1 → r = (1, true)) ∧ (¬ P 0 → ¬ P 1 → r = (0, false))
theorem firstOf.uniq {P : Int → Prop} {r s : Int × Bool} (h : firstOf P r) (k : firstOf P s) : r = s := by
  by_cases h0 : P 0
  · rw [h.1 h0, k.1 h0]
  · by_cases h1 : P 1
    · rw [h.2.1 h0 h1, k.2.1 h0 h1]
    · rw [h.2.2 h0 h1, k.2.2 h0 h1]
end Go.Proofs.Ytpiplaicnbapbaa
namespace Go.Proofs.Ytpiplaicnbapbaa
open Go.Rx Go.RowKit
theorem nodup_lt : ∀ (N : Nat) (l : List Nat), l.Nodup → (∀ x ∈ l, x < N) → l.length ≤ N
  | 0, l, _, h => by
    cases l with
    | nil => simp
    | cons x l => exact absurd (h x (by simp)) (Nat.not_lt_zero _)
  | N + 1, l, hn, h => by
    by_cases hm : N ∈ l
    · have h1 := nodup_lt N (l.erase N) (hn.erase N) (fun x hx => by
        have h2 := (List.Nodup.mem_erase_iff hn).1 hx
        have h3 := h x h2.2
        have h4 := h2.1
        omega)
      rw [List.length_erase_of_mem hm] at h1
      omega
    · have h1 := nodup_lt N l hn (fun x hx => by
        have h3 := h x hx
        have h4 : x ≠ N := fun e => hm (e ▸ hx)
        omega)
      omega
theorem nodup_map {α β : Type} {f : α → β} : ∀ {l : List α}, l.Nodup → (∀ a ∈ l, ∀ b ∈ l, f a = f b → a = b) → (l.map f).Nodup
  | [], _, _ => by simp
  | x :: l, hn, h => by
    have hc := List.nodup_cons.1 hn
    rw [List.map_cons, List.nodup_cons]
    refine ⟨fun hm => ?_, nodup_map hc.2 fun a ha b hb => h a (by simp [ha]) b (by simp [hb])⟩
    obtain ⟨y, hy, e⟩ := List.mem_map.1 hm
    have := h y (by simp [hy]) x (by simp) e
    subst this
    exact hc.1 hy
structure Gp (R : List Q4) (n : Nat) (c : List Int) (L : List (List Int)) (i : Nat) : Prop where
  nodup : L.Nodup
  first : L[0]? = some c
  from_ : ∀ d ∈ L, Rs R c d
  ok : ∀ d ∈ L, CrOk n d
  clo : ∀ a d, a < i → L[a]? = some d → ∀ k e, step R d k = some e → e ∈ L
theorem Gp.start {R : List Q4} {n : Nat} {c : List Int} (hc : CrOk n c) : Gp R n c [c] 0 :=
  ⟨by simp, rfl, fun d hd => by rw [List.mem_singleton.1 hd]; exact .refl _, fun d hd => by rw [List.mem_singleton.1 hd]; exact hc, fun a d h => absurd h (Nat.not_lt_zero _)⟩
theorem Gp.pos {R : List Q4} {n : Nat} {c : List Int} {L : List (List Int)} {i : Nat} (g : Gp R n c L i) : 0 < L.length := by
  have := g.first
  cases L with
  | nil => cases this
  | cons x l => simp
theorem getE_snoc {α : Type} {L : List α} {a : Nat} {d x : α} (h : L[a]? = some d) : (L ++ [x])[a]? = some d := by
  rw [List.getElem?_append_left (List.getElem?_eq_some_iff.1 h).1]
  exact h
theorem Gp.add {R : List Q4} {n : Nat} {c : List Int} {L : List (List Int)} {i : Nat} (g : Gp R n c L i) (hi : i ≤ L.length) (hR : ∀ x ∈ R, QIn n x) {d e : List Int} {k : Int} (hd : d ∈ L) (hs : step R d k = some e) (hn : e ∉ L) : Gp R n c (L ++ [e]) i := by
  refine ⟨?_, getE_snoc g.first, fun x hx => ?_, fun x hx => ?_, fun a x ha hx k' y hy => ?_⟩
  · rw [List.nodup_append]
    exact ⟨g.nodup, by simp, fun a ha b hb => by rw [List.mem_singleton.1 hb]; exact fun e => hn (e ▸ ha)⟩
  · rcases List.mem_append.1 hx with hx | hx
    · exact g.from_ x hx
    · rw [List.mem_singleton.1 hx]; exact (g.from_ d hd).tail hs
  · rcases List.mem_append.1 hx with hx | hx
    · exact g.ok x hx
    · rw [List.mem_singleton.1 hx]; exact step_ok hR (g.ok d hd) hs
  · rw [List.getElem?_append_left (by omega)] at hx
    exact List.mem_append_left _ (g.clo a x ha hx k' y hy)
theorem Gp.turn {R : List Q4} {n : Nat} {c : List Int} {L : List (List Int)} {i : Nat} (g : Gp R n c L i) {d : List Int} (hd : L[i]? = some d) (h : ∀ k e, step R d k = some e → e ∈ L) : Gp R n c L (i + 1) :=
  ⟨g.nodup, g.first, g.from_, g.ok, fun a x ha hx k e hs => by
    by_cases e2 : a = i
    · subst e2
      rw [hd] at hx
      cases hx
      exact h k e hs
    · exact g.clo a x (by omega) hx k e hs⟩
theorem Gp.done {R : List Q4} {n : Nat} {c : List Int} {L : List (List Int)} (g : Gp R n c L L.length) : Gr R c L :=
  ⟨g.nodup, g.first, g.from_, fun d hd k e hs => by
    obtain ⟨a, ha⟩ := List.getElem?_of_mem hd
    exact g.clo a d (List.getElem?_eq_some_iff.1 ha).1 ha k e hs⟩
structure RowOk (R : List Q4) (L : List (List Int)) (d : List Int) (r : Nat) (row : List Int) : Prop where
  fwd : ∀ x ∈ row, ∃ (k : Nat) (e : List Int) (j : Int), x = (k : Int) ∧ L[k]? = some e ∧ step R d j = some e
  bwd : ∀ (j : Int) (e : List Int), j < (r : Int) → step R d j = some e → ∃ k : Nat, L[k]? = some e ∧ (k : Int) ∈ row
  few : row.length ≤ r
theorem step_range {R : List Q4} {d e : List Int} {j : Int} (h : step R d j = some e) : 0 ≤ j ∧ j < R.length := by
  by_cases hc : 0 ≤ j ∧ j < R.length
  · exact hc
  · rw [step_no hc] at h; cases h
theorem RowOk.start {R : List Q4} {L : List (List Int)} {d : List Int} : RowOk R L d 0 [] :=
  ⟨fun x h => by simp at h, fun j e hj hs => by have := step_range hs; omega, by simp⟩
theorem RowOk.ext {R : List Q4} {L : List (List Int)} {d : List Int} {r : Nat} {row : List Int} (k : RowOk R L d r row) (x : List Int) : RowOk R (L ++ [x]) d r row :=
  ⟨fun y hy => let ⟨k', e, j, h1, h2, h3⟩ := k.fwd y hy; ⟨k', e, j, h1, getE_snoc h2, h3⟩, fun j e hj hs => let ⟨k', h1, h2⟩ := k.bwd j e hj hs; ⟨k', getE_snoc h1, h2⟩, k.few⟩
theorem RowOk.skip {R : List Q4} {L : List (List Int)} {d : List Int} {r : Nat} {row : List Int} (k : RowOk R L d r row) (h : step R d r = none) : RowOk R L d (r + 1) row :=
  ⟨k.fwd, fun j e hj hs => by
    by_cases e2 : j = (r : Int)
    · subst e2; rw [h] at hs; cases hs
    · exact k.bwd j e (by omega) hs, by have := k.few; omega⟩
theorem RowOk.add {R : List Q4} {L : List (List Int)} {d e : List Int} {r : Nat} {row : List Int} (k : RowOk R L d r row) (h : step R d r = some e) {a : Nat} (ha : L[a]? = some e) : RowOk R L d (r + 1) (row ++ [(a : Int)]) :=
  ⟨fun x hx => by
    rcases List.mem_append.1 hx with hx | hx
    · exact k.fwd x hx
    · exact ⟨a, e, r, List.mem_singleton.1 hx, ha, h⟩, fun j e' hj hs => by
    by_cases e2 : j = (r : Int)
    · subst e2
      rw [h] at hs
      cases hs
      exact ⟨a, ha, by simp⟩
    · obtain ⟨k', h1, h2⟩ := k.bwd j e' (by omega) hs
      exact ⟨k', h1, List.mem_append_left _ h2⟩, by have := k.few; rw [List.length_append, List.length_singleton]; omega⟩
theorem RowOk.all {R : List Q4} {L : List (List Int)} {d : List Int} {row : List Int} (k : RowOk R L d R.length row) {j : Int} {e : List Int} (hs : step R d j = some e) : e ∈ L := by
  obtain ⟨k', h1, _⟩ := k.bwd j e (step_range hs).2 hs
  exact List.mem_of_getElem? h1
inductive Wy (R : List Q4) : Nat → List Int → List Int → Prop
  | refl (c) : Wy R 0 c c
  | tail {k c d e i} : Wy R k c d → step R d i = some e → Wy R (k + 1) c e
theorem Wy.rs {R : List Q4} {k : Nat} {c d : List Int} (h : Wy R k c d) : Rs R c d := by
  induction h with
  | refl => exact .refl _
  | tail _ hs ih => exact ih.tail hs
structure St (R : List Q4) (c : List Int) (L : List (List Int)) (S : List Int) (i : Nat) : Prop where
  len : S.length = L.length
  way : ∀ a d, L[a]? = some d → ∃ k : Nat, gl S a = (k : Int) ∧ Wy R k c d
  start_ : gl S 0 = 0
  le : ∀ a, a < S.length → gl S a ≤ (a : Int)
  mono : ∀ a b, a ≤ b → b < S.length → gl S a ≤ gl S b
  near : ∀ a b, i ≤ a → a < S.length → b < S.length → gl S b ≤ gl S a + 1
  clo : ∀ a d, a < i → L[a]? = some d → ∀ k e, step R d k = some e → ∃ b, L[b]? = some e ∧ gl S b ≤ gl S a + 1
theorem St.start {R : List Q4} {c : List Int} : St R c [c] [0] 0 := by
  refine ⟨rfl, fun a d h => ?_, rfl, fun a ha => (by simp at ha; subst ha; exact Int.le_refl _), fun a b hab hb => ?_, fun a b _ ha hb => ?_, fun a d h => absurd h (Nat.not_lt_zero _)⟩
  · have : a = 0 := by have := (List.getElem?_eq_some_iff.1 h).1; simp at this; exact this
    subst this
    cases h
    exact ⟨0, rfl, .refl _⟩
  · simp at hb; subst hb; have : a = 0 := by omega
    subst this; exact Int.le_refl _
  · simp at ha hb; subst ha; subst hb; show gl [0] 0 ≤ gl [0] 0 + 1; omega
theorem gl_old {l : List Int} {x : Int} {j : Nat} (h : j < l.length) : gl (l ++ [x]) j = gl l j := by
  unfold gl
  rw [List.getD_eq_getElem?_getD, List.getD_eq_getElem?_getD, List.getElem?_append_left h]
theorem gl_last {l : List Int} {x : Int} : gl (l ++ [x]) l.length = x := by
  unfold gl
  rw [List.getD_eq_getElem?_getD, List.getElem?_append_right (Nat.le_refl _)]
  simp
theorem St.add {R : List Q4} {c : List Int} {L : List (List Int)} {S : List Int} {i : Nat} (s : St R c L S i) (hi : i < L.length) {d e : List Int} {k : Int} (hd : L[i]? = some d) (hs : step R d k = some e) : St R c (L ++ [e]) (S ++ [gl S i + 1]) i := by
  have hl := s.len
  have old : ∀ a, a < S.length → gl (S ++ [gl S i + 1]) a = gl S a := fun a ha => gl_old ha
  have new : gl (S ++ [gl S i + 1]) S.length = gl S i + 1 := gl_last
  refine ⟨by rw [List.length_append, List.length_append, hl]; rfl, fun a x hx => ?_, by rw [old 0 (by omega)]; exact s.start_, fun a ha => ?_, fun a b hab hb => ?_, fun a b ha1 ha hb => ?_, fun a x ha hx k' y hy => ?_⟩
  · by_cases ha : a < L.length
    · rw [List.getElem?_append_left ha] at hx
      rw [old a (by omega)]
      exact s.way a x hx
    · have h1 := (List.getElem?_eq_some_iff.1 hx).1
      rw [List.length_append, List.length_singleton] at h1
      have : a = S.length := by omega
      subst this
      rw [List.getElem?_append_right (by omega), hl] at hx
      simp at hx
      subst hx
      rw [new]
      obtain ⟨k0, e0, w0⟩ := s.way i d hd
      exact ⟨k0 + 1, by rw [e0]; rfl, w0.tail hs⟩
  · rw [List.length_append, List.length_singleton] at ha
    by_cases ha2 : a < S.length
    · rw [old a ha2]; exact s.le a ha2
    · have : a = S.length := by omega
      subst this
      rw [new]
      have := s.le i (by omega)
      omega
  · rw [List.length_append, List.length_singleton] at hb
    by_cases hb2 : b < S.length
    · rw [old a (by omega), old b hb2]; exact s.mono a b hab hb2
    · have : b = S.length := by omega
      subst this
      rw [new]
      by_cases ha2 : a < S.length
      · rw [old a ha2]; exact s.near i a (Nat.le_refl _) (by omega) ha2
      · have : a = S.length := by omega
        subst this
        rw [new]; exact Int.le_refl _
  · rw [List.length_append, List.length_singleton] at ha hb
    have hA : gl S i ≤ gl (S ++ [gl S i + 1]) a := by
      by_cases ha2 : a < S.length
      · rw [old a ha2]; exact s.mono i a ha1 ha2
      · have : a = S.length := by omega
        subst this
        rw [new]; omega
    have hB : gl (S ++ [gl S i + 1]) b ≤ gl S i + 1 := by
      by_cases hb2 : b < S.length
      · rw [old b hb2]; exact s.near i b (Nat.le_refl _) (by omega) hb2
      · have : b = S.length := by omega
        subst this
        rw [new]; exact Int.le_refl _
    omega
  · rw [List.getElem?_append_left (by omega)] at hx
    obtain ⟨b, h1, h2⟩ := s.clo a x ha hx k' y hy
    have hb := (List.getElem?_eq_some_iff.1 h1).1
    exact ⟨b, getE_snoc h1, by rw [old b (by omega), old a (by omega)]; exact h2⟩
theorem St.turn {R : List Q4} {c : List Int} {L : List (List Int)} {S : List Int} {i : Nat} (s : St R c L S i) (hi : i < L.length) {d : List Int} (hd : L[i]? = some d) {row : List Int} (h : RowOk R L d R.length row) : St R c L S (i + 1) :=
  ⟨s.len, s.way, s.start_, s.le, s.mono, fun a b ha => s.near a b (by omega), fun a x ha hx k e hs => by
    by_cases e2 : a = i
    · subst e2
      rw [hd] at hx
      cases hx
      obtain ⟨b, h1, _⟩ := h.bwd k e (step_range hs).2 hs
      have hb := (List.getElem?_eq_some_iff.1 h1).1
      exact ⟨b, h1, s.near a b (Nat.le_refl _) (by have := s.len; omega) (by have := s.len; omega)⟩
    · exact s.clo a x (by omega) hx k e hs⟩
theorem St.least {R : List Q4} {c : List Int} {L : List (List Int)} {S : List Int} (s : St R c L S L.length) (hf : L[0]? = some c) {k : Nat} {d : List Int} (w : Wy R k c d) : ∃ b, L[b]? = some d ∧ gl S b ≤ k := by
  induction w with
  | refl => exact ⟨0, hf, by rw [s.start_]; exact Int.le_refl _⟩
  | @tail k c d e i hw hs ih =>
    obtain ⟨a, h1, h2⟩ := ih s hf
    obtain ⟨b, h3, h4⟩ := s.clo a d (List.getElem?_eq_some_iff.1 h1).1 h1 i e hs
    exact ⟨b, h3, by omega⟩
structure Nx (R : List Q4) (L : List (List Int)) (N : List (List Int)) : Prop where
  row : ∀ (a : Nat) (d row : List Int), L[a]? = some d → N[a]? = some row → RowOk R L d R.length row
theorem Nx.ext {R : List Q4} {L N : List (List Int)} (k : Nx R L N) (hN : N.length ≤ L.length) (x : List Int) : Nx R (L ++ [x]) N :=
  ⟨fun a d row hd hr => by
    have := (List.getElem?_eq_some_iff.1 hr).1
    rw [List.getElem?_append_left (by omega)] at hd
    exact (k.row a d row hd hr).ext x⟩
theorem Nx.add {R : List Q4} {L N : List (List Int)} (k : Nx R L N) {d row : List Int} (hd : L[N.length]? = some d) (h : RowOk R L d R.length row) : Nx R L (N ++ [row]) :=
  ⟨fun a d' row' hd' hr => by
    by_cases e : a < N.length
    · rw [List.getElem?_append_left e] at hr
      exact k.row a d' row' hd' hr
    · have h1 := (List.getElem?_eq_some_iff.1 hr).1
      rw [List.length_append, List.length_singleton] at h1
      have : a = N.length := by omega
      subst this
      rw [List.getElem?_append_right (Nat.le_refl _)] at hr
      simp at hr
      subst hr
      rw [hd] at hd'
      cases hd'
      exact h⟩
end Go.Proofs.Ytpiplaicnbapbaa
namespace Go.Proofs.Ytpiplaicnbapbaa
open Go.Rx Go.RowKit
def SL (h : Hp) (v : Value) (LL : List (List Int)) : Prop := ∃ a c, v = .slice a LL.length c ∧ ∀ j, (hj : j < LL.length) → ∃ r o sp w, a = some ⟨r, o, sp⟩ ∧ voidSp sp = false ∧ cellAt h r (j + o) = some w ∧ View h w LL[j]
theorem SL.ext {h h' : Hp} {v : Value} {LL : List (List Int)} (g : Grows h h') (k : SL h v LL) : SL h' v LL := by
  obtain ⟨a, c, e, hc⟩ := k
  exact ⟨a, c, e, fun j hj => let ⟨r, o, sp, w, e1, e2, e3, e4⟩ := hc j hj; ⟨r, o, sp, w, e1, e2, g.cell e3, e4.ext g⟩⟩
abbrev gb (l : List Bool) (i : Nat) : Bool := l.getD i false
theorem gb_at {l : List Bool} {i : Nat} (h : i < l.length) : gb l i = l[i] := by
  unfold gb; rw [List.getD_eq_getElem?_getD, List.getElem?_eq_getElem h]; rfl
theorem gb_set {l : List Bool} {i : Nat} (h : i < l.length) (b : Bool) (j : Nat) : gb (l.set i b) j = if j = i then b else gb l j := by
  unfold gb
  rw [List.getD_eq_getElem?_getD, List.getElem?_set, List.getD_eq_getElem?_getD]
  by_cases e : i = j
  · subst e; rw [if_pos rfl, if_pos h, if_pos rfl]; rfl
  · rw [if_neg e, if_neg (fun x => e x.symm)]
def nf : List Bool → Nat
  | [] => 0
  | b :: l => (if b = true then 0 else 1) + nf l
theorem nf_set : ∀ {l : List Bool} {i : Nat}, i < l.length → gb l i = false → nf (l.set i true) + 1 = nf l
  | [], i, h, _ => by simp at h
  | b :: l, 0, _, e => by
    have : b = false := by simpa [gb] using e
    subst this
    simp [nf]
    omega
  | b :: l, i + 1, h, e => by
    have := nf_set (l := l) (i := i) (by simpa using h) (by simpa [gb] using e)
    simp only [List.set_cons_succ, nf]
    omega
structure SM (h : Hp) (r : Nat) (x : Bool) (ms : List Bool) (H : Hp) : Prop where
  at_ : H.at r = some (.row 4 x (ms.map .bool))
  gr : Grows h H
  hr : h.next ≤ r
theorem SM.put {h : Hp} {r : Nat} {x : Bool} {ms : List Bool} {H : Hp} (k : SM h r x ms H) (ms' : List Bool) : SM h r x ms' (H.set r (.row 4 x (ms'.map .bool))) := ⟨Hp.at_set_self _ (Hp.lt_of_at k.at_), k.gr.then_set _ k.hr, k.hr⟩
theorem SM.load {h : Hp} {r : Nat} {x : Bool} {ms : List Bool} {H : Hp} (k : SM h r x ms H) {i : Nat} (hi : i < ms.length) : cellAt H r (offAt 0 i 1) = some (.bool (gb ms i)) := by
  rw [offAt_eq]
  refine cellAt_row k.at_ ?_
  rw [List.getElem?_map, gb_at hi]
  simp [hi]
theorem SM.store {h : Hp} {r : Nat} {x : Bool} {ms : List Bool} {H : Hp} (k : SM h r x ms H) {i : Nat} (hi : i < ms.length) (b : Bool) : storeAt H r (offAt 0 i 1) [.bool b] = some (H.set r (.row 4 x ((ms.set i b).map .bool))) := by
  have := storeAt_row k.at_ (o := i) (v := .bool b) (by rw [List.length_map]; exact hi) rfl
  rw [show (ms.map Value.bool).set i (.bool b) = (ms.set i b).map .bool from by rw [List.map_set]] at this
  rw [offAt_eq]
  simpa using this
def BV (h : Hp) (v : Value) (ms : List Bool) : Prop := ∃ r x, v = slc r 0 ms.length ms.length ∧ h.at r = some (.row 4 x (ms.map .bool))
theorem BV.ext {h h' : Hp} {v : Value} {ms : List Bool} (g : Grows h h') (k : BV h v ms) : BV h' v ms := by
  obtain ⟨r, x, e, h1⟩ := k
  exact ⟨r, x, e, g.at_ _ _ h1⟩
theorem bools_one (l : List Bool) : (l.map Value.bool).all oneCell = true := by
  rw [List.all_eq_true]
  intro v hv
  obtain ⟨n, _, rfl⟩ := List.mem_map.1 hv
  rfl
theorem BV.elems {h : Hp} {v : Value} {ms : List Bool} (k : BV h v ms) : ElemsC h 1 v ms.length (ms.map .bool) := by
  obtain ⟨r, x, rfl, h1⟩ := k
  refine ⟨rfl, ?_, by rw [List.length_map, Nat.mul_one], bools_one _⟩
  show cellsAt h r 0 (ms.length * 1) = _
  rw [cellsAt_row h1 (by rw [List.length_map]; omega), List.drop_zero, List.take_of_length_le (by rw [List.length_map]; omega)]
structure NxOk (R : List Q4) (L : List (List Int)) (N : List (List Int)) : Prop where
  len : N.length = L.length
  fwd : ∀ i, (hi : i < N.length) → ∀ x ∈ N[i], ∃ k : Nat, x = (k : Int) ∧ Ed R L i k
  bwd : ∀ i k, Ed R L i k → ∃ hi : i < N.length, (k : Int) ∈ N[i]
  small : ∀ i, (hi : i < N.length) → N[i].length ≤ 1000
structure Mk (R : List Q4) (L : List (List Int)) (T : Nat → Prop) (ms : List Bool) : Prop where
  len : ms.length = L.length
  all : ∀ t, t < L.length → T t → gb ms t = true
  only : ∀ a, gb ms a = true → Lead R L T a
theorem Mk.set {R : List Q4} {L : List (List Int)} {T : Nat → Prop} {ms : List Bool} (k : Mk R L T ms) {i : Nat} (hi : i < L.length) (h : Lead R L T i) : Mk R L T (ms.set i true) := by
  have hl := k.len
  refine ⟨by rw [List.length_set]; exact hl, fun t ht hT => ?_, fun a ha => ?_⟩
  · rw [gb_set (by omega)]
    split
    · rfl
    · exact k.all t ht hT
  · rw [gb_set (by omega)] at ha
    split at ha
    · rename_i e; rw [e]; exact h
    · exact k.only a ha
def Still (R : List Q4) (L : List (List Int)) (ms : List Bool) (n : Nat) : Prop := ∀ a k, a < n → Ed R L a k → gb ms k = true → gb ms a = true
theorem Mk.done {R : List Q4} {L : List (List Int)} {T : Nat → Prop} {ms : List Bool} (k : Mk R L T ms) (hT : ∀ t, T t → t < L.length) (hs : Still R L ms L.length) (a : Nat) : gb ms a = true ↔ Lead R L T a :=
  ⟨k.only a, fun h => h.least (M := fun a => gb ms a = true) (fun t ht => k.all t (hT t ht) ht) fun a b e hb => hs a b e.lt.1 e hb⟩
end Go.Proofs.Ytpiplaicnbapbaa
namespace Go.Proofs.Ytpiplaicnbapbaa
open Go.Rx Go.RowKit
structure Ps (R : List Q4) (L : List (List Int)) (T : Nat → Prop) (ms0 : List Bool) (i : Nat) (ag : Bool) (ms : List Bool) : Prop where
  km : Mk R L T ms
  le : nf ms ≤ nf ms0
  lt : ag = true → nf ms < nf ms0
  st : ag = false → ms = ms0 ∧ Still R L ms0 i
theorem Ps.start {R : List Q4} {L : List (List Int)} {T : Nat → Prop} {ms : List Bool} (h : Mk R L T ms) : Ps R L T ms 0 false ms := ⟨h, Nat.le_refl _, fun e => (by cases e), fun _ => ⟨rfl, fun a k ha => by omega⟩⟩
theorem Ps.next {R : List Q4} {L : List (List Int)} {T : Nat → Prop} {ms0 ms : List Bool} {i : Nat} {ag : Bool} (h : Ps R L T ms0 i ag ms) (hs : ag = false → ∀ k, Ed R L i k → gb ms0 k = true → gb ms0 i = true) : Ps R L T ms0 (i + 1) ag ms :=
  ⟨h.km, h.le, h.lt, fun e => ⟨(h.st e).1, fun a k ha he hk => by
    by_cases e2 : a = i
    · subst e2; exact hs e k he hk
    · exact (h.st e).2 a k (by omega) he hk⟩⟩
end Go.Proofs.Ytpiplaicnbapbaa
namespace Go.Proofs.Ytpiplaicnbapbaa
open Go.Rx Go.RowKit
structure CR (h : Hp) (bx : List Value) (R : List Q4) (n : Nat) (c : List Int) (L N : List (List Int)) : Prop where
  len : bx.length = 3
  one : bx.all oneCell = true
  lv : ∃ v, bx[0]? = some v ∧ SL h v L
  nv : ∃ v, bx[2]? = some v ∧ SL h v N
  nx : NxOk R L N
  gr : Gr R c L
  ok : ∀ d ∈ L, CrOk n d
  few : L.length ≤ 100000
  sv : ∃ v S, bx[1]? = some v ∧ View h v S ∧ St R c L S L.length
theorem CR.ext {h h' : Hp} {bx : List Value} {R : List Q4} {n : Nat} {c : List Int} {L N : List (List Int)} (g : Grows h h') (k : CR h bx R n c L N) : CR h' bx R n c L N := by
  obtain ⟨h1, h2, ⟨v, h3, h4⟩, ⟨w, h5, h6⟩, h7, h8, h9, h10, ⟨u, S, h11, h12, h13⟩⟩ := k
  exact ⟨h1, h2, ⟨v, h3, h4.ext g⟩, ⟨w, h5, h6.ext g⟩, h7, h8, h9, h10, ⟨u, S, h11, h12.ext g, h13⟩⟩
theorem rep_bool (b : Bool) (n : Nat) : times [Value.bool b] n = (List.replicate n b).map .bool := by
  induction n with
  | zero => rfl
  | succ n ih => show Value.bool b :: times [Value.bool b] n = _; rw [ih, List.replicate_succ]; rfl
theorem gb_rep (n a : Nat) : gb (List.replicate n false) a = false := by
  unfold gb
  rw [List.getD_eq_getElem?_getD, List.getElem?_replicate]
  split <;> rfl
end Go.Proofs.Ytpiplaicnbapbaa
namespace Go.Proofs.Ytpiplaicnbapbaa
open Go.Rx Go.RowKit
def keyN (l : List Int) : Nat → Int
  | 0 => 0
  | k + 1 => 10 * keyN l k + gl l k
theorem keyN_bd {l : List Int} (h : ∀ i, 0 ≤ gl l i ∧ gl l i ≤ 9) : ∀ k, 0 ≤ keyN l k ∧ keyN l k < 10 ^ k
  | 0 => by simp [keyN]
  | k + 1 => by
    have := keyN_bd h k
    have := h k
    rw [show (10 : Int) ^ (k + 1) = 10 ^ k * 10 from Int.pow_succ ..]
    unfold keyN
    omega
theorem keyN_inj {l m : List Int} (hl : ∀ i, 0 ≤ gl l i ∧ gl l i ≤ 9) (hm : ∀ i, 0 ≤ gl m i ∧ gl m i ≤ 9) : ∀ k, keyN l k = keyN m k → ∀ i, i < k → gl l i = gl m i
  | 0, _, i, hi => by omega
  | k + 1, e, i, hi => by
    unfold keyN at e
    have h1 := hl k
    have h2 := hm k
    by_cases e2 : i = k
    · subst e2; omega
    · exact keyN_inj hl hm k (by omega) i (by omega)
def keyOf (l : List Int) : Int := keyN l l.length
theorem keyOf_inj {n : Nat} {l m : List Int} (hl : CrOk n l) (hm : CrOk n m) (e : keyOf l = keyOf m) : l = m := by
  unfold keyOf at e
  rw [hl.len, hm.len] at e
  have := keyN_inj (fun i => ⟨hl.nn i, hl.le i⟩) (fun i => ⟨hm.nn i, hm.le i⟩) n e
  apply List.ext_getElem (by rw [hl.len, hm.len])
  intro i h1 h2
  have := this i (by rw [hl.len] at h1; exact h1)
  rwa [gl_at h1, gl_at h2] at this
theorem keyOf_bd {n : Nat} {l : List Int} (hn : n ≤ 5) (hl : CrOk n l) : 0 ≤ keyOf l ∧ keyOf l < 100000 := by
  unfold keyOf
  rw [hl.len]
  have := keyN_bd (l := l) (fun i => ⟨hl.nn i, hl.le i⟩) n
  have h2 : (10 : Int) ^ n ≤ 100000 := by
    have : n = 0 ∨ n = 1 ∨ n = 2 ∨ n = 3 ∨ n = 4 ∨ n = 5 := by omega
    rcases this with e | e | e | e | e | e <;> subst e <;> decide
  omega
attribute [local irreducible] E idxN cellAt cellsAt storeAt callable helems hmoved lookIn findKey keyOk hentries Hp.at Hp.set Hp.lay arBits hupdated setAt CallP YieldP BoolOf IsWrap Rnd LoopP AppP CutP Int.tmod Int.tdiv Int.fdiv
section
variable [Unknowns]
attribute [local irreducible] ResP sameAt
theorem isAll_spec (v : Value) (p : Prot) (d : List Int) (on : Int) (n : Nat) (h : Hp) (hv : PV h v p) (hP : POk p) (en : p.n = n) (hd : d.length = n) : CallP E 107 [v, cv (pad5 d), int on] h (fun r h' => (∃ b, r = .bool b ∧ BoolOf b (AllOut p.out on d)) ∧ Grows h h') := by
  obtain ⟨bp, rfl, hbl, b0, ⟨a1, b1, k1⟩, -⟩ := hv.box
  have hol : p.out.length = n := by have := hP.outl; omega
  have hn5 : n ≤ 5 := by have := hP.n5; omega
  have g0 : Grows h ((h.lay (.row 25 true bp)).lay (.row 107 true ((pad5 d).map int))) := (Grows.lay _ _).then_lay _
  have a0 : ((h.lay (.row 25 true bp)).lay (.row 107 true ((pad5 d).map int))).at h.next = some (.row 25 true bp) := Hp.at_lay_old _ (Hp.at_lay_self _ _)
  have a2 : ((h.lay (.row 25 true bp)).lay (.row 107 true ((pad5 d).map int))).at (h.lay (.row 25 true bp)).next = some (.row 107 true ((pad5 d).map int)) := Hp.at_lay_self _ _
  have hp5 := pad5_len (c := d) (by omega)
  have hko := (k1.ext g0).ints
  obtain ⟨ay, cy, ey, hko⟩ := hko
  cases ey
  unfold cv
  refine enter107 (by simp) ?_
  conv => whnf
  refine SeqP.go ?_
  conv => whnf
  refine SeqP.cut (α := Unit) (fun _ => []) (fun _ H => H = (h.lay (.row 25 true bp)).lay (.row 107 true ((pad5 d).map int)) ∧ AllOut p.out on d) ?_ ?_
  rotate_left
  · rintro _ φ9 _ ⟨rfl, ha⟩
    conv => whnf
    repeat (refine SeqP.go ?_; conv => whnf)
    exact ⟨⟨true, rfl, bo_yes ha⟩, g0⟩
  conv => whnf
  repeat (refine SeqP.go ?_; conv => whnf)
  refine ⟨_, cellAt_row a0 b1, ?_⟩
  conv => whnf
  refine loop_inv (α := Nat) (fun k => [(12, int k), (11, int p.out.length), (10, .slice a1 p.out.length p.out.length), (4, ptr (h.lay (.row 25 true bp)).next 0), (2, int on)]) (fun _ => (h.lay (.row 25 true bp)).lay (.row 107 true ((pad5 d).map int))) (fun k => k ≤ n ∧ ∀ s, s < k → 0 < gl d s → gl p.out s = on) (fun k => n - k) 0 ⟨Nat.zero_le _, fun s hs => by omega⟩ ⟨rfl, rfl, rfl, rfl, rfl, trivial⟩ (Hp.Le.refl _) ?_
  rintro k φ ⟨hk, hin⟩
  conv => whnf
  repeat (refine SeqP.go ?_; conv => whnf)
  refine cmpB (fun c1 => ?_) (fun c1 => ?_)
  rotate_left
  · conv => whnf
    repeat (refine SeqP.go ?_; conv => whnf)
    exact ⟨(), trivial, ⟨rfl, fun s hs => hin s (by omega)⟩, rfl⟩
  have hkl : k < p.out.length := by omega
  have hck := hko k hkl
  obtain ⟨r, o, sp, ea, hsp, hci⟩ := hck
  subst ea
  rw [← gl_at hkl] at hci
  have hld := row_load a2 (i := k) (by omega)
  rw [gl_pad] at hld
  have hlo : (0 < gl d k → gl p.out k = on) → ∀ s, s < k + 1 → 0 < gl d s → gl p.out s = on := fun e s hs => by
    by_cases e2 : s = k
    · subst e2; exact e
    · exact hin s (by omega)
  conv => whnf
  repeat (refine SeqP.go ?_; conv => whnf)
  refine ⟨hsp, ⟨by omega, by omega⟩, ?_⟩
  conv => whnf
  refine ⟨int (gl p.out k), by rw [offAt_eq, Nat.add_comm]; simpa using hci, ?_⟩
  conv => whnf
  repeat (refine SeqP.go ?_; conv => whnf)
  refine ⟨⟨by omega, by omega⟩, ?_⟩
  conv => whnf
  refine ⟨int (gl d k), by rw [offAt_eq]; simpa using hld, ?_⟩
  conv => whnf
  refine cmpB (fun c2 => ?_) (fun c2 => ?_)
  · conv => whnf
    refine cmpB (fun c3 => ?_) (fun c3 => ?_)
    · conv => whnf
      repeat (refine SeqP.go ?_; conv => whnf)
      exact ⟨⟨false, rfl, bo_no fun e => c3 (e k hkl (by omega))⟩, g0⟩
    · conv => whnf
      repeat (refine SeqP.go ?_; conv => whnf)
      refine ⟨((k + 1 : Nat) : Int), wie (by omega) (by omega), ?_⟩
      conv => whnf
      exact Rnd.mk (k + 1) ⟨by show k + 1 ≤ _; omega, hlo fun _ => by omega⟩ (by show _ - (k + 1) < _ - k; omega) ⟨rfl, rfl, rfl, rfl, rfl, trivial⟩ (Hp.Le.refl _) rfl
  · conv => whnf
    repeat (refine SeqP.go ?_; conv => whnf)
    refine ⟨((k + 1 : Nat) : Int), wie (by omega) (by omega), ?_⟩
    conv => whnf
    exact Rnd.mk (k + 1) ⟨by show k + 1 ≤ _; omega, hlo fun e => by omega⟩ (by show _ - (k + 1) < _ - k; omega) ⟨rfl, rfl, rfl, rfl, rfl, trivial⟩ (Hp.Le.refl _) rfl
theorem indexI_spec (v : Value) (l : List Int) (x : Int) (h : Hp) (hv : Ints h v l) (hl : l.length ≤ 1000000) : CallP E 113 [v, int x] h (fun r h' => (∃ k, r = int k ∧ (0 ≤ k ↔ x ∈ l)) ∧ h' = h) := by
  obtain ⟨a, c, rfl, hc⟩ := id hv
  refine enter113 (by simp) ?_
  conv => whnf
  refine SeqP.go ?_
  conv => whnf
  refine SeqP.cut (α := Unit) (fun _ => []) (fun _ H => H = h ∧ x ∉ l) ?_ ?_
  rotate_left
  · rintro _ φ9 _ ⟨rfl, ha⟩
    conv => whnf
    repeat (refine SeqP.go ?_; conv => whnf)
    exact ⟨⟨-1, rfl, ⟨fun e => by omega, fun e => absurd e ha⟩⟩, rfl⟩
  conv => whnf
  repeat (refine SeqP.go ?_; conv => whnf)
  refine loop_inv (α := Nat) (fun k => [(8, int k), (7, int l.length), (0, .slice a l.length c), (1, int x)]) (fun _ => h) (fun k => k ≤ l.length ∧ ∀ s, s < k → gl l s ≠ x) (fun k => l.length - k) 0 ⟨Nat.zero_le _, fun s hs => by omega⟩ ⟨rfl, rfl, rfl, rfl, trivial⟩ (Hp.Le.refl _) ?_
  rintro k φ ⟨hk, hin⟩
  conv => whnf
  repeat (refine SeqP.go ?_; conv => whnf)
  refine cmpB (fun c1 => ?_) (fun c1 => ?_)
  rotate_left
  · conv => whnf
    repeat (refine SeqP.go ?_; conv => whnf)
    refine ⟨(), trivial, ⟨rfl, fun hm => ?_⟩, rfl⟩
    obtain ⟨i, hi, e⟩ := List.getElem_of_mem hm
    exact hin i (by omega) (by rw [gl_at hi]; exact e)
  have hkl : k < l.length := by omega
  have hck := hc k hkl
  obtain ⟨r, o, sp, ea, hsp, hci⟩ := hck
  subst ea
  have hmem : gl l k ∈ l := by rw [gl_at hkl]; exact List.getElem_mem _
  rw [← gl_at hkl] at hci
  conv => whnf
  repeat (refine SeqP.go ?_; conv => whnf)
  refine ⟨hsp, ⟨by omega, by omega⟩, ?_⟩
  conv => whnf
  refine ⟨int (gl l k), by rw [offAt_eq, Nat.add_comm]; simpa using hci, ?_⟩
  conv => whnf
  refine cmpB (fun c2 => ?_) (fun c2 => ?_)
  · conv => whnf
    repeat (refine SeqP.go ?_; conv => whnf)
    exact ⟨⟨k, rfl, ⟨fun _ => by rw [c2]; exact hmem, fun _ => by omega⟩⟩, rfl⟩
  · conv => whnf
    repeat (refine SeqP.go ?_; conv => whnf)
    refine ⟨((k + 1 : Nat) : Int), wie (by omega) (by omega), ?_⟩
    conv => whnf
    refine Rnd.mk (k + 1) ⟨by show k + 1 ≤ _; omega, fun s hs => ?_⟩ (by show _ - (k + 1) < _ - k; omega) ⟨rfl, rfl, rfl, rfl, trivial⟩ (Hp.Le.refl _) rfl
    by_cases e2 : s = k
    · subst e2; exact fun e => c2 e.symm
    · exact hin s (by omega)
theorem hasI_spec (v : Value) (l : List Int) (x : Int) (h : Hp) (hv : Ints h v l) (hl : l.length ≤ 1000000) : CallP E 103 [v, int x] h (fun r h' => (∃ b, r = .bool b ∧ BoolOf b (x ∈ l)) ∧ h' = h) := by
  obtain ⟨a, c, rfl, hc⟩ := id hv
  refine enter103 (by simp) ?_
  conv => whnf
  repeat (refine SeqP.go ?_; conv => whnf)
  refine CallP.mono (indexI_spec _ l x _ hv hl) ?_
  rintro r1 H1 ⟨⟨k, rfl, hk⟩, rfl⟩
  conv => whnf
  refine cmpB (fun c1 => ?_) (fun c1 => ?_)
  · conv => whnf
    repeat (refine SeqP.go ?_; conv => whnf)
    exact ⟨⟨true, rfl, bo_yes (hk.1 (by omega))⟩, rfl⟩
  · conv => whnf
    repeat (refine SeqP.go ?_; conv => whnf)
    exact ⟨⟨false, rfl, bo_no fun e => by have := hk.2 e; omega⟩, rfl⟩
end
end Go.Proofs.Ytpiplaicnbapbaa
namespace Go.Proofs.Ytpiplaicnbapbaa
open Go.Rx Go.RowKit
structure BfOk (R : List Q4) (L : List (List Int)) (B : List (List Int)) : Prop where
  len : B.length = L.length
  fwd : ∀ i, (hi : i < B.length) → ∀ x ∈ B[i], ∃ k : Nat, x = (k : Int) ∧ Ed R L k i
  bwd : ∀ k i, Ed R L k i → ∃ hi : i < B.length, (k : Int) ∈ B[i]
  small : ∀ i, (hi : i < B.length) → B[i].length ≤ 10000000
structure Nums (m : Nat) (l : List Int) : Prop where
  rng : ∀ x ∈ l, ∃ k : Nat, x = (k : Int) ∧ k < m
  once : ∀ i j, i < j → j < l.length → gl l i ≠ gl l j
structure Wk (R : List Q4) (L : List (List Int)) (T : Nat → Prop) (at_ : Nat) (l : List Int) (ms : List Bool) : Prop where
  len : ms.length = L.length
  cnt : l.length + nf ms = L.length
  rng : ∀ x ∈ l, ∃ k : Nat, x = (k : Int) ∧ k < L.length
  same : ∀ k : Nat, gb ms k = true ↔ (k : Int) ∈ l
  lead : ∀ k : Nat, (k : Int) ∈ l → Lead R L T k
  all : ∀ t : Nat, T t → (t : Int) ∈ l
  clo : ∀ j a b : Nat, j < at_ → j < l.length → gl l j = (b : Int) → Ed R L a b → (a : Int) ∈ l
theorem gl_snoc {l : List Int} {x : Int} {j : Nat} (h : j < l.length) : gl (l ++ [x]) j = gl l j := by
  unfold gl
  rw [List.getD_eq_getElem?_getD, List.getD_eq_getElem?_getD, List.getElem?_append_left h]
theorem Wk.add {R : List Q4} {L : List (List Int)} {T : Nat → Prop} {at_ : Nat} {l : List Int} {ms : List Bool} (w : Wk R L T at_ l ms) (ha : at_ ≤ l.length) {k : Nat} (hk : k < L.length) (hf : gb ms k = false) (hl : Lead R L T k) : Wk R L T at_ (l ++ [(k : Int)]) (ms.set k true) := by
  have hlen := w.len
  have hn := nf_set (l := ms) (i := k) (by omega) hf
  have hc := w.cnt
  refine ⟨by rw [List.length_set]; exact w.len, by rw [List.length_append, List.length_singleton]; omega, fun x hx => ?_, fun j => ?_, fun j hj => ?_, fun t ht => List.mem_append_left _ (w.all t ht), fun j a b hj hj2 e he => ?_⟩
  · rcases List.mem_append.1 hx with hx | hx
    · exact w.rng x hx
    · exact ⟨k, List.mem_singleton.1 hx, hk⟩
  · rw [gb_set (by omega), List.mem_append, List.mem_singleton, ← w.same j]
    by_cases e : j = k
    · subst e; simp
    · rw [if_neg e]
      constructor
      · intro h; exact .inl h
      · rintro (h | h)
        · exact h
        · exact absurd (by omega) e
  · rcases List.mem_append.1 hj with hj | hj
    · exact w.lead j hj
    · have := List.mem_singleton.1 hj
      have : j = k := by omega
      rw [this]; exact hl
  · rw [gl_snoc (by omega)] at e
    exact List.mem_append_left _ (w.clo j a b hj (by omega) e he)
theorem Wk.turn {R : List Q4} {L : List (List Int)} {T : Nat → Prop} {at_ : Nat} {l : List Int} {ms : List Bool} (w : Wk R L T at_ l ms) (h : ∀ a b : Nat, gl l at_ = (b : Int) → Ed R L a b → (a : Int) ∈ l) : Wk R L T (at_ + 1) l ms :=
  ⟨w.len, w.cnt, w.rng, w.same, w.lead, w.all, fun j a b hj hj2 e he => by
    by_cases e2 : j = at_
    · subst e2; exact h a b e he
    · exact w.clo j a b (by omega) hj2 e he⟩
theorem Wk.done {R : List Q4} {L : List (List Int)} {T : Nat → Prop} {l : List Int} {ms : List Bool} (w : Wk R L T l.length l ms) (a : Nat) : gb ms a = true ↔ Lead R L T a := by
  rw [w.same]
  refine ⟨w.lead a, fun h => h.least (M := fun a : Nat => (a : Int) ∈ l) w.all fun a b e hb => ?_⟩
  obtain ⟨j, hj, ej⟩ := List.getElem_of_mem hb
  exact w.clo j a b hj hj (by rw [gl_at hj]; exact ej) e
structure Mt (m : Nat) (to : List Int) (k : Nat) (ms : List Bool) : Prop where
  len : ms.length = m
  cnt : k + nf ms = m
  same : ∀ a : Nat, gb ms a = true ↔ ∃ i, i < k ∧ gl to i = (a : Int)
theorem nf_rep (n : Nat) : nf (List.replicate n false) = n := by
  induction n with
  | zero => rfl
  | succ n ih => rw [List.replicate_succ]; simp [nf, ih]; omega
theorem Mt.start (m : Nat) (to : List Int) : Mt m to 0 (List.replicate m false) := ⟨List.length_replicate, by rw [nf_rep]; omega, fun a => ⟨fun e => (by rw [gb_rep] at e; cases e), fun ⟨i, hi, _⟩ => absurd hi (Nat.not_lt_zero _)⟩⟩
theorem Mt.next {m : Nat} {to : List Int} {k : Nat} {ms : List Bool} (w : Mt m to k ms) (ht : Nums m to) (hk : k < to.length) {a : Nat} (ea : gl to k = (a : Int)) (ha : a < m) : Mt m to (k + 1) (ms.set a true) := by
  have hf : gb ms a = false := by
    cases e : gb ms a with
    | false => rfl
    | true =>
      obtain ⟨i, hi, e2⟩ := (w.same a).1 e
      exact absurd (e2.trans ea.symm) (ht.once i k hi hk)
  have hl := w.len
  have hn := nf_set (l := ms) (i := a) (by omega) hf
  have hc := w.cnt
  refine ⟨by rw [List.length_set]; exact hl, by omega, fun b => ?_⟩
  rw [gb_set (by omega)]
  constructor
  · intro e
    split at e
    · rename_i e2; exact ⟨k, Nat.lt_succ_self _, by rw [ea, e2]⟩
    · obtain ⟨i, hi, e2⟩ := (w.same b).1 e
      exact ⟨i, by omega, e2⟩
  · rintro ⟨i, hi, e⟩
    split
    · rfl
    · rename_i e2
      refine (w.same b).2 ⟨i, ?_, e⟩
      by_cases e3 : i = k
      · subst e3; exact absurd (by omega) e2
      · omega
theorem Mt.done {R : List Q4} {L : List (List Int)} {to : List Int} {ms : List Bool} (w : Mt L.length to to.length ms) (ht : Nums L.length to) : Wk R L (fun t => (t : Int) ∈ to) 0 to ms :=
  ⟨w.len, w.cnt, ht.rng, fun k => by
    rw [w.same]
    constructor
    · rintro ⟨i, hi, e⟩
      rw [← e, gl_at hi]
      exact List.getElem_mem _
    · intro h
      obtain ⟨i, hi, e⟩ := List.getElem_of_mem h
      exact ⟨i, hi, by rw [gl_at hi]; exact e⟩, fun k hk => Lead.self hk, fun t ht => ht, fun j a b hj => absurd hj (Nat.not_lt_zero _)⟩
theorem built_setE {h0 h : Hp} {e e' : TypeId} {v : Value} {l : List Int} {D : Nat} {x : Bool} {cs : List Value} {o : Rx.Obj} (k : Built h0 h e v l) (hD : h.at D = some (.row e' x cs)) (hne : e ≠ e') : Built h0 (h.set D o) e v l := by
  rcases k with h1 | ⟨r, e1, h2, y, h3⟩
  · exact .inl h1
  · refine .inr ⟨r, e1, h2, y, ?_⟩
    have : r ≠ D := fun e2 => by subst e2; rw [h3] at hD; cases hD; exact hne rfl
    rw [Hp.at_set_ne _ this]
    exact h3
theorem built_off {h0 h : Hp} {e e' : TypeId} {v : Value} {l : List Int} {D : Nat} {x : Bool} {cs : List Value} (k : Built h0 h e v l) (hD : h.at D = some (.row e' x cs)) (hne : e ≠ e') : ∀ n c, v ≠ slc D 0 n c := by
  intro n c e1
  rcases k with ⟨rfl, _⟩ | ⟨r, rfl, h2, y, h3⟩
  · cases e1
  · have : r = D := by simp [slc] at e1; exact e1.1
    subst this
    rw [h3] at hD
    cases hD
    exact hne rfl
theorem nil_eq : aBin E .eql 22 (.tmp 3) (.const (.slice none 0 0)) (.slice none 0 0) (.slice none 0 0) = some (.bool true) := by kernel_rfl
attribute [local irreducible] E idxN cellAt cellsAt storeAt callable helems hmoved lookIn findKey keyOk hentries Hp.at Hp.set Hp.lay arBits hupdated setAt CallP YieldP BoolOf IsWrap Rnd LoopP AppP CutP Int.tmod Int.tdiv Int.fdiv
section
variable [Unknowns]
attribute [local irreducible] ResP sameAt
theorem clone2_spec (v : Value) (l : List Int) (h : Hp) (hv : LV h v l) (hl : l.length ≤ 1000000) : CallP E 71 [v] h (fun r h' => Built h h' 3 r l ∧ Grows h h') := by
  rcases id hv with ⟨rfl, rfl⟩ | ⟨r, rfl, hr, x, hat⟩
  · refine enter71 (by simp) ?_
    conv => whnf
    repeat (refine SeqP.go ?_; conv => whnf)
    refine resP_val (v := .bool true) (h := h) ?_ ?_
    · show hval _ (aBin E .eql 22 (.tmp 3) (.const (.slice none 0 0)) (.slice none 0 0) (.slice none 0 0)) = _
      rw [nil_eq]
      rfl
    conv => whnf
    repeat (refine SeqP.go ?_; conv => whnf)
    exact ⟨.inl ⟨rfl, rfl⟩, .refl _⟩
  · refine enter71 (by simp) ?_
    conv => whnf
    repeat (refine SeqP.go ?_; conv => whnf)
    refine resP_val (v := .bool false) (h := h) ?_ ?_
    · show hval _ (aBin E .eql 22 _ (.const _) (slc r 0 l.length l.length) (.slice none 0 0)) = _
      unfold slc
      rw [nil_neq]
      rfl
    conv => whnf
    repeat (refine SeqP.go ?_; conv => whnf)
    refine AppP.ints (h0 := h) (l := []) (new := l) (.inr ⟨h.next, rfl, Nat.le_refl _, true, Hp.at_lay_self _ _⟩) (Grows.lay _ _) (View.elems (View.ext (Grows.lay _ _) (Built.view hv))) (by simp; omega) ?_
    intro v2 h2 hb hg _
    rw [List.nil_append] at hb
    rcases id hb with ⟨rfl, e⟩ | ⟨r2, rfl, _, _⟩
    · conv => whnf
      repeat (refine SeqP.go ?_; conv => whnf)
      exact ⟨hb, hg⟩
    · conv => whnf
      repeat (refine SeqP.go ?_; conv => whnf)
      exact ⟨hb, hg⟩
theorem lead_spec (bx : List Value) (cvv bvv tv : Value) (R : List Q4) (L B : List (List Int)) (to : List Int) (h : Hp) (hbx : bx.length = 2) (hone : bx.all oneCell = true) (b0 : bx[0]? = some cvv) (b1 : bx[1]? = some bvv) (hc : ∃ a c, cvv = .slice a L.length c) (hB : SL h bvv B) (hBo : BfOk R L B) (ht : LV h tv to) (hto : Nums L.length to) (hL1 : 0 < L.length) (hL2 : L.length ≤ 100000) : CallP E 92 [.agg ⟨bx⟩, tv] h (fun r h' => (∃ ms, BV h' r ms ∧ ms.length = L.length ∧ ∀ a, gb ms a = true ↔ Lead R L (fun t => (t : Int) ∈ to) a) ∧ Grows h h') := by
  obtain ⟨ac, cc, rfl⟩ := hc
  obtain ⟨an, cn, rfl, -⟩ := id hB
  have hBl := hBo.len
  have htk := ht.known
  obtain ⟨at0, rfl⟩ := htk
  have hti := (ht.view).ints
  have g0 : Grows h (h.lay (.row 104 true bx)) := Grows.lay _ _
  have a0 : (h.lay (.row 104 true bx)).at h.next = some (.row 104 true bx) := Hp.at_lay_self _ _
  refine enter92 (by simp) ?_
  conv => whnf
  refine SeqP.go ?_
  conv => whnf
  refine SeqP.cut (α := Nat × Hp) (fun s => [(5, slc s.1 0 L.length L.length), (2, ptr h.next 0), (1, .slice at0 to.length to.length)]) (fun s H => s.2 = H ∧ SM h s.1 true (List.replicate L.length false) s.2 ∧ s.2.at h.next = some (.row 104 true bx) ∧ h.next < s.1) ?_ ?_
  · conv => whnf
    refine ⟨_, cellAt_row a0 b0, ?_⟩
    conv => whnf
    refine ⟨⟨by omega, by omega, by omega, by omega⟩, ?_⟩
    conv => whnf
    refine ⟨((h.lay (.row 104 true bx)).next, _), ⟨rfl, rfl, rfl, trivial⟩, ⟨rfl, ⟨?_, g0.then_lay _, ?_⟩, Hp.at_lay_old _ a0, ?_⟩, rfl⟩
    · rw [← rep_bool]
      exact Hp.at_lay_self _ _
    · show h.next ≤ (h.lay (.row 104 true bx)).next
      rw [Hp.next_lay]; omega
    · show h.next < (h.lay (.row 104 true bx)).next
      rw [Hp.next_lay]; omega
  rintro ⟨r, H1⟩ φ1 _ ⟨rfl, hs1, hb1, hrn⟩
  dsimp only at hs1 hb1 hrn ⊢
  conv => whnf
  refine SeqP.cut (α := List Bool × Hp) (fun s => [(5, slc r 0 L.length L.length), (2, ptr h.next 0), (1, .slice at0 to.length to.length)]) (fun s H => s.2 = H ∧ SM h r true s.1 s.2 ∧ Mt L.length to to.length s.1 ∧ s.2.at h.next = some (.row 104 true bx)) ?_ ?_
  · conv => whnf
    repeat (refine SeqP.go ?_; conv => whnf)
    refine loop_inv (α := Nat × List Bool × Hp) (fun s => [(18, int s.1), (17, int to.length), (16, .slice at0 to.length to.length), (5, slc r 0 L.length L.length), (2, ptr h.next 0), (1, .slice at0 to.length to.length)]) (fun s => s.2.2) (fun s => s.1 ≤ to.length ∧ SM h r true s.2.1 s.2.2 ∧ Mt L.length to s.1 s.2.1 ∧ s.2.2.at h.next = some (.row 104 true bx)) (fun s => to.length - s.1) (0, _, H1) ⟨Nat.zero_le _, hs1, Mt.start _ _, hb1⟩ ⟨rfl, rfl, rfl, rfl, rfl, rfl, trivial⟩ (Hp.Le.refl _) ?_
    rintro ⟨k, ms, H⟩ φ2 ⟨hk, hs, hm, hb⟩
    dsimp only at hk hs hm hb ⊢
    conv => whnf
    repeat (refine SeqP.go ?_; conv => whnf)
    refine cmpB (fun c1 => ?_) (fun c1 => ?_)
    rotate_left
    · have : k = to.length := by omega
      subst this
      conv => whnf
      repeat (refine SeqP.go ?_; conv => whnf)
      exact ⟨(ms, H), ⟨rfl, rfl, rfl, trivial⟩, ⟨rfl, hs, hm, hb⟩, rfl⟩
    have hkl : k < to.length := by omega
    have hc := (hti.ext hs.gr)
    obtain ⟨ax, cx, ex, hc⟩ := hc
    cases ex
    have hck := hc k hkl
    clear hc
    obtain ⟨r5, o5, sp5, ea5, hsp5, hc5⟩ := hck
    subst ea5
    have hrg := hto.rng to[k] (List.getElem_mem _)
    obtain ⟨a, ea, ha⟩ := hrg
    rw [ea] at hc5
    have hmlen := hm.len
    conv => whnf
    repeat (refine SeqP.go ?_; conv => whnf)
    refine ⟨hsp5, ⟨by omega, by omega⟩, ?_⟩
    conv => whnf
    refine ⟨int a, by rw [offAt_eq, Nat.add_comm]; simpa using hc5, ?_⟩
    conv => whnf
    repeat (refine SeqP.go ?_; conv => whnf)
    refine ⟨rfl, ⟨by omega, by omega⟩, ?_⟩
    conv => whnf
    refine ⟨rfl, _, hs.store (i := a) (by omega) true, ?_⟩
    conv => whnf
    have hmcnt := hm.cnt
    refine ⟨((k + 1 : Nat) : Int), wie (by omega) (by omega), ?_⟩
    conv => whnf
    exact Rnd.mk (k + 1, ms.set a true, _) ⟨by show k + 1 ≤ _; omega, hs.put _, hm.next hto hkl (by rw [gl_at hkl]; exact ea) ha, by rw [Hp.at_set_ne _ (by omega)]; exact hb⟩ (by show _ - (k + 1) < _ - k; omega) ⟨rfl, rfl, rfl, rfl, rfl, rfl, trivial⟩ (Hp.Le.refl _) rfl
  rintro ⟨ms, H2⟩ φ3 _ ⟨rfl, hs2, hm2, hb2⟩
  dsimp only at hs2 hm2 hb2 ⊢
  have hw0 := hm2.done (R := R) (L := L) hto
  have hcnt := hm2.cnt
  conv => whnf
  refine SeqP.cut (α := Value × Hp) (fun s => [(8, s.1), (5, slc r 0 L.length L.length), (2, ptr h.next 0)]) (fun s H => s.2 = H ∧ SM h r true ms s.2 ∧ Built H2 s.2 3 s.1 to ∧ s.2.at h.next = some (.row 104 true bx)) ?_ ?_
  · conv => whnf
    refine CallP.mono (clone2_spec _ to _ (ht.ext hs2.gr) (by omega)) ?_
    rintro r3 H3 ⟨hb3, g3⟩
    conv => whnf
    exact ⟨(r3, H3), ⟨rfl, rfl, rfl, trivial⟩, ⟨rfl, ⟨g3.at_ _ _ hs2.at_, hs2.gr.trans g3, hs2.hr⟩, hb3, g3.at_ _ _ hb2⟩, rfl⟩
  rintro ⟨lv, H3⟩ φ4 _ ⟨rfl, hs3, hlv, hb3⟩
  dsimp only at hs3 hlv hb3 ⊢
  have hlv0 : Built h H3 3 lv to := hlv.back hs2.gr.next
  clear hlv
  conv => whnf
  refine SeqP.cut (α := List Int × List Bool × Hp) (fun s => [(5, slc r 0 L.length L.length)]) (fun s H => s.2.2 = H ∧ SM h r true s.2.1 s.2.2 ∧ Wk R L (fun t => (t : Int) ∈ to) s.1.length s.1 s.2.1) ?_ ?_
  rotate_left
  · rintro ⟨l, ms, H⟩ φ9 _ ⟨rfl, h1, h2⟩
    dsimp only at h1 h2 ⊢
    conv => whnf
    repeat (refine SeqP.go ?_; conv => whnf)
    exact ⟨⟨ms, ⟨r, true, by rw [h2.len]; rfl, h1.at_⟩, h2.len, h2.done⟩, h1.gr⟩
  conv => whnf
  repeat (refine SeqP.go ?_; conv => whnf)
  refine loop_inv (α := Nat × Value × List Int × List Bool × Hp) (fun s => [(9, int s.1), (8, s.2.1), (5, slc r 0 L.length L.length), (2, ptr h.next 0)]) (fun s => s.2.2.2.2) (fun s => s.1 ≤ s.2.2.1.length ∧ SM h r true s.2.2.2.1 s.2.2.2.2 ∧ Built h s.2.2.2.2 3 s.2.1 s.2.2.1 ∧ Wk R L (fun t => (t : Int) ∈ to) s.1 s.2.2.1 s.2.2.2.1 ∧ s.2.2.2.2.at h.next = some (.row 104 true bx)) (fun s => L.length - s.1) (0, lv, to, ms, H3) ⟨Nat.zero_le _, hs3, hlv0, hw0, hb3⟩ ⟨rfl, rfl, rfl, rfl, trivial⟩ (Hp.Le.refl _) ?_
  clear hs3 hlv0 hw0 hb3 hs2 hm2 hb2 hcnt
  rintro ⟨k, lv, l, ms, H⟩ φ5 ⟨hk, hs, hlv, hw, hb⟩
  dsimp only at hk hs hlv hw hb ⊢
  have hcnt := hw.cnt
  have hkk := (LV.of hlv).known
  obtain ⟨al, rfl⟩ := hkk
  conv => whnf
  repeat (refine SeqP.go ?_; conv => whnf)
  refine cmpB (fun c1 => ?_) (fun c1 => ?_)
  rotate_left
  · have : k = l.length := by omega
    subst this
    conv => whnf
    repeat (refine SeqP.go ?_; conv => whnf)
    exact ⟨(l, ms, H), ⟨rfl, trivial⟩, ⟨rfl, hs, hw⟩, rfl⟩
  have hkl : k < l.length := by omega
  have hc := hlv.ints
  obtain ⟨ax, cx, ex, hc⟩ := hc
  cases ex
  have hck := hc k hkl
  clear hc
  obtain ⟨r5, o5, sp5, ea5, hsp5, hc5⟩ := hck
  subst ea5
  have hrg := hw.rng l[k] (List.getElem_mem _)
  obtain ⟨b, eb, hb6⟩ := hrg
  rw [eb] at hc5
  have hbB : b < B.length := by omega
  have hcB := id hB
  obtain ⟨an', cn', ew, hcB⟩ := hcB
  cases ew
  have hcj := hcB b hbB
  clear hcB
  obtain ⟨rn, on, sp, w, ea, hsp, hw1, hw2⟩ := hcj
  subst ea
  have hkk := hw2.known
  obtain ⟨aw, cw, rfl⟩ := hkk
  have hw1 := hs.gr.cell hw1
  have hsmall := hBo.small b hbB
  have hgb : gl l k = (b : Int) := by rw [gl_at hkl]; exact eb
  conv => whnf
  refine SeqP.cut (α := Value × List Int × List Bool × Hp) (fun s => [(9, int k), (8, s.1), (5, slc r 0 L.length L.length), (2, ptr h.next 0)]) (fun s H' => s.2.2.2 = H' ∧ k < s.2.1.length ∧ SM h r true s.2.2.1 s.2.2.2 ∧ Built h s.2.2.2 3 s.1 s.2.1 ∧ Wk R L (fun t => (t : Int) ∈ to) (k + 1) s.2.1 s.2.2.1 ∧ s.2.2.2.at h.next = some (.row 104 true bx)) ?_ ?_
  rotate_left
  · rintro ⟨lv', l', ms', H'⟩ φ6 _ ⟨rfl, e0, e1, e2, e3, e4⟩
    dsimp only at e0 e1 e2 e3 e4 ⊢
    have := e3.cnt
    conv => whnf
    refine ⟨((k + 1 : Nat) : Int), wie (by omega) (by omega), ?_⟩
    conv => whnf
    exact Rnd.mk (k + 1, lv', l', ms', H') ⟨by show k + 1 ≤ l'.length; omega, e1, e2, e3, e4⟩ (by show _ - (k + 1) < _ - k; omega) ⟨rfl, rfl, rfl, rfl, trivial⟩ (Hp.Le.refl _) rfl
  conv => whnf
  repeat (refine SeqP.go ?_; conv => whnf)
  refine ⟨_, cellAt_row hb b1, ?_⟩
  conv => whnf
  refine ⟨hsp5, ⟨by omega, by omega⟩, ?_⟩
  conv => whnf
  refine ⟨int b, by rw [offAt_eq, Nat.add_comm]; simpa using hc5, ?_⟩
  conv => whnf
  refine ⟨hsp, ⟨by omega, by omega⟩, ?_⟩
  conv => whnf
  refine ⟨.slice aw B[b].length cw, by rw [offAt_eq, Nat.add_comm]; simpa using hw1, ?_⟩
  conv => whnf
  refine loop_inv (α := Nat × Value × List Int × List Bool × Hp) (fun s => [(43, int s.1), (42, int B[b].length), (41, .slice aw B[b].length cw), (9, int k), (8, s.2.1), (5, slc r 0 L.length L.length), (2, ptr h.next 0)]) (fun s => s.2.2.2.2) (fun s => s.1 ≤ B[b].length ∧ k < s.2.2.1.length ∧ gl s.2.2.1 k = (b : Int) ∧ SM h r true s.2.2.2.1 s.2.2.2.2 ∧ Built h s.2.2.2.2 3 s.2.1 s.2.2.1 ∧ Wk R L (fun t => (t : Int) ∈ to) k s.2.2.1 s.2.2.2.1 ∧ s.2.2.2.2.at h.next = some (.row 104 true bx) ∧ ∀ j, (hj : j < B[b].length) → j < s.1 → B[b][j] ∈ s.2.2.1) (fun s => B[b].length - s.1) (0, _, l, ms, H) ⟨Nat.zero_le _, hkl, hgb, hs, hlv, hw, hb, fun j hj hj0 => absurd hj0 (Nat.not_lt_zero _)⟩ ⟨rfl, rfl, rfl, rfl, rfl, rfl, rfl, trivial⟩ (Hp.Le.refl _) ?_
  clear hcnt
  rintro ⟨j, lv2, l2, ms2, H2⟩ φ7 ⟨hj, hkl, hgb, hs, hlv, hw, hb2, hdone⟩
  dsimp only at hj hkl hgb hs hlv hw hb2 hdone ⊢
  have hcnt := hw.cnt
  have hmlen := hw.len
  have hkk := (LV.of hlv).known
  obtain ⟨al2, rfl⟩ := hkk
  conv => whnf
  repeat (refine SeqP.go ?_; conv => whnf)
  refine cmpB (fun c2 => ?_) (fun c2 => ?_)
  rotate_left
  · conv => whnf
    repeat (refine SeqP.go ?_; conv => whnf)
    refine ⟨(_, l2, ms2, H2), ⟨rfl, rfl, rfl, rfl, trivial⟩, ⟨rfl, hkl, hs, hlv, hw.turn fun a b' e he => ?_, hb2⟩, rfl⟩
    rw [hgb] at e
    have : b = b' := by omega
    subst this
    obtain ⟨h1, h2⟩ := hBo.bwd a b he
    obtain ⟨i, hi, ei⟩ := List.getElem_of_mem h2
    rw [← ei]
    exact hdone i hi (by omega)
  have hjl : j < B[b].length := by omega
  have hci := (hw2.ext hs.gr).ints
  obtain ⟨ay, cy, ey, hci⟩ := hci
  cases ey
  have hcik := hci j hjl
  clear hci
  obtain ⟨r7, o7, sp7, ea7, hsp7, hc7⟩ := hcik
  subst ea7
  have hfw := hBo.fwd b hbB B[b][j] (List.getElem_mem _)
  obtain ⟨a, ekk, hed⟩ := hfw
  have hal := hed.lt.1
  rw [ekk] at hc7
  have hldk := hs.load (i := a) (by omega)
  have hexc : ∃ c, gb ms2 a = c := ⟨_, rfl⟩
  obtain ⟨c, ec⟩ := hexc
  rw [ec] at hldk
  conv => whnf
  repeat (refine SeqP.go ?_; conv => whnf)
  refine ⟨hsp7, ⟨by omega, by omega⟩, ?_⟩
  conv => whnf
  refine ⟨int a, by rw [offAt_eq, Nat.add_comm]; simpa using hc7, ?_⟩
  conv => whnf
  repeat (refine SeqP.go ?_; conv => whnf)
  refine ⟨rfl, ⟨by omega, by omega⟩, ?_⟩
  conv => whnf
  refine ⟨_, hldk, ?_⟩
  conv => whnf
  cases c with
  | true =>
    conv => whnf
    repeat (refine SeqP.go ?_; conv => whnf)
    refine ⟨((j + 1 : Nat) : Int), wie (by omega) (by omega), ?_⟩
    conv => whnf
    refine Rnd.mk (j + 1, _, l2, ms2, H2) ⟨by show j + 1 ≤ B[b].length; omega, hkl, hgb, hs, hlv, hw, hb2, fun i hi hi2 => ?_⟩ (by show B[b].length - (j + 1) < B[b].length - j; omega) ⟨rfl, rfl, rfl, rfl, rfl, rfl, rfl, trivial⟩ (Hp.Le.refl _) rfl
    by_cases e3 : i = j
    · subst e3
      rw [ekk]
      exact (hw.same a).1 ec
    · exact hdone i hi (by have : i < j + 1 := hi2; omega)
  | false =>
    have hld := hw.lead b (by rw [← hgb, gl_at hkl]; exact List.getElem_mem _)
    have hw3 := hw.add (by omega) hal ec (hld.back hed)
    have hs3 := hs.put (ms2.set a true)
    have hlv3 := built_setE (o := .row 4 true ((ms2.set a true).map .bool)) hlv hs.at_ (by decide)
    have hb3' : (H2.set r (.row 4 true ((ms2.set a true).map .bool))).at h.next = some (.row 104 true bx) := by rw [Hp.at_set_ne _ (by omega)]; exact hb2
    have hoff := built_off hlv3 hs3.at_ (by decide)
    conv => whnf
    refine ⟨rfl, ⟨by omega, by omega⟩, ?_⟩
    conv => whnf
    refine ⟨rfl, _, hs.store (i := a) (by omega) true, ?_⟩
    conv => whnf
    repeat (refine SeqP.go ?_; conv => whnf)
    refine AppP.ints (hlv3.ext (Grows.lay _ _)) (hs3.gr.then_lay _) Elems.lay1 (by simp; omega) ?_
    intro v4 H4 hv4 hg4 keep
    conv => whnf
    repeat (refine SeqP.go ?_; conv => whnf)
    refine ⟨((j + 1 : Nat) : Int), wie (by omega) (by omega), ?_⟩
    conv => whnf
    refine Rnd.mk (j + 1, v4, l2 ++ [(a : Int)], ms2.set a true, H4) ⟨by show j + 1 ≤ B[b].length; omega, by show k < (l2 ++ [(a : Int)]).length; rw [List.length_append]; omega, by show gl (l2 ++ [(a : Int)]) k = _; rw [gl_snoc hkl]; exact hgb, ⟨keep _ _ (Hp.at_lay_old _ hs3.at_) hoff, hg4, hs.hr⟩, hv4, hw3, keep _ _ (Hp.at_lay_old _ hb3') (built_off hlv3 hb3' (by decide)), fun i hi hi2 => ?_⟩ (by show B[b].length - (j + 1) < B[b].length - j; omega) ⟨rfl, rfl, rfl, rfl, rfl, rfl, rfl, trivial⟩ (Hp.Le.refl _) rfl
    · show B[b][i] ∈ l2 ++ [(a : Int)]
      by_cases e3 : i = j
      · subst e3
        rw [ekk]
        exact List.mem_append_right _ (List.mem_singleton.2 rfl)
      · exact List.mem_append_left _ (hdone i hi (by have : i < j + 1 := hi2; omega))
end
end Go.Proofs.Ytpiplaicnbapbaa
namespace Go.Proofs.Ytpiplaicnbapbaa
open Go.Rx Go.RowKit
theorem bool_eql (a b : Bool) : aBin E .eql 4 (.tmp 11) (.tmp 15) (.bool a) (.bool b) = some (.bool (a == b)) := by
  cases a <;> cases b <;> kernel_rfl
def AL (h : Hp) (v : Value) (L : List (List Int)) : Prop := ∃ a c, v = .slice a L.length c ∧ ∀ j, (hj : j < L.length) → ∃ r o, a = some ⟨r, o, none⟩ ∧ cellsAt h r (j * 5 + o) 5 = some ((pad5 L[j]).map int)
theorem AL.ext {h h' : Hp} {v : Value} {L : List (List Int)} (g : Grows h h') (k : AL h v L) : AL h' v L := by
  obtain ⟨a, c, e, hc⟩ := k
  exact ⟨a, c, e, fun j hj => let ⟨r, o, e1, e2⟩ := hc j hj; ⟨r, o, e1, g.cells e2⟩⟩
structure PR (h : Hp) (bx : List Value) (R : List Q4) (n : Nat) (c : List Int) (L B : List (List Int)) : Prop where
  len : bx.length = 2
  one : bx.all oneCell = true
  lv : ∃ v, bx[0]? = some v ∧ AL h v L
  bv : ∃ v, bx[1]? = some v ∧ SL h v B
  bf : BfOk R L B
  gr : Gr R c L
  ok : ∀ d ∈ L, CrOk n d
  few : L.length ≤ 100000
theorem PR.ext {h h' : Hp} {bx : List Value} {R : List Q4} {n : Nat} {c : List Int} {L B : List (List Int)} (g : Grows h h') (k : PR h bx R n c L B) : PR h' bx R n c L B := by
  obtain ⟨h1, h2, ⟨v, h3, h4⟩, ⟨w, h5, h6⟩, h7, h8, h9, h10⟩ := k
  exact ⟨h1, h2, ⟨v, h3, h4.ext g⟩, ⟨w, h5, h6.ext g⟩, h7, h8, h9, h10⟩
structure Up (P : Nat → Prop) (i : Nat) (l : List Int) : Prop where
  rng : ∀ x ∈ l, ∃ k : Nat, x = (k : Int) ∧ k < i
  once : ∀ a b, a < b → b < l.length → gl l a ≠ gl l b
  mem : ∀ k : Nat, (k : Int) ∈ l ↔ k < i ∧ P k
  cnt : l.length ≤ i
theorem Up.start (P : Nat → Prop) : Up P 0 [] := ⟨fun x h => by simp at h, fun a b _ h => by simp at h, fun k => ⟨fun h => by simp at h, fun h => absurd h.1 (Nat.not_lt_zero _)⟩, Nat.le_refl _⟩
theorem Up.skip {P : Nat → Prop} {i : Nat} {l : List Int} (u : Up P i l) (h : ¬ P i) : Up P (i + 1) l :=
  ⟨fun x hx => let ⟨k, e, hk⟩ := u.rng x hx; ⟨k, e, by omega⟩, u.once, fun k => (u.mem k).trans ⟨fun e => ⟨by omega, e.2⟩, fun e => ⟨by
    by_cases e2 : k = i
    · subst e2; exact absurd e.2 h
    · omega, e.2⟩⟩, by have := u.cnt; omega⟩
theorem Up.add {P : Nat → Prop} {i : Nat} {l : List Int} (u : Up P i l) (h : P i) : Up P (i + 1) (l ++ [(i : Int)]) := by
  refine ⟨fun x hx => ?_, fun a b hab hb => ?_, fun k => ?_, by have := u.cnt; rw [List.length_append, List.length_singleton]; omega⟩
  · rcases List.mem_append.1 hx with hx | hx
    · obtain ⟨k, e, hk⟩ := u.rng x hx
      exact ⟨k, e, by omega⟩
    · exact ⟨i, List.mem_singleton.1 hx, by omega⟩
  · rw [List.length_append, List.length_singleton] at hb
    by_cases e : b < l.length
    · rw [gl_snoc e, gl_snoc (by omega)]
      exact u.once a b hab e
    · have e2 : b = l.length := by omega
      subst e2
      rw [gl_snoc hab]
      have e3 : gl (l ++ [(i : Int)]) l.length = (i : Int) := by
        rw [gl_at (by simp)]
        simp
      rw [e3]
      intro e4
      have hm : gl l a ∈ l := by rw [gl_at hab]; exact List.getElem_mem _
      obtain ⟨k, e5, hk⟩ := u.rng _ hm
      omega
  · rw [List.mem_append, List.mem_singleton, u.mem k]
    constructor
    · rintro (e | e)
      · exact ⟨by omega, e.2⟩
      · have : k = i := by omega
        subst this
        exact ⟨by omega, h⟩
    · rintro ⟨e1, e2⟩
      by_cases e3 : k = i
      · exact .inr (by omega)
      · exact .inl ⟨by omega, e2⟩
theorem Up.nums {P : Nat → Prop} {m : Nat} {l : List Int} (u : Up P m l) : Nums m l := ⟨u.rng, u.once⟩
attribute [local irreducible] E idxN cellAt cellsAt storeAt callable helems hmoved lookIn findKey keyOk hentries Hp.at Hp.set Hp.lay arBits hupdated setAt CallP YieldP BoolOf IsWrap Rnd LoopP AppP CutP Int.tmod Int.tdiv Int.fdiv
section
variable [Unknowns]
attribute [local irreducible] ResP sameAt
theorem indexB_spec (v : Value) (ms : List Bool) (x : Bool) (h : Hp) (hv : BV h v ms) (hl : ms.length ≤ 1000000) : CallP E 106 [v, .bool x] h (fun r h' => (∃ k, r = int k ∧ (0 ≤ k ↔ ∃ a, a < ms.length ∧ gb ms a = x)) ∧ h' = h) := by
  obtain ⟨r, y, rfl, hat⟩ := id hv
  refine enter106 (by simp) ?_
  conv => whnf
  refine SeqP.go ?_
  conv => whnf
  refine SeqP.cut (α := Unit) (fun _ => []) (fun _ H => H = h ∧ ∀ a, a < ms.length → gb ms a ≠ x) ?_ ?_
  rotate_left
  · rintro _ φ9 _ ⟨rfl, ha⟩
    conv => whnf
    repeat (refine SeqP.go ?_; conv => whnf)
    exact ⟨⟨-1, rfl, ⟨fun e => by omega, fun ⟨a, h1, h2⟩ => absurd h2 (ha a h1)⟩⟩, rfl⟩
  conv => whnf
  repeat (refine SeqP.go ?_; conv => whnf)
  refine loop_inv (α := Nat) (fun k => [(8, int k), (7, int ms.length), (0, slc r 0 ms.length ms.length), (1, .bool x)]) (fun _ => h) (fun k => k ≤ ms.length ∧ ∀ s, s < k → gb ms s ≠ x) (fun k => ms.length - k) 0 ⟨Nat.zero_le _, fun s hs => by omega⟩ ⟨rfl, rfl, rfl, rfl, trivial⟩ (Hp.Le.refl _) ?_
  rintro k φ ⟨hk, hin⟩
  conv => whnf
  repeat (refine SeqP.go ?_; conv => whnf)
  refine cmpB (fun c1 => ?_) (fun c1 => ?_)
  rotate_left
  · conv => whnf
    repeat (refine SeqP.go ?_; conv => whnf)
    exact ⟨(), trivial, ⟨rfl, fun a ha => hin a (by omega)⟩, rfl⟩
  have hkl : k < ms.length := by omega
  have hld : cellAt h r (offAt 0 ((k : Int)).toNat 1) = some (.bool (gb ms k)) := by
    rw [offAt_eq]
    refine cellAt_row hat ?_
    rw [List.getElem?_map, gb_at hkl]
    simp [hkl]
  have hexb : ∃ b, gb ms k = b := ⟨_, rfl⟩
  obtain ⟨b, eb⟩ := hexb
  rw [eb] at hld
  conv => whnf
  repeat (refine SeqP.go ?_; conv => whnf)
  refine ⟨rfl, ⟨by omega, by omega⟩, ?_⟩
  conv => whnf
  refine ⟨_, hld, ?_⟩
  conv => whnf
  refine resP_val (v := .bool (x == b)) (h := h) ?_ ?_
  · show hval _ (aBin E .eql 4 (.tmp 11) (.tmp 15) (.bool x) (.bool b)) = _
    rw [bool_eql]
    rfl
  by_cases e : x = b
  · subst e
    rw [beq_self_eq_true]
    conv => whnf
    repeat (refine SeqP.go ?_; conv => whnf)
    exact ⟨⟨k, rfl, ⟨fun _ => ⟨k, hkl, eb⟩, fun _ => by omega⟩⟩, rfl⟩
  · rw [beq_false_of_ne e]
    conv => whnf
    repeat (refine SeqP.go ?_; conv => whnf)
    refine ⟨((k + 1 : Nat) : Int), wie (by omega) (by omega), ?_⟩
    conv => whnf
    refine Rnd.mk (k + 1) ⟨by show k + 1 ≤ _; omega, fun s hs => ?_⟩ (by show _ - (k + 1) < _ - k; omega) ⟨rfl, rfl, rfl, rfl, trivial⟩ (Hp.Le.refl _) rfl
    by_cases e2 : s = k
    · subst e2; rw [eb]; exact fun e3 => e e3.symm
    · exact hin s (by omega)
theorem hasB_spec (v : Value) (ms : List Bool) (x : Bool) (h : Hp) (hv : BV h v ms) (hl : ms.length ≤ 1000000) : CallP E 91 [v, .bool x] h (fun r h' => (∃ b, r = .bool b ∧ BoolOf b (∃ a, a < ms.length ∧ gb ms a = x)) ∧ h' = h) := by
  obtain ⟨r, y, rfl, hat⟩ := id hv
  refine enter91 (by simp) ?_
  conv => whnf
  repeat (refine SeqP.go ?_; conv => whnf)
  refine CallP.mono (indexB_spec _ ms x _ hv hl) ?_
  rintro r1 H1 ⟨⟨k, rfl, hk⟩, rfl⟩
  conv => whnf
  refine cmpB (fun c1 => ?_) (fun c1 => ?_)
  · conv => whnf
    repeat (refine SeqP.go ?_; conv => whnf)
    exact ⟨⟨true, rfl, bo_yes (hk.1 (by omega))⟩, rfl⟩
  · conv => whnf
    repeat (refine SeqP.go ?_; conv => whnf)
    exact ⟨⟨false, rfl, bo_no fun e => by have := hk.2 e; omega⟩, rfl⟩
theorem settled_spec (v : Value) (p : Prot) (bx : List Value) (on : Int) (n : Nat) (c : List Int) (L B : List (List Int)) (h : Hp) (hv : PV h v p) (hP : POk p) (en : p.n = n) (hx : PR h bx p.rules n c L B) : CallP E 93 [v, .agg ⟨bx⟩, int on] h (fun r h' => (∃ l, Built h h' 3 r l ∧ Up (SetN p.rules p.out on L) L.length l) ∧ Grows h h') := by
  obtain ⟨bp, rfl, hbl, b0, ⟨a1, b1, k1⟩, -⟩ := hv.box
  have hn5 : n ≤ 5 := by have := hP.n5; omega
  obtain ⟨hxl, hxo, ⟨lv, x0, hL⟩, ⟨bv, x1, hB⟩, hbf, hgr, hok, hfew⟩ := id hx
  have hL0 := hgr.pos
  have hLk := id hL
  obtain ⟨al, cl, rfl, -⟩ := hLk
  have hexH : ∃ Hb, Hb = (h.lay (.row 25 true bp)).lay (.row 104 true bx) := ⟨_, rfl⟩
  obtain ⟨Hb, eHb⟩ := hexH
  have g0 : Grows h Hb := by rw [eHb]; exact (Grows.lay _ _).then_lay _
  have a0 : Hb.at h.next = some (.row 25 true bp) := by rw [eHb]; exact Hp.at_lay_old _ (Hp.at_lay_self _ _)
  have hexX : ∃ X, (h.lay (.row 25 true bp)).next = X := ⟨_, rfl⟩
  obtain ⟨X, eX⟩ := hexX
  have a2 : Hb.at X = some (.row 104 true bx) := by rw [eHb, ← eX]; exact Hp.at_lay_self _ _
  refine enter93 (by simp) ?_
  conv => whnf
  refine SeqP.go ?_
  conv => whnf
  refine SeqP.go ?_
  conv => whnf
  refine SeqP.cut (α := Value × List Int × Hp) (fun s => [(7, s.1), (4, ptr X 0), (3, ptr h.next 0), (2, int on)]) (fun s H => s.2.2 = H ∧ Grows Hb s.2.2 ∧ Built Hb s.2.2 3 s.1 s.2.1 ∧ Up (Oth p.out on L) L.length s.2.1) ?_ ?_
  · rw [← eHb]
    conv => whnf
    repeat (refine SeqP.go ?_; conv => whnf)
    refine ⟨_, cellAt_row (at_nx2 eX.symm a2) x0, ?_⟩
    conv => whnf
    refine loop_inv (α := Nat × Value × List Int × Hp) (fun s => [(16, int s.1), (15, int L.length), (14, .slice al L.length cl), (7, s.2.1), (4, ptr X 0), (3, ptr h.next 0), (2, int on)]) (fun s => s.2.2.2) (fun s => s.1 ≤ L.length ∧ Grows Hb s.2.2.2 ∧ Built Hb s.2.2.2 3 s.2.1 s.2.2.1 ∧ Up (Oth p.out on L) s.1 s.2.2.1) (fun s => L.length - s.1) (0, .slice none 0 0, [], Hb) ⟨Nat.zero_le _, .refl _, .inl ⟨rfl, rfl⟩, Up.start _⟩ ⟨rfl, rfl, rfl, rfl, congrArg (fun k => ptr k 0) eX, rfl, rfl, trivial⟩ (Hp.Le.refl _) ?_
    rintro ⟨i, wv, l, H⟩ φ2 ⟨hi, hg, hb, hu⟩
    dsimp only at hi hg hb hu ⊢
    have hcnt := hu.cnt
    have hkk := (LV.of hb).known
    obtain ⟨aw, rfl⟩ := hkk
    conv => whnf
    repeat (refine SeqP.go ?_; conv => whnf)
    refine cmpB (fun c1 => ?_) (fun c1 => ?_)
    rotate_left
    · have : i = L.length := by omega
      subst this
      conv => whnf
      repeat (refine SeqP.go ?_; conv => whnf)
      exact ⟨(_, l, H), ⟨rfl, rfl, rfl, rfl, trivial⟩, ⟨rfl, hg, hb, hu⟩, rfl⟩
    have hil : i < L.length := by omega
    have hcL := hL.ext (g0.trans hg)
    obtain ⟨an', cn', ew, hcL⟩ := hcL
    cases ew
    have hcj := hcL i hil
    clear hcL
    obtain ⟨rn, on', ea, hw1⟩ := hcj
    subst ea
    have hexd : ∃ d, L[i] = d ∧ L[i]? = some d := ⟨_, rfl, List.getElem?_eq_getElem hil⟩
    obtain ⟨d, ed, ed2⟩ := hexd
    rw [ed] at hw1
    have hdo := hok d (List.mem_of_getElem? ed2)
    have hdl := hdo.len
    have hp5 := pad5_len (c := d) (by omega)
    have hoi : Oth p.out on L i ↔ ¬ AllOut p.out on d := ⟨fun ⟨e, h1, h2⟩ => by rw [ed2] at h1; cases h1; exact h2, fun h1 => ⟨d, ed2, h1⟩⟩
    conv => whnf
    repeat (refine SeqP.go ?_; conv => whnf)
    refine ⟨rfl, ⟨by omega, by omega⟩, ?_⟩
    conv => whnf
    refine ⟨(pad5 d).map int, by rw [offAt_eq, Nat.add_comm]; simpa using hw1, ?_⟩
    conv => whnf
    refine ⟨by show ((pad5 d).map int).length = 5; rw [List.length_map, hp5], _, storeAt_all (vs := (pad5 d).map int) (by rw [List.length_map, hp5]; rfl) (ints_one _) (over_int (k := [0, 0, 0, 0, 0]) (by rw [hp5]; rfl)), ?_⟩
    have hg1 := hg.then_lay (.row 107 true ((pad5 d).map int))
    conv => whnf
    repeat (refine SeqP.go ?_; conv => whnf)
    refine ⟨bp, all_cells (hg1.at_ _ _ a0) hbl, ?_⟩
    conv => whnf
    refine ⟨(pad5 d).map int, all_cells (Hp.at_lay_self _ _) (by rw [List.length_map, hp5]), ?_⟩
    conv => whnf
    refine CallP.mono (isAll_spec _ p d on n _ (hv.ext (g0.trans hg1)) hP en hdl) ?_
    rintro r2 H2 ⟨⟨b, rfl, hb2⟩, g2⟩
    have hbb := hb.ext ((Grows.lay H (.row 107 true ((pad5 d).map int))).trans g2)
    cases b with
    | true =>
      conv => whnf
      repeat (refine SeqP.go ?_; conv => whnf)
      refine ⟨((i + 1 : Nat) : Int), wie (by omega) (by omega), ?_⟩
      conv => whnf
      exact Rnd.mk (i + 1, _, l, H2) ⟨by show i + 1 ≤ _; omega, hg1.trans g2, hbb, hu.skip fun k => hoi.1 k hb2.t⟩ (by show _ - (i + 1) < _ - i; omega) ⟨rfl, rfl, rfl, rfl, rfl, rfl, rfl, trivial⟩ (Hp.Le.refl _) rfl
    | false =>
      conv => whnf
      repeat (refine SeqP.go ?_; conv => whnf)
      refine AppP.ints (hbb.ext (Grows.lay _ _)) ((hg1.trans g2).then_lay _) Elems.lay1 (by simp; omega) ?_
      intro v4 H4 hv4 hg4 _
      conv => whnf
      repeat (refine SeqP.go ?_; conv => whnf)
      refine ⟨((i + 1 : Nat) : Int), wie (by omega) (by omega), ?_⟩
      conv => whnf
      exact Rnd.mk (i + 1, v4, l ++ [(i : Int)], H4) ⟨by show i + 1 ≤ _; omega, hg4, hv4, hu.add (hoi.2 hb2.f)⟩ (by show _ - (i + 1) < _ - i; omega) ⟨rfl, rfl, rfl, rfl, rfl, rfl, rfl, trivial⟩ (Hp.Le.refl _) rfl
  rintro ⟨ov, ol, H1⟩ φ1 _ ⟨rfl, hg1, hob, hou⟩
  dsimp only at hg1 hob hou ⊢
  have hkk := (LV.of hob).known
  obtain ⟨ao, rfl⟩ := hkk
  have a21 := hg1.at_ _ _ a2
  have g01 := g0.trans hg1
  conv => whnf
  refine SeqP.go ?_
  conv => whnf
  refine SeqP.cut (α := Value × List Int × Hp) (fun s => [(10, s.1)]) (fun s H => s.2.2 = H ∧ Grows h s.2.2 ∧ Built h s.2.2 3 s.1 s.2.1 ∧ Up (SetN p.rules p.out on L) L.length s.2.1) ?_ ?_
  rotate_left
  · rintro ⟨wv, l, H⟩ φ9 _ ⟨rfl, h1, h2, h3⟩
    dsimp only at h1 h2 h3 ⊢
    have hkk := (LV.of h2).known
    obtain ⟨a9, rfl⟩ := hkk
    conv => whnf
    repeat (refine SeqP.go ?_; conv => whnf)
    exact ⟨⟨l, h2, h3⟩, h1⟩
  conv => whnf
  repeat (refine SeqP.go ?_; conv => whnf)
  refine ⟨bx, all_cells a21 hxl, ?_⟩
  conv => whnf
  refine CallP.mono (lead_spec bx _ bv _ p.rules L B ol _ hxl hxo x0 x1 ⟨_, _, rfl⟩ (hB.ext g01) hbf (LV.of hob) hou.nums hL0 hfew) ?_
  rintro r2 H2 ⟨⟨ms, hbm, hml, hms⟩, g2⟩
  obtain ⟨rm, xm, rfl, hmat⟩ := id hbm
  have hmo : ∀ a, a < L.length → (gb ms a = false ↔ SetN p.rules p.out on L a) := fun a ha => by
    have e1 : (fun t : Nat => (t : Int) ∈ ol) = Oth p.out on L := funext fun t => propext ⟨fun k => ((hou.mem t).1 k).2, fun k => (hou.mem t).2 ⟨by
      obtain ⟨d, e, _⟩ := k
      exact (List.getElem?_eq_some_iff.1 e).1, k⟩⟩
    have e2 := hms a
    rw [e1] at e2
    unfold SetN
    cases e3 : gb ms a with
    | true => exact ⟨fun e => (by cases e), fun e => absurd (e2.1 e3) e.2⟩
    | false => exact ⟨fun _ => ⟨ha, fun k => by rw [e2.2 k] at e3; cases e3⟩, fun _ => rfl⟩
  have g02 := g01.trans g2
  conv => whnf
  refine loop_inv (α := Nat × Value × List Int × Hp) (fun s => [(35, int s.1), (34, int L.length), (33, slc rm 0 ms.length ms.length), (10, s.2.1)]) (fun s => s.2.2.2) (fun s => s.1 ≤ L.length ∧ Grows H2 s.2.2.2 ∧ Built H2 s.2.2.2 3 s.2.1 s.2.2.1 ∧ Up (SetN p.rules p.out on L) s.1 s.2.2.1) (fun s => L.length - s.1) (0, .slice none 0 0, [], H2) ⟨Nat.zero_le _, .refl _, .inl ⟨rfl, rfl⟩, Up.start _⟩ ⟨rfl, by rw [← hml]; rfl, rfl, rfl, trivial⟩ (Hp.Le.refl _) ?_
  rintro ⟨i, wv, l, H⟩ φ2 ⟨hi, hg, hb, hu⟩
  dsimp only at hi hg hb hu ⊢
  have hcnt := hu.cnt
  have hkk := (LV.of hb).known
  obtain ⟨aw, rfl⟩ := hkk
  conv => whnf
  repeat (refine SeqP.go ?_; conv => whnf)
  refine cmpB (fun c1 => ?_) (fun c1 => ?_)
  rotate_left
  · have : i = L.length := by omega
    subst this
    conv => whnf
    repeat (refine SeqP.go ?_; conv => whnf)
    exact ⟨(_, l, H), ⟨rfl, trivial⟩, ⟨rfl, g02.trans hg, hb.back g02.next, hu⟩, rfl⟩
  have hil : i < L.length := by omega
  have hld : cellAt H rm (offAt 0 ((i : Int)).toNat 1) = some (.bool (gb ms i)) := by
    rw [offAt_eq]
    refine cellAt_row (hg.at_ _ _ hmat) ?_
    rw [List.getElem?_map, gb_at (by omega)]
    simp [hml, hil]
  have hexb : ∃ b, gb ms i = b := ⟨_, rfl⟩
  obtain ⟨b, eb⟩ := hexb
  rw [eb] at hld
  have hmi := hmo i hil
  rw [eb] at hmi
  conv => whnf
  repeat (refine SeqP.go ?_; conv => whnf)
  refine ⟨rfl, ⟨by omega, by omega⟩, ?_⟩
  conv => whnf
  refine ⟨_, hld, ?_⟩
  conv => whnf
  cases b with
  | true =>
    conv => whnf
    repeat (refine SeqP.go ?_; conv => whnf)
    refine ⟨((i + 1 : Nat) : Int), wie (by omega) (by omega), ?_⟩
    conv => whnf
    exact Rnd.mk (i + 1, _, l, H) ⟨by show i + 1 ≤ _; omega, hg, hb, hu.skip fun k => by have := hmi.2 k; cases this⟩ (by show _ - (i + 1) < _ - i; omega) ⟨rfl, rfl, rfl, rfl, trivial⟩ (Hp.Le.refl _) rfl
  | false =>
    conv => whnf
    repeat (refine SeqP.go ?_; conv => whnf)
    refine AppP.ints (hb.ext (Grows.lay _ _)) (hg.then_lay _) Elems.lay1 (by simp; omega) ?_
    intro v4 H4 hv4 hg4 _
    conv => whnf
    repeat (refine SeqP.go ?_; conv => whnf)
    refine ⟨((i + 1 : Nat) : Int), wie (by omega) (by omega), ?_⟩
    conv => whnf
    exact Rnd.mk (i + 1, v4, l ++ [(i : Int)], H4) ⟨by show i + 1 ≤ _; omega, hg4, hv4, hu.add (hmi.1 rfl)⟩ (by show _ - (i + 1) < _ - i; omega) ⟨rfl, rfl, rfl, rfl, trivial⟩ (Hp.Le.refl _) rfl
end
end Go.Proofs.Ytpiplaicnbapbaa
namespace Go.Proofs.Ytpiplaicnbapbaa
open Go.Rx Go.RowKit
attribute [local irreducible] E idxN cellAt cellsAt storeAt callable helems hmoved lookIn findKey keyOk hentries Hp.at Hp.set Hp.lay arBits hupdated setAt CallP YieldP BoolOf IsWrap Rnd LoopP AppP CutP Int.tmod Int.tdiv Int.fdiv
section
variable [Unknowns]
attribute [local irreducible] ResP sameAt
theorem settles_spec (v : Value) (p : Prot) (bx : List Value) (on : Int) (n : Nat) (c : List Int) (L B : List (List Int)) (h : Hp) (hv : PV h v p) (hP : POk p) (en : p.n = n) (hx : PR h bx p.rules n c L B) : CallP E 79 [v, .agg ⟨bx⟩, int on] h (fun r h' => (∃ b, r = .bool b ∧ BoolOf b (SettC p.rules p.out on c)) ∧ Grows h h') := by
  obtain ⟨bp, rfl, hbl, -⟩ := hv.box
  have hxl := hx.len
  have hfew := hx.few
  have hL0 := hx.gr.pos
  have g0 : Grows h ((h.lay (.row 25 true bp)).lay (.row 104 true bx)) := (Grows.lay _ _).then_lay _
  have a0 : ((h.lay (.row 25 true bp)).lay (.row 104 true bx)).at h.next = some (.row 25 true bp) := Hp.at_lay_old _ (Hp.at_lay_self _ _)
  have a2 : ((h.lay (.row 25 true bp)).lay (.row 104 true bx)).at (h.lay (.row 25 true bp)).next = some (.row 104 true bx) := Hp.at_lay_self _ _
  refine enter79 (by simp) ?_
  conv => whnf
  repeat (refine SeqP.go ?_; conv => whnf)
  refine ⟨bp, all_cells a0 hbl, ?_⟩
  conv => whnf
  refine ⟨bx, all_cells a2 hxl, ?_⟩
  conv => whnf
  refine CallP.mono (settled_spec _ p bx on n c L B _ (hv.ext g0) hP en (hx.ext g0)) ?_
  rintro r1 H1 ⟨⟨l, hb, hu⟩, g1⟩
  have hcnt := hu.cnt
  conv => whnf
  refine CallP.mono (hasI_spec _ l 0 _ hb.ints (by omega)) ?_
  rintro r2 H2 ⟨⟨b, rfl, hb2⟩, rfl⟩
  conv => whnf
  repeat (refine SeqP.go ?_; conv => whnf)
  refine ⟨⟨b, rfl, bo_congr hb2 ?_⟩, g0.trans g1⟩
  rw [← hx.gr.settled]
  have := hu.mem 0
  constructor
  · intro k; exact (this.1 k).2
  · intro k; exact this.2 ⟨hL0, k⟩
theorem sameV_slice3 (a : Option Addr) (n m : Nat) : sameV 3 (.slice a n m) (.slice a n m) = true := sameV_slice a n m
theorem decidesAs_spec (v : Value) (p : Prot) (bx : List Value) (on : Int) (n : Nat) (c : List Int) (L B : List (List Int)) (h : Hp) (hv : PV h v p) (hP : POk p) (en : p.n = n) (hx : PR h bx p.rules n c L B) : CallP E 65 [v, .agg ⟨bx⟩, int on] h (fun r h' => (∃ b, r = .bool b ∧ BoolOf b (DeciC p.rules p.out on c)) ∧ Grows h h') := by
  obtain ⟨bp, rfl, hbl, -⟩ := hv.box
  have hxl := hx.len
  have hfew := hx.few
  have hL0 := hx.gr.pos
  obtain ⟨-, hxo, ⟨lv, x0, hL⟩, ⟨bv, x1, hB⟩, hbf, hgr, hok, -⟩ := id hx
  have hLk := id hL
  obtain ⟨al, cl, rfl, -⟩ := hLk
  have hBk := id hB
  obtain ⟨ab, cb, rfl, -⟩ := hBk
  have hsame : sameV 4 (.agg ⟨bx⟩) (.agg ⟨bx⟩) = true := by
    match bx, hxl, x0, x1 with
    | [u, w], _, x0, x1 =>
      cases x0
      cases x1
      show (Nat.beq 2 2 && (sameV 3 (.slice al L.length cl) (.slice al L.length cl) && (sameV 3 (.slice ab B.length cb) (.slice ab B.length cb) && true))) = true
      rw [sameV_slice3, sameV_slice3]
      rfl
  have g0 : Grows h ((h.lay (.row 25 true bp)).lay (.row 104 true bx)) := (Grows.lay _ _).then_lay _
  have a0 : ((h.lay (.row 25 true bp)).lay (.row 104 true bx)).at h.next = some (.row 25 true bp) := Hp.at_lay_old _ (Hp.at_lay_self _ _)
  have a2 : ((h.lay (.row 25 true bp)).lay (.row 104 true bx)).at (h.lay (.row 25 true bp)).next = some (.row 104 true bx) := Hp.at_lay_self _ _
  have ld : ∀ H, Grows ((h.lay (.row 25 true bp)).lay (.row 104 true bx)) H → hval H (aggOf (cellsAt H (h.lay (.row 25 true bp)).next 0 2)) = .val (.agg ⟨bx⟩) H := fun H g => by
    rw [all_cells (g.at_ _ _ a2) hxl]
    rfl
  refine enter65 (by simp) ?_
  conv => whnf
  repeat (refine SeqP.go ?_; conv => whnf)
  refine ⟨bx, all_cells a2 hxl, ?_⟩
  conv => whnf
  refine ⟨bp, all_cells a0 hbl, ?_⟩
  conv => whnf
  refine ⟨bx, all_cells a2 hxl, ?_⟩
  conv => whnf
  refine CallP.mono (settled_spec _ p bx on n c L B _ (hv.ext g0) hP en (hx.ext g0)) ?_
  rintro r1 H1 ⟨⟨l, hb, hu⟩, g1⟩
  have hcnt := hu.cnt
  have g01 := g0.trans g1
  have hlk := (LV.of hb).known
  obtain ⟨a1, rfl⟩ := hlk
  conv => whnf
  refine CallP.mono (lead_spec bx _ _ _ p.rules L B l _ hxl hxo x0 x1 ⟨_, _, rfl⟩ (hB.ext g01) hbf (LV.of hb) hu.nums hL0 hfew) ?_
  rintro r2 H2 ⟨⟨ms, hbm, hml, hms⟩, g2⟩
  conv => whnf
  refine CallP.mono (hasB_spec _ ms false _ hbm (by omega)) ?_
  rintro r3 H3 ⟨⟨b, rfl, hb3⟩, rfl⟩
  have g12 := g1.trans g2
  conv => whnf
  refine ⟨?_, ?_⟩
  · repeat' (first | exact True.intro | (refine And.intro ?_ ?_ <;> (conv => whnf)))
    all_goals first
      | exact sameAt_val (h2 := _) (ld _ (Grows.refl _)) hsame
      | exact sameAt_val (h2 := _) (ld _ g1) hsame
      | exact sameAt_val (h2 := _) (ld _ g12) hsame
      | trace_state
  have hdec : ¬ (∃ a, a < ms.length ∧ gb ms a = false) ↔ DeciC p.rules p.out on c := by
    rw [← hgr.decides (out := p.out) (on := on)]
    have e1 : (fun t : Nat => (t : Int) ∈ l) = SetN p.rules p.out on L := funext fun t => propext ⟨fun k => ((hu.mem t).1 k).2, fun k => (hu.mem t).2 ⟨k.1, k⟩⟩
    rw [e1] at hms
    constructor
    · intro k a ha
      refine (hms a).1 ?_
      cases e : gb ms a with
      | true => rfl
      | false => exact absurd ⟨a, by omega, e⟩ k
    · rintro k ⟨a, ha, e⟩
      have := (hms a).2 (k a (by omega))
      rw [this] at e
      cases e
  cases b with
  | true =>
    conv => whnf
    repeat (refine SeqP.go ?_; conv => whnf)
    exact ⟨⟨false, rfl, bo_no fun k => hdec.2 k hb3.t⟩, g0.trans g12⟩
  | false =>
    conv => whnf
    repeat (refine SeqP.go ?_; conv => whnf)
    exact ⟨⟨true, rfl, bo_yes (hdec.1 hb3.f)⟩, g0.trans g12⟩
end
end Go.Proofs.Ytpiplaicnbapbaa
namespace Go.Proofs.Ytpiplaicnbapbaa
open Go.Rx Go.RowKit
def FirstOf (P : Int → Prop) (s : Int) (b : Bool) : Prop := (P 0 → s = 0 ∧ b = true) ∧ (¬ P 0 → P 1 → s = 1 ∧ b = true) ∧ (¬ P 0 → ¬ P 1 → s = 0 ∧ b = false)
attribute [local irreducible] E idxN cellAt cellsAt storeAt callable helems hmoved lookIn findKey keyOk hentries Hp.at Hp.set Hp.lay arBits hupdated setAt CallP YieldP BoolOf IsWrap Rnd LoopP AppP CutP Int.tmod Int.tdiv Int.fdiv
section
variable [Unknowns]
attribute [local irreducible] ResP sameAt
theorem eitherS_spec (bp : List Value) (p : Prot) (bx : List Value) (n : Nat) (c : List Int) (L B : List (List Int)) (h : Hp) (hv : PV h (.agg ⟨bp⟩) p) (hP : POk p) (en : p.n = n) (hx : PR h bx p.rules n c L B) : CallP E 78 [.func (.func 79) ⟨[.agg ⟨bp⟩]⟩ ⟨[]⟩, .agg ⟨bx⟩] h (fun r h' => (∃ s b, r = .tuple ⟨[int s, .bool b]⟩ ∧ FirstOf (fun on => SettC p.rules p.out on c) s b) ∧ Grows h h') := by
  have hxl := hx.len
  have g0 : Grows h (h.lay (.row 104 true bx)) := Grows.lay _ _
  have a0 : (h.lay (.row 104 true bx)).at h.next = some (.row 104 true bx) := Hp.at_lay_self _ _
  refine enter78 (by simp) ?_
  conv => whnf
  refine SeqP.go ?_
  conv => whnf
  refine SeqP.cut (α := Hp) (fun _ => []) (fun s H => s = H ∧ Grows h s ∧ ¬ SettC p.rules p.out 0 c ∧ ¬ SettC p.rules p.out 1 c) ?_ ?_
  rotate_left
  · rintro H φ9 _ ⟨rfl, hg, h1, h2⟩
    conv => whnf
    repeat (refine SeqP.go ?_; conv => whnf)
    exact ⟨⟨_, _, rfl, fun k => absurd k h1, fun _ k => absurd k h2, fun _ _ => ⟨rfl, rfl⟩⟩, hg⟩
  conv => whnf
  repeat (refine SeqP.go ?_; conv => whnf)
  refine loop_inv (α := Nat × Hp) (fun s => [(7, int s.1), (3, ptr h.next 0), (0, .func (.func 79) ⟨[.agg ⟨bp⟩]⟩ ⟨[]⟩)]) (fun s => s.2) (fun s => s.1 ≤ 2 ∧ Grows (h.lay (.row 104 true bx)) s.2 ∧ (0 < s.1 → ¬ SettC p.rules p.out 0 c) ∧ (1 < s.1 → ¬ SettC p.rules p.out 1 c)) (fun s => 2 - s.1) (0, _) ⟨Nat.zero_le _, .refl _, fun e => absurd e (Nat.lt_irrefl _), fun e => absurd (show 1 < 0 from e) (by decide)⟩ ⟨rfl, rfl, rfl, trivial⟩ (Hp.Le.refl _) ?_
  rintro ⟨i, H⟩ φ ⟨hi, hg, n0, n1⟩
  dsimp only at hi hg n0 n1 ⊢
  conv => whnf
  repeat (refine SeqP.go ?_; conv => whnf)
  refine cmpB (fun c1 => ?_) (fun c1 => ?_)
  rotate_left
  · conv => whnf
    repeat (refine SeqP.go ?_; conv => whnf)
    exact ⟨H, trivial, ⟨rfl, g0.trans hg, n0 (by omega), n1 (by omega)⟩, rfl⟩
  have g1 := g0.trans hg
  conv => whnf
  repeat (refine SeqP.go ?_; conv => whnf)
  refine ⟨bx, all_cells (hg.at_ _ _ a0) hxl, ?_⟩
  conv => whnf
  refine ⟨can79, ?_⟩
  refine CallP.mono (settles_spec _ p bx i n c L B _ (hv.ext g1) hP en (hx.ext g1)) ?_
  rintro r1 H1 ⟨⟨b, rfl, hb⟩, g2⟩
  have hi2 : i = 0 ∨ i = 1 := by omega
  cases b with
  | true =>
    conv => whnf
    repeat (refine SeqP.go ?_; conv => whnf)
    refine ⟨⟨_, _, rfl, ?_⟩, g1.trans g2⟩
    rcases hi2 with e | e
    · subst e
      exact ⟨fun _ => ⟨rfl, rfl⟩, fun k => absurd hb.t k, fun k => absurd hb.t k⟩
    · subst e
      exact ⟨fun k => absurd k (n0 (by omega)), fun _ _ => ⟨rfl, rfl⟩, fun _ k => absurd hb.t k⟩
  | false =>
    conv => whnf
    repeat (refine SeqP.go ?_; conv => whnf)
    refine ⟨((i + 1 : Nat) : Int), wie (by omega) (by omega), ?_⟩
    conv => whnf
    refine Rnd.mk (i + 1, H1) ⟨by show i + 1 ≤ 2; omega, hg.trans g2, fun _ => ?_, fun e => ?_⟩ (by show 2 - (i + 1) < 2 - i; omega) ⟨rfl, rfl, rfl, trivial⟩ (Hp.Le.refl _) rfl
    · rcases hi2 with e | e
      · subst e; exact hb.f
      · exact n0 (by omega)
    · have e2 : i = 1 := by have : 1 < i + 1 := e; omega
      subst e2
      exact hb.f
theorem eitherD_spec (bp : List Value) (p : Prot) (bx : List Value) (n : Nat) (c : List Int) (L B : List (List Int)) (h : Hp) (hv : PV h (.agg ⟨bp⟩) p) (hP : POk p) (en : p.n = n) (hx : PR h bx p.rules n c L B) : CallP E 78 [.func (.func 65) ⟨[.agg ⟨bp⟩]⟩ ⟨[]⟩, .agg ⟨bx⟩] h (fun r h' => (∃ s b, r = .tuple ⟨[int s, .bool b]⟩ ∧ FirstOf (fun on => DeciC p.rules p.out on c) s b) ∧ Grows h h') := by
  have hxl := hx.len
  have g0 : Grows h (h.lay (.row 104 true bx)) := Grows.lay _ _
  have a0 : (h.lay (.row 104 true bx)).at h.next = some (.row 104 true bx) := Hp.at_lay_self _ _
  refine enter78 (by simp) ?_
  conv => whnf
  refine SeqP.go ?_
  conv => whnf
  refine SeqP.cut (α := Hp) (fun _ => []) (fun s H => s = H ∧ Grows h s ∧ ¬ DeciC p.rules p.out 0 c ∧ ¬ DeciC p.rules p.out 1 c) ?_ ?_
  rotate_left
  · rintro H φ9 _ ⟨rfl, hg, h1, h2⟩
    conv => whnf
    repeat (refine SeqP.go ?_; conv => whnf)
    exact ⟨⟨_, _, rfl, fun k => absurd k h1, fun _ k => absurd k h2, fun _ _ => ⟨rfl, rfl⟩⟩, hg⟩
  conv => whnf
  repeat (refine SeqP.go ?_; conv => whnf)
  refine loop_inv (α := Nat × Hp) (fun s => [(7, int s.1), (3, ptr h.next 0), (0, .func (.func 65) ⟨[.agg ⟨bp⟩]⟩ ⟨[]⟩)]) (fun s => s.2) (fun s => s.1 ≤ 2 ∧ Grows (h.lay (.row 104 true bx)) s.2 ∧ (0 < s.1 → ¬ DeciC p.rules p.out 0 c) ∧ (1 < s.1 → ¬ DeciC p.rules p.out 1 c)) (fun s => 2 - s.1) (0, _) ⟨Nat.zero_le _, .refl _, fun e => absurd e (Nat.lt_irrefl _), fun e => absurd (show 1 < 0 from e) (by decide)⟩ ⟨rfl, rfl, rfl, trivial⟩ (Hp.Le.refl _) ?_
  rintro ⟨i, H⟩ φ ⟨hi, hg, n0, n1⟩
  dsimp only at hi hg n0 n1 ⊢
  conv => whnf
  repeat (refine SeqP.go ?_; conv => whnf)
  refine cmpB (fun c1 => ?_) (fun c1 => ?_)
  rotate_left
  · conv => whnf
    repeat (refine SeqP.go ?_; conv => whnf)
    exact ⟨H, trivial, ⟨rfl, g0.trans hg, n0 (by omega), n1 (by omega)⟩, rfl⟩
  have g1 := g0.trans hg
  conv => whnf
  repeat (refine SeqP.go ?_; conv => whnf)
  refine ⟨bx, all_cells (hg.at_ _ _ a0) hxl, ?_⟩
  conv => whnf
  refine ⟨can65, ?_⟩
  refine CallP.mono (decidesAs_spec _ p bx i n c L B _ (hv.ext g1) hP en (hx.ext g1)) ?_
  rintro r1 H1 ⟨⟨b, rfl, hb⟩, g2⟩
  have hi2 : i = 0 ∨ i = 1 := by omega
  cases b with
  | true =>
    conv => whnf
    repeat (refine SeqP.go ?_; conv => whnf)
    refine ⟨⟨_, _, rfl, ?_⟩, g1.trans g2⟩
    rcases hi2 with e | e
    · subst e
      exact ⟨fun _ => ⟨rfl, rfl⟩, fun k => absurd hb.t k, fun k => absurd hb.t k⟩
    · subst e
      exact ⟨fun k => absurd k (n0 (by omega)), fun _ _ => ⟨rfl, rfl⟩, fun _ k => absurd hb.t k⟩
  | false =>
    conv => whnf
    repeat (refine SeqP.go ?_; conv => whnf)
    refine ⟨((i + 1 : Nat) : Int), wie (by omega) (by omega), ?_⟩
    conv => whnf
    refine Rnd.mk (i + 1, H1) ⟨by show i + 1 ≤ 2; omega, hg.trans g2, fun _ => ?_, fun e => ?_⟩ (by show 2 - (i + 1) < 2 - i; omega) ⟨rfl, rfl, rfl, trivial⟩ (Hp.Le.refl _) rfl
    · rcases hi2 with e | e
      · subst e; exact hb.f
      · exact n0 (by omega)
    · have e2 : i = 1 := by have : 1 < i + 1 := e; omega
      subst e2
      exact hb.f
end
end Go.Proofs.Ytpiplaicnbapbaa
namespace Go.Proofs.Ytpiplaicnbapbaa
open Go.Rx Go.RowKit
attribute [local irreducible] E idxN cellAt cellsAt storeAt callable helems hmoved lookIn findKey keyOk hentries Hp.at Hp.set Hp.lay arBits hupdated setAt CallP YieldP BoolOf IsWrap Rnd LoopP AppP CutP Int.tmod Int.tdiv Int.fdiv
section
variable [Unknowns]
attribute [local irreducible] ResP sameAt
theorem CR.stored {h : Hp} {bx : List Value} {R : List Q4} {n : Nat} {c : List Int} {L N : List (List Int)} (k : CR h bx R n c L N) : ∃ a0 n0 c0 a1 n1 c1 a2 n2 c2, bx = [.slice a0 n0 c0, .slice a1 n1 c1, .slice a2 n2 c2] := by
  obtain ⟨hl, -, ⟨v, x0, hL⟩, ⟨w, x2, hN⟩, -, -, -, -, ⟨u, S, x1, hS, -⟩⟩ := k
  obtain ⟨a0, c0, rfl, -⟩ := hL
  obtain ⟨a2, c2, rfl, -⟩ := hN
  obtain ⟨a1, c1, rfl⟩ := hS.known
  match bx, hl, x0, x1, x2 with
  | [_, _, _], _, x0, x1, x2 =>
    cases x0
    cases x1
    cases x2
    exact ⟨_, _, _, _, _, _, _, _, _, rfl⟩
end
end Go.Proofs.Ytpiplaicnbapbaa
namespace Go.Proofs.Ytpiplaicnbapbaa
open Go.Rx Go.RowKit
attribute [local irreducible] E idxN cellAt cellsAt storeAt callable helems hmoved lookIn findKey keyOk hentries Hp.at Hp.set Hp.lay arBits hupdated setAt CallP YieldP BoolOf IsWrap Rnd LoopP AppP CutP Int.tmod Int.tdiv Int.fdiv
section
variable [Unknowns]
attribute [local irreducible] ResP sameAt
theorem CR.same {h : Hp} {bx : List Value} {R : List Q4} {n : Nat} {c : List Int} {L N : List (List Int)} (k : CR h bx R n c L N) : sameV 4 (.agg ⟨bx⟩) (.agg ⟨bx⟩) = true := by
  obtain ⟨u0, m0, k0, u1, m1, k1, u2, m2, k2, ebx⟩ := k.stored
  subst ebx
  show (Nat.beq 3 3 && (sameV 3 (.slice u0 m0 k0) (.slice u0 m0 k0) && (sameV 3 (.slice u1 m1 k1) (.slice u1 m1 k1) && (sameV 3 (.slice u2 m2 k2) (.slice u2 m2 k2) && true)))) = true
  rw [sameV_slice3, sameV_slice3, sameV_slice3]
  rfl
end
end Go.Proofs.Ytpiplaicnbapbaa
