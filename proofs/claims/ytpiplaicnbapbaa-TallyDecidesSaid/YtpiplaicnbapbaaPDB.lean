/- Contracts of the functions that PDD comes to. -/
import Derived.Test.YtpiplaicnbapbaaPDA
set_option maxRecDepth 100000
set_option maxHeartbeats 2000000
set_option linter.unusedVariables false
set_option linter.unusedSectionVars false
set_option linter.unusedSimpArgs false
namespace Go.Proofs.Ytpiplaicnbapbaa
open Go.Rx Go.RowKit
def qcells (q : Q4) : List Value := [int q.a, int q.b, int q.c, int q.d]
def qv (q : Q4) : Value := .agg ⟨qcells q⟩
theorem allowed_pad {c : List Int} {q : Q4} : Allowed (pad5 c) q ↔ Allowed c q := by unfold Allowed; rw [gl_pad, gl_pad]
theorem after_pad {c : List Int} {q : Q4} (h : QIn c.length q) : after (pad5 c) q = pad5 (after c q) := by
  obtain ⟨h1, h2, h3, h4⟩ := qin h
  unfold after
  rw [bump_pad h1, bump_pad (by rw [bump_len]; exact h2), bump_pad (by rw [bump_len, bump_len]; exact h3), bump_pad (by rw [bump_len, bump_len, bump_len]; exact h4)]
/-- Memory while a rule is done. -/
structure AM (h : Hp) (q : Q4) (l : List Int) (H : Hp) : Prop where
  la : H.at h.next = some (.row 107 true (l.map int))
  qa : H.at (h.next + 1) = some (.row 96 true (qcells q))
  za : H.at (h.next + 2) = some (.row 107 true (zero5.map int))
  gr : Grows h H
  len : l.length = 5
theorem AM.put {h : Hp} {q : Q4} {l : List Int} {H : Hp} (k : AM h q l H) (l' : List Int) (hl : l'.length = 5) : AM h q l' (H.set h.next (.row 107 true (l'.map int))) :=
  ⟨Hp.at_set_self _ (Hp.lt_of_at k.la), by rw [Hp.at_set_ne _ (by omega)]; exact k.qa, by rw [Hp.at_set_ne _ (by omega)]; exact k.za, k.gr.then_set _ (Nat.le_refl _), hl⟩
theorem AM.bump {h : Hp} {q : Q4} {l : List Int} {H : Hp} (k : AM h q l H) {i : Int} (hi : 0 ≤ i ∧ i < 5) (x : Int) : storeAt H h.next (offAt 0 i.toNat 1) [int (gl l i.toNat + x)] = some (H.set h.next (.row 107 true ((Ytpiplaicnbapbaa.bump l (i, x)).map int))) := by
  have := row_store k.la (i := i.toNat) (by rw [k.len]; omega) (gl l i.toNat + x)
  rw [offAt_eq]
  unfold Ytpiplaicnbapbaa.bump
  simpa using this
theorem AM.load {h : Hp} {q : Q4} {l : List Int} {H : Hp} (k : AM h q l H) {i : Int} (hi : 0 ≤ i ∧ i < 5) : cellAt H h.next (offAt 0 i.toNat 1) = some (int (gl l i.toNat)) := by
  have := row_load k.la (i := i.toNat) (by rw [k.len]; omega)
  rw [offAt_eq]
  simpa using this
theorem gl_bd_bump {l : List Int} {i x M : Int} (hi : i.toNat < l.length) (h : ∀ j, -M ≤ gl l j ∧ gl l j ≤ M) (hx : -1 ≤ x ∧ x ≤ 1) : ∀ j, -(M + 1) ≤ gl (bump l (i, x)) j ∧ gl (bump l (i, x)) j ≤ M + 1 := fun j => by
  rw [gl_bump hi]
  have := h j
  split <;> omega
attribute [local irreducible] E idxN cellAt cellsAt storeAt callable helems hmoved lookIn findKey keyOk hentries Hp.at Hp.set Hp.lay arBits hupdated setAt CallP YieldP BoolOf IsWrap Rnd LoopP AppP CutP Int.tmod Int.tdiv Int.fdiv
section
variable [Unknowns]
attribute [local irreducible] ResP sameAt finP
theorem after_spec (c : List Int) (q : Q4) (h : Hp) (hc : c.length = 5) (hb : ∀ j, -100 ≤ gl c j ∧ gl c j ≤ 100) (hq : QIn 5 q) : CallP E 75 [cv c, qv q] h (fun r h' => r = cv (after c q) ∧ Grows h h') := by
  have hq' := qin' (n := 5) hq
  have n1 : ∀ o, (h.lay o).next = h.next + 1 := fun o => Hp.next_lay _ _
  unfold cv qv
  refine enter75 (by simp) ?_
  conv => whnf
  refine SeqP.cut (α := Unit) (fun _ => [(2, ptr h.next 0), (3, ptr (h.next + 1) 0), (4, ptr (h.next + 2) 0)]) (fun _ H => AM h q c H) ?_ ?_
  · conv => whnf
    refine ⟨(), ⟨rfl, congrArg (fun k => ptr k 0) (n1 _), congrArg (fun k => ptr k 0) (by simp only [Hp.next_lay]), trivial⟩, ⟨Hp.at_lay_old _ (Hp.at_lay_old _ (Hp.at_lay_self _ _)), Hp.at_lay_old _ (at_nx2 (n1 _) (Hp.at_lay_self _ _)), at_nx2 (by simp only [Hp.next_lay]) (Hp.at_lay_self _ _), ((Grows.lay _ _).then_lay _).then_lay _, hc⟩, rfl⟩
  rintro _ φ0 H0 m0
  have b1l : (bump c (q.a, -1)).length = 5 := by rw [bump_len, hc]
  have b2l : (bump (bump c (q.a, -1)) (q.b, -1)).length = 5 := by rw [bump_len, b1l]
  have b3l : (bump (bump (bump c (q.a, -1)) (q.b, -1)) (q.c, 1)).length = 5 := by rw [bump_len, b2l]
  have b4l : (after c q).length = 5 := by rw [after_len, hc]
  have g1 := gl_bd_bump (i := q.a) (x := -1) (by omega) hb (by omega)
  have g2 := gl_bd_bump (i := q.b) (x := -1) (by omega) g1 (by omega)
  have g3 := gl_bd_bump (i := q.c) (x := 1) (by omega) g2 (by omega)
  conv => whnf
  refine SeqP.cut (α := Unit) (fun _ => [(2, ptr h.next 0), (3, ptr (h.next + 1) 0), (4, ptr (h.next + 2) 0)]) (fun _ H => AM h q (bump c (q.a, -1)) H) ?_ ?_
  · have hx := hb q.a.toNat
    conv => whnf
    refine ⟨⟨by omega, by omega⟩, ?_⟩
    conv => whnf
    refine ⟨_, cellAt_row m0.qa rfl, ?_⟩
    conv => whnf
    refine ⟨⟨by omega, by omega⟩, ?_⟩
    conv => whnf
    refine ⟨_, m0.load hq'.1, ?_⟩
    conv => whnf
    refine ⟨gl c q.a.toNat + -1, wie (by omega) (by omega), ?_⟩
    conv => whnf
    refine ⟨⟨by omega, by omega⟩, ?_⟩
    conv => whnf
    refine ⟨rfl, _, m0.bump hq'.1 (-1), ?_⟩
    conv => whnf
    exact ⟨(), ⟨rfl, rfl, rfl, trivial⟩, m0.put _ b1l, rfl⟩
  rintro _ φ1 H1 m1
  have hexl : ∃ l, bump c (q.a, -1) = l := ⟨_, rfl⟩
  obtain ⟨l1, el1⟩ := hexl
  rw [el1] at m1 g1
  conv => whnf
  refine SeqP.cut (α := Unit) (fun _ => [(2, ptr h.next 0), (3, ptr (h.next + 1) 0), (4, ptr (h.next + 2) 0)]) (fun _ H => AM h q (bump l1 (q.b, -1)) H) ?_ ?_
  · have hx := g1 q.b.toNat
    conv => whnf
    refine ⟨⟨by omega, by omega⟩, ?_⟩
    conv => whnf
    refine ⟨_, cellAt_row m1.qa rfl, ?_⟩
    conv => whnf
    refine ⟨⟨by omega, by omega⟩, ?_⟩
    conv => whnf
    refine ⟨_, m1.load hq'.2.1, ?_⟩
    conv => whnf
    refine ⟨gl l1 q.b.toNat + -1, wie (by omega) (by omega), ?_⟩
    conv => whnf
    refine ⟨⟨by omega, by omega⟩, ?_⟩
    conv => whnf
    refine ⟨rfl, _, m1.bump hq'.2.1 (-1), ?_⟩
    conv => whnf
    exact ⟨(), ⟨rfl, rfl, rfl, trivial⟩, m1.put _ (by rw [← el1]; exact b2l), rfl⟩
  rintro _ φ2 H2 m2
  rw [el1] at b2l b3l g2 g3
  have hexl : ∃ l, bump l1 (q.b, -1) = l := ⟨_, rfl⟩
  obtain ⟨l2, el2⟩ := hexl
  rw [el2] at m2 g2 b2l b3l g3
  conv => whnf
  refine SeqP.cut (α := Unit) (fun _ => [(2, ptr h.next 0), (3, ptr (h.next + 1) 0), (4, ptr (h.next + 2) 0)]) (fun _ H => AM h q (bump l2 (q.c, 1)) H) ?_ ?_
  · have hx := g2 q.c.toNat
    conv => whnf
    refine ⟨⟨by omega, by omega⟩, ?_⟩
    conv => whnf
    refine ⟨_, cellAt_row m2.qa rfl, ?_⟩
    conv => whnf
    refine ⟨⟨by omega, by omega⟩, ?_⟩
    conv => whnf
    refine ⟨_, m2.load hq'.2.2.1, ?_⟩
    conv => whnf
    refine ⟨gl l2 q.c.toNat + 1, wie (by omega) (by omega), ?_⟩
    conv => whnf
    refine ⟨⟨by omega, by omega⟩, ?_⟩
    conv => whnf
    refine ⟨rfl, _, m2.bump hq'.2.2.1 1, ?_⟩
    conv => whnf
    exact ⟨(), ⟨rfl, rfl, rfl, trivial⟩, m2.put _ b3l, rfl⟩
  rintro _ φ3 H3 m3
  have hexl : ∃ l, bump l2 (q.c, 1) = l := ⟨_, rfl⟩
  obtain ⟨l3, el3⟩ := hexl
  rw [el3] at m3 b3l g3
  have eaf : after c q = bump l3 (q.d, 1) := by unfold after; rw [el1, el2, el3]
  rw [eaf] at b4l ⊢
  conv => whnf
  refine SeqP.cut (α := Unit) (fun _ => [(2, ptr h.next 0), (3, ptr (h.next + 1) 0), (4, ptr (h.next + 2) 0)]) (fun _ H => AM h q (bump l3 (q.d, 1)) H) ?_ ?_
  · have hx := g3 q.d.toNat
    conv => whnf
    refine ⟨⟨by omega, by omega⟩, ?_⟩
    conv => whnf
    refine ⟨_, cellAt_row m3.qa rfl, ?_⟩
    conv => whnf
    refine ⟨⟨by omega, by omega⟩, ?_⟩
    conv => whnf
    refine ⟨_, m3.load hq'.2.2.2, ?_⟩
    conv => whnf
    refine ⟨gl l3 q.d.toNat + 1, wie (by omega) (by omega), ?_⟩
    conv => whnf
    refine ⟨⟨by omega, by omega⟩, ?_⟩
    conv => whnf
    refine ⟨rfl, _, m3.bump hq'.2.2.2 1, ?_⟩
    conv => whnf
    exact ⟨(), ⟨rfl, rfl, rfl, trivial⟩, m3.put _ b4l, rfl⟩
  rintro _ φ4 H4 m4
  have hexl : ∃ l, bump l3 (q.d, 1) = l := ⟨_, rfl⟩
  obtain ⟨l4, el4⟩ := hexl
  rw [el4] at m4 b4l ⊢
  conv => whnf
  repeat (refine SeqP.go ?_; conv => whnf)
  refine ⟨l4.map int, all_cells m4.la (by rw [List.length_map, b4l]), ?_⟩
  conv => whnf
  refine ⟨by show (l4.map int).length = 5; rw [List.length_map, b4l], _, storeAt_full (vs := l4.map int) m4.za (by rw [List.length_map, b4l]; rfl) (ints_one _) (over_int (k := zero5) (by rw [b4l]; rfl)), ?_⟩
  conv => whnf
  repeat (refine SeqP.go ?_; conv => whnf)
  obtain ⟨i107, t107, ag107, sz107⟩ := ty107
  refine leave_cell (r := h.next + 2) (o := 0) (cs := l4.map int) rfl t107 ag107 ?_ ⟨rfl, m4.gr.then_set _ (by omega)⟩
  rw [sz107]
  exact all_cells (Hp.at_set_self _ (Hp.lt_of_at m4.za)) (by rw [List.length_map, b4l])
theorem allows_spec (c : List Int) (q : Q4) (h : Hp) (hc : c.length = 5) (hq : QIn 5 q) : CallP E 74 [cv c, qv q] h (fun r h' => (∃ b, r = .bool b ∧ BoolOf b (Allowed c q)) ∧ Grows h h') := by
  have hq' := qin' (n := 5) hq
  have n1 : ∀ o, (h.lay o).next = h.next + 1 := fun o => Hp.next_lay _ _
  have g0 : Grows h ((h.lay (.row 107 true (c.map int))).lay (.row 96 true (qcells q))) := (Grows.lay _ _).then_lay _
  have a0 : ((h.lay (.row 107 true (c.map int))).lay (.row 96 true (qcells q))).at h.next = some (.row 107 true (c.map int)) := Hp.at_lay_old _ (Hp.at_lay_self _ _)
  have a1 : ((h.lay (.row 107 true (c.map int))).lay (.row 96 true (qcells q))).at (h.lay (.row 107 true (c.map int))).next = some (.row 96 true (qcells q)) := Hp.at_lay_self _ _
  have ld : ∀ i : Int, 0 ≤ i ∧ i < 5 → cellAt ((h.lay (.row 107 true (c.map int))).lay (.row 96 true (qcells q))) h.next (offAt 0 i.toNat 1) = some (int (gl c i.toNat)) := fun i hi => by
    have := row_load a0 (i := i.toNat) (by omega)
    rw [offAt_eq]
    simpa using this
  unfold cv qv
  refine enter74 (by simp) ?_
  conv => whnf
  repeat (refine SeqP.go ?_; conv => whnf)
  refine ⟨⟨by omega, by omega⟩, ?_⟩
  conv => whnf
  refine ⟨_, cellAt_row a1 rfl, ?_⟩
  conv => whnf
  refine ⟨⟨by omega, by omega⟩, ?_⟩
  conv => whnf
  refine ⟨_, cellAt_row a1 rfl, ?_⟩
  conv => whnf
  repeat (refine SeqP.go ?_; conv => whnf)
  refine cmpB (fun c1 => ?_) (fun c1 => ?_)
  · conv => whnf
    repeat (refine SeqP.go ?_; conv => whnf)
    refine ⟨⟨by omega, by omega⟩, ?_⟩
    conv => whnf
    refine ⟨_, ld q.a hq'.1, ?_⟩
    conv => whnf
    refine cmpB (fun c2 => ?_) (fun c2 => ?_)
    · conv => whnf
      repeat (refine SeqP.go ?_; conv => whnf)
      exact finP_one rfl rfl ⟨⟨true, rfl, bo_yes (by unfold Allowed; rw [if_pos c1]; omega)⟩, g0⟩
    · conv => whnf
      repeat (refine SeqP.go ?_; conv => whnf)
      exact finP_one rfl rfl ⟨⟨false, rfl, bo_no (by unfold Allowed; rw [if_pos c1]; omega)⟩, g0⟩
  conv => whnf
  repeat (refine SeqP.go ?_; conv => whnf)
  refine ⟨⟨by omega, by omega⟩, ?_⟩
  conv => whnf
  refine ⟨_, ld q.a hq'.1, ?_⟩
  conv => whnf
  refine cmpB (fun c2 => ?_) (fun c2 => ?_)
  rotate_left
  · conv => whnf
    repeat (refine SeqP.go ?_; conv => whnf)
    exact finP_one rfl rfl ⟨⟨false, rfl, bo_no (by unfold Allowed; rw [if_neg c1]; omega)⟩, g0⟩
  conv => whnf
  refine ⟨⟨by omega, by omega⟩, ?_⟩
  conv => whnf
  refine ⟨_, ld q.b hq'.2.1, ?_⟩
  conv => whnf
  refine cmpB (fun c3 => ?_) (fun c3 => ?_)
  · conv => whnf
    repeat (refine SeqP.go ?_; conv => whnf)
    exact finP_one rfl rfl ⟨⟨true, rfl, bo_yes (by unfold Allowed; rw [if_neg c1]; omega)⟩, g0⟩
  · conv => whnf
    repeat (refine SeqP.go ?_; conv => whnf)
    exact finP_one rfl rfl ⟨⟨false, rfl, bo_no (by unfold Allowed; rw [if_neg c1]; omega)⟩, g0⟩
end
end Go.Proofs.Ytpiplaicnbapbaa
namespace Go.Proofs.Ytpiplaicnbapbaa
open Go.Rx Go.RowKit
attribute [local irreducible] E idxN cellAt cellsAt storeAt callable helems hmoved lookIn findKey keyOk hentries Hp.at Hp.set Hp.lay arBits hupdated setAt CallP YieldP BoolOf IsWrap Rnd LoopP AppP CutP Int.tmod Int.tdiv Int.fdiv
section
variable [Unknowns]
attribute [local irreducible] ResP sameAt finP
theorem read_spec (v w : Value) (p : Prot) (c : List Int) (h : Hp) (hv : PV h v p) (hw : View h w c) (hn : InR p.n) (ho : p.out.length ≤ 1000000) (hs : p.start.length ≤ 1000000) (hr : p.rules.length ≤ 1000000) (hcl : c.length ≤ 1000000) : CallP E 73 [v, w] h (fun r h' => ReadR p c r ∧ Grows h h') := by
  obtain ⟨bx, rfl, hbl, b0, -⟩ := hv.box
  obtain ⟨ak, ck, rfl⟩ := hw.known
  have hexR : ∃ R, (h.lay (.row 25 true bx)).next = R ∧ h.next < R := ⟨_, rfl, by rw [Hp.next_lay]; omega⟩
  obtain ⟨R, eR, hR⟩ := hexR
  have g2 : Grows h ((h.lay (.row 25 true bx)).lay (.row 107 true (zero5.map int))) := (Grows.lay _ _).then_lay _
  have a1 : ((h.lay (.row 25 true bx)).lay (.row 107 true (zero5.map int))).at h.next = some (.row 25 true bx) := Hp.at_lay_old _ (Hp.at_lay_self _ _)
  have a2 : ((h.lay (.row 25 true bx)).lay (.row 107 true (zero5.map int))).at (h.lay (.row 25 true bx)).next = some (.row 107 true (zero5.map int)) := Hp.at_lay_self _ _
  obtain ⟨i107, t107, ag107, sz107⟩ := ty107
  have fin : ∀ (φ : Rx.Frame) (H : Hp) (l : List Int) (e : Int), φ 4 = ptr R 0 → φ 5 = int e → H.at R = some (.row 107 true (l.map int)) → l.length = 5 → Grows h H → ReadR p c (.tuple ⟨[cv l, int e]⟩) → finP E [.cell 4 107, .tmp 5] ⟨φ, H, []⟩ (fun r h' => ReadR p c r ∧ Grows h h') := by
    intro φ H l e h4 h5 hat hl hg hq
    refine leave_cell2 (cs := l.map int) h4 h5 rfl t107 ag107 ?_ ⟨hq, hg⟩
    rw [sz107]
    exact all_cells hat (by rw [List.length_map, hl])
  refine enter73 (by simp) ?_
  conv => whnf
  refine SeqP.go ?_
  conv => whnf
  refine SeqP.cut (α := Hp) (fun _ => [(2, ptr h.next 0), (4, ptr (h.lay (.row 25 true bx)).next 0), (1, .slice ak c.length ck)]) (fun s H => s = H ∧ POk p ∧ Grows h s ∧ s.at h.next = some (.row 25 true bx) ∧ s.at (h.lay (.row 25 true bx)).next = some (.row 107 true (zero5.map int))) ?_ ?_
  · conv => whnf
    repeat (refine SeqP.go ?_; conv => whnf)
    refine ⟨bx, all_cells a1 hbl, ?_⟩
    conv => whnf
    refine CallP.mono (check_spec _ p _ (hv.ext g2) hn ho hs hr) ?_
    rintro r h1 ⟨⟨e, rfl, he1, he2⟩, g1⟩
    have g1' : Grows ((h.lay (.row 25 true bx)).lay (.row 107 true (zero5.map int))) h1 := g1
    by_cases hP : POk p
    · have := he1 hP
      subst this
      conv => whnf
      repeat (refine SeqP.go ?_; conv => whnf)
      refine cmpF (by omega) ?_
      conv => whnf
      repeat (refine SeqP.go ?_; conv => whnf)
      exact ⟨h1, ⟨rfl, rfl, rfl, trivial⟩, ⟨rfl, hP, g2.trans g1', g1'.at_ _ _ a1, g1'.at_ _ _ a2⟩, rfl⟩
    · have := he2 hP
      subst this
      conv => whnf
      repeat (refine SeqP.go ?_; conv => whnf)
      refine cmpT (by omega) ?_
      conv => whnf
      refine ⟨rfl, _, storeAt_full (vs := zero5.map int) (g1'.at_ _ _ a2) rfl rfl rfl, ?_⟩
      conv => whnf
      repeat (refine SeqP.go ?_; conv => whnf)
      exact fin _ _ zero5 60 (congrArg (fun k => ptr k 0) eR) rfl (by rw [← eR]; exact Hp.at_set_self _ (Hp.lt_of_at (g1'.at_ _ _ a2))) rfl ((g2.trans g1').then_set _ (by rw [Hp.next_lay]; omega)) ⟨zero5, 60, rfl, rfl, fun _ => rfl, fun k => absurd k hP, fun k => absurd k hP⟩
  rintro h1 φ1 _ ⟨rfl, hP, g1, b1, b2⟩
  rw [eR] at b2 ⊢
  conv => whnf
  refine SeqP.cut (α := Unit) (fun _ => [(2, ptr h.next 0), (4, ptr R 0), (1, .slice ak c.length ck)]) (fun s H => h1 = H ∧ Cnt c p.n) ?_ ?_
  · conv => whnf
    repeat (refine SeqP.go ?_; conv => whnf)
    refine ⟨_, cellAt_row b1 b0, ?_⟩
    conv => whnf
    refine CallP.mono (isCount_spec _ c p.n _ (hw.ext g1).ints hcl) ?_
    rintro r h2 ⟨⟨b, rfl, hb⟩, rfl⟩
    cases b with
    | true =>
      have hC := hb.t
      conv => whnf
      repeat (refine SeqP.go ?_; conv => whnf)
      exact ⟨(), ⟨rfl, rfl, rfl, trivial⟩, ⟨rfl, hC⟩, rfl⟩
    | false =>
      have hC := hb.f
      conv => whnf
      repeat (refine SeqP.go ?_; conv => whnf)
      refine ⟨rfl, _, storeAt_full (vs := zero5.map int) b2 rfl rfl rfl, ?_⟩
      conv => whnf
      repeat (refine SeqP.go ?_; conv => whnf)
      exact fin _ _ zero5 1 rfl rfl (Hp.at_set_self _ (Hp.lt_of_at b2)) rfl (g1.then_set _ (by omega)) ⟨zero5, 1, rfl, rfl, fun k => absurd hP k, fun _ _ => rfl, fun _ k => absurd k hC⟩
  rintro _ φ2 _ ⟨rfl, hC⟩
  have hc5 : c.length ≤ 5 := by have := hC.1; have := hP.n5; omega
  have hp5 := pad5_len hc5
  conv => whnf
  repeat (refine SeqP.go ?_; conv => whnf)
  refine CallP.mono (crowdOf_spec _ c _ (hw.ext g1) hc5) ?_
  rintro r h3 ⟨rfl, g3⟩
  have b3 := g3.at_ _ _ b2
  unfold cv
  conv => whnf
  refine ⟨by show ((pad5 c).map int).length = 5; rw [List.length_map, hp5], _, storeAt_full (vs := (pad5 c).map int) b3 (by rw [List.length_map, hp5]; rfl) (ints_one _) (over_int (k := zero5) (by rw [hp5]; rfl)), ?_⟩
  conv => whnf
  repeat (refine SeqP.go ?_; conv => whnf)
  exact fin _ _ (pad5 c) 0 rfl rfl (Hp.at_set_self _ (Hp.lt_of_at b3)) hp5 ((g1.trans g3).then_set _ (by omega)) ⟨pad5 c, 0, rfl, hp5, fun k => absurd hP k, fun _ k => absurd hC k, fun _ _ => ⟨rfl, rfl⟩⟩
end
end Go.Proofs.Ytpiplaicnbapbaa
namespace Go.Proofs.Ytpiplaicnbapbaa
open Go.Rx Go.RowKit
theorem POk.qin {p : Prot} (h : POk p) : ∀ k, (hk : k < p.rules.length) → QIn p.n p.rules[k] := fun k hk => (h.rs k hk hk).1
theorem step_no {R : List Q4} {c : List Int} {i : Int} (h : ¬ (0 ≤ i ∧ i < R.length)) : step R c i = none := dif_neg h
theorem step_not {R : List Q4} {c : List Int} {i : Int} (h : 0 ≤ i ∧ i < R.length) (k : ¬ Allowed c (R[i.toNat]'(by omega))) : step R c i = none := by
  unfold step
  rw [dif_pos h, if_neg k]
theorem step_yes {R : List Q4} {c : List Int} {i : Int} (h : 0 ≤ i ∧ i < R.length) (k : Allowed c (R[i.toNat]'(by omega))) : step R c i = some (after c (R[i.toNat]'(by omega))) := by
  unfold step
  rw [dif_pos h, if_pos k]
end Go.Proofs.Ytpiplaicnbapbaa
namespace Go.Proofs.Ytpiplaicnbapbaa
open Go.Rx Go.RowKit
/-- Memory while the reference does a rule. -/
structure BM (h : Hp) (Q r : Nat) (x : Bool) (q : Q4) (l : List Int) (n : Nat) (H : Hp) : Prop where
  la : H.at r = some (.row 3 x (l.map int))
  qa : H.at Q = some (.row 96 true (qcells q))
  gr : Grows h H
  len : l.length = n
  hr : h.next ≤ r
  ne : Q ≠ r
theorem BM.put {h : Hp} {Q r : Nat} {x : Bool} {q : Q4} {l : List Int} {n : Nat} {H : Hp} (k : BM h Q r x q l n H) (l' : List Int) (hl : l'.length = n) : BM h Q r x q l' n (H.set r (.row 3 x (l'.map int))) :=
  ⟨Hp.at_set_self _ (Hp.lt_of_at k.la), by rw [Hp.at_set_ne _ k.ne]; exact k.qa, k.gr.then_set _ k.hr, hl, k.hr, k.ne⟩
theorem BM.bump {h : Hp} {Q r : Nat} {e : Bool} {q : Q4} {l : List Int} {n : Nat} {H : Hp} (k : BM h Q r e q l n H) {i : Int} (hi : 0 ≤ i ∧ i < n) (x : Int) : storeAt H r (offAt 0 i.toNat 1) [int (gl l i.toNat + x)] = some (H.set r (.row 3 e ((Ytpiplaicnbapbaa.bump l (i, x)).map int))) := by
  have := row_store k.la (i := i.toNat) (by rw [k.len]; omega) (gl l i.toNat + x)
  rw [offAt_eq]
  unfold Ytpiplaicnbapbaa.bump
  simpa using this
theorem BM.load {h : Hp} {Q r : Nat} {e : Bool} {q : Q4} {l : List Int} {n : Nat} {H : Hp} (k : BM h Q r e q l n H) {i : Int} (hi : 0 ≤ i ∧ i < n) : cellAt H r (offAt 0 i.toNat 1) = some (int (gl l i.toNat)) := by
  have := row_load k.la (i := i.toNat) (by rw [k.len]; omega)
  rw [offAt_eq]
  simpa using this
theorem BM.built {h : Hp} {Q r : Nat} {x : Bool} {q : Q4} {l : List Int} {n : Nat} {H : Hp} (k : BM h Q r x q l n H) : Built h H 3 (slc r 0 n n) l := .inr ⟨r, by rw [k.len], k.hr, x, k.la⟩
def RMeetR (p : Prot) (c : List Int) (i : Int) (w : Value) (h h' : Hp) (r : Value) : Prop := ∃ (wv : Value) (b : Bool), r = .tuple ⟨[wv, .bool b]⟩ ∧ (step p.rules c i = none → b = false ∧ wv = w) ∧ (∀ c', step p.rules c i = some c' → b = true ∧ Built h h' 3 wv c')
attribute [local irreducible] E idxN cellAt cellsAt storeAt callable helems hmoved lookIn findKey keyOk hentries Hp.at Hp.set Hp.lay arBits hupdated setAt CallP YieldP BoolOf IsWrap Rnd LoopP AppP CutP Int.tmod Int.tdiv Int.fdiv
section
variable [Unknowns]
attribute [local irreducible] ResP sameAt
theorem RMeet_spec (v w : Value) (p : Prot) (c : List Int) (i : Int) (n : Nat) (h : Hp) (hv : PV h v p) (hw : View h w c) (hP : POk p) (en : p.n = n) (hc : CrOk n c) : CallP E 38 [v, w, int i] h (fun r h' => RMeetR p c i w h h' r ∧ Grows h h') := by
  obtain ⟨bx, rfl, hbl, b0, -, -, ⟨a3, b3, k3⟩, -⟩ := hv.box
  obtain ⟨ac, cc, rfl⟩ := hw.known
  have hcl := hc.len
  have hn5 : n ≤ 5 := by have := hP.n5; omega
  have hn1 : 1 ≤ n := by have := hP.n1; omega
  have hrl := hP.rl
  have hqin := hP.qin
  rw [en] at hqin
  have g0 : Grows h (h.lay (.row 26 true bx)) := Grows.lay _ _
  have a0 : (h.lay (.row 26 true bx)).at h.next = some (.row 26 true bx) := Hp.at_lay_self _ _
  refine enter38 (by simp) ?_
  conv => whnf
  refine SeqP.go ?_
  conv => whnf
  refine SeqP.cut (α := Unit) (fun _ => [(3, ptr h.next 0), (2, int i), (1, .slice ac c.length cc)]) (fun _ H => H = h.lay (.row 26 true bx) ∧ 0 ≤ i ∧ i < p.rules.length) ?_ ?_
  · conv => whnf
    repeat (refine SeqP.go ?_; conv => whnf)
    refine cmpB (fun c2 => ?_) (fun c2 => ?_)
    · conv => whnf
      repeat (refine SeqP.go ?_; conv => whnf)
      exact ⟨⟨_, false, rfl, fun _ => ⟨rfl, rfl⟩, fun c' e => by rw [step_no (by omega)] at e; cases e⟩, g0⟩
    conv => whnf
    refine ⟨_, cellAt_row a0 b3, ?_⟩
    conv => whnf
    refine cmpB (fun c3 => ?_) (fun c3 => ?_)
    · conv => whnf
      repeat (refine SeqP.go ?_; conv => whnf)
      exact ⟨⟨_, false, rfl, fun _ => ⟨rfl, rfl⟩, fun c' e => by rw [step_no (by omega)] at e; cases e⟩, g0⟩
    · conv => whnf
      repeat (refine SeqP.go ?_; conv => whnf)
      exact ⟨(), ⟨rfl, rfl, rfl, trivial⟩, ⟨rfl, by omega, by omega⟩, rfl⟩
  rintro _ φ1 _ ⟨rfl, hi0, hi1⟩
  have hii : 0 ≤ i ∧ i < p.rules.length := ⟨hi0, hi1⟩
  have hil : i.toNat < p.rules.length := by omega
  have hkf := RV.cells (show RV (h.lay (.row 26 true bx)) _ p.rules from BuiltC.ext g0 k3)
  obtain ⟨a3', e3', hkf⟩ := hkf
  cases e3'
  have hkg := hkf i.toNat hil
  clear hkf
  obtain ⟨rr, ear, hkc⟩ := hkg
  subst ear
  have hqi := hqin i.toNat hil
  have hno := fun x => step_not (c := c) hii x
  have hyes := fun x => step_yes (c := c) hii x
  have hexq : ∃ q, p.rules[i.toNat] = q := ⟨_, rfl⟩
  obtain ⟨q, eq⟩ := hexq
  rw [eq] at hkc hqi hno hyes
  have hq' := qin' hqi
  have hexQ : ∃ Q, (h.lay (.row 26 true bx)).next = Q ∧ h.next < Q := ⟨_, rfl, by rw [Hp.next_lay]; omega⟩
  obtain ⟨Q, eQ, hQ⟩ := hexQ
  conv => whnf
  refine SeqP.cut (α := Unit) (fun _ => [(8, ptr Q 0), (1, .slice ac c.length cc)]) (fun _ H => H = (h.lay (.row 26 true bx)).lay (.row 96 true (qcells q))) ?_ ?_
  · conv => whnf
    refine ⟨_, cellAt_row a0 b3, ?_⟩
    conv => whnf
    refine ⟨rfl, ⟨by omega, by omega⟩, ?_⟩
    conv => whnf
    refine ⟨[int q.a, int q.b, int q.c, int q.d], by rw [offAt_eq]; simpa using hkc, ?_⟩
    conv => whnf
    refine ⟨rfl, _, storeAt_all (vs := [int q.a, int q.b, int q.c, int q.d]) rfl rfl rfl, ?_⟩
    conv => whnf
    exact ⟨(), ⟨congrArg (fun k => ptr k 0) eQ, rfl, trivial⟩, rfl, rfl⟩
  rintro _ φ2 H2 eH2
  have hQa : H2.at Q = some (.row 96 true (qcells q)) := by rw [eH2, ← eQ]; exact Hp.at_lay_self _ _
  have g2 : Grows h H2 := by rw [eH2]; exact g0.then_lay _
  clear eH2 eQ
  have hn2 : Q < H2.next := Hp.lt_of_at hQa
  conv => whnf
  refine SeqP.go ?_
  conv => whnf
  refine SeqP.cut (α := Nat × Bool) (fun s => [(9, slc s.1 0 n n), (8, ptr Q 0), (1, .slice ac c.length cc)]) (fun s H => BM h Q s.1 s.2 q c n H) ?_ ?_
  · conv => whnf
    refine AppP.ints (h0 := H2) (l := []) (new := c) (.inl ⟨rfl, rfl⟩) (Grows.refl _) (hw.ext g2).elems (by simp; omega) ?_
    intro v3 H3 hb3 hg3 _
    rw [List.nil_append] at hb3
    rcases hb3 with ⟨rfl, e⟩ | ⟨r, rfl, hr, x, hat⟩
    · rw [e] at hcl; simp at hcl; omega
    conv => whnf
    exact ⟨(r, x), ⟨by rw [← hcl]; rfl, rfl, rfl, trivial⟩, ⟨hat, hg3.at_ _ _ hQa, g2.trans hg3, hcl, by show h.next ≤ r; omega, by show Q ≠ r; omega⟩, rfl⟩
  rintro ⟨r, x⟩ φ3 H3 m0
  dsimp only at m0 ⊢
  have hb : ∀ j, -100 ≤ gl c j ∧ gl c j ≤ 100 := fun j => by
    have := hc.nn j
    have := hc.le j
    omega
  have hga := gl_bump2 (l := c) (j := q.a) (x := -1) (by omega)
  have b1l : (bump c (q.a, -1)).length = n := by rw [bump_len, hcl]
  have b2l : (bump (bump c (q.a, -1)) (q.b, -1)).length = n := by rw [bump_len, b1l]
  have hgb := gl_bump2 (l := bump c (q.a, -1)) (j := q.b) (x := -1) (by omega)
  have b3l : (bump (bump (bump c (q.a, -1)) (q.b, -1)) (q.c, 1)).length = n := by rw [bump_len, b2l]
  have b4l : (after c q).length = n := by rw [after_len, hcl]
  have g1 := gl_bd_bump (i := q.a) (x := -1) (by omega) hb (by omega)
  have g22 := gl_bd_bump (i := q.b) (x := -1) (by omega) g1 (by omega)
  have g3 := gl_bd_bump (i := q.c) (x := 1) (by omega) g22 (by omega)
  conv => whnf
  refine SeqP.cut (α := Unit) (fun _ => [(9, slc r 0 n n), (8, ptr Q 0), (1, .slice ac c.length cc)]) (fun _ H => BM h Q r x q (bump c (q.a, -1)) n H) ?_ ?_
  · have hx := hb q.a.toNat
    conv => whnf
    refine ⟨⟨by omega, by omega⟩, ?_⟩
    conv => whnf
    refine ⟨_, cellAt_row m0.qa rfl, ?_⟩
    conv => whnf
    refine ⟨rfl, ⟨by omega, by omega⟩, ?_⟩
    conv => whnf
    refine ⟨_, m0.load hq'.1, ?_⟩
    conv => whnf
    refine ⟨gl c q.a.toNat + -1, wie (by omega) (by omega), ?_⟩
    conv => whnf
    refine ⟨rfl, ⟨by omega, by omega⟩, ?_⟩
    conv => whnf
    refine ⟨rfl, _, m0.bump hq'.1 (-1), ?_⟩
    conv => whnf
    exact ⟨(), ⟨rfl, rfl, rfl, trivial⟩, m0.put _ (b1l), rfl⟩
  rintro _ φ_m1 H_m1 m1
  have hexl : ∃ l, bump c (q.a, -1) = l := ⟨_, rfl⟩
  obtain ⟨l1, el1⟩ := hexl
  rw [el1] at m1 g1 b1l hga hgb
  conv => whnf
  refine SeqP.cut (α := Unit) (fun _ => [(9, slc r 0 n n), (8, ptr Q 0), (1, .slice ac c.length cc)]) (fun _ H => BM h Q r x q (bump l1 (q.b, -1)) n H) ?_ ?_
  · have hx := g1 q.b.toNat
    conv => whnf
    refine ⟨⟨by omega, by omega⟩, ?_⟩
    conv => whnf
    refine ⟨_, cellAt_row m1.qa rfl, ?_⟩
    conv => whnf
    refine ⟨rfl, ⟨by omega, by omega⟩, ?_⟩
    conv => whnf
    refine ⟨_, m1.load hq'.2.1, ?_⟩
    conv => whnf
    refine ⟨gl l1 q.b.toNat + -1, wie (by omega) (by omega), ?_⟩
    conv => whnf
    refine ⟨rfl, ⟨by omega, by omega⟩, ?_⟩
    conv => whnf
    refine ⟨rfl, _, m1.bump hq'.2.1 (-1), ?_⟩
    conv => whnf
    exact ⟨(), ⟨rfl, rfl, rfl, trivial⟩, m1.put _ (by rw [← el1]; exact b2l), rfl⟩
  rintro _ φ_m2 H_m2 m2
  rw [el1] at b2l b3l g22 g3
  have hexl : ∃ l, bump l1 (q.b, -1) = l := ⟨_, rfl⟩
  obtain ⟨l2, el2⟩ := hexl
  rw [el2] at m2 g22 b2l b3l g3 hgb
  have hall : Allowed c q ↔ ¬ (gl l2 q.a.toNat < 0) ∧ ¬ (gl l2 q.b.toNat < 0) := by
    rw [hgb, hga, hgb, hga]
    unfold Allowed
    have i1 := ind_eq (rfl : q.a.toNat = q.a.toNat)
    have i2 := ind_eq (rfl : q.b.toNat = q.b.toNat)
    by_cases e : q.a = q.b
    · rw [if_pos e, e] at *
      omega
    · rw [if_neg e, ind_ne (show q.a.toNat ≠ q.b.toNat by omega), ind_ne (show q.b.toNat ≠ q.a.toNat by omega), i1, i2]
      omega
  conv => whnf
  refine SeqP.cut (α := Unit) (fun _ => [(9, slc r 0 n n), (8, ptr Q 0), (1, .slice ac c.length cc)]) (fun _ H => H_m2 = H ∧ Allowed c q) ?_ ?_
  · conv => whnf
    refine ⟨⟨by omega, by omega⟩, ?_⟩
    conv => whnf
    refine ⟨_, cellAt_row m2.qa rfl, ?_⟩
    conv => whnf
    refine ⟨rfl, ⟨by omega, by omega⟩, ?_⟩
    conv => whnf
    refine ⟨_, m2.load hq'.1, ?_⟩
    conv => whnf
    refine cmpB (fun c2 => ?_) (fun c2 => ?_)
    · have hna : ¬ Allowed c q := fun k => (hall.1 k).1 c2
      conv => whnf
      repeat (refine SeqP.go ?_; conv => whnf)
      exact ⟨⟨_, false, rfl, fun _ => ⟨rfl, rfl⟩, fun c' e => by rw [hno hna] at e; cases e⟩, m2.gr⟩
    conv => whnf
    refine ⟨⟨by omega, by omega⟩, ?_⟩
    conv => whnf
    refine ⟨_, cellAt_row m2.qa rfl, ?_⟩
    conv => whnf
    refine ⟨rfl, ⟨by omega, by omega⟩, ?_⟩
    conv => whnf
    refine ⟨_, m2.load hq'.2.1, ?_⟩
    conv => whnf
    refine cmpB (fun c3 => ?_) (fun c3 => ?_)
    · have hna : ¬ Allowed c q := fun k => (hall.1 k).2 c3
      conv => whnf
      repeat (refine SeqP.go ?_; conv => whnf)
      exact ⟨⟨_, false, rfl, fun _ => ⟨rfl, rfl⟩, fun c' e => by rw [hno hna] at e; cases e⟩, m2.gr⟩
    · conv => whnf
      repeat (refine SeqP.go ?_; conv => whnf)
      exact ⟨(), ⟨rfl, rfl, rfl, trivial⟩, ⟨rfl, hall.2 ⟨c2, c3⟩⟩, rfl⟩
  rintro _ φ8 _ ⟨rfl, hal⟩
  conv => whnf
  refine SeqP.cut (α := Unit) (fun _ => [(9, slc r 0 n n), (8, ptr Q 0), (1, .slice ac c.length cc)]) (fun _ H => BM h Q r x q (bump l2 (q.c, 1)) n H) ?_ ?_
  · have hx := g22 q.c.toNat
    conv => whnf
    refine ⟨⟨by omega, by omega⟩, ?_⟩
    conv => whnf
    refine ⟨_, cellAt_row m2.qa rfl, ?_⟩
    conv => whnf
    refine ⟨rfl, ⟨by omega, by omega⟩, ?_⟩
    conv => whnf
    refine ⟨_, m2.load hq'.2.2.1, ?_⟩
    conv => whnf
    refine ⟨gl l2 q.c.toNat + 1, wie (by omega) (by omega), ?_⟩
    conv => whnf
    refine ⟨rfl, ⟨by omega, by omega⟩, ?_⟩
    conv => whnf
    refine ⟨rfl, _, m2.bump hq'.2.2.1 (1), ?_⟩
    conv => whnf
    exact ⟨(), ⟨rfl, rfl, rfl, trivial⟩, m2.put _ (b3l), rfl⟩
  rintro _ φ_m3 H_m3 m3
  have hexl : ∃ l, bump l2 (q.c, 1) = l := ⟨_, rfl⟩
  obtain ⟨l3, el3⟩ := hexl
  rw [el3] at m3 b3l g3
  have eaf : after c q = bump l3 (q.d, 1) := by unfold after; rw [el1, el2, el3]
  have hyes := hyes hal
  rw [eaf] at b4l hyes
  conv => whnf
  refine SeqP.cut (α := Unit) (fun _ => [(9, slc r 0 n n), (8, ptr Q 0), (1, .slice ac c.length cc)]) (fun _ H => BM h Q r x q (bump l3 (q.d, 1)) n H) ?_ ?_
  · have hx := g3 q.d.toNat
    conv => whnf
    refine ⟨⟨by omega, by omega⟩, ?_⟩
    conv => whnf
    refine ⟨_, cellAt_row m3.qa rfl, ?_⟩
    conv => whnf
    refine ⟨rfl, ⟨by omega, by omega⟩, ?_⟩
    conv => whnf
    refine ⟨_, m3.load hq'.2.2.2, ?_⟩
    conv => whnf
    refine ⟨gl l3 q.d.toNat + 1, wie (by omega) (by omega), ?_⟩
    conv => whnf
    refine ⟨rfl, ⟨by omega, by omega⟩, ?_⟩
    conv => whnf
    refine ⟨rfl, _, m3.bump hq'.2.2.2 (1), ?_⟩
    conv => whnf
    exact ⟨(), ⟨rfl, rfl, rfl, trivial⟩, m3.put _ (b4l), rfl⟩
  rintro _ φ_m4 H_m4 m4
  conv => whnf
  repeat (refine SeqP.go ?_; conv => whnf)
  exact ⟨⟨_, true, rfl, fun e => (by rw [hyes] at e; cases e), fun c' e => by rw [hyes] at e; cases e; exact ⟨rfl, m4.built⟩⟩, m4.gr⟩
end
end Go.Proofs.Ytpiplaicnbapbaa
namespace Go.Proofs.Ytpiplaicnbapbaa
open Go.Rx Go.RowKit
/-- A protocol of any data, as the caller holds it. -/
def PL (h : Hp) (v : Value) (p : Prot) : Prop := ∃ vo vs vr, v = pval p.n vo vs vr ∧ View h vo p.out ∧ View h vs p.start ∧ LentV h vr p.rules.length (flat4 p.rules)
theorem PL.ext {h h' : Hp} {v : Value} {p : Prot} (g : Grows h h') (k : PL h v p) : PL h' v p := by
  obtain ⟨a, b, c, e, h1, h2, h3⟩ := k
  exact ⟨a, b, c, e, h1.ext g, h2.ext g, h3.ext g⟩
end Go.Proofs.Ytpiplaicnbapbaa
namespace Go.Proofs.Ytpiplaicnbapbaa
open Go.Rx Go.RowKit
/-- A way leads from a crowd to another one. -/
inductive Rs (R : List Q4) : List Int → List Int → Prop
  | refl (c) : Rs R c c
  | tail {c d e i} : Rs R c d → step R d i = some e → Rs R c e
theorem Rs.trans {R : List Q4} {a b c : List Int} (h : Rs R a b) (k : Rs R b c) : Rs R a c := by
  induction k with
  | refl => exact h
  | tail _ hs ih => exact ih.tail hs
theorem Rs.one {R : List Q4} {a b : List Int} {i : Int} (h : step R a i = some b) : Rs R a b := (Rs.refl a).tail h
theorem Rs.head {R : List Q4} {a b c : List Int} {i : Int} (h : step R a i = some b) (k : Rs R b c) : Rs R a c := (Rs.one h).trans k
theorem Rs.ok {n : Nat} {R : List Q4} (hR : ∀ x ∈ R, QIn n x) {c d : List Int} (h : Rs R c d) (hc : CrOk n c) : CrOk n d := by
  induction h with
  | refl => exact hc
  | tail _ hs ih => exact step_ok hR ih hs
/-- All crowds to which ways lead from the first one. -/
structure Gr (R : List Q4) (c : List Int) (L : List (List Int)) : Prop where
  nodup : L.Nodup
  first : L[0]? = some c
  from_ : ∀ d ∈ L, Rs R c d
  closed : ∀ d ∈ L, ∀ i e, step R d i = some e → e ∈ L
theorem Gr.pos {R : List Q4} {c : List Int} {L : List (List Int)} (g : Gr R c L) : 0 < L.length := by
  have := g.first
  cases L with
  | nil => cases this
  | cons x l => simp
theorem Gr.mem {R : List Q4} {c : List Int} {L : List (List Int)} (g : Gr R c L) {d : List Int} : d ∈ L ↔ Rs R c d := by
  refine ⟨g.from_ d, fun h => ?_⟩
  induction h with
  | refl => exact List.mem_of_getElem? g.first
  | tail _ hs ih => exact g.closed _ ih _ _ hs
/-- A rule leads from one of the crowds to another one, by their numbers. -/
def Ed (R : List Q4) (L : List (List Int)) (a b : Nat) : Prop := ∃ d e i, L[a]? = some d ∧ L[b]? = some e ∧ step R d i = some e
theorem Ed.lt {R : List Q4} {L : List (List Int)} {a b : Nat} (h : Ed R L a b) : a < L.length ∧ b < L.length := by
  obtain ⟨d, e, i, h1, h2, _⟩ := h
  exact ⟨(List.getElem?_eq_some_iff.1 h1).1, (List.getElem?_eq_some_iff.1 h2).1⟩
inductive Pt (R : List Q4) (L : List (List Int)) : Nat → Nat → Prop
  | refl (a) : Pt R L a a
  | head {a b t} : Ed R L a b → Pt R L b t → Pt R L a t
theorem Pt.trans {R : List Q4} {L : List (List Int)} {a b c : Nat} (h : Pt R L a b) (k : Pt R L b c) : Pt R L a c := by
  induction h with
  | refl => exact k
  | head e _ ih => exact .head e (ih k)
theorem Pt.lt {R : List Q4} {L : List (List Int)} {a b : Nat} (h : Pt R L a b) (ha : a < L.length) : b < L.length := by
  induction h with
  | refl => exact ha
  | head e _ ih => exact ih e.lt.2
theorem Pt.rs {R : List Q4} {L : List (List Int)} {a b : Nat} (h : Pt R L a b) : ∀ {d e : List Int}, L[a]? = some d → L[b]? = some e → Rs R d e := by
  induction h with
  | refl => intro d e h1 h2; rw [h1] at h2; cases h2; exact .refl _
  | head e _ ih =>
    intro d e' h1 h2
    obtain ⟨d1, e1, i, k1, k2, k3⟩ := e
    rw [k1] at h1
    cases h1
    exact .head k3 (ih k2 h2)
theorem Gr.pt {R : List Q4} {c : List Int} {L : List (List Int)} (g : Gr R c L) {a : Nat} {d e : List Int} (h1 : L[a]? = some d) (h : Rs R d e) : ∃ b, L[b]? = some e ∧ Pt R L a b := by
  induction h with
  | refl => exact ⟨a, h1, .refl _⟩
  | tail _ hs ih =>
    obtain ⟨b, h2, h3⟩ := ih
    have hm := g.closed _ (List.mem_of_getElem? h2) _ _ hs
    obtain ⟨k, hk⟩ := List.getElem?_of_mem hm
    exact ⟨k, hk, h3.trans (.head ⟨_, _, _, h2, hk, hs⟩ (.refl _))⟩
/-- A way leads from it to one of some. -/
def Lead (R : List Q4) (L : List (List Int)) (T : Nat → Prop) (a : Nat) : Prop := ∃ t, T t ∧ Pt R L a t
theorem Lead.self {R : List Q4} {L : List (List Int)} {T : Nat → Prop} {a : Nat} (h : T a) : Lead R L T a := ⟨a, h, .refl _⟩
theorem Lead.back {R : List Q4} {L : List (List Int)} {T : Nat → Prop} {a b : Nat} (h : Lead R L T b) (e : Ed R L a b) : Lead R L T a := by
  obtain ⟨t, h1, h2⟩ := h
  exact ⟨t, h1, .head e h2⟩
/-- What holds some, and with each those before it, holds all that lead to them. -/
theorem Lead.least {R : List Q4} {L : List (List Int)} {T M : Nat → Prop} (h1 : ∀ t, T t → M t) (h2 : ∀ a b, Ed R L a b → M b → M a) {a : Nat} (h : Lead R L T a) : M a := by
  obtain ⟨t, ht, hp⟩ := h
  induction hp with
  | refl => exact h1 _ ht
  | head e _ ih => exact h2 _ _ e (ih ht)
def AllOut (out : List Int) (on : Int) (c : List Int) : Prop := ∀ s, s < out.length → 0 < gl c s → gl out s = on
/-- Some other output occurs in a crowd. -/
def Oth (out : List Int) (on : Int) (L : List (List Int)) (a : Nat) : Prop := ∃ d, L[a]? = some d ∧ ¬ AllOut out on d
def SettC (R : List Q4) (out : List Int) (on : Int) (c : List Int) : Prop := ∀ d, Rs R c d → AllOut out on d
def DeciC (R : List Q4) (out : List Int) (on : Int) (c : List Int) : Prop := ∀ d, Rs R c d → ∃ e, Rs R d e ∧ SettC R out on e
/-- A crowd is settled, by its number. -/
def SetN (R : List Q4) (out : List Int) (on : Int) (L : List (List Int)) (a : Nat) : Prop := a < L.length ∧ ¬ Lead R L (Oth out on L) a
theorem Gr.sett {R : List Q4} {c : List Int} {L : List (List Int)} (g : Gr R c L) {out : List Int} {on : Int} {a : Nat} {d : List Int} (h : L[a]? = some d) : SetN R out on L a ↔ SettC R out on d := by
  constructor
  · rintro ⟨h1, h2⟩ e he
    refine Classical.byContradiction fun hn => h2 ?_
    obtain ⟨b, h3, h4⟩ := g.pt h he
    exact ⟨b, ⟨e, h3, hn⟩, h4⟩
  · intro h1
    refine ⟨(List.getElem?_eq_some_iff.1 h).1, ?_⟩
    rintro ⟨t, ⟨e, h2, h3⟩, h4⟩
    exact h3 (h1 e (h4.rs h h2))
theorem Gr.settled {R : List Q4} {c : List Int} {L : List (List Int)} (g : Gr R c L) {out : List Int} {on : Int} : SetN R out on L 0 ↔ SettC R out on c := g.sett g.first
theorem Gr.decides {R : List Q4} {c : List Int} {L : List (List Int)} (g : Gr R c L) {out : List Int} {on : Int} : (∀ a, a < L.length → Lead R L (SetN R out on L) a) ↔ DeciC R out on c := by
  constructor
  · intro h d hd
    obtain ⟨a, ha⟩ := List.getElem?_of_mem (g.mem.2 hd)
    obtain ⟨t, h1, h2⟩ := h a (List.getElem?_eq_some_iff.1 ha).1
    have ht := List.getElem?_eq_getElem h1.1
    exact ⟨_, h2.rs ha ht, (g.sett ht).1 h1⟩
  · intro h a ha
    have h1 := List.getElem?_eq_getElem ha
    obtain ⟨e, h2, h3⟩ := h _ (g.from_ _ (List.getElem_mem ha))
    obtain ⟨b, h4, h5⟩ := g.pt h1 h2
    exact ⟨b, (g.sett h4).2 h3, h5⟩
end Go.Proofs.Ytpiplaicnbapbaa
namespace Go.Proofs.Ytpiplaicnbapbaa
open Go.Rx Go.RowKit
theorem nodup_lt : ∀ (N : Nat) (l : List Nat), l.Nodup → (∀ x ∈ l, x < N) → l.length ≤ N
  | 0, l, _, h => by
    cases l with
    | nil => simp
    | cons x l => exact absurd (h x (by simp)) (Nat.not_lt_zero _)
  | N + 1, l, hn, h => by
    by_cases hm : N ∈ l
    · have h1 := nodup_lt N (l.erase N) (hn.erase N) (fun x hx => by
        have h2 := (List.Nodup.mem_erase_iff hn).1 hx
        have h3 := h x h2.2
        have h4 := h2.1
        omega)
      rw [List.length_erase_of_mem hm] at h1
      omega
    · have h1 := nodup_lt N l hn (fun x hx => by
        have h3 := h x hx
        have h4 : x ≠ N := fun e => hm (e ▸ hx)
        omega)
      omega
theorem nodup_map {α β : Type} {f : α → β} : ∀ {l : List α}, l.Nodup → (∀ a ∈ l, ∀ b ∈ l, f a = f b → a = b) → (l.map f).Nodup
  | [], _, _ => by simp
  | x :: l, hn, h => by
    have hc := List.nodup_cons.1 hn
    rw [List.map_cons, List.nodup_cons]
    refine ⟨fun hm => ?_, nodup_map hc.2 fun a ha b hb => h a (by simp [ha]) b (by simp [hb])⟩
    obtain ⟨y, hy, e⟩ := List.mem_map.1 hm
    have := h y (by simp [hy]) x (by simp) e
    subst this
    exact hc.1 hy
/-- Crowds that have been met, of which the first ones have been looked at. -/
structure Gp (R : List Q4) (n : Nat) (c : List Int) (L : List (List Int)) (i : Nat) : Prop where
  nodup : L.Nodup
  first : L[0]? = some c
  from_ : ∀ d ∈ L, Rs R c d
  ok : ∀ d ∈ L, CrOk n d
  clo : ∀ a d, a < i → L[a]? = some d → ∀ k e, step R d k = some e → e ∈ L
theorem Gp.start {R : List Q4} {n : Nat} {c : List Int} (hc : CrOk n c) : Gp R n c [c] 0 :=
  ⟨by simp, rfl, fun d hd => by rw [List.mem_singleton.1 hd]; exact .refl _, fun d hd => by rw [List.mem_singleton.1 hd]; exact hc, fun a d h => absurd h (Nat.not_lt_zero _)⟩
theorem Gp.pos {R : List Q4} {n : Nat} {c : List Int} {L : List (List Int)} {i : Nat} (g : Gp R n c L i) : 0 < L.length := by
  have := g.first
  cases L with
  | nil => cases this
  | cons x l => simp
theorem getE_snoc {α : Type} {L : List α} {a : Nat} {d x : α} (h : L[a]? = some d) : (L ++ [x])[a]? = some d := by
  rw [List.getElem?_append_left (List.getElem?_eq_some_iff.1 h).1]
  exact h
theorem Gp.add {R : List Q4} {n : Nat} {c : List Int} {L : List (List Int)} {i : Nat} (g : Gp R n c L i) (hi : i ≤ L.length) (hR : ∀ x ∈ R, QIn n x) {d e : List Int} {k : Int} (hd : d ∈ L) (hs : step R d k = some e) (hn : e ∉ L) : Gp R n c (L ++ [e]) i := by
  refine ⟨?_, getE_snoc g.first, fun x hx => ?_, fun x hx => ?_, fun a x ha hx k' y hy => ?_⟩
  · rw [List.nodup_append]
    exact ⟨g.nodup, by simp, fun a ha b hb => by rw [List.mem_singleton.1 hb]; exact fun e => hn (e ▸ ha)⟩
  · rcases List.mem_append.1 hx with hx | hx
    · exact g.from_ x hx
    · rw [List.mem_singleton.1 hx]; exact (g.from_ d hd).tail hs
  · rcases List.mem_append.1 hx with hx | hx
    · exact g.ok x hx
    · rw [List.mem_singleton.1 hx]; exact step_ok hR (g.ok d hd) hs
  · rw [List.getElem?_append_left (by omega)] at hx
    exact List.mem_append_left _ (g.clo a x ha hx k' y hy)
theorem Gp.turn {R : List Q4} {n : Nat} {c : List Int} {L : List (List Int)} {i : Nat} (g : Gp R n c L i) {d : List Int} (hd : L[i]? = some d) (h : ∀ k e, step R d k = some e → e ∈ L) : Gp R n c L (i + 1) :=
  ⟨g.nodup, g.first, g.from_, g.ok, fun a x ha hx k e hs => by
    by_cases e2 : a = i
    · subst e2
      rw [hd] at hx
      cases hx
      exact h k e hs
    · exact g.clo a x (by omega) hx k e hs⟩
theorem Gp.done {R : List Q4} {n : Nat} {c : List Int} {L : List (List Int)} (g : Gp R n c L L.length) : Gr R c L :=
  ⟨g.nodup, g.first, g.from_, fun d hd k e hs => by
    obtain ⟨a, ha⟩ := List.getElem?_of_mem hd
    exact g.clo a d (List.getElem?_eq_some_iff.1 ha).1 ha k e hs⟩
/-- Where the first rules lead from a crowd, by the numbers of the crowds. -/
structure RowOk (R : List Q4) (L : List (List Int)) (d : List Int) (r : Nat) (row : List Int) : Prop where
  fwd : ∀ x ∈ row, ∃ (k : Nat) (e : List Int) (j : Int), x = (k : Int) ∧ L[k]? = some e ∧ step R d j = some e
  bwd : ∀ (j : Int) (e : List Int), j < (r : Int) → step R d j = some e → ∃ k : Nat, L[k]? = some e ∧ (k : Int) ∈ row
  few : row.length ≤ r
theorem step_range {R : List Q4} {d e : List Int} {j : Int} (h : step R d j = some e) : 0 ≤ j ∧ j < R.length := by
  by_cases hc : 0 ≤ j ∧ j < R.length
  · exact hc
  · rw [step_no hc] at h; cases h
theorem RowOk.start {R : List Q4} {L : List (List Int)} {d : List Int} : RowOk R L d 0 [] :=
  ⟨fun x h => by simp at h, fun j e hj hs => by have := step_range hs; omega, by simp⟩
theorem RowOk.ext {R : List Q4} {L : List (List Int)} {d : List Int} {r : Nat} {row : List Int} (k : RowOk R L d r row) (x : List Int) : RowOk R (L ++ [x]) d r row :=
  ⟨fun y hy => let ⟨k', e, j, h1, h2, h3⟩ := k.fwd y hy; ⟨k', e, j, h1, getE_snoc h2, h3⟩, fun j e hj hs => let ⟨k', h1, h2⟩ := k.bwd j e hj hs; ⟨k', getE_snoc h1, h2⟩, k.few⟩
theorem RowOk.skip {R : List Q4} {L : List (List Int)} {d : List Int} {r : Nat} {row : List Int} (k : RowOk R L d r row) (h : step R d r = none) : RowOk R L d (r + 1) row :=
  ⟨k.fwd, fun j e hj hs => by
    by_cases e2 : j = (r : Int)
    · subst e2; rw [h] at hs; cases hs
    · exact k.bwd j e (by omega) hs, by have := k.few; omega⟩
theorem RowOk.add {R : List Q4} {L : List (List Int)} {d e : List Int} {r : Nat} {row : List Int} (k : RowOk R L d r row) (h : step R d r = some e) {a : Nat} (ha : L[a]? = some e) : RowOk R L d (r + 1) (row ++ [(a : Int)]) :=
  ⟨fun x hx => by
    rcases List.mem_append.1 hx with hx | hx
    · exact k.fwd x hx
    · exact ⟨a, e, r, List.mem_singleton.1 hx, ha, h⟩, fun j e' hj hs => by
    by_cases e2 : j = (r : Int)
    · subst e2
      rw [h] at hs
      cases hs
      exact ⟨a, ha, by simp⟩
    · obtain ⟨k', h1, h2⟩ := k.bwd j e' (by omega) hs
      exact ⟨k', h1, List.mem_append_left _ h2⟩, by have := k.few; rw [List.length_append, List.length_singleton]; omega⟩
theorem RowOk.all {R : List Q4} {L : List (List Int)} {d : List Int} {row : List Int} (k : RowOk R L d R.length row) {j : Int} {e : List Int} (hs : step R d j = some e) : e ∈ L := by
  obtain ⟨k', h1, _⟩ := k.bwd j e (step_range hs).2 hs
  exact List.mem_of_getElem? h1
/-- A way with so many rules. -/
inductive Wy (R : List Q4) : Nat → List Int → List Int → Prop
  | refl (c) : Wy R 0 c c
  | tail {k c d e i} : Wy R k c d → step R d i = some e → Wy R (k + 1) c e
theorem Wy.rs {R : List Q4} {k : Nat} {c d : List Int} (h : Wy R k c d) : Rs R c d := by
  induction h with
  | refl => exact .refl _
  | tail _ hs ih => exact ih.tail hs
/-- How many rules are needed for each crowd. -/
structure St (R : List Q4) (c : List Int) (L : List (List Int)) (S : List Int) (i : Nat) : Prop where
  len : S.length = L.length
  way : ∀ a d, L[a]? = some d → ∃ k : Nat, gl S a = (k : Int) ∧ Wy R k c d
  start_ : gl S 0 = 0
  le : ∀ a, a < S.length → gl S a ≤ (a : Int)
  mono : ∀ a b, a ≤ b → b < S.length → gl S a ≤ gl S b
  near : ∀ a b, i ≤ a → a < S.length → b < S.length → gl S b ≤ gl S a + 1
  clo : ∀ a d, a < i → L[a]? = some d → ∀ k e, step R d k = some e → ∃ b, L[b]? = some e ∧ gl S b ≤ gl S a + 1
theorem St.start {R : List Q4} {c : List Int} : St R c [c] [0] 0 := by
  refine ⟨rfl, fun a d h => ?_, rfl, fun a ha => (by simp at ha; subst ha; exact Int.le_refl _), fun a b hab hb => ?_, fun a b _ ha hb => ?_, fun a d h => absurd h (Nat.not_lt_zero _)⟩
  · have : a = 0 := by have := (List.getElem?_eq_some_iff.1 h).1; simp at this; exact this
    subst this
    cases h
    exact ⟨0, rfl, .refl _⟩
  · simp at hb; subst hb; have : a = 0 := by omega
    subst this; exact Int.le_refl _
  · simp at ha hb; subst ha; subst hb; show gl [0] 0 ≤ gl [0] 0 + 1; omega
theorem gl_old {l : List Int} {x : Int} {j : Nat} (h : j < l.length) : gl (l ++ [x]) j = gl l j := by
  unfold gl
  rw [List.getD_eq_getElem?_getD, List.getD_eq_getElem?_getD, List.getElem?_append_left h]
theorem gl_last {l : List Int} {x : Int} : gl (l ++ [x]) l.length = x := by
  unfold gl
  rw [List.getD_eq_getElem?_getD, List.getElem?_append_right (Nat.le_refl _)]
  simp
theorem St.add {R : List Q4} {c : List Int} {L : List (List Int)} {S : List Int} {i : Nat} (s : St R c L S i) (hi : i < L.length) {d e : List Int} {k : Int} (hd : L[i]? = some d) (hs : step R d k = some e) : St R c (L ++ [e]) (S ++ [gl S i + 1]) i := by
  have hl := s.len
  have old : ∀ a, a < S.length → gl (S ++ [gl S i + 1]) a = gl S a := fun a ha => gl_old ha
  have new : gl (S ++ [gl S i + 1]) S.length = gl S i + 1 := gl_last
  refine ⟨by rw [List.length_append, List.length_append, hl]; rfl, fun a x hx => ?_, by rw [old 0 (by omega)]; exact s.start_, fun a ha => ?_, fun a b hab hb => ?_, fun a b ha1 ha hb => ?_, fun a x ha hx k' y hy => ?_⟩
  · by_cases ha : a < L.length
    · rw [List.getElem?_append_left ha] at hx
      rw [old a (by omega)]
      exact s.way a x hx
    · have h1 := (List.getElem?_eq_some_iff.1 hx).1
      rw [List.length_append, List.length_singleton] at h1
      have : a = S.length := by omega
      subst this
      rw [List.getElem?_append_right (by omega), hl] at hx
      simp at hx
      subst hx
      rw [new]
      obtain ⟨k0, e0, w0⟩ := s.way i d hd
      exact ⟨k0 + 1, by rw [e0]; rfl, w0.tail hs⟩
  · rw [List.length_append, List.length_singleton] at ha
    by_cases ha2 : a < S.length
    · rw [old a ha2]; exact s.le a ha2
    · have : a = S.length := by omega
      subst this
      rw [new]
      have := s.le i (by omega)
      omega
  · rw [List.length_append, List.length_singleton] at hb
    by_cases hb2 : b < S.length
    · rw [old a (by omega), old b hb2]; exact s.mono a b hab hb2
    · have : b = S.length := by omega
      subst this
      rw [new]
      by_cases ha2 : a < S.length
      · rw [old a ha2]; exact s.near i a (Nat.le_refl _) (by omega) ha2
      · have : a = S.length := by omega
        subst this
        rw [new]; exact Int.le_refl _
  · rw [List.length_append, List.length_singleton] at ha hb
    have hA : gl S i ≤ gl (S ++ [gl S i + 1]) a := by
      by_cases ha2 : a < S.length
      · rw [old a ha2]; exact s.mono i a ha1 ha2
      · have : a = S.length := by omega
        subst this
        rw [new]; omega
    have hB : gl (S ++ [gl S i + 1]) b ≤ gl S i + 1 := by
      by_cases hb2 : b < S.length
      · rw [old b hb2]; exact s.near i b (Nat.le_refl _) (by omega) hb2
      · have : b = S.length := by omega
        subst this
        rw [new]; exact Int.le_refl _
    omega
  · rw [List.getElem?_append_left (by omega)] at hx
    obtain ⟨b, h1, h2⟩ := s.clo a x ha hx k' y hy
    have hb := (List.getElem?_eq_some_iff.1 h1).1
    exact ⟨b, getE_snoc h1, by rw [old b (by omega), old a (by omega)]; exact h2⟩
theorem St.turn {R : List Q4} {c : List Int} {L : List (List Int)} {S : List Int} {i : Nat} (s : St R c L S i) (hi : i < L.length) {d : List Int} (hd : L[i]? = some d) {row : List Int} (h : RowOk R L d R.length row) : St R c L S (i + 1) :=
  ⟨s.len, s.way, s.start_, s.le, s.mono, fun a b ha => s.near a b (by omega), fun a x ha hx k e hs => by
    by_cases e2 : a = i
    · subst e2
      rw [hd] at hx
      cases hx
      obtain ⟨b, h1, _⟩ := h.bwd k e (step_range hs).2 hs
      have hb := (List.getElem?_eq_some_iff.1 h1).1
      exact ⟨b, h1, s.near a b (Nat.le_refl _) (by have := s.len; omega) (by have := s.len; omega)⟩
    · exact s.clo a x (by omega) hx k e hs⟩
/-- When all have been looked at, no way is shorter. -/
theorem St.least {R : List Q4} {c : List Int} {L : List (List Int)} {S : List Int} (s : St R c L S L.length) (hf : L[0]? = some c) {k : Nat} {d : List Int} (w : Wy R k c d) : ∃ b, L[b]? = some d ∧ gl S b ≤ k := by
  induction w with
  | refl => exact ⟨0, hf, by rw [s.start_]; exact Int.le_refl _⟩
  | @tail k c d e i hw hs ih =>
    obtain ⟨a, h1, h2⟩ := ih s hf
    obtain ⟨b, h3, h4⟩ := s.clo a d (List.getElem?_eq_some_iff.1 h1).1 h1 i e hs
    exact ⟨b, h3, by omega⟩
/-- The rows of the crowds that have been looked at. -/
structure Nx (R : List Q4) (L : List (List Int)) (N : List (List Int)) : Prop where
  row : ∀ (a : Nat) (d row : List Int), L[a]? = some d → N[a]? = some row → RowOk R L d R.length row
theorem Nx.ext {R : List Q4} {L N : List (List Int)} (k : Nx R L N) (hN : N.length ≤ L.length) (x : List Int) : Nx R (L ++ [x]) N :=
  ⟨fun a d row hd hr => by
    have := (List.getElem?_eq_some_iff.1 hr).1
    rw [List.getElem?_append_left (by omega)] at hd
    exact (k.row a d row hd hr).ext x⟩
theorem Nx.add {R : List Q4} {L N : List (List Int)} (k : Nx R L N) {d row : List Int} (hd : L[N.length]? = some d) (h : RowOk R L d R.length row) : Nx R L (N ++ [row]) :=
  ⟨fun a d' row' hd' hr => by
    by_cases e : a < N.length
    · rw [List.getElem?_append_left e] at hr
      exact k.row a d' row' hd' hr
    · have h1 := (List.getElem?_eq_some_iff.1 hr).1
      rw [List.length_append, List.length_singleton] at h1
      have : a = N.length := by omega
      subst this
      rw [List.getElem?_append_right (Nat.le_refl _)] at hr
      simp at hr
      subst hr
      rw [hd] at hd'
      cases hd'
      exact h⟩
end Go.Proofs.Ytpiplaicnbapbaa
namespace Go.Proofs.Ytpiplaicnbapbaa
open Go.Rx Go.RowKit
/-- A slice of slices that can be read. -/
def SL (h : Hp) (v : Value) (LL : List (List Int)) : Prop := ∃ a c, v = .slice a LL.length c ∧ ∀ j, (hj : j < LL.length) → ∃ r o sp w, a = some ⟨r, o, sp⟩ ∧ voidSp sp = false ∧ cellAt h r (j + o) = some w ∧ View h w LL[j]
theorem SL.ext {h h' : Hp} {v : Value} {LL : List (List Int)} (g : Grows h h') (k : SL h v LL) : SL h' v LL := by
  obtain ⟨a, c, e, hc⟩ := k
  exact ⟨a, c, e, fun j hj => let ⟨r, o, sp, w, e1, e2, e3, e4⟩ := hc j hj; ⟨r, o, sp, w, e1, e2, g.cell e3, e4.ext g⟩⟩
abbrev gb (l : List Bool) (i : Nat) : Bool := l.getD i false
theorem gb_at {l : List Bool} {i : Nat} (h : i < l.length) : gb l i = l[i] := by
  unfold gb; rw [List.getD_eq_getElem?_getD, List.getElem?_eq_getElem h]; rfl
theorem gb_out {l : List Bool} {i : Nat} (h : l.length ≤ i) : gb l i = false := by
  unfold gb; rw [List.getD_eq_getElem?_getD, List.getElem?_eq_none h]; rfl
theorem gb_lt {l : List Bool} {i : Nat} (h : gb l i = true) : i < l.length := Classical.byContradiction fun k => by rw [gb_out (by omega)] at h; cases h
theorem gb_set {l : List Bool} {i : Nat} (h : i < l.length) (b : Bool) (j : Nat) : gb (l.set i b) j = if j = i then b else gb l j := by
  unfold gb
  rw [List.getD_eq_getElem?_getD, List.getElem?_set, List.getD_eq_getElem?_getD]
  by_cases e : i = j
  · subst e; rw [if_pos rfl, if_pos h, if_pos rfl]; rfl
  · rw [if_neg e, if_neg (fun x => e x.symm)]
/-- How many are false. -/
def nf : List Bool → Nat
  | [] => 0
  | b :: l => (if b = true then 0 else 1) + nf l
theorem nf_set : ∀ {l : List Bool} {i : Nat}, i < l.length → gb l i = false → nf (l.set i true) + 1 = nf l
  | [], i, h, _ => by simp at h
  | b :: l, 0, _, e => by
    have : b = false := by simpa [gb] using e
    subst this
    simp [nf]
    omega
  | b :: l, i + 1, h, e => by
    have := nf_set (l := l) (i := i) (by simpa using h) (by simpa [gb] using e)
    simp only [List.set_cons_succ, nf]
    omega
/-- Booleans in memory, and what stays. -/
structure SM (h : Hp) (r : Nat) (x : Bool) (ms : List Bool) (H : Hp) : Prop where
  at_ : H.at r = some (.row 4 x (ms.map .bool))
  gr : Grows h H
  hr : h.next ≤ r
theorem SM.put {h : Hp} {r : Nat} {x : Bool} {ms : List Bool} {H : Hp} (k : SM h r x ms H) (ms' : List Bool) : SM h r x ms' (H.set r (.row 4 x (ms'.map .bool))) := ⟨Hp.at_set_self _ (Hp.lt_of_at k.at_), k.gr.then_set _ k.hr, k.hr⟩
theorem SM.load {h : Hp} {r : Nat} {x : Bool} {ms : List Bool} {H : Hp} (k : SM h r x ms H) {i : Nat} (hi : i < ms.length) : cellAt H r (offAt 0 i 1) = some (.bool (gb ms i)) := by
  rw [offAt_eq]
  refine cellAt_row k.at_ ?_
  rw [List.getElem?_map, gb_at hi]
  simp [hi]
theorem SM.store {h : Hp} {r : Nat} {x : Bool} {ms : List Bool} {H : Hp} (k : SM h r x ms H) {i : Nat} (hi : i < ms.length) (b : Bool) : storeAt H r (offAt 0 i 1) [.bool b] = some (H.set r (.row 4 x ((ms.set i b).map .bool))) := by
  have := storeAt_row k.at_ (o := i) (v := .bool b) (by rw [List.length_map]; exact hi) rfl
  rw [show (ms.map Value.bool).set i (.bool b) = (ms.set i b).map .bool from by rw [List.map_set]] at this
  rw [offAt_eq]
  simpa using this
def BV (h : Hp) (v : Value) (ms : List Bool) : Prop := ∃ r x, v = slc r 0 ms.length ms.length ∧ h.at r = some (.row 4 x (ms.map .bool))
theorem BV.ext {h h' : Hp} {v : Value} {ms : List Bool} (g : Grows h h') (k : BV h v ms) : BV h' v ms := by
  obtain ⟨r, x, e, h1⟩ := k
  exact ⟨r, x, e, g.at_ _ _ h1⟩
theorem bools_one (l : List Bool) : (l.map Value.bool).all oneCell = true := by
  rw [List.all_eq_true]
  intro v hv
  obtain ⟨n, _, rfl⟩ := List.mem_map.1 hv
  rfl
theorem BV.elems {h : Hp} {v : Value} {ms : List Bool} (k : BV h v ms) : ElemsC h 1 v ms.length (ms.map .bool) := by
  obtain ⟨r, x, rfl, h1⟩ := k
  refine ⟨rfl, ?_, by rw [List.length_map, Nat.mul_one], bools_one _⟩
  show cellsAt h r 0 (ms.length * 1) = _
  rw [cellsAt_row h1 (by rw [List.length_map]; omega), List.drop_zero, List.take_of_length_le (by rw [List.length_map]; omega)]
/-- The numbers of those that follow each. -/
structure NxOk (R : List Q4) (L : List (List Int)) (N : List (List Int)) : Prop where
  len : N.length = L.length
  fwd : ∀ i, (hi : i < N.length) → ∀ x ∈ N[i], ∃ k : Nat, x = (k : Int) ∧ Ed R L i k
  bwd : ∀ i k, Ed R L i k → ∃ hi : i < N.length, (k : Int) ∈ N[i]
  small : ∀ i, (hi : i < N.length) → N[i].length ≤ 1000
/-- Some are marked: all of which it is known that they lead to some, and those themselves. -/
structure Mk (R : List Q4) (L : List (List Int)) (T : Nat → Prop) (ms : List Bool) : Prop where
  len : ms.length = L.length
  all : ∀ t, t < L.length → T t → gb ms t = true
  only : ∀ a, gb ms a = true → Lead R L T a
theorem Mk.set {R : List Q4} {L : List (List Int)} {T : Nat → Prop} {ms : List Bool} (k : Mk R L T ms) {i : Nat} (hi : i < L.length) (h : Lead R L T i) : Mk R L T (ms.set i true) := by
  have hl := k.len
  refine ⟨by rw [List.length_set]; exact hl, fun t ht hT => ?_, fun a ha => ?_⟩
  · rw [gb_set (by omega)]
    split
    · rfl
    · exact k.all t ht hT
  · rw [gb_set (by omega)] at ha
    split at ha
    · rename_i e; rw [e]; exact h
    · exact k.only a ha
/-- Nothing of the first ones is to be marked any more. -/
def Still (R : List Q4) (L : List (List Int)) (ms : List Bool) (n : Nat) : Prop := ∀ a k, a < n → Ed R L a k → gb ms k = true → gb ms a = true
theorem Mk.done {R : List Q4} {L : List (List Int)} {T : Nat → Prop} {ms : List Bool} (k : Mk R L T ms) (hT : ∀ t, T t → t < L.length) (hs : Still R L ms L.length) (a : Nat) : gb ms a = true ↔ Lead R L T a :=
  ⟨k.only a, fun h => h.least (M := fun a => gb ms a = true) (fun t ht => k.all t (hT t ht) ht) fun a b e hb => hs a b e.lt.1 e hb⟩
end Go.Proofs.Ytpiplaicnbapbaa
namespace Go.Proofs.Ytpiplaicnbapbaa
open Go.Rx Go.RowKit
/-- What one pass has done so far. -/
structure Ps (R : List Q4) (L : List (List Int)) (T : Nat → Prop) (ms0 : List Bool) (i : Nat) (ag : Bool) (ms : List Bool) : Prop where
  km : Mk R L T ms
  le : nf ms ≤ nf ms0
  lt : ag = true → nf ms < nf ms0
  st : ag = false → ms = ms0 ∧ Still R L ms0 i
theorem Ps.start {R : List Q4} {L : List (List Int)} {T : Nat → Prop} {ms : List Bool} (h : Mk R L T ms) : Ps R L T ms 0 false ms := ⟨h, Nat.le_refl _, fun e => (by cases e), fun _ => ⟨rfl, fun a k ha => by omega⟩⟩
theorem Ps.mark {R : List Q4} {L : List (List Int)} {T : Nat → Prop} {ms0 ms : List Bool} {i : Nat} {ag : Bool} (h : Ps R L T ms0 i ag ms) (hi : i < L.length) (hf : gb ms i = false) {k : Nat} (e : Ed R L i k) (hk : gb ms k = true) : Ps R L T ms0 i true (ms.set i true) := by
  have hl := h.km.len
  have hn := nf_set (l := ms) (i := i) (by omega) hf
  have := h.le
  exact ⟨h.km.set hi ((h.km.only k hk).back e), by omega, fun _ => by omega, fun e => (by cases e)⟩
theorem Ps.next {R : List Q4} {L : List (List Int)} {T : Nat → Prop} {ms0 ms : List Bool} {i : Nat} {ag : Bool} (h : Ps R L T ms0 i ag ms) (hs : ag = false → ∀ k, Ed R L i k → gb ms0 k = true → gb ms0 i = true) : Ps R L T ms0 (i + 1) ag ms :=
  ⟨h.km, h.le, h.lt, fun e => ⟨(h.st e).1, fun a k ha he hk => by
    by_cases e2 : a = i
    · subst e2; exact hs e k he hk
    · exact (h.st e).2 a k (by omega) he hk⟩⟩
attribute [local irreducible] E idxN cellAt cellsAt storeAt callable helems hmoved lookIn findKey keyOk hentries Hp.at Hp.set Hp.lay arBits hupdated setAt CallP YieldP BoolOf IsWrap Rnd LoopP AppP CutP Int.tmod Int.tdiv Int.fdiv
section
variable [Unknowns]
attribute [local irreducible] ResP sameAt
theorem spread_spec (bx : List Value) (nv bv : Value) (R : List Q4) (L N : List (List Int)) (some_ : List Bool) (h : Hp) (hbx : bx.length = 3) (hone : bx.all oneCell = true) (b2 : bx[2]? = some nv) (hN : SL h nv N) (hNx : NxOk R L N) (hb : BV h bv some_) (hlen : some_.length = L.length) (hL1 : 0 < L.length) (hL2 : L.length ≤ 1000000) : CallP E 83 [.agg ⟨bx⟩, bv] h (fun r h' => (∃ ms, BV h' r ms ∧ ms.length = L.length ∧ ∀ a, gb ms a = true ↔ Lead R L (fun t => gb some_ t = true) a) ∧ Grows h h' ∧ ∃ k, (∃ n, r = slc k 0 n n) ∧ h.next ≤ k) := by
  obtain ⟨an, cn, rfl, hcn⟩ := id hN
  have hNl := hNx.len
  obtain ⟨rb, xb, rfl, hbat⟩ := id hb
  have g0 : Grows h (h.lay (.row 64 true bx)) := Grows.lay _ _
  have a0 : (h.lay (.row 64 true bx)).at h.next = some (.row 64 true bx) := Hp.at_lay_self _ _
  have hT : ∀ t, gb some_ t = true → t < L.length := fun t ht => by have := gb_lt ht; omega
  refine enter83 (by simp) ?_
  conv => whnf
  refine SeqP.go ?_
  conv => whnf
  refine SeqP.go ?_
  conv => whnf
  refine SeqP.cut (α := Nat × Bool × Hp) (fun s => [(5, slc s.1 0 L.length L.length), (2, ptr h.next 0)]) (fun s H => s.2.2 = H ∧ SM h s.1 s.2.1 some_ s.2.2 ∧ s.2.2.at h.next = some (.row 64 true bx) ∧ h.next < s.1) ?_ ?_
  · conv => whnf
    refine AppP.cells (h0 := h.lay (.row 64 true bx)) (e := 4) (s := 1) BuiltC.nil (.refl _) (BV.elems (hb.ext g0)) (by omega) (by omega) ?_
    intro r3 H3 hb3 g3 _
    rw [Nat.zero_add, List.nil_append] at hb3
    obtain ⟨-, hb4⟩ := hb3
    rcases hb4 with ⟨-, e⟩ | ⟨r, rfl, hr, x, hat⟩
    · rw [hlen] at e; omega
    rw [Hp.next_lay] at hr
    conv => whnf
    exact ⟨(r, x, H3), ⟨by rw [hlen]; rfl, rfl, trivial⟩, ⟨rfl, ⟨hat, g0.trans g3, by show h.next ≤ r; omega⟩, g3.at_ _ _ a0, by show h.next < r; omega⟩, rfl⟩
  rintro ⟨r, x, H3⟩ φ1 _ ⟨rfl, hsm, hbox, hrn⟩
  dsimp only at hsm hbox hrn ⊢
  conv => whnf
  refine SeqP.cut (α := List Bool × Hp) (fun s => [(5, slc r 0 L.length L.length)]) (fun s H => s.2 = H ∧ SM h r x s.1 s.2 ∧ Mk R L (fun t => gb some_ t = true) s.1 ∧ Still R L s.1 L.length) ?_ ?_
  rotate_left
  · rintro ⟨ms, H⟩ φ2 _ ⟨rfl, h1, h2, h3⟩
    dsimp only at h1 h2 h3 ⊢
    conv => whnf
    repeat (refine SeqP.go ?_; conv => whnf)
    exact ⟨⟨ms, ⟨r, x, by rw [h2.len]; rfl, h1.at_⟩, h2.len, h2.done hT h3⟩, h1.gr, r, ⟨_, rfl⟩, h1.hr⟩
  conv => whnf
  repeat (refine SeqP.go ?_; conv => whnf)
  refine loop_inv (α := Bool × List Bool × Hp) (fun s => [(6, .bool s.1), (5, slc r 0 L.length L.length), (2, ptr h.next 0)]) (fun s => s.2.2) (fun s => SM h r x s.2.1 s.2.2 ∧ Mk R L (fun t => gb some_ t = true) s.2.1 ∧ (s.1 = false → Still R L s.2.1 L.length) ∧ s.2.2.at h.next = some (.row 64 true bx)) (fun s => 2 * nf s.2.1 + (if s.1 = true then 1 else 0)) (true, some_, H3) ⟨hsm, ⟨hlen, fun t _ ht => ht, fun a ha => Lead.self ha⟩, fun e => (by cases e), hbox⟩ ⟨rfl, rfl, rfl, trivial⟩ (Hp.Le.refl _) ?_
  rintro ⟨ag, ms0, H0⟩ φ3 ⟨hs0, hm0, hst0, hb0⟩
  dsimp only at hs0 hm0 hst0 hb0 ⊢
  cases ag with
  | false =>
    conv => whnf
    repeat (refine SeqP.go ?_; conv => whnf)
    exact ⟨(ms0, H0), ⟨rfl, trivial⟩, ⟨rfl, hs0, hm0, hst0 rfl⟩, rfl⟩
  | true =>
  conv => whnf
  repeat (refine SeqP.go ?_; conv => whnf)
  refine loop_inv (α := Nat × Bool × List Bool × Hp) (fun s => [(7, int s.1), (6, .bool s.2.1), (5, slc r 0 L.length L.length), (2, ptr h.next 0)]) (fun s => s.2.2.2) (fun s => s.1 ≤ L.length ∧ SM h r x s.2.2.1 s.2.2.2 ∧ Ps R L (fun t => gb some_ t = true) ms0 s.1 s.2.1 s.2.2.1 ∧ s.2.2.2.at h.next = some (.row 64 true bx)) (fun s => L.length - s.1) (0, false, ms0, H0) ⟨Nat.zero_le _, hs0, Ps.start hm0, hb0⟩ ⟨rfl, rfl, rfl, rfl, trivial⟩ (Hp.Le.refl _) ?_
  rintro ⟨i, ag, ms, H1⟩ φ4 ⟨hi, hs1, hp1, hb1⟩
  dsimp only at hi hs1 hp1 hb1 ⊢
  conv => whnf
  repeat (refine SeqP.go ?_; conv => whnf)
  refine cmpB (fun c1 => ?_) (fun c1 => ?_)
  rotate_left
  · have : i = L.length := by omega
    subst this
    conv => whnf
    repeat (refine SeqP.go ?_; conv => whnf)
    refine Rnd.mk (ag, ms, H1) ⟨hs1, hp1.km, fun e => ?_, hb1⟩ ?_ ⟨rfl, rfl, rfl, trivial⟩ (Hp.Le.refl _) rfl
    · have := hp1.st e
      rw [this.1]
      exact this.2
    · show 2 * nf ms + (if ag = true then 1 else 0) < 2 * nf ms0 + (if true = true then 1 else 0)
      have := hp1.le
      cases ag with
      | true => have := hp1.lt rfl; simp; omega
      | false => simp; omega
  have hil : i < L.length := by omega
  have hiN : i < N.length := by omega
  have hcN := hN.ext hs1.gr
  obtain ⟨an', cn', ew, hcN⟩ := hcN
  cases ew
  have hcj := hcN i hiN
  clear hcN
  obtain ⟨rn, on, sp, w, ea, hsp, hw1, hw2⟩ := hcj
  subst ea
  have hkk := hw2.known
  obtain ⟨aw, cw, rfl⟩ := hkk
  have hsmall := hNx.small i hiN
  conv => whnf
  refine SeqP.cut (α := Bool × List Bool × Hp) (fun s => [(7, int i), (6, .bool s.1), (5, slc r 0 L.length L.length), (2, ptr h.next 0)]) (fun s H' => s.2.2 = H' ∧ SM h r x s.2.1 s.2.2 ∧ Ps R L (fun t => gb some_ t = true) ms0 (i + 1) s.1 s.2.1 ∧ s.2.2.at h.next = some (.row 64 true bx)) ?_ ?_
  rotate_left
  · rintro ⟨ag', ms', H'⟩ φ5 _ ⟨rfl, e1, e2, e3⟩
    dsimp only at e1 e2 e3 ⊢
    conv => whnf
    refine ⟨((i + 1 : Nat) : Int), wie (by omega) (by omega), ?_⟩
    conv => whnf
    exact Rnd.mk (i + 1, ag', ms', H') ⟨by show i + 1 ≤ _; omega, e1, e2, e3⟩ (by show _ - (i + 1) < _ - i; omega) ⟨rfl, rfl, rfl, rfl, trivial⟩ (Hp.Le.refl _) rfl
  conv => whnf
  repeat (refine SeqP.go ?_; conv => whnf)
  refine loop_inv (α := Nat × Bool × List Bool × Hp) (fun s => [(8, int s.1), (7, int i), (6, .bool s.2.1), (5, slc r 0 L.length L.length), (2, ptr h.next 0)]) (fun s => s.2.2.2) (fun s => s.1 ≤ N[i].length ∧ SM h r x s.2.2.1 s.2.2.2 ∧ Ps R L (fun t => gb some_ t = true) ms0 i s.2.1 s.2.2.1 ∧ s.2.2.2.at h.next = some (.row 64 true bx) ∧ Grows h s.2.2.2 ∧ (s.2.1 = false → ∀ j, (hj : j < N[i].length) → j < s.1 → ∀ k : Nat, N[i][j] = (k : Int) → gb ms0 k = true → gb ms0 i = true)) (fun s => N[i].length - s.1) (0, ag, ms, H1) ⟨Nat.zero_le _, hs1, hp1, hb1, hs1.gr, fun _ j hj hj0 => by omega⟩ ⟨rfl, rfl, rfl, rfl, rfl, trivial⟩ (Hp.Le.refl _) ?_
  rintro ⟨k, ag, ms, H2⟩ φ6 ⟨hk, hs2, hp2, hb2, hg2, hdone⟩
  dsimp only at hk hs2 hp2 hb2 hg2 hdone ⊢
  have hcN := hN.ext hg2
  obtain ⟨an', cn', ew, hcN⟩ := hcN
  cases ew
  have hcj := hcN i hiN
  clear hcN
  obtain ⟨rn', on', sp', w', ea, hsp', hw1', hw2'⟩ := hcj
  cases ea
  have hkk := hw2'.known
  obtain ⟨aw', cw', rfl⟩ := hkk
  have hmsl := hp2.km.len
  have hexb : ∃ b, gb ms i = b := ⟨_, rfl⟩
  obtain ⟨b, eb⟩ := hexb
  have hldi := hs2.load (i := i) (by omega)
  rw [eb] at hldi
  have hldw : cellAt H2 rn (offAt on i 1) = some (.slice aw' N[i].length cw') := by rw [offAt_eq, Nat.add_comm]; simpa using hw1'
  conv => whnf
  repeat (refine SeqP.go ?_; conv => whnf)
  refine ⟨_, cellAt_row hb2 b2, ?_⟩
  conv => whnf
  refine ⟨hsp', ⟨by omega, by omega⟩, ?_⟩
  conv => whnf
  refine ⟨_, hldw, ?_⟩
  conv => whnf
  refine cmpB (fun c2 => ?_) (fun c2 => ?_)
  rotate_left
  · conv => whnf
    repeat (refine SeqP.go ?_; conv => whnf)
    refine ⟨(ag, ms, H2), ⟨rfl, rfl, rfl, rfl, trivial⟩, ⟨rfl, hs2, hp2.next fun e kk he hkk => ?_, hb2⟩, rfl⟩
    obtain ⟨h1, h2⟩ := hNx.bwd i kk he
    obtain ⟨j, hj, ej⟩ := List.getElem_of_mem h2
    exact hdone e j hj (by omega) kk ej hkk
  have hkl : k < N[i].length := by omega
  conv => whnf
  refine ⟨rfl, ⟨by omega, by omega⟩, ?_⟩
  conv => whnf
  refine ⟨_, hldi, ?_⟩
  conv => whnf
  cases b with
  | true =>
    conv => whnf
    repeat (refine SeqP.go ?_; conv => whnf)
    refine ⟨(ag, ms, H2), ⟨rfl, rfl, rfl, rfl, trivial⟩, ⟨rfl, hs2, hp2.next fun e kk he hkk => ?_, hb2⟩, rfl⟩
    rw [← (hp2.st e).1]
    exact eb
  | false =>
  have hci := hw2'.ints
  obtain ⟨ax, cx, ex, hci⟩ := hci
  cases ex
  have hcik := hci k hkl
  clear hci
  obtain ⟨r5, o5, sp5, ea5, hsp5, hc5⟩ := hcik
  subst ea5
  have hfw := hNx.fwd i hiN N[i][k] (List.getElem_mem _)
  obtain ⟨kk, ekk, hed⟩ := hfw
  have hkkl := hed.lt.2
  rw [ekk] at hc5
  have hldk := hs2.load (i := kk) (by omega)
  have hexc : ∃ c, gb ms kk = c := ⟨_, rfl⟩
  obtain ⟨c, ec⟩ := hexc
  rw [ec] at hldk
  conv => whnf
  repeat (refine SeqP.go ?_; conv => whnf)
  refine ⟨_, cellAt_row hb2 b2, ?_⟩
  conv => whnf
  refine ⟨hsp', ⟨by omega, by omega⟩, ?_⟩
  conv => whnf
  refine ⟨_, hldw, ?_⟩
  conv => whnf
  refine ⟨hsp5, ⟨by omega, by omega⟩, ?_⟩
  conv => whnf
  refine ⟨int kk, by rw [offAt_eq, Nat.add_comm]; simpa using hc5, ?_⟩
  conv => whnf
  refine ⟨rfl, ⟨by omega, by omega⟩, ?_⟩
  conv => whnf
  refine ⟨_, hldk, ?_⟩
  conv => whnf
  cases c with
  | true =>
    conv => whnf
    refine ⟨rfl, ⟨by omega, by omega⟩, ?_⟩
    conv => whnf
    refine ⟨rfl, _, hs2.store (i := i) (by omega) true, ?_⟩
    conv => whnf
    repeat (refine SeqP.go ?_; conv => whnf)
    refine ⟨((k + 1 : Nat) : Int), wie (by omega) (by omega), ?_⟩
    conv => whnf
    exact Rnd.mk (k + 1, true, ms.set i true, _) ⟨by show k + 1 ≤ _; omega, hs2.put _, hp2.mark hil eb hed ec, by rw [Hp.at_set_ne _ (by omega)]; exact hb2, (hs2.put _).gr, fun e => (by cases e)⟩ (by show _ - (k + 1) < _ - k; omega) ⟨rfl, rfl, rfl, rfl, rfl, trivial⟩ (Hp.Le.refl _) rfl
  | false =>
    conv => whnf
    repeat (refine SeqP.go ?_; conv => whnf)
    refine ⟨((k + 1 : Nat) : Int), wie (by omega) (by omega), ?_⟩
    conv => whnf
    refine Rnd.mk (k + 1, ag, ms, H2) ⟨by show k + 1 ≤ _; omega, hs2, hp2, hb2, hg2, fun e j hj hj1 k2 ek2 hk2 => ?_⟩ (by show _ - (k + 1) < _ - k; omega) ⟨rfl, rfl, rfl, rfl, rfl, trivial⟩ (Hp.Le.refl _) rfl
    by_cases e3 : j = k
    · subst e3
      rw [ekk] at ek2
      have : kk = k2 := by omega
      subst this
      rw [← (hp2.st e).1, ec] at hk2
      cases hk2
    · exact hdone e j hj (by omega) k2 ek2 hk2
end
end Go.Proofs.Ytpiplaicnbapbaa
namespace Go.Proofs.Ytpiplaicnbapbaa
open Go.Rx Go.RowKit
/-- What the reference knows of the crowds that are reached. -/
structure CR (h : Hp) (bx : List Value) (R : List Q4) (n : Nat) (c : List Int) (L N : List (List Int)) : Prop where
  len : bx.length = 3
  one : bx.all oneCell = true
  lv : ∃ v, bx[0]? = some v ∧ SL h v L
  nv : ∃ v, bx[2]? = some v ∧ SL h v N
  nx : NxOk R L N
  gr : Gr R c L
  ok : ∀ d ∈ L, CrOk n d
  few : L.length ≤ 100000
  sv : ∃ v S, bx[1]? = some v ∧ View h v S ∧ St R c L S L.length
theorem CR.ext {h h' : Hp} {bx : List Value} {R : List Q4} {n : Nat} {c : List Int} {L N : List (List Int)} (g : Grows h h') (k : CR h bx R n c L N) : CR h' bx R n c L N := by
  obtain ⟨h1, h2, ⟨v, h3, h4⟩, ⟨w, h5, h6⟩, h7, h8, h9, h10, ⟨u, S, h11, h12, h13⟩⟩ := k
  exact ⟨h1, h2, ⟨v, h3, h4.ext g⟩, ⟨w, h5, h6.ext g⟩, h7, h8, h9, h10, ⟨u, S, h11, h12.ext g, h13⟩⟩
theorem oth_iff {out : List Int} {on : Int} {L : List (List Int)} {a : Nat} {d : List Int} (h : L[a]? = some d) : Oth out on L a ↔ ∃ s, s < out.length ∧ 0 < gl d s ∧ gl out s ≠ on := by
  constructor
  · rintro ⟨e, h1, h2⟩
    rw [h] at h1
    cases h1
    refine Classical.byContradiction fun hn => h2 fun s hs h3 => Classical.byContradiction fun h4 => hn ⟨s, hs, h3, h4⟩
  · rintro ⟨s, h1, h2, h3⟩
    exact ⟨d, h, fun k => h3 (k s h1 h2)⟩
theorem rep_bool (b : Bool) (n : Nat) : times [Value.bool b] n = (List.replicate n b).map .bool := by
  induction n with
  | zero => rfl
  | succ n ih => show Value.bool b :: times [Value.bool b] n = _; rw [ih, List.replicate_succ]; rfl
theorem gb_rep (n a : Nat) : gb (List.replicate n false) a = false := by
  unfold gb
  rw [List.getD_eq_getElem?_getD, List.getElem?_replicate]
  split <;> rfl
attribute [local irreducible] E idxN cellAt cellsAt storeAt callable helems hmoved lookIn findKey keyOk hentries Hp.at Hp.set Hp.lay arBits hupdated setAt CallP YieldP BoolOf IsWrap Rnd LoopP AppP CutP Int.tmod Int.tdiv Int.fdiv
section
variable [Unknowns]
attribute [local irreducible] ResP sameAt
theorem RSettled_spec (v : Value) (p : Prot) (bx : List Value) (on : Int) (n : Nat) (c : List Int) (L N : List (List Int)) (h : Hp) (hv : PV h v p) (hP : POk p) (en : p.n = n) (hx : CR h bx p.rules n c L N) : CallP E 82 [v, .agg ⟨bx⟩, int on] h (fun r h' => (∃ ms, BV h' r ms ∧ ms.length = L.length ∧ ∀ a, gb ms a = true ↔ SetN p.rules p.out on L a) ∧ Grows h h') := by
  obtain ⟨bp, rfl, hbl, b0, ⟨a1, b1, k1⟩, -⟩ := hv.box
  have hol : p.out.length = n := by have := hP.outl; omega
  have hn5 : n ≤ 5 := by have := hP.n5; omega
  rw [en] at b0
  obtain ⟨hxl, hxo, ⟨lv, x0, hL⟩, ⟨nv, x2, hN⟩, hnx, hgr, hok, hfew, -⟩ := id hx
  have hL0 := hgr.pos
  have hLk := id hL
  obtain ⟨al, cl, rfl, -⟩ := hLk
  have g0 : Grows h ((h.lay (.row 26 true bp)).lay (.row 64 true bx)) := (Grows.lay _ _).then_lay _
  have a0 : ((h.lay (.row 26 true bp)).lay (.row 64 true bx)).at h.next = some (.row 26 true bp) := Hp.at_lay_old _ (Hp.at_lay_self _ _)
  have hexX : ∃ X, (h.lay (.row 26 true bp)).next = X ∧ h.next < X := ⟨_, rfl, by rw [Hp.next_lay]; omega⟩
  obtain ⟨X, eX, hX⟩ := hexX
  have a1' : ((h.lay (.row 26 true bp)).lay (.row 64 true bx)).at X = some (.row 64 true bx) := by rw [← eX]; exact Hp.at_lay_self _ _
  have nX : ((h.lay (.row 26 true bp)).lay (.row 64 true bx)).next = X + 1 := by rw [Hp.next_lay, eX]
  refine enter82 (by simp) ?_
  conv => whnf
  refine SeqP.go ?_
  conv => whnf
  refine SeqP.cut (α := Nat × Hp) (fun s => [(7, slc s.1 0 L.length L.length), (4, ptr X 0), (3, ptr h.next 0), (2, int on)]) (fun s H => s.2 = H ∧ SM h s.1 true (List.replicate L.length false) s.2 ∧ s.2.at h.next = some (.row 26 true bp) ∧ s.2.at X = some (.row 64 true bx) ∧ X < s.1) ?_ ?_
  · conv => whnf
    refine ⟨_, cellAt_row (at_nx2 eX.symm a1') x0, ?_⟩
    conv => whnf
    refine ⟨⟨by omega, by omega, by omega, by omega⟩, ?_⟩
    conv => whnf
    refine ⟨(_, _), ⟨rfl, congrArg (fun k => ptr k 0) eX, rfl, rfl, trivial⟩, ⟨rfl, ⟨?_, g0.then_lay _, ?_⟩, Hp.at_lay_old _ a0, Hp.at_lay_old _ a1', ?_⟩, rfl⟩
    · rw [← rep_bool]
      exact Hp.at_lay_self _ _
    · show h.next ≤ ((h.lay (.row 26 true bp)).lay (.row 64 true bx)).next
      omega
    · show X < ((h.lay (.row 26 true bp)).lay (.row 64 true bx)).next
      omega
  rintro ⟨r, H3⟩ φ1 _ ⟨rfl, hsm, hbp3, hbx3, hrX⟩
  dsimp only at hsm hbp3 hbx3 hrX ⊢
  conv => whnf
  refine SeqP.cut (α := List Bool × Hp) (fun s => [(7, slc r 0 L.length L.length), (4, ptr X 0)]) (fun s H => s.2 = H ∧ SM h r true s.1 s.2 ∧ s.1.length = L.length ∧ (∀ a, gb s.1 a = true ↔ Oth p.out on L a) ∧ s.2.at X = some (.row 64 true bx)) ?_ ?_
  · conv => whnf
    repeat (refine SeqP.go ?_; conv => whnf)
    refine loop_inv (α := Nat × List Bool × Hp) (fun s => [(8, int s.1), (7, slc r 0 L.length L.length), (4, ptr X 0), (3, ptr h.next 0), (2, int on)]) (fun s => s.2.2) (fun s => s.1 ≤ L.length ∧ SM h r true s.2.1 s.2.2 ∧ s.2.1.length = L.length ∧ (∀ a, gb s.2.1 a = true ↔ a < s.1 ∧ Oth p.out on L a) ∧ s.2.2.at h.next = some (.row 26 true bp) ∧ s.2.2.at X = some (.row 64 true bx)) (fun s => L.length - s.1) (0, List.replicate L.length false, H3) ⟨Nat.zero_le _, hsm, List.length_replicate, fun a => ⟨fun e => (by rw [gb_rep] at e; cases e), fun e => absurd e.1 (Nat.not_lt_zero _)⟩, hbp3, hbx3⟩ ⟨rfl, rfl, rfl, rfl, rfl, trivial⟩ (Hp.Le.refl _) ?_
    rintro ⟨i, ms, H⟩ φ2 ⟨hi, hs, hml, hms, hbp, hbx⟩
    dsimp only at hi hs hml hms hbp hbx ⊢
    conv => whnf
    repeat (refine SeqP.go ?_; conv => whnf)
    refine ⟨_, cellAt_row hbx x0, ?_⟩
    conv => whnf
    refine cmpB (fun c1 => ?_) (fun c1 => ?_)
    rotate_left
    · have : i = L.length := by omega
      subst this
      conv => whnf
      repeat (refine SeqP.go ?_; conv => whnf)
      refine ⟨(ms, H), ⟨rfl, rfl, trivial⟩, ⟨rfl, hs, hml, fun a => ?_, hbx⟩, rfl⟩
      rw [hms]
      refine ⟨fun k => k.2, fun k => ⟨?_, k⟩⟩
      obtain ⟨d, h1, _⟩ := k
      exact (List.getElem?_eq_some_iff.1 h1).1
    have hil : i < L.length := by omega
    have hexd : ∃ d, L[i] = d ∧ L[i]? = some d := ⟨_, rfl, List.getElem?_eq_getElem hil⟩
    obtain ⟨d, ed, ed2⟩ := hexd
    have hdo := hok d (List.mem_of_getElem? ed2)
    have hoi := oth_iff (out := p.out) (on := on) ed2
    conv => whnf
    refine SeqP.cut (α := List Bool × Hp) (fun s => [(8, int i), (7, slc r 0 L.length L.length), (4, ptr X 0), (3, ptr h.next 0), (2, int on)]) (fun s H' => s.2 = H' ∧ SM h r true s.1 s.2 ∧ s.1.length = L.length ∧ (∀ a, gb s.1 a = true ↔ a < i + 1 ∧ Oth p.out on L a) ∧ s.2.at h.next = some (.row 26 true bp) ∧ s.2.at X = some (.row 64 true bx)) ?_ ?_
    rotate_left
    · rintro ⟨ms', H'⟩ φ3 _ ⟨rfl, e1, e2, e3, e4, e5⟩
      dsimp only at e1 e2 e3 e4 e5 ⊢
      conv => whnf
      refine ⟨((i + 1 : Nat) : Int), wie (by omega) (by omega), ?_⟩
      conv => whnf
      exact Rnd.mk (i + 1, ms', H') ⟨by show i + 1 ≤ _; omega, e1, e2, e3, e4, e5⟩ (by show _ - (i + 1) < _ - i; omega) ⟨rfl, rfl, rfl, rfl, rfl, trivial⟩ (Hp.Le.refl _) rfl
    conv => whnf
    repeat (refine SeqP.go ?_; conv => whnf)
    refine loop_inv (α := Nat × List Bool × Hp) (fun s => [(9, int s.1), (8, int i), (7, slc r 0 L.length L.length), (4, ptr X 0), (3, ptr h.next 0), (2, int on)]) (fun s => s.2.2) (fun s => s.1 ≤ n ∧ SM h r true s.2.1 s.2.2 ∧ s.2.1.length = L.length ∧ (∀ a, a ≠ i → (gb s.2.1 a = true ↔ a < i ∧ Oth p.out on L a)) ∧ (gb s.2.1 i = true ↔ ∃ s', s' < s.1 ∧ 0 < gl d s' ∧ gl p.out s' ≠ on) ∧ s.2.2.at h.next = some (.row 26 true bp) ∧ s.2.2.at X = some (.row 64 true bx)) (fun s => n - s.1) (0, ms, H) ⟨Nat.zero_le _, hs, hml, fun a _ => hms a, ⟨fun e => absurd ((hms i).1 e).1 (Nat.lt_irrefl _), fun ⟨s', h1, _⟩ => absurd h1 (Nat.not_lt_zero _)⟩, hbp, hbx⟩ ⟨rfl, rfl, rfl, rfl, rfl, rfl, trivial⟩ (Hp.Le.refl _) ?_
    clear hs hml hms hbp hbx
    rintro ⟨s, ms, H⟩ φ4 ⟨hsn, hs, hml, hms, hmi, hbp, hbx⟩
    dsimp only at hsn hs hml hms hmi hbp hbx ⊢
    conv => whnf
    repeat (refine SeqP.go ?_; conv => whnf)
    refine ⟨_, cellAt_row hbp b0, ?_⟩
    conv => whnf
    refine cmpB (fun c2 => ?_) (fun c2 => ?_)
    rotate_left
    · have : s = n := by omega
      subst this
      conv => whnf
      repeat (refine SeqP.go ?_; conv => whnf)
      refine ⟨(ms, H), ⟨rfl, rfl, rfl, rfl, rfl, trivial⟩, ⟨rfl, hs, hml, fun a => ?_, hbp, hbx⟩, rfl⟩
      by_cases e : a = i
      · subst e
        rw [hmi, hoi, hol]
        exact ⟨fun k => ⟨Nat.lt_succ_self _, k⟩, fun k => k.2⟩
      · rw [hms a e]
        exact ⟨fun k => ⟨by omega, k.2⟩, fun k => ⟨by omega, k.2⟩⟩
    have hsl : s < n := by omega
    have hcL := hL.ext hs.gr
    obtain ⟨an', cn', ew, hcL⟩ := hcL
    cases ew
    have hcj := hcL i hil
    clear hcL
    obtain ⟨rn, on', sp, w, ea, hsp, hw1, hw2⟩ := hcj
    subst ea
    rw [ed] at hw2
    have hkk := hw2.known
    obtain ⟨aw, cw, rfl⟩ := hkk
    have hci := hw2.ints
    obtain ⟨ax, cx, ex, hci⟩ := hci
    cases ex
    have hdl := hdo.len
    have hcik := hci s (by omega)
    clear hci
    obtain ⟨r5, o5, sp5, ea5, hsp5, hc5⟩ := hcik
    subst ea5
    rw [← gl_at (l := d) (i := s) (by omega)] at hc5
    have hko := (k1.ext hs.gr).ints
    obtain ⟨ay, cy, ey, hko⟩ := hko
    cases ey
    have hkos := hko s (by omega)
    clear hko
    obtain ⟨r6, o6, sp6, ea6, hsp6, hc6⟩ := hkos
    subst ea6
    rw [← gl_at (l := p.out) (i := s) (by omega)] at hc6
    conv => whnf
    repeat (refine SeqP.go ?_; conv => whnf)
    refine ⟨_, cellAt_row hbx x0, ?_⟩
    conv => whnf
    refine ⟨hsp, ⟨by omega, by omega⟩, ?_⟩
    conv => whnf
    refine ⟨.slice (some ⟨r5, o5, sp5⟩) d.length cw, by rw [offAt_eq, Nat.add_comm]; simpa using hw1, ?_⟩
    conv => whnf
    refine ⟨hsp5, ⟨by omega, by omega⟩, ?_⟩
    conv => whnf
    refine ⟨int (gl d s), by rw [offAt_eq, Nat.add_comm]; simpa using hc5, ?_⟩
    conv => whnf
    have same : ¬ (0 < gl d s ∧ gl p.out s ≠ on) → (gb ms i = true ↔ ∃ s', s' < s + 1 ∧ 0 < gl d s' ∧ gl p.out s' ≠ on) := fun hn => by
      rw [hmi]
      constructor
      · rintro ⟨s', h1, h2⟩
        exact ⟨s', by omega, h2⟩
      · rintro ⟨s', h1, h2⟩
        by_cases e : s' = s
        · subst e; exact absurd h2 hn
        · exact ⟨s', by omega, h2⟩
    refine cmpB (fun c3 => ?_) (fun c3 => ?_)
    · conv => whnf
      refine ⟨_, cellAt_row hbp b1, ?_⟩
      conv => whnf
      refine ⟨hsp6, ⟨by omega, by omega⟩, ?_⟩
      conv => whnf
      refine ⟨int (gl p.out s), by rw [offAt_eq, Nat.add_comm]; simpa using hc6, ?_⟩
      conv => whnf
      refine cmpB (fun c4 => ?_) (fun c4 => ?_)
      · conv => whnf
        refine ⟨rfl, ⟨by omega, by omega⟩, ?_⟩
        conv => whnf
        refine ⟨rfl, _, hs.store (i := i) (by omega) true, ?_⟩
        conv => whnf
        repeat (refine SeqP.go ?_; conv => whnf)
        refine ⟨((s + 1 : Nat) : Int), wie (by omega) (by omega), ?_⟩
        conv => whnf
        refine Rnd.mk (s + 1, ms.set i true, _) ⟨by show s + 1 ≤ _; omega, hs.put _, by show (ms.set i true).length = _; rw [List.length_set]; exact hml, fun a ha => ?_, ?_, by rw [Hp.at_set_ne _ (by omega)]; exact hbp, by rw [Hp.at_set_ne _ (by omega)]; exact hbx⟩ (by show _ - (s + 1) < _ - s; omega) ⟨rfl, rfl, rfl, rfl, rfl, rfl, trivial⟩ (Hp.Le.refl _) rfl
        · show gb (ms.set i true) a = true ↔ _
          rw [gb_set (by omega), if_neg ha]
          exact hms a ha
        · show gb (ms.set i true) i = true ↔ _
          rw [gb_set (by omega), if_pos rfl]
          exact ⟨fun _ => ⟨s, Nat.lt_succ_self _, by omega, c4⟩, fun _ => rfl⟩
      · conv => whnf
        repeat (refine SeqP.go ?_; conv => whnf)
        refine ⟨((s + 1 : Nat) : Int), wie (by omega) (by omega), ?_⟩
        conv => whnf
        exact Rnd.mk (s + 1, ms, H) ⟨by show s + 1 ≤ _; omega, hs, hml, hms, same fun k => c4 k.2, hbp, hbx⟩ (by show _ - (s + 1) < _ - s; omega) ⟨rfl, rfl, rfl, rfl, rfl, rfl, trivial⟩ (Hp.Le.refl _) rfl
    · conv => whnf
      repeat (refine SeqP.go ?_; conv => whnf)
      refine ⟨((s + 1 : Nat) : Int), wie (by omega) (by omega), ?_⟩
      conv => whnf
      exact Rnd.mk (s + 1, ms, H) ⟨by show s + 1 ≤ _; omega, hs, hml, hms, same fun k => by omega, hbp, hbx⟩ (by show _ - (s + 1) < _ - s; omega) ⟨rfl, rfl, rfl, rfl, rfl, rfl, trivial⟩ (Hp.Le.refl _) rfl
  rintro ⟨ms, H4⟩ φ5 _ ⟨rfl, hs4, hml4, hms4, hbx4⟩
  dsimp only at hs4 hml4 hms4 hbx4 ⊢
  conv => whnf
  refine SeqP.cut (α := Nat × Bool × List Bool × Hp) (fun s => [(10, slc s.1 0 L.length L.length)]) (fun s H => s.2.2.2 = H ∧ SM h s.1 s.2.1 s.2.2.1 s.2.2.2 ∧ s.2.2.1.length = L.length ∧ (∀ a, gb s.2.2.1 a = true ↔ Lead p.rules L (Oth p.out on L) a)) ?_ ?_
  · conv => whnf
    refine ⟨bx, all_cells hbx4 hxl, ?_⟩
    conv => whnf
    refine CallP.mono (spread_spec bx nv _ p.rules L N ms _ hxl hxo x2 (hN.ext hs4.gr) hnx ⟨r, true, by rw [hml4]; rfl, hs4.at_⟩ hml4 hL0 (by omega)) ?_
    rintro r5 H5 ⟨⟨ms5, hb5, hl5, hm5⟩, g5, k5, ⟨n5, e5⟩, hk5⟩
    obtain ⟨r6, x6, e6, hat6⟩ := hb5
    have hrk : r6 = k5 := by
      rw [e6] at e5
      simp [slc] at e5
      exact e5.1
    subst hrk
    subst e6
    conv => whnf
    refine ⟨(r6, x6, ms5, H5), ⟨by rw [← hl5]; rfl, trivial⟩, ⟨rfl, ⟨hat6, hs4.gr.trans g5, ?_⟩, hl5, fun a => ?_⟩, rfl⟩
    · have := hs4.gr.next
      show h.next ≤ r6
      omega
    · rw [hm5]
      have : (fun t => gb ms t = true) = Oth p.out on L := funext fun t => propext (hms4 t)
      rw [this]
  rintro ⟨k, x6, ms5, H5⟩ φ6 _ ⟨rfl, hs5, hl5, hm5⟩
  dsimp only at hs5 hl5 hm5 ⊢
  conv => whnf
  refine SeqP.cut (α := List Bool × Hp) (fun s => [(10, slc k 0 L.length L.length)]) (fun s H => s.2 = H ∧ SM h k x6 s.1 s.2 ∧ s.1.length = L.length ∧ ∀ a, gb s.1 a = true ↔ SetN p.rules p.out on L a) ?_ ?_
  rotate_left
  · rintro ⟨ms6, H6⟩ φ7 _ ⟨rfl, h1, h2, h3⟩
    dsimp only at h1 h2 h3 ⊢
    conv => whnf
    repeat (refine SeqP.go ?_; conv => whnf)
    exact ⟨⟨ms6, ⟨k, x6, by rw [h2]; rfl, h1.at_⟩, h2, h3⟩, h1.gr⟩
  conv => whnf
  repeat (refine SeqP.go ?_; conv => whnf)
  refine loop_inv (α := Nat × List Bool × Hp) (fun s => [(11, int s.1), (10, slc k 0 L.length L.length)]) (fun s => s.2.2) (fun s => s.1 ≤ L.length ∧ SM h k x6 s.2.1 s.2.2 ∧ s.2.1.length = L.length ∧ (∀ a, a < s.1 → gb s.2.1 a = !gb ms5 a) ∧ (∀ a, s.1 ≤ a → gb s.2.1 a = gb ms5 a)) (fun s => L.length - s.1) (0, ms5, H5) ⟨Nat.zero_le _, hs5, hl5, fun a ha => absurd ha (Nat.not_lt_zero _), fun a _ => rfl⟩ ⟨rfl, rfl, trivial⟩ (Hp.Le.refl _) ?_
  rintro ⟨i, ms6, H6⟩ φ8 ⟨hi, hs6, hl6, hlo, hhi⟩
  dsimp only at hi hs6 hl6 hlo hhi ⊢
  conv => whnf
  repeat (refine SeqP.go ?_; conv => whnf)
  refine cmpB (fun c1 => ?_) (fun c1 => ?_)
  rotate_left
  · have : i = L.length := by omega
    subst this
    conv => whnf
    repeat (refine SeqP.go ?_; conv => whnf)
    refine ⟨(ms6, H6), ⟨rfl, trivial⟩, ⟨rfl, hs6, hl6, fun a => ?_⟩, rfl⟩
    show gb ms6 a = true ↔ _
    unfold SetN
    rw [← hm5 a]
    by_cases ha : a < L.length
    · rw [hlo a ha]
      cases gb ms5 a <;> simp [ha]
    · rw [gb_out (by omega)]
      simp [ha]
  have hil : i < L.length := by omega
  have hexb : ∃ b, gb ms6 i = b := ⟨_, rfl⟩
  obtain ⟨b, eb⟩ := hexb
  have hld := hs6.load (i := i) (by omega)
  rw [eb] at hld
  conv => whnf
  repeat (refine SeqP.go ?_; conv => whnf)
  refine ⟨rfl, ⟨by omega, by omega⟩, ?_⟩
  conv => whnf
  refine ⟨_, hld, ?_⟩
  conv => whnf
  refine ⟨rfl, ⟨by omega, by omega⟩, ?_⟩
  conv => whnf
  refine ⟨rfl, _, hs6.store (i := i) (by omega) (!b), ?_⟩
  conv => whnf
  refine ⟨((i + 1 : Nat) : Int), wie (by omega) (by omega), ?_⟩
  conv => whnf
  refine Rnd.mk (i + 1, ms6.set i (!b), _) ⟨by show i + 1 ≤ _; omega, hs6.put _, by show (ms6.set i (!b)).length = _; rw [List.length_set]; exact hl6, fun a ha => ?_, fun a ha => ?_⟩ (by show _ - (i + 1) < _ - i; omega) ⟨rfl, rfl, trivial⟩ (Hp.Le.refl _) rfl
  · show gb (ms6.set i (!b)) a = _
    rw [gb_set (by omega)]
    split
    · rename_i e
      rw [← hhi a (by omega), e, eb]
    · exact hlo a (by have : a < i + 1 := ha; omega)
  · show gb (ms6.set i (!b)) a = _
    have : i + 1 ≤ a := ha
    rw [gb_set (by omega), if_neg (by omega)]
    exact hhi a (by omega)
end
end Go.Proofs.Ytpiplaicnbapbaa
namespace Go.Proofs.Ytpiplaicnbapbaa
open Go.Rx Go.RowKit
/-- The number for a crowd. -/
def keyN (l : List Int) : Nat → Int
  | 0 => 0
  | k + 1 => 10 * keyN l k + gl l k
theorem keyN_bd {l : List Int} (h : ∀ i, 0 ≤ gl l i ∧ gl l i ≤ 9) : ∀ k, 0 ≤ keyN l k ∧ keyN l k < 10 ^ k
  | 0 => by simp [keyN]
  | k + 1 => by
    have := keyN_bd h k
    have := h k
    rw [show (10 : Int) ^ (k + 1) = 10 ^ k * 10 from Int.pow_succ ..]
    unfold keyN
    omega
theorem keyN_inj {l m : List Int} (hl : ∀ i, 0 ≤ gl l i ∧ gl l i ≤ 9) (hm : ∀ i, 0 ≤ gl m i ∧ gl m i ≤ 9) : ∀ k, keyN l k = keyN m k → ∀ i, i < k → gl l i = gl m i
  | 0, _, i, hi => by omega
  | k + 1, e, i, hi => by
    unfold keyN at e
    have h1 := hl k
    have h2 := hm k
    by_cases e2 : i = k
    · subst e2; omega
    · exact keyN_inj hl hm k (by omega) i (by omega)
def keyOf (l : List Int) : Int := keyN l l.length
theorem keyOf_inj {n : Nat} {l m : List Int} (hl : CrOk n l) (hm : CrOk n m) (e : keyOf l = keyOf m) : l = m := by
  unfold keyOf at e
  rw [hl.len, hm.len] at e
  have := keyN_inj (fun i => ⟨hl.nn i, hl.le i⟩) (fun i => ⟨hm.nn i, hm.le i⟩) n e
  apply List.ext_getElem (by rw [hl.len, hm.len])
  intro i h1 h2
  have := this i (by rw [hl.len] at h1; exact h1)
  rwa [gl_at h1, gl_at h2] at this
theorem keyOf_bd {n : Nat} {l : List Int} (hn : n ≤ 5) (hl : CrOk n l) : 0 ≤ keyOf l ∧ keyOf l < 100000 := by
  unfold keyOf
  rw [hl.len]
  have := keyN_bd (l := l) (fun i => ⟨hl.nn i, hl.le i⟩) n
  have h2 : (10 : Int) ^ n ≤ 100000 := by
    have : n = 0 ∨ n = 1 ∨ n = 2 ∨ n = 3 ∨ n = 4 ∨ n = 5 := by omega
    rcases this with e | e | e | e | e | e <;> subst e <;> decide
  omega
attribute [local irreducible] E idxN cellAt cellsAt storeAt callable helems hmoved lookIn findKey keyOk hentries Hp.at Hp.set Hp.lay arBits hupdated setAt CallP YieldP BoolOf IsWrap Rnd LoopP AppP CutP Int.tmod Int.tdiv Int.fdiv
section
variable [Unknowns]
attribute [local irreducible] ResP sameAt
theorem key_spec (v : Value) (l : List Int) (h : Hp) (hv : Ints h v l) (hl : l.length ≤ 5) (hd : ∀ i, 0 ≤ gl l i ∧ gl l i ≤ 9) : CallP E 81 [v] h (fun r h' => r = int (keyOf l) ∧ h' = h) := by
  obtain ⟨a, c, rfl, hc⟩ := id hv
  have hbd := keyN_bd hd
  refine enter81 (by simp) ?_
  conv => whnf
  refine SeqP.go ?_
  conv => whnf
  refine SeqP.go ?_
  conv => whnf
  refine SeqP.cut (α := Unit) (fun _ => [(3, int (keyOf l))]) (fun _ H => H = h) ?_ ?_
  rotate_left
  · rintro _ φ9 _ rfl
    conv => whnf
    repeat (refine SeqP.go ?_; conv => whnf)
    exact ⟨rfl, rfl⟩
  conv => whnf
  repeat (refine SeqP.go ?_; conv => whnf)
  refine loop_inv (α := Nat) (fun k => [(4, int k), (3, int (keyN l k)), (0, .slice a l.length c)]) (fun _ => h) (fun k => k ≤ l.length) (fun k => l.length - k) 0 (Nat.zero_le _) ⟨rfl, rfl, rfl, trivial⟩ (Hp.Le.refl _) ?_
  intro k φ hk
  conv => whnf
  repeat (refine SeqP.go ?_; conv => whnf)
  refine cmpB (fun c1 => ?_) (fun c1 => ?_)
  rotate_left
  · have : k = l.length := by omega
    subst this
    conv => whnf
    repeat (refine SeqP.go ?_; conv => whnf)
    exact ⟨(), ⟨rfl, trivial⟩, rfl, rfl⟩
  have hkl : k < l.length := by omega
  have hck := hc k hkl
  clear hc
  obtain ⟨r, o, sp, ea, hsp, hci⟩ := hck
  subst ea
  rw [← gl_at hkl] at hci
  have h1 := hbd k
  have h2 := hd k
  have h5 : keyN l (k + 1) = 10 * keyN l k + gl l k := rfl
  have h4 : (10 : Int) ^ k ≤ 10000 := by
    have : k = 0 ∨ k = 1 ∨ k = 2 ∨ k = 3 ∨ k = 4 := by omega
    rcases this with e | e | e | e | e <;> subst e <;> decide
  conv => whnf
  repeat (refine SeqP.go ?_; conv => whnf)
  refine ⟨10 * keyN l k, wie rfl (by omega), ?_⟩
  conv => whnf
  refine ⟨hsp, ⟨by omega, by omega⟩, ?_⟩
  conv => whnf
  refine ⟨int (gl l k), by rw [offAt_eq, Nat.add_comm]; simpa using hci, ?_⟩
  conv => whnf
  refine ⟨keyN l (k + 1), wie rfl (by omega), ?_⟩
  conv => whnf
  refine ⟨((k + 1 : Nat) : Int), wie (by omega) (by omega), ?_⟩
  conv => whnf
  exact Rnd.mk (k + 1) (by show k + 1 ≤ _; omega) (by show _ - (k + 1) < _ - k; omega) ⟨rfl, rfl, rfl, trivial⟩ (Hp.Le.refl _) rfl
theorem isAll_spec (v : Value) (p : Prot) (d : List Int) (on : Int) (n : Nat) (h : Hp) (hv : PV h v p) (hP : POk p) (en : p.n = n) (hd : d.length = n) : CallP E 107 [v, cv (pad5 d), int on] h (fun r h' => (∃ b, r = .bool b ∧ BoolOf b (AllOut p.out on d)) ∧ Grows h h') := by
  obtain ⟨bp, rfl, hbl, b0, ⟨a1, b1, k1⟩, -⟩ := hv.box
  have hol : p.out.length = n := by have := hP.outl; omega
  have hn5 : n ≤ 5 := by have := hP.n5; omega
  have g0 : Grows h ((h.lay (.row 25 true bp)).lay (.row 107 true ((pad5 d).map int))) := (Grows.lay _ _).then_lay _
  have a0 : ((h.lay (.row 25 true bp)).lay (.row 107 true ((pad5 d).map int))).at h.next = some (.row 25 true bp) := Hp.at_lay_old _ (Hp.at_lay_self _ _)
  have a2 : ((h.lay (.row 25 true bp)).lay (.row 107 true ((pad5 d).map int))).at (h.lay (.row 25 true bp)).next = some (.row 107 true ((pad5 d).map int)) := Hp.at_lay_self _ _
  have hp5 := pad5_len (c := d) (by omega)
  have hko := (k1.ext g0).ints
  obtain ⟨ay, cy, ey, hko⟩ := hko
  cases ey
  unfold cv
  refine enter107 (by simp) ?_
  conv => whnf
  refine SeqP.go ?_
  conv => whnf
  refine SeqP.cut (α := Unit) (fun _ => []) (fun _ H => H = (h.lay (.row 25 true bp)).lay (.row 107 true ((pad5 d).map int)) ∧ AllOut p.out on d) ?_ ?_
  rotate_left
  · rintro _ φ9 _ ⟨rfl, ha⟩
    conv => whnf
    repeat (refine SeqP.go ?_; conv => whnf)
    exact ⟨⟨true, rfl, bo_yes ha⟩, g0⟩
  conv => whnf
  repeat (refine SeqP.go ?_; conv => whnf)
  refine ⟨_, cellAt_row a0 b1, ?_⟩
  conv => whnf
  refine loop_inv (α := Nat) (fun k => [(12, int k), (11, int p.out.length), (10, .slice a1 p.out.length p.out.length), (4, ptr (h.lay (.row 25 true bp)).next 0), (2, int on)]) (fun _ => (h.lay (.row 25 true bp)).lay (.row 107 true ((pad5 d).map int))) (fun k => k ≤ n ∧ ∀ s, s < k → 0 < gl d s → gl p.out s = on) (fun k => n - k) 0 ⟨Nat.zero_le _, fun s hs => by omega⟩ ⟨rfl, rfl, rfl, rfl, rfl, trivial⟩ (Hp.Le.refl _) ?_
  rintro k φ ⟨hk, hin⟩
  conv => whnf
  repeat (refine SeqP.go ?_; conv => whnf)
  refine cmpB (fun c1 => ?_) (fun c1 => ?_)
  rotate_left
  · conv => whnf
    repeat (refine SeqP.go ?_; conv => whnf)
    exact ⟨(), trivial, ⟨rfl, fun s hs => hin s (by omega)⟩, rfl⟩
  have hkl : k < p.out.length := by omega
  have hck := hko k hkl
  obtain ⟨r, o, sp, ea, hsp, hci⟩ := hck
  subst ea
  rw [← gl_at hkl] at hci
  have hld := row_load a2 (i := k) (by omega)
  rw [gl_pad] at hld
  have hlo : (0 < gl d k → gl p.out k = on) → ∀ s, s < k + 1 → 0 < gl d s → gl p.out s = on := fun e s hs => by
    by_cases e2 : s = k
    · subst e2; exact e
    · exact hin s (by omega)
  conv => whnf
  repeat (refine SeqP.go ?_; conv => whnf)
  refine ⟨hsp, ⟨by omega, by omega⟩, ?_⟩
  conv => whnf
  refine ⟨int (gl p.out k), by rw [offAt_eq, Nat.add_comm]; simpa using hci, ?_⟩
  conv => whnf
  repeat (refine SeqP.go ?_; conv => whnf)
  refine ⟨⟨by omega, by omega⟩, ?_⟩
  conv => whnf
  refine ⟨int (gl d k), by rw [offAt_eq]; simpa using hld, ?_⟩
  conv => whnf
  refine cmpB (fun c2 => ?_) (fun c2 => ?_)
  · conv => whnf
    refine cmpB (fun c3 => ?_) (fun c3 => ?_)
    · conv => whnf
      repeat (refine SeqP.go ?_; conv => whnf)
      exact ⟨⟨false, rfl, bo_no fun e => c3 (e k hkl (by omega))⟩, g0⟩
    · conv => whnf
      repeat (refine SeqP.go ?_; conv => whnf)
      refine ⟨((k + 1 : Nat) : Int), wie (by omega) (by omega), ?_⟩
      conv => whnf
      exact Rnd.mk (k + 1) ⟨by show k + 1 ≤ _; omega, hlo fun _ => by omega⟩ (by show _ - (k + 1) < _ - k; omega) ⟨rfl, rfl, rfl, rfl, rfl, trivial⟩ (Hp.Le.refl _) rfl
  · conv => whnf
    repeat (refine SeqP.go ?_; conv => whnf)
    refine ⟨((k + 1 : Nat) : Int), wie (by omega) (by omega), ?_⟩
    conv => whnf
    exact Rnd.mk (k + 1) ⟨by show k + 1 ≤ _; omega, hlo fun e => by omega⟩ (by show _ - (k + 1) < _ - k; omega) ⟨rfl, rfl, rfl, rfl, rfl, trivial⟩ (Hp.Le.refl _) rfl
theorem indexI_spec (v : Value) (l : List Int) (x : Int) (h : Hp) (hv : Ints h v l) (hl : l.length ≤ 1000000) : CallP E 113 [v, int x] h (fun r h' => (∃ k, r = int k ∧ (0 ≤ k ↔ x ∈ l)) ∧ h' = h) := by
  obtain ⟨a, c, rfl, hc⟩ := id hv
  refine enter113 (by simp) ?_
  conv => whnf
  refine SeqP.go ?_
  conv => whnf
  refine SeqP.cut (α := Unit) (fun _ => []) (fun _ H => H = h ∧ x ∉ l) ?_ ?_
  rotate_left
  · rintro _ φ9 _ ⟨rfl, ha⟩
    conv => whnf
    repeat (refine SeqP.go ?_; conv => whnf)
    exact ⟨⟨-1, rfl, ⟨fun e => by omega, fun e => absurd e ha⟩⟩, rfl⟩
  conv => whnf
  repeat (refine SeqP.go ?_; conv => whnf)
  refine loop_inv (α := Nat) (fun k => [(8, int k), (7, int l.length), (0, .slice a l.length c), (1, int x)]) (fun _ => h) (fun k => k ≤ l.length ∧ ∀ s, s < k → gl l s ≠ x) (fun k => l.length - k) 0 ⟨Nat.zero_le _, fun s hs => by omega⟩ ⟨rfl, rfl, rfl, rfl, trivial⟩ (Hp.Le.refl _) ?_
  rintro k φ ⟨hk, hin⟩
  conv => whnf
  repeat (refine SeqP.go ?_; conv => whnf)
  refine cmpB (fun c1 => ?_) (fun c1 => ?_)
  rotate_left
  · conv => whnf
    repeat (refine SeqP.go ?_; conv => whnf)
    refine ⟨(), trivial, ⟨rfl, fun hm => ?_⟩, rfl⟩
    obtain ⟨i, hi, e⟩ := List.getElem_of_mem hm
    exact hin i (by omega) (by rw [gl_at hi]; exact e)
  have hkl : k < l.length := by omega
  have hck := hc k hkl
  obtain ⟨r, o, sp, ea, hsp, hci⟩ := hck
  subst ea
  have hmem : gl l k ∈ l := by rw [gl_at hkl]; exact List.getElem_mem _
  rw [← gl_at hkl] at hci
  conv => whnf
  repeat (refine SeqP.go ?_; conv => whnf)
  refine ⟨hsp, ⟨by omega, by omega⟩, ?_⟩
  conv => whnf
  refine ⟨int (gl l k), by rw [offAt_eq, Nat.add_comm]; simpa using hci, ?_⟩
  conv => whnf
  refine cmpB (fun c2 => ?_) (fun c2 => ?_)
  · conv => whnf
    repeat (refine SeqP.go ?_; conv => whnf)
    exact ⟨⟨k, rfl, ⟨fun _ => by rw [c2]; exact hmem, fun _ => by omega⟩⟩, rfl⟩
  · conv => whnf
    repeat (refine SeqP.go ?_; conv => whnf)
    refine ⟨((k + 1 : Nat) : Int), wie (by omega) (by omega), ?_⟩
    conv => whnf
    refine Rnd.mk (k + 1) ⟨by show k + 1 ≤ _; omega, fun s hs => ?_⟩ (by show _ - (k + 1) < _ - k; omega) ⟨rfl, rfl, rfl, rfl, trivial⟩ (Hp.Le.refl _) rfl
    by_cases e2 : s = k
    · subst e2; exact fun e => c2 e.symm
    · exact hin s (by omega)
theorem hasI_spec (v : Value) (l : List Int) (x : Int) (h : Hp) (hv : Ints h v l) (hl : l.length ≤ 1000000) : CallP E 103 [v, int x] h (fun r h' => (∃ b, r = .bool b ∧ BoolOf b (x ∈ l)) ∧ h' = h) := by
  obtain ⟨a, c, rfl, hc⟩ := id hv
  refine enter103 (by simp) ?_
  conv => whnf
  repeat (refine SeqP.go ?_; conv => whnf)
  refine CallP.mono (indexI_spec _ l x _ hv hl) ?_
  rintro r1 H1 ⟨⟨k, rfl, hk⟩, rfl⟩
  conv => whnf
  refine cmpB (fun c1 => ?_) (fun c1 => ?_)
  · conv => whnf
    repeat (refine SeqP.go ?_; conv => whnf)
    exact ⟨⟨true, rfl, bo_yes (hk.1 (by omega))⟩, rfl⟩
  · conv => whnf
    repeat (refine SeqP.go ?_; conv => whnf)
    exact ⟨⟨false, rfl, bo_no fun e => by have := hk.2 e; omega⟩, rfl⟩
end
end Go.Proofs.Ytpiplaicnbapbaa
