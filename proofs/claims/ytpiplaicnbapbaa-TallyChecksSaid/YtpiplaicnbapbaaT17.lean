/- Contracts of the functions that T27 comes to. -/
import Derived.Test.YtpiplaicnbapbaaT16
set_option maxRecDepth 100000
set_option maxHeartbeats 2000000
set_option linter.unusedVariables false
set_option linter.unusedSectionVars false
set_option linter.unusedSimpArgs false
namespace Go.Proofs.Ytpiplaicnbapbaa
open Go.Rx Go.RowKit
def qcells (q : Q4) : List Value := [int q.a, int q.b, int q.c, int q.d]
def qv (q : Q4) : Value := .agg ⟨qcells q⟩
theorem allowed_pad {c : List Int} {q : Q4} : Allowed (pad5 c) q ↔ Allowed c q := by unfold Allowed; rw [gl_pad, gl_pad]
theorem after_pad {c : List Int} {q : Q4} (h : QIn c.length q) : after (pad5 c) q = pad5 (after c q) := by
  obtain ⟨h1, h2, h3, h4⟩ := qin h
  unfold after
  rw [bump_pad h1, bump_pad (by rw [bump_len]; exact h2), bump_pad (by rw [bump_len, bump_len]; exact h3), bump_pad (by rw [bump_len, bump_len, bump_len]; exact h4)]
/-- Memory while a rule is done. -/
structure AM (h : Hp) (q : Q4) (l : List Int) (H : Hp) : Prop where
  la : H.at h.next = some (.row 107 true (l.map int))
  qa : H.at (h.next + 1) = some (.row 96 true (qcells q))
  za : H.at (h.next + 2) = some (.row 107 true (zero5.map int))
  gr : Grows h H
  len : l.length = 5
theorem AM.put {h : Hp} {q : Q4} {l : List Int} {H : Hp} (k : AM h q l H) (l' : List Int) (hl : l'.length = 5) : AM h q l' (H.set h.next (.row 107 true (l'.map int))) :=
  ⟨Hp.at_set_self _ (Hp.lt_of_at k.la), by rw [Hp.at_set_ne _ (by omega)]; exact k.qa, by rw [Hp.at_set_ne _ (by omega)]; exact k.za, k.gr.then_set _ (Nat.le_refl _), hl⟩
theorem AM.bump {h : Hp} {q : Q4} {l : List Int} {H : Hp} (k : AM h q l H) {i : Int} (hi : 0 ≤ i ∧ i < 5) (x : Int) : storeAt H h.next (offAt 0 i.toNat 1) [int (gl l i.toNat + x)] = some (H.set h.next (.row 107 true ((Ytpiplaicnbapbaa.bump l (i, x)).map int))) := by
  have := row_store k.la (i := i.toNat) (by rw [k.len]; omega) (gl l i.toNat + x)
  rw [offAt_eq]
  unfold Ytpiplaicnbapbaa.bump
  simpa using this
theorem AM.load {h : Hp} {q : Q4} {l : List Int} {H : Hp} (k : AM h q l H) {i : Int} (hi : 0 ≤ i ∧ i < 5) : cellAt H h.next (offAt 0 i.toNat 1) = some (int (gl l i.toNat)) := by
  have := row_load k.la (i := i.toNat) (by rw [k.len]; omega)
  rw [offAt_eq]
  simpa using this
theorem gl_bd_bump {l : List Int} {i x M : Int} (hi : i.toNat < l.length) (h : ∀ j, -M ≤ gl l j ∧ gl l j ≤ M) (hx : -1 ≤ x ∧ x ≤ 1) : ∀ j, -(M + 1) ≤ gl (bump l (i, x)) j ∧ gl (bump l (i, x)) j ≤ M + 1 := fun j => by
  rw [gl_bump hi]
  have := h j
  split <;> omega
attribute [local irreducible] E idxN cellAt cellsAt storeAt callable helems hmoved lookIn findKey keyOk hentries Hp.at Hp.set Hp.lay arBits hupdated setAt CallP YieldP BoolOf IsWrap Rnd LoopP AppP CutP Int.tmod Int.tdiv Int.fdiv
section
variable [Unknowns]
attribute [local irreducible] ResP sameAt finP
theorem after_spec (c : List Int) (q : Q4) (h : Hp) (hc : c.length = 5) (hb : ∀ j, -100 ≤ gl c j ∧ gl c j ≤ 100) (hq : QIn 5 q) : CallP E 75 [cv c, qv q] h (fun r h' => r = cv (after c q) ∧ Grows h h') := by
  have hq' := qin' (n := 5) hq
  have n1 : ∀ o, (h.lay o).next = h.next + 1 := fun o => Hp.next_lay _ _
  unfold cv qv
  refine enter75 (by simp) ?_
  conv => whnf
  refine SeqP.cut (α := Unit) (fun _ => [(2, ptr h.next 0), (3, ptr (h.next + 1) 0), (4, ptr (h.next + 2) 0)]) (fun _ H => AM h q c H) ?_ ?_
  · conv => whnf
    refine ⟨(), ⟨rfl, congrArg (fun k => ptr k 0) (n1 _), congrArg (fun k => ptr k 0) (by simp only [Hp.next_lay]), trivial⟩, ⟨Hp.at_lay_old _ (Hp.at_lay_old _ (Hp.at_lay_self _ _)), Hp.at_lay_old _ (at_nx2 (n1 _) (Hp.at_lay_self _ _)), at_nx2 (by simp only [Hp.next_lay]) (Hp.at_lay_self _ _), ((Grows.lay _ _).then_lay _).then_lay _, hc⟩, rfl⟩
  rintro _ φ0 H0 m0
  have b1l : (bump c (q.a, -1)).length = 5 := by rw [bump_len, hc]
  have b2l : (bump (bump c (q.a, -1)) (q.b, -1)).length = 5 := by rw [bump_len, b1l]
  have b3l : (bump (bump (bump c (q.a, -1)) (q.b, -1)) (q.c, 1)).length = 5 := by rw [bump_len, b2l]
  have b4l : (after c q).length = 5 := by rw [after_len, hc]
  have g1 := gl_bd_bump (i := q.a) (x := -1) (by omega) hb (by omega)
  have g2 := gl_bd_bump (i := q.b) (x := -1) (by omega) g1 (by omega)
  have g3 := gl_bd_bump (i := q.c) (x := 1) (by omega) g2 (by omega)
  conv => whnf
  refine SeqP.cut (α := Unit) (fun _ => [(2, ptr h.next 0), (3, ptr (h.next + 1) 0), (4, ptr (h.next + 2) 0)]) (fun _ H => AM h q (bump c (q.a, -1)) H) ?_ ?_
  · have hx := hb q.a.toNat
    conv => whnf
    refine ⟨⟨by omega, by omega⟩, ?_⟩
    conv => whnf
    refine ⟨_, cellAt_row m0.qa rfl, ?_⟩
    conv => whnf
    refine ⟨⟨by omega, by omega⟩, ?_⟩
    conv => whnf
    refine ⟨_, m0.load hq'.1, ?_⟩
    conv => whnf
    refine ⟨gl c q.a.toNat + -1, wie (by omega) (by omega), ?_⟩
    conv => whnf
    refine ⟨⟨by omega, by omega⟩, ?_⟩
    conv => whnf
    refine ⟨rfl, _, m0.bump hq'.1 (-1), ?_⟩
    conv => whnf
    exact ⟨(), ⟨rfl, rfl, rfl, trivial⟩, m0.put _ b1l, rfl⟩
  rintro _ φ1 H1 m1
  have hexl : ∃ l, bump c (q.a, -1) = l := ⟨_, rfl⟩
  obtain ⟨l1, el1⟩ := hexl
  rw [el1] at m1 g1
  conv => whnf
  refine SeqP.cut (α := Unit) (fun _ => [(2, ptr h.next 0), (3, ptr (h.next + 1) 0), (4, ptr (h.next + 2) 0)]) (fun _ H => AM h q (bump l1 (q.b, -1)) H) ?_ ?_
  · have hx := g1 q.b.toNat
    conv => whnf
    refine ⟨⟨by omega, by omega⟩, ?_⟩
    conv => whnf
    refine ⟨_, cellAt_row m1.qa rfl, ?_⟩
    conv => whnf
    refine ⟨⟨by omega, by omega⟩, ?_⟩
    conv => whnf
    refine ⟨_, m1.load hq'.2.1, ?_⟩
    conv => whnf
    refine ⟨gl l1 q.b.toNat + -1, wie (by omega) (by omega), ?_⟩
    conv => whnf
    refine ⟨⟨by omega, by omega⟩, ?_⟩
    conv => whnf
    refine ⟨rfl, _, m1.bump hq'.2.1 (-1), ?_⟩
    conv => whnf
    exact ⟨(), ⟨rfl, rfl, rfl, trivial⟩, m1.put _ (by rw [← el1]; exact b2l), rfl⟩
  rintro _ φ2 H2 m2
  rw [el1] at b2l b3l g2 g3
  have hexl : ∃ l, bump l1 (q.b, -1) = l := ⟨_, rfl⟩
  obtain ⟨l2, el2⟩ := hexl
  rw [el2] at m2 g2 b2l b3l g3
  conv => whnf
  refine SeqP.cut (α := Unit) (fun _ => [(2, ptr h.next 0), (3, ptr (h.next + 1) 0), (4, ptr (h.next + 2) 0)]) (fun _ H => AM h q (bump l2 (q.c, 1)) H) ?_ ?_
  · have hx := g2 q.c.toNat
    conv => whnf
    refine ⟨⟨by omega, by omega⟩, ?_⟩
    conv => whnf
    refine ⟨_, cellAt_row m2.qa rfl, ?_⟩
    conv => whnf
    refine ⟨⟨by omega, by omega⟩, ?_⟩
    conv => whnf
    refine ⟨_, m2.load hq'.2.2.1, ?_⟩
    conv => whnf
    refine ⟨gl l2 q.c.toNat + 1, wie (by omega) (by omega), ?_⟩
    conv => whnf
    refine ⟨⟨by omega, by omega⟩, ?_⟩
    conv => whnf
    refine ⟨rfl, _, m2.bump hq'.2.2.1 1, ?_⟩
    conv => whnf
    exact ⟨(), ⟨rfl, rfl, rfl, trivial⟩, m2.put _ b3l, rfl⟩
  rintro _ φ3 H3 m3
  have hexl : ∃ l, bump l2 (q.c, 1) = l := ⟨_, rfl⟩
  obtain ⟨l3, el3⟩ := hexl
  rw [el3] at m3 b3l g3
  have eaf : after c q = bump l3 (q.d, 1) := by unfold after; rw [el1, el2, el3]
  rw [eaf] at b4l ⊢
  conv => whnf
  refine SeqP.cut (α := Unit) (fun _ => [(2, ptr h.next 0), (3, ptr (h.next + 1) 0), (4, ptr (h.next + 2) 0)]) (fun _ H => AM h q (bump l3 (q.d, 1)) H) ?_ ?_
  · have hx := g3 q.d.toNat
    conv => whnf
    refine ⟨⟨by omega, by omega⟩, ?_⟩
    conv => whnf
    refine ⟨_, cellAt_row m3.qa rfl, ?_⟩
    conv => whnf
    refine ⟨⟨by omega, by omega⟩, ?_⟩
    conv => whnf
    refine ⟨_, m3.load hq'.2.2.2, ?_⟩
    conv => whnf
    refine ⟨gl l3 q.d.toNat + 1, wie (by omega) (by omega), ?_⟩
    conv => whnf
    refine ⟨⟨by omega, by omega⟩, ?_⟩
    conv => whnf
    refine ⟨rfl, _, m3.bump hq'.2.2.2 1, ?_⟩
    conv => whnf
    exact ⟨(), ⟨rfl, rfl, rfl, trivial⟩, m3.put _ b4l, rfl⟩
  rintro _ φ4 H4 m4
  have hexl : ∃ l, bump l3 (q.d, 1) = l := ⟨_, rfl⟩
  obtain ⟨l4, el4⟩ := hexl
  rw [el4] at m4 b4l ⊢
  conv => whnf
  repeat (refine SeqP.go ?_; conv => whnf)
  refine ⟨l4.map int, all_cells m4.la (by rw [List.length_map, b4l]), ?_⟩
  conv => whnf
  refine ⟨by show (l4.map int).length = 5; rw [List.length_map, b4l], _, storeAt_full (vs := l4.map int) m4.za (by rw [List.length_map, b4l]; rfl) (ints_one _) (over_int (k := zero5) (by rw [b4l]; rfl)), ?_⟩
  conv => whnf
  repeat (refine SeqP.go ?_; conv => whnf)
  obtain ⟨i107, t107, ag107, sz107⟩ := ty107
  refine leave_cell (r := h.next + 2) (o := 0) (cs := l4.map int) rfl t107 ag107 ?_ ⟨rfl, m4.gr.then_set _ (by omega)⟩
  rw [sz107]
  exact all_cells (Hp.at_set_self _ (Hp.lt_of_at m4.za)) (by rw [List.length_map, b4l])
theorem allows_spec (c : List Int) (q : Q4) (h : Hp) (hc : c.length = 5) (hq : QIn 5 q) : CallP E 74 [cv c, qv q] h (fun r h' => (∃ b, r = .bool b ∧ BoolOf b (Allowed c q)) ∧ Grows h h') := by
  have hq' := qin' (n := 5) hq
  have n1 : ∀ o, (h.lay o).next = h.next + 1 := fun o => Hp.next_lay _ _
  have g0 : Grows h ((h.lay (.row 107 true (c.map int))).lay (.row 96 true (qcells q))) := (Grows.lay _ _).then_lay _
  have a0 : ((h.lay (.row 107 true (c.map int))).lay (.row 96 true (qcells q))).at h.next = some (.row 107 true (c.map int)) := Hp.at_lay_old _ (Hp.at_lay_self _ _)
  have a1 : ((h.lay (.row 107 true (c.map int))).lay (.row 96 true (qcells q))).at (h.lay (.row 107 true (c.map int))).next = some (.row 96 true (qcells q)) := Hp.at_lay_self _ _
  have ld : ∀ i : Int, 0 ≤ i ∧ i < 5 → cellAt ((h.lay (.row 107 true (c.map int))).lay (.row 96 true (qcells q))) h.next (offAt 0 i.toNat 1) = some (int (gl c i.toNat)) := fun i hi => by
    have := row_load a0 (i := i.toNat) (by omega)
    rw [offAt_eq]
    simpa using this
  unfold cv qv
  refine enter74 (by simp) ?_
  conv => whnf
  repeat (refine SeqP.go ?_; conv => whnf)
  refine ⟨⟨by omega, by omega⟩, ?_⟩
  conv => whnf
  refine ⟨_, cellAt_row a1 rfl, ?_⟩
  conv => whnf
  refine ⟨⟨by omega, by omega⟩, ?_⟩
  conv => whnf
  refine ⟨_, cellAt_row a1 rfl, ?_⟩
  conv => whnf
  repeat (refine SeqP.go ?_; conv => whnf)
  refine cmpB (fun c1 => ?_) (fun c1 => ?_)
  · conv => whnf
    repeat (refine SeqP.go ?_; conv => whnf)
    refine ⟨⟨by omega, by omega⟩, ?_⟩
    conv => whnf
    refine ⟨_, ld q.a hq'.1, ?_⟩
    conv => whnf
    refine cmpB (fun c2 => ?_) (fun c2 => ?_)
    · conv => whnf
      repeat (refine SeqP.go ?_; conv => whnf)
      exact finP_one rfl rfl ⟨⟨true, rfl, bo_yes (by unfold Allowed; rw [if_pos c1]; omega)⟩, g0⟩
    · conv => whnf
      repeat (refine SeqP.go ?_; conv => whnf)
      exact finP_one rfl rfl ⟨⟨false, rfl, bo_no (by unfold Allowed; rw [if_pos c1]; omega)⟩, g0⟩
  conv => whnf
  repeat (refine SeqP.go ?_; conv => whnf)
  refine ⟨⟨by omega, by omega⟩, ?_⟩
  conv => whnf
  refine ⟨_, ld q.a hq'.1, ?_⟩
  conv => whnf
  refine cmpB (fun c2 => ?_) (fun c2 => ?_)
  rotate_left
  · conv => whnf
    repeat (refine SeqP.go ?_; conv => whnf)
    exact finP_one rfl rfl ⟨⟨false, rfl, bo_no (by unfold Allowed; rw [if_neg c1]; omega)⟩, g0⟩
  conv => whnf
  refine ⟨⟨by omega, by omega⟩, ?_⟩
  conv => whnf
  refine ⟨_, ld q.b hq'.2.1, ?_⟩
  conv => whnf
  refine cmpB (fun c3 => ?_) (fun c3 => ?_)
  · conv => whnf
    repeat (refine SeqP.go ?_; conv => whnf)
    exact finP_one rfl rfl ⟨⟨true, rfl, bo_yes (by unfold Allowed; rw [if_neg c1]; omega)⟩, g0⟩
  · conv => whnf
    repeat (refine SeqP.go ?_; conv => whnf)
    exact finP_one rfl rfl ⟨⟨false, rfl, bo_no (by unfold Allowed; rw [if_neg c1]; omega)⟩, g0⟩
end
end Go.Proofs.Ytpiplaicnbapbaa
