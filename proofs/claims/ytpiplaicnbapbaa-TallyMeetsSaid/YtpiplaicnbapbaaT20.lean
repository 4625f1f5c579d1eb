/- Contracts of the functions that T22 comes to. -/
import Derived.Test.YtpiplaicnbapbaaT19
set_option maxRecDepth 100000
set_option maxHeartbeats 2000000
set_option linter.unusedVariables false
set_option linter.unusedSectionVars false
set_option linter.unusedSimpArgs false
namespace Go.Proofs.Ytpiplaicnbapbaa
open Go.Rx Go.RowKit
/-- Memory while the reference does a rule. -/
structure BM (h : Hp) (Q r : Nat) (x : Bool) (q : Q4) (l : List Int) (n : Nat) (H : Hp) : Prop where
  la : H.at r = some (.row 3 x (l.map int))
  qa : H.at Q = some (.row 96 true (qcells q))
  gr : Grows h H
  len : l.length = n
  hr : h.next ≤ r
  ne : Q ≠ r
theorem BM.put {h : Hp} {Q r : Nat} {x : Bool} {q : Q4} {l : List Int} {n : Nat} {H : Hp} (k : BM h Q r x q l n H) (l' : List Int) (hl : l'.length = n) : BM h Q r x q l' n (H.set r (.row 3 x (l'.map int))) :=
  ⟨Hp.at_set_self _ (Hp.lt_of_at k.la), by rw [Hp.at_set_ne _ k.ne]; exact k.qa, k.gr.then_set _ k.hr, hl, k.hr, k.ne⟩
theorem BM.bump {h : Hp} {Q r : Nat} {e : Bool} {q : Q4} {l : List Int} {n : Nat} {H : Hp} (k : BM h Q r e q l n H) {i : Int} (hi : 0 ≤ i ∧ i < n) (x : Int) : storeAt H r (offAt 0 i.toNat 1) [int (gl l i.toNat + x)] = some (H.set r (.row 3 e ((Ytpiplaicnbapbaa.bump l (i, x)).map int))) := by
  have := row_store k.la (i := i.toNat) (by rw [k.len]; omega) (gl l i.toNat + x)
  rw [offAt_eq]
  unfold Ytpiplaicnbapbaa.bump
  simpa using this
theorem BM.load {h : Hp} {Q r : Nat} {e : Bool} {q : Q4} {l : List Int} {n : Nat} {H : Hp} (k : BM h Q r e q l n H) {i : Int} (hi : 0 ≤ i ∧ i < n) : cellAt H r (offAt 0 i.toNat 1) = some (int (gl l i.toNat)) := by
  have := row_load k.la (i := i.toNat) (by rw [k.len]; omega)
  rw [offAt_eq]
  simpa using this
theorem BM.built {h : Hp} {Q r : Nat} {x : Bool} {q : Q4} {l : List Int} {n : Nat} {H : Hp} (k : BM h Q r x q l n H) : Built h H 3 (slc r 0 n n) l := .inr ⟨r, by rw [k.len], k.hr, x, k.la⟩
def RMeetR (p : Prot) (c : List Int) (i : Int) (w : Value) (h h' : Hp) (r : Value) : Prop := ∃ (wv : Value) (b : Bool), r = .tuple ⟨[wv, .bool b]⟩ ∧ (step p.rules c i = none → b = false ∧ wv = w) ∧ (∀ c', step p.rules c i = some c' → b = true ∧ Built h h' 3 wv c')
attribute [local irreducible] E idxN cellAt cellsAt storeAt callable helems hmoved lookIn findKey keyOk hentries Hp.at Hp.set Hp.lay arBits hupdated setAt CallP YieldP BoolOf IsWrap Rnd LoopP AppP CutP Int.tmod Int.tdiv Int.fdiv
section
variable [Unknowns]
attribute [local irreducible] ResP sameAt
theorem RMeet_spec (v w : Value) (p : Prot) (c : List Int) (i : Int) (n : Nat) (h : Hp) (hv : PV h v p) (hw : View h w c) (hP : POk p) (en : p.n = n) (hc : CrOk n c) : CallP E 38 [v, w, int i] h (fun r h' => RMeetR p c i w h h' r ∧ Grows h h') := by
  obtain ⟨bx, rfl, hbl, b0, -, -, ⟨a3, b3, k3⟩, -⟩ := hv.box
  obtain ⟨ac, cc, rfl⟩ := hw.known
  have hcl := hc.len
  have hn5 : n ≤ 5 := by have := hP.n5; omega
  have hn1 : 1 ≤ n := by have := hP.n1; omega
  have hrl := hP.rl
  have hqin := hP.qin
  rw [en] at hqin
  have g0 : Grows h (h.lay (.row 26 true bx)) := Grows.lay _ _
  have a0 : (h.lay (.row 26 true bx)).at h.next = some (.row 26 true bx) := Hp.at_lay_self _ _
  refine enter38 (by simp) ?_
  conv => whnf
  refine SeqP.go ?_
  conv => whnf
  refine SeqP.cut (α := Unit) (fun _ => [(3, ptr h.next 0), (2, int i), (1, .slice ac c.length cc)]) (fun _ H => H = h.lay (.row 26 true bx) ∧ 0 ≤ i ∧ i < p.rules.length) ?_ ?_
  · conv => whnf
    repeat (refine SeqP.go ?_; conv => whnf)
    refine cmpB (fun c2 => ?_) (fun c2 => ?_)
    · conv => whnf
      repeat (refine SeqP.go ?_; conv => whnf)
      exact ⟨⟨_, false, rfl, fun _ => ⟨rfl, rfl⟩, fun c' e => by rw [step_no (by omega)] at e; cases e⟩, g0⟩
    conv => whnf
    refine ⟨_, cellAt_row a0 b3, ?_⟩
    conv => whnf
    refine cmpB (fun c3 => ?_) (fun c3 => ?_)
    · conv => whnf
      repeat (refine SeqP.go ?_; conv => whnf)
      exact ⟨⟨_, false, rfl, fun _ => ⟨rfl, rfl⟩, fun c' e => by rw [step_no (by omega)] at e; cases e⟩, g0⟩
    · conv => whnf
      repeat (refine SeqP.go ?_; conv => whnf)
      exact ⟨(), ⟨rfl, rfl, rfl, trivial⟩, ⟨rfl, by omega, by omega⟩, rfl⟩
  rintro _ φ1 _ ⟨rfl, hi0, hi1⟩
  have hii : 0 ≤ i ∧ i < p.rules.length := ⟨hi0, hi1⟩
  have hil : i.toNat < p.rules.length := by omega
  have hkf := RV.cells (show RV (h.lay (.row 26 true bx)) _ p.rules from BuiltC.ext g0 k3)
  obtain ⟨a3', e3', hkf⟩ := hkf
  cases e3'
  have hkg := hkf i.toNat hil
  clear hkf
  obtain ⟨rr, ear, hkc⟩ := hkg
  subst ear
  have hqi := hqin i.toNat hil
  have hno := fun x => step_not (c := c) hii x
  have hyes := fun x => step_yes (c := c) hii x
  have hexq : ∃ q, p.rules[i.toNat] = q := ⟨_, rfl⟩
  obtain ⟨q, eq⟩ := hexq
  rw [eq] at hkc hqi hno hyes
  have hq' := qin' hqi
  have hexQ : ∃ Q, (h.lay (.row 26 true bx)).next = Q ∧ h.next < Q := ⟨_, rfl, by rw [Hp.next_lay]; omega⟩
  obtain ⟨Q, eQ, hQ⟩ := hexQ
  conv => whnf
  refine SeqP.cut (α := Unit) (fun _ => [(8, ptr Q 0), (1, .slice ac c.length cc)]) (fun _ H => H = (h.lay (.row 26 true bx)).lay (.row 96 true (qcells q))) ?_ ?_
  · conv => whnf
    refine ⟨_, cellAt_row a0 b3, ?_⟩
    conv => whnf
    refine ⟨rfl, ⟨by omega, by omega⟩, ?_⟩
    conv => whnf
    refine ⟨[int q.a, int q.b, int q.c, int q.d], by rw [offAt_eq]; simpa using hkc, ?_⟩
    conv => whnf
    refine ⟨rfl, _, storeAt_all (vs := [int q.a, int q.b, int q.c, int q.d]) rfl rfl rfl, ?_⟩
    conv => whnf
    exact ⟨(), ⟨congrArg (fun k => ptr k 0) eQ, rfl, trivial⟩, rfl, rfl⟩
  rintro _ φ2 H2 eH2
  have hQa : H2.at Q = some (.row 96 true (qcells q)) := by rw [eH2, ← eQ]; exact Hp.at_lay_self _ _
  have g2 : Grows h H2 := by rw [eH2]; exact g0.then_lay _
  clear eH2 eQ
  have hn2 : Q < H2.next := Hp.lt_of_at hQa
  conv => whnf
  refine SeqP.go ?_
  conv => whnf
  refine SeqP.cut (α := Nat × Bool) (fun s => [(9, slc s.1 0 n n), (8, ptr Q 0), (1, .slice ac c.length cc)]) (fun s H => BM h Q s.1 s.2 q c n H) ?_ ?_
  · conv => whnf
    refine AppP.ints (h0 := H2) (l := []) (new := c) (.inl ⟨rfl, rfl⟩) (Grows.refl _) (hw.ext g2).elems (by simp; omega) ?_
    intro v3 H3 hb3 hg3 _
    rw [List.nil_append] at hb3
    rcases hb3 with ⟨rfl, e⟩ | ⟨r, rfl, hr, x, hat⟩
    · rw [e] at hcl; simp at hcl; omega
    conv => whnf
    exact ⟨(r, x), ⟨by rw [← hcl]; rfl, rfl, rfl, trivial⟩, ⟨hat, hg3.at_ _ _ hQa, g2.trans hg3, hcl, by show h.next ≤ r; omega, by show Q ≠ r; omega⟩, rfl⟩
  rintro ⟨r, x⟩ φ3 H3 m0
  dsimp only at m0 ⊢
  have hb : ∀ j, -100 ≤ gl c j ∧ gl c j ≤ 100 := fun j => by
    have := hc.nn j
    have := hc.le j
    omega
  have hga := gl_bump2 (l := c) (j := q.a) (x := -1) (by omega)
  have b1l : (bump c (q.a, -1)).length = n := by rw [bump_len, hcl]
  have b2l : (bump (bump c (q.a, -1)) (q.b, -1)).length = n := by rw [bump_len, b1l]
  have hgb := gl_bump2 (l := bump c (q.a, -1)) (j := q.b) (x := -1) (by omega)
  have b3l : (bump (bump (bump c (q.a, -1)) (q.b, -1)) (q.c, 1)).length = n := by rw [bump_len, b2l]
  have b4l : (after c q).length = n := by rw [after_len, hcl]
  have g1 := gl_bd_bump (i := q.a) (x := -1) (by omega) hb (by omega)
  have g22 := gl_bd_bump (i := q.b) (x := -1) (by omega) g1 (by omega)
  have g3 := gl_bd_bump (i := q.c) (x := 1) (by omega) g22 (by omega)
  conv => whnf
  refine SeqP.cut (α := Unit) (fun _ => [(9, slc r 0 n n), (8, ptr Q 0), (1, .slice ac c.length cc)]) (fun _ H => BM h Q r x q (bump c (q.a, -1)) n H) ?_ ?_
  · have hx := hb q.a.toNat
    conv => whnf
    refine ⟨⟨by omega, by omega⟩, ?_⟩
    conv => whnf
    refine ⟨_, cellAt_row m0.qa rfl, ?_⟩
    conv => whnf
    refine ⟨rfl, ⟨by omega, by omega⟩, ?_⟩
    conv => whnf
    refine ⟨_, m0.load hq'.1, ?_⟩
    conv => whnf
    refine ⟨gl c q.a.toNat + -1, wie (by omega) (by omega), ?_⟩
    conv => whnf
    refine ⟨rfl, ⟨by omega, by omega⟩, ?_⟩
    conv => whnf
    refine ⟨rfl, _, m0.bump hq'.1 (-1), ?_⟩
    conv => whnf
    exact ⟨(), ⟨rfl, rfl, rfl, trivial⟩, m0.put _ (b1l), rfl⟩
  rintro _ φ_m1 H_m1 m1
  have hexl : ∃ l, bump c (q.a, -1) = l := ⟨_, rfl⟩
  obtain ⟨l1, el1⟩ := hexl
  rw [el1] at m1 g1 b1l hga hgb
  conv => whnf
  refine SeqP.cut (α := Unit) (fun _ => [(9, slc r 0 n n), (8, ptr Q 0), (1, .slice ac c.length cc)]) (fun _ H => BM h Q r x q (bump l1 (q.b, -1)) n H) ?_ ?_
  · have hx := g1 q.b.toNat
    conv => whnf
    refine ⟨⟨by omega, by omega⟩, ?_⟩
    conv => whnf
    refine ⟨_, cellAt_row m1.qa rfl, ?_⟩
    conv => whnf
    refine ⟨rfl, ⟨by omega, by omega⟩, ?_⟩
    conv => whnf
    refine ⟨_, m1.load hq'.2.1, ?_⟩
    conv => whnf
    refine ⟨gl l1 q.b.toNat + -1, wie (by omega) (by omega), ?_⟩
    conv => whnf
    refine ⟨rfl, ⟨by omega, by omega⟩, ?_⟩
    conv => whnf
    refine ⟨rfl, _, m1.bump hq'.2.1 (-1), ?_⟩
    conv => whnf
    exact ⟨(), ⟨rfl, rfl, rfl, trivial⟩, m1.put _ (by rw [← el1]; exact b2l), rfl⟩
  rintro _ φ_m2 H_m2 m2
  rw [el1] at b2l b3l g22 g3
  have hexl : ∃ l, bump l1 (q.b, -1) = l := ⟨_, rfl⟩
  obtain ⟨l2, el2⟩ := hexl
  rw [el2] at m2 g22 b2l b3l g3 hgb
  have hall : Allowed c q ↔ ¬ (gl l2 q.a.toNat < 0) ∧ ¬ (gl l2 q.b.toNat < 0) := by
    rw [hgb, hga, hgb, hga]
    unfold Allowed
    have i1 := ind_eq (rfl : q.a.toNat = q.a.toNat)
    have i2 := ind_eq (rfl : q.b.toNat = q.b.toNat)
    by_cases e : q.a = q.b
    · rw [if_pos e, e] at *
      omega
    · rw [if_neg e, ind_ne (show q.a.toNat ≠ q.b.toNat by omega), ind_ne (show q.b.toNat ≠ q.a.toNat by omega), i1, i2]
      omega
  conv => whnf
  refine SeqP.cut (α := Unit) (fun _ => [(9, slc r 0 n n), (8, ptr Q 0), (1, .slice ac c.length cc)]) (fun _ H => H_m2 = H ∧ Allowed c q) ?_ ?_
  · conv => whnf
    refine ⟨⟨by omega, by omega⟩, ?_⟩
    conv => whnf
    refine ⟨_, cellAt_row m2.qa rfl, ?_⟩
    conv => whnf
    refine ⟨rfl, ⟨by omega, by omega⟩, ?_⟩
    conv => whnf
    refine ⟨_, m2.load hq'.1, ?_⟩
    conv => whnf
    refine cmpB (fun c2 => ?_) (fun c2 => ?_)
    · have hna : ¬ Allowed c q := fun k => (hall.1 k).1 c2
      conv => whnf
      repeat (refine SeqP.go ?_; conv => whnf)
      exact ⟨⟨_, false, rfl, fun _ => ⟨rfl, rfl⟩, fun c' e => by rw [hno hna] at e; cases e⟩, m2.gr⟩
    conv => whnf
    refine ⟨⟨by omega, by omega⟩, ?_⟩
    conv => whnf
    refine ⟨_, cellAt_row m2.qa rfl, ?_⟩
    conv => whnf
    refine ⟨rfl, ⟨by omega, by omega⟩, ?_⟩
    conv => whnf
    refine ⟨_, m2.load hq'.2.1, ?_⟩
    conv => whnf
    refine cmpB (fun c3 => ?_) (fun c3 => ?_)
    · have hna : ¬ Allowed c q := fun k => (hall.1 k).2 c3
      conv => whnf
      repeat (refine SeqP.go ?_; conv => whnf)
      exact ⟨⟨_, false, rfl, fun _ => ⟨rfl, rfl⟩, fun c' e => by rw [hno hna] at e; cases e⟩, m2.gr⟩
    · conv => whnf
      repeat (refine SeqP.go ?_; conv => whnf)
      exact ⟨(), ⟨rfl, rfl, rfl, trivial⟩, ⟨rfl, hall.2 ⟨c2, c3⟩⟩, rfl⟩
  rintro _ φ8 _ ⟨rfl, hal⟩
  conv => whnf
  refine SeqP.cut (α := Unit) (fun _ => [(9, slc r 0 n n), (8, ptr Q 0), (1, .slice ac c.length cc)]) (fun _ H => BM h Q r x q (bump l2 (q.c, 1)) n H) ?_ ?_
  · have hx := g22 q.c.toNat
    conv => whnf
    refine ⟨⟨by omega, by omega⟩, ?_⟩
    conv => whnf
    refine ⟨_, cellAt_row m2.qa rfl, ?_⟩
    conv => whnf
    refine ⟨rfl, ⟨by omega, by omega⟩, ?_⟩
    conv => whnf
    refine ⟨_, m2.load hq'.2.2.1, ?_⟩
    conv => whnf
    refine ⟨gl l2 q.c.toNat + 1, wie (by omega) (by omega), ?_⟩
    conv => whnf
    refine ⟨rfl, ⟨by omega, by omega⟩, ?_⟩
    conv => whnf
    refine ⟨rfl, _, m2.bump hq'.2.2.1 (1), ?_⟩
    conv => whnf
    exact ⟨(), ⟨rfl, rfl, rfl, trivial⟩, m2.put _ (b3l), rfl⟩
  rintro _ φ_m3 H_m3 m3
  have hexl : ∃ l, bump l2 (q.c, 1) = l := ⟨_, rfl⟩
  obtain ⟨l3, el3⟩ := hexl
  rw [el3] at m3 b3l g3
  have eaf : after c q = bump l3 (q.d, 1) := by unfold after; rw [el1, el2, el3]
  have hyes := hyes hal
  rw [eaf] at b4l hyes
  conv => whnf
  refine SeqP.cut (α := Unit) (fun _ => [(9, slc r 0 n n), (8, ptr Q 0), (1, .slice ac c.length cc)]) (fun _ H => BM h Q r x q (bump l3 (q.d, 1)) n H) ?_ ?_
  · have hx := g3 q.d.toNat
    conv => whnf
    refine ⟨⟨by omega, by omega⟩, ?_⟩
    conv => whnf
    refine ⟨_, cellAt_row m3.qa rfl, ?_⟩
    conv => whnf
    refine ⟨rfl, ⟨by omega, by omega⟩, ?_⟩
    conv => whnf
    refine ⟨_, m3.load hq'.2.2.2, ?_⟩
    conv => whnf
    refine ⟨gl l3 q.d.toNat + 1, wie (by omega) (by omega), ?_⟩
    conv => whnf
    refine ⟨rfl, ⟨by omega, by omega⟩, ?_⟩
    conv => whnf
    refine ⟨rfl, _, m3.bump hq'.2.2.2 (1), ?_⟩
    conv => whnf
    exact ⟨(), ⟨rfl, rfl, rfl, trivial⟩, m3.put _ (b4l), rfl⟩
  rintro _ φ_m4 H_m4 m4
  conv => whnf
  repeat (refine SeqP.go ?_; conv => whnf)
  exact ⟨⟨_, true, rfl, fun e => (by rw [hyes] at e; cases e), fun c' e => by rw [hyes] at e; cases e; exact ⟨rfl, m4.built⟩⟩, m4.gr⟩
end
end Go.Proofs.Ytpiplaicnbapbaa
