/- Contracts of the functions that PAnE comes to. -/
import Derived.Test.YtpiplaicnbapbaaPAnD
set_option maxRecDepth 100000
set_option maxHeartbeats 2000000
set_option linter.unusedVariables false
set_option linter.unusedSectionVars false
set_option linter.unusedSimpArgs false
namespace Go.Proofs.Ytpiplaicnbapbaa
open Go.Rx Go.RowKit
def AnsR (p : Prot) (n : Nat) (q : Quest) (h' : Hp) (r : Value) : Prop := ∃ (w : Value) (b : Bool), r = .tuple ⟨[w, .bool b, int 0]⟩ ∧ (b = true → w = .slice none 0 0 ∧ ∀ k, Cnt k p.start.length → Solves p n q k) ∧ (b = false → ∃ k, View h' w k ∧ Cnt k p.start.length ∧ ¬ Solves p n q k)
theorem crs_pad {n : Nat} (hn : n ≤ 5) {start kinds : List Int} (hs : ∀ x ∈ start, 0 ≤ x ∧ x ≤ (n : Int) - 1) : ∀ k, k ≤ start.length → k ≤ kinds.length → crs 5 start kinds k = pad5 (crs n start kinds k)
  | 0, _, _ => by
    rw [crs_zero, crs_zero]
    unfold pad5
    rw [List.length_replicate, List.replicate_append_replicate]
    congr 1
    omega
  | k + 1, h1, h2 => by
    have ih := crs_pad hn (kinds := kinds) hs k (by omega) (by omega)
    have hx := hs start[k] (List.getElem_mem _)
    rw [crs_succ 5 (start := start) (kinds := kinds) (by omega) (by omega), crs_succ n (start := start) (kinds := kinds) (by omega) (by omega), ih, bump_pad (by rw [crs_len]; show start[k].toNat < n; omega)]
attribute [local irreducible] E idxN cellAt cellsAt storeAt callable helems hmoved lookIn findKey keyOk hentries Hp.at Hp.set Hp.lay arBits hupdated setAt CallP YieldP BoolOf IsWrap Rnd LoopP AppP CutP Int.tmod Int.tdiv Int.fdiv
section
variable [Unknowns]
attribute [local irreducible] ResP sameAt
theorem Answers_ok (hPR : PReachedOk) (v u : Value) (p : Prot) (q : Quest) (n : Nat) (h : Hp) (hv : PV h v p) (hq : QV h u q) (hP : POk p) (en : p.n = n) (hQ : QOk q) (hqs : q.a.length = p.start.length) : CallP E 22 [v, u] h (fun r h' => AnsR p n q h' r ∧ Grows h h') := by
  obtain ⟨bp, rfl, hbl, b0, -, ⟨a2, b2, k2⟩, -⟩ := hv.box
  obtain ⟨bq, rfl, hbq, ⟨aq, q0, kq⟩, -⟩ := hq.box
  have hst1 := hP.st1
  have hst2 := hP.st2
  have hol := hP.outl
  have hn5 := hP.n5
  have hn1 := hP.n1
  have hrl := hP.rl
  have g0 : Grows h ((h.lay (.row 25 true bp)).lay (.row 36 true bq)) := (Grows.lay _ _).then_lay _
  have a0 : ((h.lay (.row 25 true bp)).lay (.row 36 true bq)).at h.next = some (.row 25 true bp) := Hp.at_lay_old _ (Hp.at_lay_self _ _)
  have a1 : ((h.lay (.row 25 true bp)).lay (.row 36 true bq)).at (h.lay (.row 25 true bp)).next = some (.row 36 true bq) := Hp.at_lay_self _ _
  refine enter22 (by simp) ?_
  conv => whnf
  refine SeqP.go ?_
  conv => whnf
  refine SeqP.cut (α := Hp) (fun s => [(3, ptr (h.lay (.row 25 true bp)).next 0), (2, ptr h.next 0)]) (fun s H => s = H ∧ Grows ((h.lay (.row 25 true bp)).lay (.row 36 true bq)) s) ?_ ?_
  · conv => whnf
    repeat (refine SeqP.go ?_; conv => whnf)
    refine ⟨bp, all_cells a0 hbl, ?_⟩
    conv => whnf
    refine CallP.mono (check_spec _ p _ (hv.ext g0) (by unfold InR; omega) (by omega) (by omega) (by omega)) ?_
    rintro r1 H1 ⟨⟨e, rfl, e1, e2⟩, g1⟩
    have ee := e1 hP
    subst ee
    conv => whnf
    repeat (refine SeqP.go ?_; conv => whnf)
    refine cmpF (by omega) ?_
    conv => whnf
    repeat (refine SeqP.go ?_; conv => whnf)
    exact ⟨H1, ⟨rfl, rfl, trivial⟩, ⟨rfl, g1⟩, rfl⟩
  rintro H1 φ1 _ ⟨rfl, g1⟩
  conv => whnf
  refine SeqP.cut (α := Hp) (fun s => [(3, ptr (h.lay (.row 25 true bp)).next 0), (2, ptr h.next 0)]) (fun s H => s = H ∧ Grows ((h.lay (.row 25 true bp)).lay (.row 36 true bq)) s) ?_ ?_
  · conv => whnf
    refine ⟨bq, all_cells (g1.at_ _ _ a1) hbq, ?_⟩
    conv => whnf
    refine CallP.mono (isQuestion_spec _ q _ (hq.ext (g0.trans g1)) (by omega)) ?_
    rintro r2 H2 ⟨⟨b, rfl, hb⟩, g2⟩
    have eb : b = true := hb.of_t hQ
    subst eb
    have g12 := g1.trans g2
    conv => whnf
    refine ⟨_, cellAt_row (g12.at_ _ _ a1) q0, ?_⟩
    conv => whnf
    refine ⟨_, cellAt_row (g12.at_ _ _ a0) b2, ?_⟩
    conv => whnf
    refine cmpF (by omega) ?_
    conv => whnf
    repeat (refine SeqP.go ?_; conv => whnf)
    exact ⟨H2, ⟨rfl, rfl, trivial⟩, ⟨rfl, g12⟩, rfl⟩
  rintro H2 φ2 _ ⟨rfl, g2⟩
  conv => whnf
  refine SeqP.cut (α := Unit) (fun _ => []) (fun _ H => Grows h H ∧ ∀ k, Cnt k p.start.length → Solves p n q k) ?_ ?_
  rotate_left
  · rintro _ φ9 H9 ⟨g9, hall⟩
    conv => whnf
    repeat (refine SeqP.go ?_; conv => whnf)
    exact ⟨⟨_, true, rfl, fun _ => ⟨rfl, hall⟩, fun e => (by cases e)⟩, g9⟩
  conv => whnf
  repeat (refine SeqP.go ?_; conv => whnf)
  refine ⟨_, cellAt_row (g2.at_ _ _ a0) b2, ?_⟩
  conv => whnf
  refine CallP.mono (allKinds_spec p.start.length (by omega) _) ?_
  rintro r3 H3 ⟨⟨us, K, hb, hl, hK⟩, g3⟩
  have hsl := builtM_sl hb
  obtain ⟨ak, ck, rfl, hKc⟩ := hsl
  conv => whnf
  refine loop_inv (α := Nat × Hp) (fun s => [(33, int s.1), (32, int K.length), (31, .slice ak K.length ck), (3, ptr (h.lay (.row 25 true bp)).next 0), (2, ptr h.next 0)]) (fun s => s.2) (fun s => s.1 ≤ K.length ∧ Grows H3 s.2 ∧ ∀ j, (hj : j < K.length) → j < s.1 → Solves p n q K[j]) (fun s => K.length - s.1) (0, H3) ⟨Nat.zero_le _, .refl _, fun j hj hj0 => absurd hj0 (Nat.not_lt_zero _)⟩ ⟨rfl, rfl, rfl, rfl, rfl, trivial⟩ (Hp.Le.refl _) ?_
  rintro ⟨i, H⟩ φ3 ⟨hi, hg, hdone⟩
  dsimp only at hi hg hdone ⊢
  have gB := (g2.trans g3).trans hg
  have gA := g0.trans gB
  conv => whnf
  repeat (refine SeqP.go ?_; conv => whnf)
  refine cmpB (fun c1 => ?_) (fun c1 => ?_)
  rotate_left
  · conv => whnf
    repeat (refine SeqP.go ?_; conv => whnf)
    refine ⟨(), trivial, ⟨gA, fun k hk => ?_⟩, rfl⟩
    obtain ⟨j, hj, e⟩ := List.getElem_of_mem ((hK k).2 hk)
    rw [← e]
    exact hdone j hj (by omega)
  have hil : i < K.length := by omega
  have hci := hKc i hil
  obtain ⟨r5, o5, sp5, w5, ea5, hsp5, hc5, hv5⟩ := hci
  subst ea5
  have hC : Cnt K[i] p.start.length := (hK _).1 (List.getElem_mem _)
  have hexd : ∃ d, K[i] = d := ⟨_, rfl⟩
  obtain ⟨d, ed⟩ := hexd
  rw [ed] at hv5 hC
  have hkk := hv5.known
  obtain ⟨a5, c5, rfl⟩ := hkk
  have hc5 := hg.cell hc5
  have hv5 := hv5.ext hg
  have hdl : d.length = p.start.length := by have := hC.1; omega
  have hst := hP.sts
  rw [en] at hst
  have hn5' : n ≤ 5 := by omega
  have hcr : CrOk n (crs n p.start d d.length) := crs_ok hst hC
  have hpad := crs_pad hn5' (kinds := d) hst d.length (by omega) (Nat.le_refl _)
  conv => whnf
  refine SeqP.go ?_
  conv => whnf
  refine SeqP.cut (α := Hp) (fun s => [(33, int i), (32, int K.length), (31, .slice (some ⟨r5, o5, sp5⟩) K.length ck), (3, ptr (h.lay (.row 25 true bp)).next 0), (2, ptr h.next 0)]) (fun s H' => s = H' ∧ Grows H s ∧ Solves p n q d) ?_ ?_
  rotate_left
  · rintro H4 φ4 _ ⟨rfl, g4, hy⟩
    conv => whnf
    refine ⟨((i + 1 : Nat) : Int), wie (by omega) (by omega), ?_⟩
    conv => whnf
    refine Rnd.mk (i + 1, H4) ⟨by show i + 1 ≤ _; omega, hg.trans g4, fun j hj hj1 => ?_⟩ (by show _ - (i + 1) < _ - i; omega) ⟨rfl, rfl, rfl, rfl, rfl, trivial⟩ (Hp.Le.refl _) rfl
    by_cases e3 : j = i
    · subst e3
      rw [ed]
      exact hy
    · exact hdone j hj (by have : j < i + 1 := hj1; omega)
  conv => whnf
  refine SeqP.cut (α := Unit) (fun s => [(9, .slice a5 d.length c5), (33, int i), (32, int K.length), (31, .slice (some ⟨r5, o5, sp5⟩) K.length ck), (3, ptr (h.lay (.row 25 true bp)).next 0), (2, ptr h.next 0)]) (fun s H' => H = H') ?_ ?_
  · conv => whnf
    refine ⟨hsp5, ⟨by omega, by omega⟩, ?_⟩
    conv => whnf
    refine ⟨.slice a5 d.length c5, by rw [offAt_eq, Nat.add_comm]; simpa using hc5, ?_⟩
    conv => whnf
    exact ⟨(), ⟨rfl, rfl, rfl, rfl, rfl, rfl, trivial⟩, rfl, rfl⟩
  rintro _ φ5 _ rfl
  conv => whnf
  refine SeqP.go ?_
  conv => whnf
  refine SeqP.cut (α := Int × Hp) (fun s => [(10, int s.1), (9, .slice a5 d.length c5), (33, int i), (32, int K.length), (31, .slice (some ⟨r5, o5, sp5⟩) K.length ck), (3, ptr (h.lay (.row 25 true bp)).next 0), (2, ptr h.next 0)]) (fun s H' => s.2 = H' ∧ Grows H s.2 ∧ Want q d s.1) ?_ ?_
  · conv => whnf
    refine ⟨bq, all_cells (gB.at_ _ _ a1) hbq, ?_⟩
    conv => whnf
    refine CallP.mono (isTrue_spec _ _ q d _ (hq.ext gA) hv5.ints hQ (by omega) hC.2.1) ?_
    rintro r6 H6 ⟨⟨b, rfl, hb6⟩, g6⟩
    cases b with
    | true =>
      conv => whnf
      repeat (refine SeqP.go ?_; conv => whnf)
      exact ⟨(1, H6), ⟨rfl, rfl, rfl, rfl, rfl, rfl, rfl, trivial⟩, ⟨rfl, g6, fun _ => rfl, fun k => absurd hb6.t k⟩, rfl⟩
    | false =>
      conv => whnf
      repeat (refine SeqP.go ?_; conv => whnf)
      exact ⟨(0, H6), ⟨rfl, rfl, rfl, rfl, rfl, rfl, rfl, trivial⟩, ⟨rfl, g6, fun k => absurd k hb6.f, fun _ => rfl⟩, rfl⟩
  rintro ⟨on, H6⟩ φ6 _ ⟨rfl, g6, hwant⟩
  dsimp only at g6 hwant ⊢
  have gB6 := gB.trans g6
  have gA6 := g0.trans gB6
  have a06 := gB6.at_ _ _ a0
  have hv56 := hv5.ext g6
  have ld : ∀ H', Grows H6 H' → hval H' (aggOf (cellsAt H' h.next 0 4)) = .val (.agg ⟨bp⟩) H' := fun H' g => by
    rw [all_cells (g.at_ _ _ a06) hbl]
    rfl
  conv => whnf
  repeat (refine SeqP.go ?_; conv => whnf)
  refine ⟨bp, all_cells a06 hbl, ?_⟩
  conv => whnf
  refine ⟨bp, all_cells a06 hbl, ?_⟩
  conv => whnf
  refine ⟨bp, all_cells a06 hbl, ?_⟩
  conv => whnf
  refine CallP.mono (ofKinds_spec _ _ p d _ (hv.ext gA6) hv56.ints hP hdl hC.2.1) ?_
  rintro r7 H7 ⟨rfl, g7⟩
  rw [hpad]
  conv => whnf
  refine CallP.mono (hPR _ p n _ _ (hv.ext (gA6.trans g7)) hP en hcr) ?_
  rintro r8 H8 ⟨⟨bx, L, B, rfl, hx⟩, g8⟩
  have g78 := g7.trans g8
  conv => whnf
  refine CallP.mono (decidesAs_spec _ p bx on n _ L B _ (hv.ext (gA6.trans g78)) hP en hx) ?_
  rintro r9 H9 ⟨⟨b, rfl, hb9⟩, g9⟩
  have g79 := g78.trans g9
  conv => whnf
  refine ⟨?_, ?_⟩
  · repeat' (first | exact True.intro | (refine And.intro ?_ ?_ <;> (conv => whnf)))
    all_goals first
      | exact sameAt_val (h2 := _) rfl (sameV_int _)
      | exact sameAt_val (h2 := _) (ld _ (Grows.refl _)) hv.same
      | exact sameAt_val (h2 := _) (ld _ g7) hv.same
      | exact sameAt_val (h2 := _) (ld _ g78) hv.same
      | exact sameAt_val (h2 := _) (ld _ g79) hv.same
      | trace_state
  cases b with
  | true =>
    conv => whnf
    repeat (refine SeqP.go ?_; conv => whnf)
    exact ⟨H9, ⟨rfl, rfl, rfl, rfl, rfl, trivial⟩, ⟨rfl, g6.trans g79, fun o ho => by rw [want_uniq ho hwant]; exact hb9.t⟩, rfl⟩
  | false =>
    conv => whnf
    repeat (refine SeqP.go ?_; conv => whnf)
    exact ⟨⟨_, false, rfl, fun e => (by cases e), fun _ => ⟨d, hv56.ext g79, hC, fun k => hb9.f (k on hwant)⟩⟩, gA6.trans g79⟩
end
end Go.Proofs.Ytpiplaicnbapbaa
namespace Go.Proofs.Ytpiplaicnbapbaa
open Go.Rx Go.RowKit
attribute [local irreducible] E idxN cellAt cellsAt storeAt callable helems hmoved lookIn findKey keyOk hentries Hp.at Hp.set Hp.lay arBits hupdated setAt CallP YieldP BoolOf IsWrap Rnd LoopP AppP CutP Int.tmod Int.tdiv Int.fdiv
section
variable [Unknowns]
attribute [local irreducible] ResP sameAt
theorem Answers_bad (v u : Value) (p : Prot) (q : Quest) (h : Hp) (hv : PV h v p) (hq : QV h u q) (hP : POk p) (hql : q.a.length ≤ 1000000) (hbad : ¬ (QOk q ∧ q.a.length = p.start.length)) : CallP E 22 [v, u] h (fun r h' => r = .tuple ⟨[.slice none 0 0, .bool false, int 1]⟩ ∧ Grows h h') := by
  obtain ⟨bp, rfl, hbl, b0, -, ⟨a2, b2, k2⟩, -⟩ := hv.box
  obtain ⟨bq, rfl, hbq, ⟨aq, q0, kq⟩, -⟩ := hq.box
  have hst1 := hP.st1
  have hst2 := hP.st2
  have hol := hP.outl
  have hn5 := hP.n5
  have hn1 := hP.n1
  have hrl := hP.rl
  have g0 : Grows h ((h.lay (.row 25 true bp)).lay (.row 36 true bq)) := (Grows.lay _ _).then_lay _
  have a0 : ((h.lay (.row 25 true bp)).lay (.row 36 true bq)).at h.next = some (.row 25 true bp) := Hp.at_lay_old _ (Hp.at_lay_self _ _)
  have a1 : ((h.lay (.row 25 true bp)).lay (.row 36 true bq)).at (h.lay (.row 25 true bp)).next = some (.row 36 true bq) := Hp.at_lay_self _ _
  refine enter22 (by simp) ?_
  conv => whnf
  refine SeqP.go ?_
  conv => whnf
  refine SeqP.cut (α := Hp) (fun s => [(3, ptr (h.lay (.row 25 true bp)).next 0), (2, ptr h.next 0)]) (fun s H => s = H ∧ Grows ((h.lay (.row 25 true bp)).lay (.row 36 true bq)) s) ?_ ?_
  · conv => whnf
    repeat (refine SeqP.go ?_; conv => whnf)
    refine ⟨bp, all_cells a0 hbl, ?_⟩
    conv => whnf
    refine CallP.mono (check_spec _ p _ (hv.ext g0) (by unfold InR; omega) (by omega) (by omega) (by omega)) ?_
    rintro r1 H1 ⟨⟨e, rfl, e1, e2⟩, g1⟩
    have ee := e1 hP
    subst ee
    conv => whnf
    repeat (refine SeqP.go ?_; conv => whnf)
    refine cmpF (by omega) ?_
    conv => whnf
    repeat (refine SeqP.go ?_; conv => whnf)
    exact ⟨H1, ⟨rfl, rfl, trivial⟩, ⟨rfl, g1⟩, rfl⟩
  rintro H1 φ1 _ ⟨rfl, g1⟩
  conv => whnf
  refine SeqP.go ?_
  conv => whnf
  refine SeqP.cut (α := Hp) (fun s => [(27, .bool true)]) (fun s H => s = H ∧ Grows h s) ?_ ?_
  · conv => whnf
    refine ⟨bq, all_cells (g1.at_ _ _ a1) hbq, ?_⟩
    conv => whnf
    refine CallP.mono (isQuestion_spec _ q _ (hq.ext (g0.trans g1)) (by omega)) ?_
    rintro r2 H2 ⟨⟨b, rfl, hb⟩, g2⟩
    have g12 := g1.trans g2
    cases b with
    | false =>
      conv => whnf
      exact ⟨H2, ⟨rfl, trivial⟩, ⟨rfl, g0.trans g12⟩, rfl⟩
    | true =>
      have hQ := hb.t
      have hne : ¬ q.a.length = p.start.length := fun e => hbad ⟨hQ, e⟩
      conv => whnf
      refine ⟨_, cellAt_row (g12.at_ _ _ a1) q0, ?_⟩
      conv => whnf
      refine ⟨_, cellAt_row (g12.at_ _ _ a0) b2, ?_⟩
      conv => whnf
      refine cmpT (by omega) ?_
      conv => whnf
      exact ⟨H2, ⟨rfl, trivial⟩, ⟨rfl, g0.trans g12⟩, rfl⟩
  rintro H2 φ2 _ ⟨rfl, g2⟩
  conv => whnf
  repeat (refine SeqP.go ?_; conv => whnf)
  exact ⟨rfl, g2⟩
theorem ones_spec (n : Nat) (hn : n ≤ 100) (h : Hp) : CallP E 50 [int n] h (fun r h' => Built h h' 3 r (List.replicate n 1) ∧ Grows h h') := by
  refine enter50 (by simp) ?_
  conv => whnf
  refine SeqP.go ?_
  conv => whnf
  refine SeqP.go ?_
  conv => whnf
  refine SeqP.cut (α := Value × Hp) (fun s => [(3, s.1)]) (fun s H => s.2 = H ∧ Grows h s.2 ∧ Built h s.2 3 s.1 (List.replicate n 1)) ?_ ?_
  rotate_left
  · rintro ⟨v, H⟩ φ _ ⟨rfl, g, b⟩
    dsimp only at g b ⊢
    have hkk := (LV.of b).known
    obtain ⟨a, rfl⟩ := hkk
    conv => whnf
    repeat (refine SeqP.go ?_; conv => whnf)
    exact ⟨b, g⟩
  conv => whnf
  repeat (refine SeqP.go ?_; conv => whnf)
  refine loop_inv (α := Nat × Value × Hp) (fun s => [(4, int s.1), (3, s.2.1), (0, int n)]) (fun s => s.2.2) (fun s => s.1 ≤ n ∧ Grows h s.2.2 ∧ Built h s.2.2 3 s.2.1 (List.replicate s.1 1)) (fun s => n - s.1) (0, .slice none 0 0, h) ⟨Nat.zero_le _, .refl _, .inl ⟨rfl, rfl⟩⟩ ⟨rfl, rfl, rfl, trivial⟩ (Hp.Le.refl _) ?_
  rintro ⟨i, v, H⟩ φ ⟨hi, g, b⟩
  dsimp only at hi g b ⊢
  conv => whnf
  repeat (refine SeqP.go ?_; conv => whnf)
  refine cmpB (fun c1 => ?_) (fun c1 => ?_)
  rotate_left
  · have : i = n := by omega
    subst this
    conv => whnf
    repeat (refine SeqP.go ?_; conv => whnf)
    exact ⟨(v, H), ⟨rfl, trivial⟩, ⟨rfl, g, b⟩, rfl⟩
  conv => whnf
  repeat (refine SeqP.go ?_; conv => whnf)
  refine AppP.ints (new := [1]) (b.ext (Grows.lay _ _)) (g.then_lay _) Elems.lay1 (by simp; omega) ?_
  intro v4 H4 hv4 hg4 _
  conv => whnf
  repeat (refine SeqP.go ?_; conv => whnf)
  refine ⟨((i + 1 : Nat) : Int), wie (by omega) (by omega), ?_⟩
  conv => whnf
  exact Rnd.mk (i + 1, v4, H4) ⟨by show i + 1 ≤ n; omega, hg4, by rw [List.replicate_succ']; exact hv4⟩ (by show n - (i + 1) < n - i; omega) ⟨rfl, rfl, rfl, trivial⟩ (Hp.Le.refl _) rfl
end
end Go.Proofs.Ytpiplaicnbapbaa
namespace Go.Proofs.Ytpiplaicnbapbaa
open Go.Rx Go.RowKit
def AnsW (p : Prot) (n : Nat) (q : Quest) (h' : Hp) (w : Value) (b : Bool) : Prop := (b = true → w = .slice none 0 0 ∧ ∀ k, Cnt k p.start.length → Solves p n q k) ∧ (b = false → ∃ k, View h' w k ∧ Cnt k p.start.length ∧ ¬ Solves p n q k)
theorem sub_val {x y r : Int} {h : Hp} (e : x - y = r) (b : -9223372036854775808 ≤ r ∧ r < 9223372036854775808) : hval h (arK .i64 .sub x y) = .val (int r) h := by
  unfold arK
  dsimp only
  rw [e, wrapI_id b]
  rfl
attribute [local irreducible] E idxN cellAt cellsAt storeAt callable helems hmoved lookIn findKey keyOk hentries Hp.at Hp.set Hp.lay arBits hupdated setAt CallP YieldP BoolOf IsWrap Rnd LoopP AppP CutP Int.tmod Int.tdiv Int.fdiv
section
variable [Unknowns]
attribute [local irreducible] ResP sameAt
theorem answers_law (ts0 : List Tr) (hy0 : TyT Try.prog 25 ts0) (ts1 : List Tr) (hy1 : TyT Try.prog 36 ts1) : ∀ h vs, AllT h vs [.ag ts0, .ag ts1] → CallP E 8 vs h (fun r _ => r = .bool true) := by
  have hmax : maxLen < 9223372036854775808 := by decide
  intro h vs hvs
  match vs, hvs with
  | [a0, a1], hvs =>
  obtain ⟨k0, k1, -⟩ := hvs
  obtain ⟨P, pn, po, ps, pr, hP⟩ := prot_arg hy0
  obtain ⟨Q, qb, qm, qa, hQ⟩ := quest_arg hy1
  have hP := hP h a0 k0
  have hQ := hQ h a1 k1
  obtain ⟨bp, rfl, hbp⟩ := hP.box
  obtain ⟨va, rfl, hva⟩ := id hQ
  have hvk := hva.known
  obtain ⟨aq, cq, rfl⟩ := hvk
  have hexq : ∃ bq : List Value, bq = [.slice aq Q.a.length cq, int Q.b, int Q.m] := ⟨_, rfl⟩
  obtain ⟨bq, ebq⟩ := hexq
  have q0 : bq[0]? = some (.slice aq Q.a.length cq) := by rw [ebq]; rfl
  have hbq : bq.length = 3 := by rw [ebq]; rfl
  have hQv : QI h (.agg ⟨bq⟩) Q := by rw [ebq]; exact hQ
  rw [← ebq]
  clear ebq
  have g0 : Grows h ((h.lay (.row 25 true bp)).lay (.row 36 true bq)) := (Grows.lay _ _).then_lay _
  have x0 : ((h.lay (.row 25 true bp)).lay (.row 36 true bq)).at h.next = some (.row 25 true bp) := Hp.at_lay_old _ (Hp.at_lay_self _ _)
  have x1 : ((h.lay (.row 25 true bp)).lay (.row 36 true bq)).at (h.next + 1) = some (.row 36 true bq) := at_nx2 (Hp.next_lay _ _) (Hp.at_lay_self _ _)
  refine enter8 (by simp) ?_
  conv => whnf
  refine SeqP.go ?_
  conv => whnf
  refine SeqP.cut (α := Prot × List Value × Hp × Nat) (fun s => [(5, ptr s.2.2.2 0), (3, ptr (h.next + 1) 0)]) (fun s H => s.2.2.1 = H ∧ Grows h s.2.2.1 ∧ s.2.2.1.at s.2.2.2 = some (.row 26 true s.2.1) ∧ s.2.1.length = 4 ∧ PV s.2.2.1 (.agg ⟨s.2.1⟩) s.1 ∧ POk s.1 ∧ s.2.2.1.at (h.next + 1) = some (.row 36 true bq)) ?_ ?_
  · conv => whnf
    refine ⟨bp, all_cells x0 hbp, ?_⟩
    conv => whnf
    refine CallP.mono (tame_spec _ P _ (hP.ext g0) pn (by omega) (by omega) (by omega) 3 (by omega) (by omega)) ?_
    rintro r H2 ⟨⟨x, hx, hok, -⟩, g2⟩
    obtain ⟨v1, v2, v3, rfl, e1, e2, e3⟩ := id hx
    obtain ⟨w1, rfl⟩ := e1.known
    obtain ⟨w2, rfl⟩ := e2.known
    obtain ⟨w3, rfl, -⟩ := e3.slice
    unfold pval at hx ⊢
    conv => whnf
    refine ⟨rfl, _, storeAt_all (vs := [int x.n, .slice w1 x.out.length x.out.length, .slice w2 x.start.length x.start.length, .slice w3 x.rules.length x.rules.length]) rfl rfl rfl, ?_⟩
    conv => whnf
    exact ⟨(x, [int x.n, .slice w1 x.out.length x.out.length, .slice w2 x.start.length x.start.length, .slice w3 x.rules.length x.rules.length], _, H2.next), ⟨rfl, congrArg (fun k => ptr k 0) (Hp.next_lay _ _), trivial⟩, ⟨rfl, (g0.trans g2).then_lay _, Hp.at_lay_self _ _, rfl, hx.ext (Grows.lay _ _), hok, Hp.at_lay_old _ (g2.at_ _ _ x1)⟩, rfl⟩
  rintro ⟨x, b9, H2, X⟩ φ2 _ ⟨rfl, hg2, hX, hb9, hPV, hOk, hx1⟩
  dsimp only at hg2 hX hb9 hPV hOk hx1 ⊢
  obtain ⟨b9', eb9, -, y0, -, ⟨z2, y2, j2⟩, -⟩ := hPV.box
  cases eb9
  have hol := hOk.outl
  have hst1 := hOk.st1
  have hst2 := hOk.st2
  have hrl := hOk.rl
  have hexn : ∃ n : Nat, x.n = (n : Int) := ⟨x.n.toNat, by have := hOk.n1; omega⟩
  obtain ⟨n, en⟩ := hexn
  have hn5 : n ≤ 5 := by have := hOk.n5; omega
  have hn1 : 1 ≤ n := by have := hOk.n1; omega
  rw [en] at y0
  conv => whnf
  refine SeqP.cut (α := Quest × List Value × Hp × Nat) (fun s => [(6, ptr s.2.2.2 0), (5, ptr X 0)]) (fun s H => s.2.2.1 = H ∧ Grows H2 s.2.2.1 ∧ s.2.2.1.at s.2.2.2 = some (.row 69 true s.2.1) ∧ s.2.1.length = 3 ∧ QV s.2.2.1 (.agg ⟨s.2.1⟩) s.1 ∧ QOk s.1 ∧ s.1.a.length = x.start.length) ?_ ?_
  · conv => whnf
    refine ⟨_, all_cells hx1 hbq, ?_⟩
    conv => whnf
    refine ⟨_, cellAt_row hX y2, ?_⟩
    conv => whnf
    refine CallP.mono (question_spec _ Q _ (hQv.ext hg2) qb qm (by omega) x.start.length hst1 hst2) ?_
    rintro r9 H9 ⟨⟨q', hq', hok', hlen'⟩, g9⟩
    obtain ⟨va', rfl, kva'⟩ := hq'
    have kk := kva'.known
    obtain ⟨ar', rfl⟩ := kk
    conv => whnf
    refine ⟨rfl, _, storeAt_all (vs := [.slice ar' q'.a.length q'.a.length, int q'.b, int q'.m]) rfl rfl rfl, ?_⟩
    conv => whnf
    exact ⟨(q', [.slice ar' q'.a.length q'.a.length, int q'.b, int q'.m], _, H9.next), ⟨rfl, rfl, trivial⟩, ⟨rfl, g9.then_lay _, Hp.at_lay_self _ _, rfl, ⟨_, rfl, kva'.ext (Grows.lay _ _)⟩, hok', hlen'⟩, rfl⟩
  rintro ⟨q, bz, H3, Z⟩ φ3 _ ⟨rfl, hg3, hZ, hbz, hqv, hqok, hqs⟩
  dsimp only at hg3 hZ hbz hqv hqok hqs ⊢
  obtain ⟨bz', ebz, -, ⟨az, c0, kq⟩, c1, c2, -⟩ := hqv.box
  cases ebz
  have hql : q.a.length ≤ 2 := by omega
  have hX3 := hg3.at_ _ _ hX
  have hPV3 := hPV.ext hg3
  have okz : ∀ (H' : Hp) (i : Nat) (v : Value), Grows H3 H' → bz[i]? = some v → hval H' (cellAt H' Z i) = .val v H' := fun H' i v g e => by
    rw [cellAt_row (g.at_ _ _ hZ) e]
    rfl
  conv => whnf
  refine SeqP.cut (α := Value × Bool × Hp) (fun s => [(7, s.1), (8, .bool s.2.1), (9, int 0), (6, ptr Z 0), (5, ptr X 0)]) (fun s H => s.2.2 = H ∧ Grows H3 s.2.2 ∧ AnsW x n q s.2.2 s.1 s.2.1) ?_ ?_
  · conv => whnf
    refine ⟨b9, all_cells hX3 hb9, ?_⟩
    conv => whnf
    refine CallP.mono (given_spec _ x _ hPV3 (by omega) (by omega) (by omega)) ?_
    rintro r4 H4 ⟨hx4, g4⟩
    obtain ⟨bx4, rfl, -⟩ := hx4.box
    conv => whnf
    refine ⟨_, cellAt_row (g4.at_ _ _ hZ) c0, ?_⟩
    conv => whnf
    refine CallP.mono (few_spec _ q.a _ (kq.ext g4).view (by omega) 3 (by omega)) ?_
    rintro r5 H5 ⟨hb5, g5⟩
    have e3 : q.a.take 3 = q.a := List.take_of_length_le (by omega)
    rw [e3] at hb5
    have hb5k := (LV.of hb5).known
    obtain ⟨ar5, rfl⟩ := hb5k
    have g45 := g4.trans g5
    conv => whnf
    refine ⟨_, cellAt_row (g45.at_ _ _ hZ) c1, ?_⟩
    conv => whnf
    refine ⟨_, cellAt_row (g45.at_ _ _ hZ) c2, ?_⟩
    conv => whnf
    refine CallP.mono (Answers_ok PReached_ok _ _ x q n _ (hx4.ext g5) ⟨_, rfl, LV.of hb5⟩ hOk en hqok hqs) ?_
    rintro r6 H6 ⟨⟨w, b, rfl, hw1, hw2⟩, g6⟩
    have g46 := g45.trans g6
    have hwk : ∃ a m c, w = .slice a m c := by
      cases b with
      | true => exact ⟨_, _, _, (hw1 rfl).1⟩
      | false =>
        obtain ⟨k, hk, -⟩ := hw2 rfl
        obtain ⟨a, c, e⟩ := hk.known
        exact ⟨_, _, _, e⟩
    obtain ⟨aw, mw, cw, rfl⟩ := hwk
    conv => whnf
    refine ⟨?_, ?_⟩
    · repeat' (first | exact True.intro | (refine And.intro ?_ ?_ <;> (conv => whnf)))
      all_goals first
        | exact sameAt_val (h2 := _) rfl (sameV_ptr3 _ _)
        | exact sameAt_val (h2 := _) (okz _ 0 _ (Grows.refl _) c0) (sameV_slice _ _ _)
        | exact sameAt_val (h2 := _) (okz _ 0 _ g4 c0) (sameV_slice _ _ _)
        | exact sameAt_val (h2 := _) (okz _ 0 _ g45 c0) (sameV_slice _ _ _)
        | exact sameAt_val (h2 := _) (okz _ 0 _ g46 c0) (sameV_slice _ _ _)
        | exact sameAt_val (h2 := _) (okz _ 1 _ (Grows.refl _) c1) (sameV_int _)
        | exact sameAt_val (h2 := _) (okz _ 1 _ g4 c1) (sameV_int _)
        | exact sameAt_val (h2 := _) (okz _ 1 _ g45 c1) (sameV_int _)
        | exact sameAt_val (h2 := _) (okz _ 1 _ g46 c1) (sameV_int _)
        | exact sameAt_val (h2 := _) (okz _ 2 _ (Grows.refl _) c2) (sameV_int _)
        | exact sameAt_val (h2 := _) (okz _ 2 _ g4 c2) (sameV_int _)
        | exact sameAt_val (h2 := _) (okz _ 2 _ g45 c2) (sameV_int _)
        | exact sameAt_val (h2 := _) (okz _ 2 _ g46 c2) (sameV_int _)
        | trace_state
    conv => whnf
    exact ⟨(_, b, H6), ⟨rfl, rfl, rfl, rfl, rfl, trivial⟩, ⟨rfl, g46, hw1, hw2⟩, rfl⟩
  rintro ⟨w, b, H6⟩ φ4 _ ⟨rfl, hg6, hw⟩
  dsimp only at hg6 hw ⊢
  have hX6 := hg6.at_ _ _ hX3
  have hZ6 := hg6.at_ _ _ hZ
  have hPV6 := hPV3.ext hg6
  have hqv6 := hqv.ext hg6
  conv => whnf
  refine SeqP.cut (α := Hp) (fun s => [(6, ptr Z 0), (5, ptr X 0)]) (fun s H => s = H ∧ Grows H6 s) ?_ ?_
  · cases b with
    | true =>
      obtain ⟨rfl, hall⟩ := hw.1 rfl
      conv => whnf
      repeat (refine SeqP.go ?_; conv => whnf)
      refine cmpF (by omega) ?_
      conv => whnf
      refine ⟨b9, all_cells hX6 hb9, ?_⟩
      conv => whnf
      refine ⟨bz, all_cells hZ6 hbz, ?_⟩
      conv => whnf
      refine CallP.mono (RAnswers_spec RReached_ok _ _ x q n _ hPV6 hqv6 hOk en hqok hqs) ?_
      rintro r7 H7 ⟨⟨b7, rfl, hb7⟩, g7⟩
      have eb : b7 = true := hb7.of_t hall
      subst eb
      conv => whnf
      refine resP_val (v := .bool false) (h := H7) ?_ ?_
      · show hval _ (aBin E .neq 4 _ _ (.bool true) (.bool true)) = _
        rw [bool_neq]
        rfl
      conv => whnf
      refine cmpF (by omega) ?_
      conv => whnf
      repeat (refine SeqP.go ?_; conv => whnf)
      exact ⟨H7, ⟨rfl, rfl, trivial⟩, ⟨rfl, g7⟩, rfl⟩
    | false =>
      obtain ⟨k, hk, hC, hno⟩ := hw.2 rfl
      have hkk := hk.known
      obtain ⟨ak, ck, rfl⟩ := hkk
      have hkl : k.length ≤ 2 := by have := hC.1; omega
      conv => whnf
      repeat (refine SeqP.go ?_; conv => whnf)
      refine cmpF (by omega) ?_
      conv => whnf
      refine ⟨b9, all_cells hX6 hb9, ?_⟩
      conv => whnf
      refine ⟨bz, all_cells hZ6 hbz, ?_⟩
      conv => whnf
      refine CallP.mono (RAnswers_spec RReached_ok _ _ x q n _ hPV6 hqv6 hOk en hqok hqs) ?_
      rintro r7 H7 ⟨⟨b7, rfl, hb7⟩, g7⟩
      have eb : b7 = false := hb7.of_f fun hall => hno (hall k hC)
      subst eb
      conv => whnf
      refine resP_val (v := .bool false) (h := H7) ?_ ?_
      · show hval _ (aBin E .neq 4 _ _ (.bool false) (.bool false)) = _
        rw [bool_neq]
        rfl
      conv => whnf
      refine ⟨_, cellAt_row (g7.at_ _ _ hX6) y2, ?_⟩
      conv => whnf
      refine CallP.mono (crowded_spec _ k x.start.length _ (hk.ext g7).ints (by omega)) ?_
      rintro r8 H8 ⟨⟨b8, rfl, hb8⟩, rfl⟩
      have eb : b8 = true := hb8.of_t hC
      subst eb
      conv => whnf
      refine ⟨b9, all_cells (g7.at_ _ _ hX6) hb9, ?_⟩
      conv => whnf
      refine ⟨bz, all_cells (g7.at_ _ _ hZ6) hbz, ?_⟩
      conv => whnf
      refine CallP.mono (RRight_spec RReached_ok _ _ _ x q k n _ (hPV6.ext g7) (hqv6.ext g7) (hk.ext g7).ints hOk en hqok hqs hC) ?_
      rintro r9 H9 ⟨⟨b10, rfl, hb10⟩, g9⟩
      have eb : b10 = false := by
        obtain ⟨on, hon⟩ := want_ex q k
        refine (hb10 on hon).of_f fun hd => hno fun on' ho' => ?_
        rw [want_uniq ho' hon]
        exact hd
      subst eb
      conv => whnf
      repeat (refine SeqP.go ?_; conv => whnf)
      exact ⟨H9, ⟨rfl, rfl, trivial⟩, ⟨rfl, g7.trans g9⟩, rfl⟩
  rintro H7 φ5 _ ⟨rfl, hg7⟩
  have hX7 := hg7.at_ _ _ hX6
  have hZ7 := hg7.at_ _ _ hZ6
  have hPV7 := hPV6.ext hg7
  have hg37 := hg6.trans hg7
  have okx : ∀ (H' : Hp) (i : Nat) (v : Value), Grows H7 H' → b9[i]? = some v → hval H' (cellAt H' X i) = .val v H' := fun H' i v g e => by
    rw [cellAt_row (g.at_ _ _ hX7) e]
    rfl
  conv => whnf
  refine SeqP.cut (α := Hp) (fun s => [(11, .bool false), (12, int 1), (6, ptr Z 0), (5, ptr X 0)]) (fun s H => s = H ∧ Grows H7 s) ?_ ?_
  · conv => whnf
    refine ⟨b9, all_cells hX7 hb9, ?_⟩
    conv => whnf
    refine CallP.mono (given_spec _ x _ hPV7 (by omega) (by omega) (by omega)) ?_
    rintro r4 H4 ⟨hx4, g4⟩
    obtain ⟨bx4, rfl, -⟩ := hx4.box
    conv => whnf
    refine ⟨_, cellAt_row (g4.at_ _ _ hX7) y2, ?_⟩
    conv => whnf
    refine ⟨((3 - x.start.length : Nat) : Int), wie (by omega) (by omega), ?_⟩
    conv => whnf
    refine CallP.mono (ones_spec (3 - x.start.length) (by omega) _) ?_
    rintro r5 H5 ⟨hb5, g5⟩
    have hb5k := (LV.of hb5).known
    obtain ⟨ar5, rfl⟩ := hb5k
    have g45 := g4.trans g5
    conv => whnf
    refine CallP.mono (Answers_bad _ _ x ⟨List.replicate (3 - x.start.length) 1, 0, 0⟩ _ (hx4.ext g5) ⟨_, rfl, LV.of hb5⟩ hOk (by show (List.replicate _ _).length ≤ _; rw [List.length_replicate]; omega) (fun k => by have := k.2; dsimp only at this; rw [List.length_replicate] at this; omega)) ?_
    rintro r6 H6 ⟨rfl, g6⟩
    have g46 := g45.trans g6
    conv => whnf
    refine ⟨?_, ?_⟩
    · repeat' (first | exact True.intro | (refine And.intro ?_ ?_ <;> (conv => whnf)))
      all_goals first
        | exact sameAt_val (h2 := _) rfl (sameV_ptr3 _ _)
        | exact sameAt_val (h2 := _) rfl (sameV_int _)
        | exact sameAt_val (h2 := _) (show hval _ (arK .i64 .sub 3 (x.start.length : Int)) = _ from sub_val (r := ((3 - x.start.length : Nat) : Int)) (by omega) (by omega)) (sameV_int _)
        | exact sameAt_val (h2 := _) (okx _ 2 _ (Grows.refl _) y2) (sameV_slice _ _ _)
        | exact sameAt_val (h2 := _) (okx _ 2 _ g4 y2) (sameV_slice _ _ _)
        | exact sameAt_val (h2 := _) (okx _ 2 _ g45 y2) (sameV_slice _ _ _)
        | exact sameAt_val (h2 := _) (okx _ 2 _ g46 y2) (sameV_slice _ _ _)
        | trace_state
    conv => whnf
    exact ⟨H6, ⟨rfl, rfl, rfl, rfl, trivial⟩, ⟨rfl, g46⟩, rfl⟩
  rintro H8 φ6 _ ⟨rfl, hg8⟩
  have hX8 := hg8.at_ _ _ hX7
  have hZ8 := hg8.at_ _ _ hZ7
  have hPV8 := hPV7.ext hg8
  have hg38 := hg37.trans hg8
  conv => whnf
  refine SeqP.cut (α := Hp) (fun s => [(14, .bool false), (15, int 1), (11, .bool false), (12, int 1)]) (fun s H => s = H ∧ Grows H8 s) ?_ ?_
  · conv => whnf
    refine ⟨b9, all_cells hX8 hb9, ?_⟩
    conv => whnf
    refine CallP.mono (given_spec _ x _ hPV8 (by omega) (by omega) (by omega)) ?_
    rintro r4 H4 ⟨hx4, g4⟩
    obtain ⟨bx4, rfl, -⟩ := hx4.box
    conv => whnf
    refine ⟨_, cellAt_row (g4.at_ _ _ hZ8) c0, ?_⟩
    conv => whnf
    refine CallP.mono (few_spec _ q.a _ ((kq.ext hg38).ext g4).view (by omega) 3 (by omega)) ?_
    rintro r5 H5 ⟨hb5, g5⟩
    have e3 : q.a.take 3 = q.a := List.take_of_length_le (by omega)
    rw [e3] at hb5
    have hb5k := (LV.of hb5).known
    obtain ⟨ar5, rfl⟩ := hb5k
    have g45 := g4.trans g5
    conv => whnf
    refine CallP.mono (Answers_bad _ _ x ⟨q.a, 10, 0⟩ _ (hx4.ext g5) ⟨_, rfl, LV.of hb5⟩ hOk (by show q.a.length ≤ _; omega) (fun k => by have := k.1.b; dsimp only at this; omega)) ?_
    rintro r6 H6 ⟨rfl, g6⟩
    have g46 := g45.trans g6
    conv => whnf
    refine ⟨?_, ?_⟩
    · repeat' (first | exact True.intro | (refine And.intro ?_ ?_ <;> (conv => whnf)))
      all_goals first
        | exact sameAt_val (h2 := _) rfl (sameV_ptr3 _ _)
        | exact sameAt_val (h2 := _) (okz _ 0 _ hg38 c0) (sameV_slice _ _ _)
        | exact sameAt_val (h2 := _) (okz _ 0 _ (hg38.trans g4) c0) (sameV_slice _ _ _)
        | exact sameAt_val (h2 := _) (okz _ 0 _ (hg38.trans g45) c0) (sameV_slice _ _ _)
        | exact sameAt_val (h2 := _) (okz _ 0 _ (hg38.trans g46) c0) (sameV_slice _ _ _)
        | trace_state
    conv => whnf
    exact ⟨H6, ⟨rfl, rfl, rfl, rfl, trivial⟩, ⟨rfl, g46⟩, rfl⟩
  rintro H9 φ7 _ ⟨rfl, hg9⟩
  conv => whnf
  repeat (refine SeqP.go ?_; conv => whnf)
  refine cmpT rfl ?_
  conv => whnf
  refine cmpT rfl ?_
  conv => whnf
  refine memo27 ?_
  conv => whnf
  repeat (refine SeqP.go ?_; conv => whnf)
  rfl
end
end Go.Proofs.Ytpiplaicnbapbaa
