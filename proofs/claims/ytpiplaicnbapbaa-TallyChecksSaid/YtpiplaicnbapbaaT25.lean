/- Contracts of the functions that T27 comes to. -/
import Derived.Test.YtpiplaicnbapbaaT24
import Derived.Test.YtpiplaicnbapbaaT19
set_option maxRecDepth 100000
set_option maxHeartbeats 2000000
set_option linter.unusedVariables false
set_option linter.unusedSectionVars false
set_option linter.unusedSimpArgs false
namespace Go.Proofs.Ytpiplaicnbapbaa
open Go.Rx Go.RowKit
theorem leave_cell3 {φ : Rx.Frame} {h : Hp} {a b c : Nat} {t : TypeId} {r s : Nat} {i : TI} {cs ds : List Value} {w : Value} {Q : Value → Hp → Prop} (ha : φ a = ptr r 0) (hb : φ b = ptr s 0) (hc : φ c = w) (hw : isUndef w = false) (ht : E.ty t = some i) (hi : i.agg = true) (h1 : cellsAt h r 0 i.size = some cs) (h2 : cellsAt h s 0 i.size = some ds) (hq : Q (.tuple ⟨[.agg ⟨cs⟩, .agg ⟨ds⟩, w]⟩) h) : finP E [.cell a t, .cell b t, .tmp c] ⟨φ, h, []⟩ Q := by
  have e1 : ∀ (a r : Nat) (cs : List Value), φ a = ptr r 0 → cellsAt h r 0 i.size = some cs → resultφ E φ h (.cell a t) = some (.agg ⟨cs⟩) := by
    intro a r cs ha h1
    unfold resultφ
    dsimp only
    rw [ha]
    dsimp only [ptr]
    unfold hload
    rw [ht]
    dsimp only
    unfold hloadTI
    rw [hi]
    dsimp only
    rw [h1]
    rfl
  have e2 : resultφ E φ h (.tmp c) = some w := by
    unfold resultφ
    dsimp only
    rw [hc, hw]
  have e : resultsφ E φ h [.cell a t, .cell b t, .tmp c] = some [.agg ⟨cs⟩, .agg ⟨ds⟩, w] := by
    simp only [resultsφ, e1 a r cs ha h1, e1 b s ds hb h2, e2]
  unfold finP
  dsimp only
  rw [show takeMarksφ [] h = some h from rfl]
  dsimp only
  rw [e]
  exact hq
theorem sameV_int3 (n : Int) : sameV 3 (int n) (int n) = true := by
  show eqI n n = true
  unfold eqI
  cases n <;> simp
theorem all_same : ∀ l : List Int, ((l.map int).zip (l.map int)).all (fun p => sameV 3 p.1 p.2) = true
  | [] => rfl
  | x :: l => by
    show (sameV 3 (int x) (int x) && ((l.map int).zip (l.map int)).all (fun p => sameV 3 p.1 p.2)) = true
    rw [sameV_int3, all_same l]
    rfl
theorem sameV_cv (l : List Int) : sameV 4 (.agg ⟨l.map int⟩) (.agg ⟨l.map int⟩) = true := by
  show (Nat.beq _ _ && ((l.map int).zip (l.map int)).all fun p => sameV 3 p.1 p.2) = true
  rw [all_same, Nat.beq_refl]
  rfl
def BothR (p : Prot) (a b : List Int) (r : Value) : Prop := ∃ (la lb : List Int) (e : Int), r = .tuple ⟨[cv la, cv lb, int e]⟩ ∧ la.length = 5 ∧ lb.length = 5 ∧ (¬ POk p → e = 60) ∧ (POk p → ¬ (Cnt a p.n ∧ Cnt b p.n) → e = 1) ∧ (POk p → Cnt a p.n → Cnt b p.n → e = 0 ∧ la = pad5 a ∧ lb = pad5 b)
attribute [local irreducible] E idxN cellAt cellsAt storeAt callable helems hmoved lookIn findKey keyOk hentries Hp.at Hp.set Hp.lay arBits hupdated setAt CallP YieldP BoolOf IsWrap Rnd LoopP AppP CutP Int.tmod Int.tdiv Int.fdiv
section
variable [Unknowns]
attribute [local irreducible] ResP sameAt finP
theorem both_spec (v w u : Value) (p : Prot) (a b : List Int) (h : Hp) (hv : PV h v p) (hw : View h w a) (hu : View h u b) (hn : InR p.n) (ho : p.out.length ≤ 1000000) (hs : p.start.length ≤ 1000000) (hr : p.rules.length ≤ 1000000) (hal : a.length ≤ 1000000) (hbl' : b.length ≤ 1000000) : CallP E 76 [v, w, u] h (fun r h' => BothR p a b r ∧ Grows h h') := by
  obtain ⟨bx, rfl, hbl, b0, -⟩ := hv.box
  obtain ⟨aa, ca, rfl⟩ := hw.known
  obtain ⟨ab, cb, rfl⟩ := hu.known
  have hexA : ∃ A, (h.lay (.row 25 true bx)).next = A ∧ h.next < A := ⟨_, rfl, by rw [Hp.next_lay]; omega⟩
  obtain ⟨A, eA, hA⟩ := hexA
  have hexB : ∃ B, ((h.lay (.row 25 true bx)).lay (.row 107 true (zero5.map int))).next = B ∧ A < B := ⟨_, rfl, by rw [Hp.next_lay, eA]; omega⟩
  obtain ⟨B, eB, hB⟩ := hexB
  have g3 : Grows h (((h.lay (.row 25 true bx)).lay (.row 107 true (zero5.map int))).lay (.row 107 true (zero5.map int))) := ((Grows.lay _ _).then_lay _).then_lay _
  have a1 : (((h.lay (.row 25 true bx)).lay (.row 107 true (zero5.map int))).lay (.row 107 true (zero5.map int))).at h.next = some (.row 25 true bx) := Hp.at_lay_old _ (Hp.at_lay_old _ (Hp.at_lay_self _ _))
  have a2 : (((h.lay (.row 25 true bx)).lay (.row 107 true (zero5.map int))).lay (.row 107 true (zero5.map int))).at A = some (.row 107 true (zero5.map int)) := by rw [← eA]; exact Hp.at_lay_old _ (Hp.at_lay_self _ _)
  have a3 : (((h.lay (.row 25 true bx)).lay (.row 107 true (zero5.map int))).lay (.row 107 true (zero5.map int))).at B = some (.row 107 true (zero5.map int)) := by rw [← eB]; exact Hp.at_lay_self _ _
  obtain ⟨i107, t107, ag107, sz107⟩ := ty107
  have fin : ∀ (φ : Rx.Frame) (H : Hp) (l m : List Int) (e : Int), φ 6 = ptr A 0 → φ 7 = ptr B 0 → φ 8 = int e → H.at A = some (.row 107 true (l.map int)) → H.at B = some (.row 107 true (m.map int)) → l.length = 5 → m.length = 5 → Grows h H → BothR p a b (.tuple ⟨[cv l, cv m, int e]⟩) → finP E [.cell 6 107, .cell 7 107, .tmp 8] ⟨φ, H, []⟩ (fun r h' => BothR p a b r ∧ Grows h h') := by
    intro φ H l m e h4 h5 h6 hat hat2 hl hm hg hq
    refine leave_cell3 (cs := l.map int) (ds := m.map int) h4 h5 h6 rfl t107 ag107 ?_ ?_ ⟨hq, hg⟩
    · rw [sz107]
      exact all_cells hat (by rw [List.length_map, hl])
    · rw [sz107]
      exact all_cells hat2 (by rw [List.length_map, hm])
  refine enter76 (by simp) ?_
  conv => whnf
  refine SeqP.go ?_
  conv => whnf
  refine SeqP.cut (α := Hp × List Int × Int) (fun s => [(8, int s.2.2), (6, ptr A 0), (7, ptr B 0), (3, ptr h.next 0), (2, .slice ab b.length cb)]) (fun s H => s.1 = H ∧ s.2.1.length = 5 ∧ Grows h s.1 ∧ s.1.at h.next = some (.row 25 true bx) ∧ s.1.at A = some (.row 107 true (s.2.1.map int)) ∧ s.1.at B = some (.row 107 true (zero5.map int)) ∧ (¬ POk p → s.2.2 = 60) ∧ (POk p → ¬ Cnt a p.n → s.2.2 = 1) ∧ (POk p → Cnt a p.n → s.2.2 = 0 ∧ s.2.1 = pad5 a)) ?_ ?_
  · conv => whnf
    refine ⟨bx, all_cells a1 hbl, ?_⟩
    conv => whnf
    refine CallP.mono (read_spec _ _ p a _ (hv.ext g3) (hw.ext g3) hn ho hs hr hal) ?_
    rintro r h1 ⟨⟨l, e, rfl, hl, e1, e2, e3⟩, g1⟩
    have g1' : Grows (((h.lay (.row 25 true bx)).lay (.row 107 true (zero5.map int))).lay (.row 107 true (zero5.map int))) h1 := g1
    have d1 := g1'.at_ _ _ a1
    have d2 := g1'.at_ _ _ a2
    have d3 := g1'.at_ _ _ a3
    unfold cv
    conv => whnf
    refine ⟨by show (l.map int).length = 5; rw [List.length_map, hl], _, storeAt_full (vs := l.map int) (at_nx2 eA.symm d2) (by rw [List.length_map, hl]; rfl) (ints_one _) (over_int (k := zero5) (by rw [hl]; rfl)), ?_⟩
    conv => whnf
    refine ⟨(_, l, e), ⟨rfl, congrArg (fun k => ptr k 0) eA, congrArg (fun k => ptr k 0) eB, rfl, rfl, trivial⟩, ⟨rfl, hl, (g3.trans g1').then_set _ (by rw [eA]; omega), ?_, ?_, ?_, e1, e2, e3⟩, rfl⟩
    · show (h1.set _ _).at _ = _
      rw [Hp.at_set_ne _ (by rw [eA]; omega)]; exact d1
    · show (h1.set _ _).at _ = _
      rw [eA]; exact Hp.at_set_self _ (Hp.lt_of_at d2)
    · show (h1.set _ _).at _ = _
      rw [Hp.at_set_ne _ (by rw [eA]; omega)]; exact d3
  rintro ⟨h1, l, e⟩ φ1 _ ⟨rfl, hl, g1, d1, d2, d3, e1, e2, e3⟩
  dsimp only at hl g1 d1 d2 d3 e1 e2 e3 ⊢
  have put2 : ∀ (H : Hp) (l m : List Int), H.at A = some (.row 107 true (l.map int)) → H.at B = some (.row 107 true (m.map int)) → l.length = 5 → m.length = 5 → ∃ H', storeAt H A 0 (zero5.map int) = some (H.set A (.row 107 true (zero5.map int))) ∧ storeAt (H.set A (.row 107 true (zero5.map int))) B 0 (zero5.map int) = some H' ∧ H'.at A = some (.row 107 true (zero5.map int)) ∧ H'.at B = some (.row 107 true (zero5.map int)) ∧ (Grows h H → Grows h H') := by
    intro H l m hA' hB' hl hm
    have hB2 : (H.set A (.row 107 true (zero5.map int))).at B = some (.row 107 true (m.map int)) := by rw [Hp.at_set_ne _ (by omega)]; exact hB'
    refine ⟨_, storeAt_full hA' (by rw [List.length_map, List.length_map, hl]; rfl) rfl (over_int (by rw [hl]; rfl)), storeAt_full hB2 (by rw [List.length_map, List.length_map, hm]; rfl) rfl (over_int (by rw [hm]; rfl)), ?_, ?_, fun g => (g.then_set _ (by omega)).then_set _ (by omega)⟩
    · rw [Hp.at_set_ne _ (by omega)]
      exact Hp.at_set_self _ (Hp.lt_of_at hA')
    · exact Hp.at_set_self _ (Hp.lt_of_at hB2)
  have z5 : zero5.length = 5 := rfl
  conv => whnf
  refine SeqP.cut (α := Unit) (fun s => [(6, ptr A 0), (7, ptr B 0), (3, ptr h.next 0), (2, .slice ab b.length cb)]) (fun s H => h1 = H ∧ POk p ∧ Cnt a p.n ∧ l = pad5 a) ?_ ?_
  · conv => whnf
    repeat (refine SeqP.go ?_; conv => whnf)
    by_cases hP : POk p
    · by_cases hC : Cnt a p.n
      · obtain ⟨ee, el⟩ := e3 hP hC
        subst ee
        refine cmpF (by omega) ?_
        conv => whnf
        repeat (refine SeqP.go ?_; conv => whnf)
        exact ⟨(), ⟨rfl, rfl, rfl, rfl, trivial⟩, ⟨rfl, hP, hC, el⟩, rfl⟩
      · have ee := e2 hP hC
        subst ee
        refine cmpT (by omega) ?_
        conv => whnf
        obtain ⟨H', s1, s2, s3, s4, s5⟩ := put2 h1 l zero5 d2 d3 hl rfl
        refine ⟨rfl, _, s1, ?_⟩
        conv => whnf
        refine ⟨rfl, _, s2, ?_⟩
        conv => whnf
        repeat (refine SeqP.go ?_; conv => whnf)
        exact fin _ _ zero5 zero5 1 rfl rfl rfl s3 s4 rfl rfl (s5 g1) ⟨_, _, _, rfl, rfl, rfl, fun k => absurd hP k, fun _ _ => rfl, fun _ k => absurd k hC⟩
    · have ee := e1 hP
      subst ee
      refine cmpT (by omega) ?_
      conv => whnf
      obtain ⟨H', s1, s2, s3, s4, s5⟩ := put2 h1 l zero5 d2 d3 hl rfl
      refine ⟨rfl, _, s1, ?_⟩
      conv => whnf
      refine ⟨rfl, _, s2, ?_⟩
      conv => whnf
      repeat (refine SeqP.go ?_; conv => whnf)
      exact fin _ _ zero5 zero5 60 rfl rfl rfl s3 s4 rfl rfl (s5 g1) ⟨_, _, _, rfl, rfl, rfl, fun _ => rfl, fun k => absurd k hP, fun k => absurd k hP⟩
  rintro _ φ2 _ ⟨rfl, hP, hC, rfl⟩
  conv => whnf
  refine SeqP.cut (α := Hp × List Int × Int) (fun s => [(8, int s.2.2), (6, ptr A 0), (7, ptr B 0)]) (fun s H => s.1 = H ∧ s.2.1.length = 5 ∧ Grows h s.1 ∧ s.1.at A = some (.row 107 true ((pad5 a).map int)) ∧ s.1.at B = some (.row 107 true (s.2.1.map int)) ∧ (¬ Cnt b p.n → s.2.2 = 1) ∧ (Cnt b p.n → s.2.2 = 0 ∧ s.2.1 = pad5 b)) ?_ ?_
  · conv => whnf
    refine ⟨bx, all_cells d1 hbl, ?_⟩
    conv => whnf
    refine CallP.mono (read_spec _ _ p b _ (hv.ext g1) (hu.ext g1) hn ho hs hr hbl') ?_
    rintro r h2 ⟨⟨m, e, rfl, hm, f1, f2, f3⟩, g2⟩
    have c1 := g2.at_ _ _ d2
    have c2 := g2.at_ _ _ d3
    unfold cv
    conv => whnf
    refine ⟨by show (m.map int).length = 5; rw [List.length_map, hm], _, storeAt_full (vs := m.map int) c2 (by rw [List.length_map, hm]; rfl) (ints_one _) (over_int (k := zero5) (by rw [hm]; rfl)), ?_⟩
    conv => whnf
    refine ⟨(_, m, e), ⟨rfl, rfl, rfl, trivial⟩, ⟨rfl, hm, (g1.trans g2).then_set _ (by omega), ?_, ?_, f2 hP, f3 hP⟩, rfl⟩
    · show (h2.set _ _).at _ = _
      rw [Hp.at_set_ne _ (by omega)]; exact c1
    · show (h2.set _ _).at _ = _
      exact Hp.at_set_self _ (Hp.lt_of_at c2)
  rintro ⟨h2, m, e'⟩ φ3 _ ⟨rfl, hm, g2, c1, c2, f1, f2⟩
  dsimp only at hm g2 c1 c2 f1 f2 ⊢
  conv => whnf
  refine SeqP.cut (α := Unit) (fun s => [(6, ptr A 0), (7, ptr B 0)]) (fun s H => h2 = H ∧ Cnt b p.n ∧ m = pad5 b) ?_ ?_
  · conv => whnf
    repeat (refine SeqP.go ?_; conv => whnf)
    by_cases hC2 : Cnt b p.n
    · obtain ⟨ee, el⟩ := f2 hC2
      subst ee
      refine cmpF (by omega) ?_
      conv => whnf
      repeat (refine SeqP.go ?_; conv => whnf)
      exact ⟨(), ⟨rfl, rfl, trivial⟩, ⟨rfl, hC2, el⟩, rfl⟩
    · have ee := f1 hC2
      subst ee
      refine cmpT (by omega) ?_
      conv => whnf
      obtain ⟨H', s1, s2, s3, s4, s5⟩ := put2 h2 _ m c1 c2 hl hm
      refine ⟨rfl, _, s1, ?_⟩
      conv => whnf
      refine ⟨rfl, _, s2, ?_⟩
      conv => whnf
      repeat (refine SeqP.go ?_; conv => whnf)
      exact fin _ _ zero5 zero5 1 rfl rfl rfl s3 s4 rfl rfl (s5 g2) ⟨_, _, _, rfl, rfl, rfl, fun k => absurd hP k, fun _ _ => rfl, fun _ _ k => absurd k hC2⟩
  rintro _ φ4 _ ⟨rfl, hC2, rfl⟩
  conv => whnf
  repeat (refine SeqP.go ?_; conv => whnf)
  refine ⟨(pad5 a).map int, all_cells c1 (by rw [List.length_map, hl]), ?_⟩
  conv => whnf
  refine ⟨(pad5 b).map int, all_cells c2 (by rw [List.length_map, hm]), ?_⟩
  conv => whnf
  have c2' : (h2.set A (.row 107 true ((pad5 a).map int))).at B = some (.row 107 true ((pad5 b).map int)) := by rw [Hp.at_set_ne _ (by omega)]; exact c2
  refine ⟨by show ((pad5 a).map int).length = 5; rw [List.length_map, hl], _, storeAt_full (vs := (pad5 a).map int) c1 rfl (ints_one _) (over_int rfl), ?_⟩
  conv => whnf
  refine ⟨by show ((pad5 b).map int).length = 5; rw [List.length_map, hm], _, storeAt_full (vs := (pad5 b).map int) c2' rfl (ints_one _) (over_int rfl), ?_⟩
  conv => whnf
  have c1' : (h2.set A (.row 107 true ((pad5 a).map int))).at A = some (.row 107 true ((pad5 a).map int)) := Hp.at_set_self _ (Hp.lt_of_at c1)
  have c1'' : ((h2.set A (.row 107 true ((pad5 a).map int))).set B (.row 107 true ((pad5 b).map int))).at A = some (.row 107 true ((pad5 a).map int)) := by rw [Hp.at_set_ne _ (by omega)]; exact c1'
  have c2'' : ((h2.set A (.row 107 true ((pad5 a).map int))).set B (.row 107 true ((pad5 b).map int))).at B = some (.row 107 true ((pad5 b).map int)) := Hp.at_set_self _ (Hp.lt_of_at c2')
  have ld : ∀ (H : Hp) (r : Nat) (l : List Int), l.length = 5 → H.at r = some (.row 107 true (l.map int)) → hval H (aggOf (cellsAt H r 0 5)) = .val (.agg ⟨l.map int⟩) H := fun H r l hl e => by
    rw [all_cells e (by rw [List.length_map, hl])]
    rfl
  refine ⟨?_, ?_⟩
  · repeat' (first | exact True.intro | (refine And.intro ?_ ?_ <;> (conv => whnf)))
    all_goals first
      | exact sameAt_val (h2 := _) rfl (sameV_ptr3 _ _)
      | exact sameAt_val (h2 := _) (ld _ _ _ hm c2) (sameV_cv _)
      | exact sameAt_val (h2 := _) (ld _ _ _ hm c2') (sameV_cv _)
      | exact sameAt_val (h2 := _) (ld _ _ _ hm c2'') (sameV_cv _)
      | exact sameAt_val (h2 := _) (ld _ _ _ hl c1) (sameV_cv _)
      | exact sameAt_val (h2 := _) (ld _ _ _ hl c1') (sameV_cv _)
      | exact sameAt_val (h2 := _) (ld _ _ _ hl c1'') (sameV_cv _)
      | trace_state
  conv => whnf
  repeat (refine SeqP.go ?_; conv => whnf)
  exact fin _ _ (pad5 a) (pad5 b) 0 rfl rfl rfl c1'' c2'' hl hm ((g2.then_set _ (by omega)).then_set _ (by omega)) ⟨_, _, _, rfl, hl, hm, fun k => absurd hP k, fun _ k => absurd ⟨hC, hC2⟩ k, fun _ _ _ => ⟨rfl, rfl, rfl⟩⟩
end
end Go.Proofs.Ytpiplaicnbapbaa
