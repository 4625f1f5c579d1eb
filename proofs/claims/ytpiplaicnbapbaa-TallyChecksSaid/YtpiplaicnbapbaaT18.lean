/- Contracts of the functions that T27 comes to. -/
import Derived.Test.YtpiplaicnbapbaaT17
set_option maxRecDepth 100000
set_option maxHeartbeats 2000000
set_option linter.unusedVariables false
set_option linter.unusedSectionVars false
set_option linter.unusedSimpArgs false
namespace Go.Proofs.Ytpiplaicnbapbaa
open Go.Rx Go.RowKit
attribute [local irreducible] E idxN cellAt cellsAt storeAt callable helems hmoved lookIn findKey keyOk hentries Hp.at Hp.set Hp.lay arBits hupdated setAt CallP YieldP BoolOf IsWrap Rnd LoopP AppP CutP Int.tmod Int.tdiv Int.fdiv
section
variable [Unknowns]
attribute [local irreducible] ResP sameAt finP
theorem read_spec (v w : Value) (p : Prot) (c : List Int) (h : Hp) (hv : PV h v p) (hw : View h w c) (hn : InR p.n) (ho : p.out.length ≤ 1000000) (hs : p.start.length ≤ 1000000) (hr : p.rules.length ≤ 1000000) (hcl : c.length ≤ 1000000) : CallP E 73 [v, w] h (fun r h' => ReadR p c r ∧ Grows h h') := by
  obtain ⟨bx, rfl, hbl, b0, -⟩ := hv.box
  obtain ⟨ak, ck, rfl⟩ := hw.known
  have hexR : ∃ R, (h.lay (.row 25 true bx)).next = R ∧ h.next < R := ⟨_, rfl, by rw [Hp.next_lay]; omega⟩
  obtain ⟨R, eR, hR⟩ := hexR
  have g2 : Grows h ((h.lay (.row 25 true bx)).lay (.row 107 true (zero5.map int))) := (Grows.lay _ _).then_lay _
  have a1 : ((h.lay (.row 25 true bx)).lay (.row 107 true (zero5.map int))).at h.next = some (.row 25 true bx) := Hp.at_lay_old _ (Hp.at_lay_self _ _)
  have a2 : ((h.lay (.row 25 true bx)).lay (.row 107 true (zero5.map int))).at (h.lay (.row 25 true bx)).next = some (.row 107 true (zero5.map int)) := Hp.at_lay_self _ _
  obtain ⟨i107, t107, ag107, sz107⟩ := ty107
  have fin : ∀ (φ : Rx.Frame) (H : Hp) (l : List Int) (e : Int), φ 4 = ptr R 0 → φ 5 = int e → H.at R = some (.row 107 true (l.map int)) → l.length = 5 → Grows h H → ReadR p c (.tuple ⟨[cv l, int e]⟩) → finP E [.cell 4 107, .tmp 5] ⟨φ, H, []⟩ (fun r h' => ReadR p c r ∧ Grows h h') := by
    intro φ H l e h4 h5 hat hl hg hq
    refine leave_cell2 (cs := l.map int) h4 h5 rfl t107 ag107 ?_ ⟨hq, hg⟩
    rw [sz107]
    exact all_cells hat (by rw [List.length_map, hl])
  refine enter73 (by simp) ?_
  conv => whnf
  refine SeqP.go ?_
  conv => whnf
  refine SeqP.cut (α := Hp) (fun _ => [(2, ptr h.next 0), (4, ptr (h.lay (.row 25 true bx)).next 0), (1, .slice ak c.length ck)]) (fun s H => s = H ∧ POk p ∧ Grows h s ∧ s.at h.next = some (.row 25 true bx) ∧ s.at (h.lay (.row 25 true bx)).next = some (.row 107 true (zero5.map int))) ?_ ?_
  · conv => whnf
    repeat (refine SeqP.go ?_; conv => whnf)
    refine ⟨bx, all_cells a1 hbl, ?_⟩
    conv => whnf
    refine CallP.mono (check_spec _ p _ (hv.ext g2) hn ho hs hr) ?_
    rintro r h1 ⟨⟨e, rfl, he1, he2⟩, g1⟩
    have g1' : Grows ((h.lay (.row 25 true bx)).lay (.row 107 true (zero5.map int))) h1 := g1
    by_cases hP : POk p
    · have := he1 hP
      subst this
      conv => whnf
      repeat (refine SeqP.go ?_; conv => whnf)
      refine cmpF (by omega) ?_
      conv => whnf
      repeat (refine SeqP.go ?_; conv => whnf)
      exact ⟨h1, ⟨rfl, rfl, rfl, trivial⟩, ⟨rfl, hP, g2.trans g1', g1'.at_ _ _ a1, g1'.at_ _ _ a2⟩, rfl⟩
    · have := he2 hP
      subst this
      conv => whnf
      repeat (refine SeqP.go ?_; conv => whnf)
      refine cmpT (by omega) ?_
      conv => whnf
      refine ⟨rfl, _, storeAt_full (vs := zero5.map int) (g1'.at_ _ _ a2) rfl rfl rfl, ?_⟩
      conv => whnf
      repeat (refine SeqP.go ?_; conv => whnf)
      exact fin _ _ zero5 60 (congrArg (fun k => ptr k 0) eR) rfl (by rw [← eR]; exact Hp.at_set_self _ (Hp.lt_of_at (g1'.at_ _ _ a2))) rfl ((g2.trans g1').then_set _ (by rw [Hp.next_lay]; omega)) ⟨zero5, 60, rfl, rfl, fun _ => rfl, fun k => absurd k hP, fun k => absurd k hP⟩
  rintro h1 φ1 _ ⟨rfl, hP, g1, b1, b2⟩
  rw [eR] at b2 ⊢
  conv => whnf
  refine SeqP.cut (α := Unit) (fun _ => [(2, ptr h.next 0), (4, ptr R 0), (1, .slice ak c.length ck)]) (fun s H => h1 = H ∧ Cnt c p.n) ?_ ?_
  · conv => whnf
    repeat (refine SeqP.go ?_; conv => whnf)
    refine ⟨_, cellAt_row b1 b0, ?_⟩
    conv => whnf
    refine CallP.mono (isCount_spec _ c p.n _ (hw.ext g1).ints hcl) ?_
    rintro r h2 ⟨⟨b, rfl, hb⟩, rfl⟩
    cases b with
    | true =>
      have hC := hb.t
      conv => whnf
      repeat (refine SeqP.go ?_; conv => whnf)
      exact ⟨(), ⟨rfl, rfl, rfl, trivial⟩, ⟨rfl, hC⟩, rfl⟩
    | false =>
      have hC := hb.f
      conv => whnf
      repeat (refine SeqP.go ?_; conv => whnf)
      refine ⟨rfl, _, storeAt_full (vs := zero5.map int) b2 rfl rfl rfl, ?_⟩
      conv => whnf
      repeat (refine SeqP.go ?_; conv => whnf)
      exact fin _ _ zero5 1 rfl rfl (Hp.at_set_self _ (Hp.lt_of_at b2)) rfl (g1.then_set _ (by omega)) ⟨zero5, 1, rfl, rfl, fun k => absurd hP k, fun _ _ => rfl, fun _ k => absurd k hC⟩
  rintro _ φ2 _ ⟨rfl, hC⟩
  have hc5 : c.length ≤ 5 := by have := hC.1; have := hP.n5; omega
  have hp5 := pad5_len hc5
  conv => whnf
  repeat (refine SeqP.go ?_; conv => whnf)
  refine CallP.mono (crowdOf_spec _ c _ (hw.ext g1) hc5) ?_
  rintro r h3 ⟨rfl, g3⟩
  have b3 := g3.at_ _ _ b2
  unfold cv
  conv => whnf
  refine ⟨by show ((pad5 c).map int).length = 5; rw [List.length_map, hp5], _, storeAt_full (vs := (pad5 c).map int) b3 (by rw [List.length_map, hp5]; rfl) (ints_one _) (over_int (k := zero5) (by rw [hp5]; rfl)), ?_⟩
  conv => whnf
  repeat (refine SeqP.go ?_; conv => whnf)
  exact fin _ _ (pad5 c) 0 rfl rfl (Hp.at_set_self _ (Hp.lt_of_at b3)) hp5 ((g1.trans g3).then_set _ (by omega)) ⟨pad5 c, 0, rfl, hp5, fun k => absurd hP k, fun _ k => absurd hC k, fun _ _ => ⟨rfl, rfl⟩⟩
end
end Go.Proofs.Ytpiplaicnbapbaa
