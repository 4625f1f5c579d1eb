/- Contracts of the functions that T27 comes to. -/
import Derived.Test.YtpiplaicnbapbaaT9
set_option maxRecDepth 100000
set_option maxHeartbeats 2000000
set_option linter.unusedVariables false
set_option linter.unusedSectionVars false
set_option linter.unusedSimpArgs false
namespace Go.Proofs.Ytpiplaicnbapbaa
open Go.Rx Go.RowKit
theorem PV.box {h : Hp} {v : Value} {p : Prot} (k : PV h v p) : ∃ bx : List Value, v = .agg ⟨bx⟩ ∧ bx.length = 4 ∧ bx[0]? = some (int p.n) ∧ (∃ a, bx[1]? = some (.slice a p.out.length p.out.length) ∧ LV h (.slice a p.out.length p.out.length) p.out) ∧ (∃ a, bx[2]? = some (.slice a p.start.length p.start.length) ∧ LV h (.slice a p.start.length p.start.length) p.start) ∧ (∃ a, bx[3]? = some (.slice a p.rules.length p.rules.length) ∧ RV h (.slice a p.rules.length p.rules.length) p.rules) ∧ cellsOf (.agg ⟨bx⟩) = some bx := by
  obtain ⟨vo, vs, vr, rfl, k1, k2, k3⟩ := k
  obtain ⟨ao, rfl⟩ := k1.known
  obtain ⟨az, rfl⟩ := k2.known
  obtain ⟨ar, rfl, -⟩ := k3.slice
  exact ⟨_, rfl, rfl, rfl, ⟨ao, rfl, k1⟩, ⟨az, rfl, k2⟩, ⟨ar, rfl, k3⟩, rfl⟩
theorem all_cells {H : Hp} {r e m : Nat} {x : Bool} {cs : List Value} (hr : H.at r = some (.row e x cs)) (hl : cs.length = m) : cellsAt H r 0 m = some cs := by
  rw [cellsAt_row hr (by omega), List.drop_zero, List.take_of_length_le (by omega)]
def CrowdR (p : Prot) (kinds : List Int) (h h' : Hp) (r : Value) : Prop := ∃ (w : Value) (e : Int), r = .tuple ⟨[w, int e]⟩ ∧ (¬ POk p → e = 60 ∧ w = .slice none 0 0) ∧ (POk p → ¬ Cnt kinds p.start.length → e = 1 ∧ w = .slice none 0 0) ∧ (POk p → Cnt kinds p.start.length → e = 0 ∧ Built h h' 3 w (crs p.n.toNat p.start kinds kinds.length))
attribute [local irreducible] E idxN cellAt cellsAt storeAt callable helems hmoved lookIn findKey keyOk hentries Hp.at Hp.set Hp.lay arBits hupdated setAt CallP YieldP BoolOf IsWrap Rnd LoopP AppP CutP Int.tmod Int.tdiv Int.fdiv
section
variable [Unknowns]
attribute [local irreducible] ResP sameAt
theorem Crowd_spec (v w : Value) (p : Prot) (kinds : List Int) (h : Hp) (hv : PV h v p) (hw : Ints h w kinds) (hn : InR p.n) (ho : p.out.length ≤ 1000000) (hs : p.start.length ≤ 1000000) (hr : p.rules.length ≤ 1000000) (hkl : kinds.length ≤ 1000000) : CallP E 25 [v, w] h (fun r h' => CrowdR p kinds h h' r ∧ Grows h h') := by
  obtain ⟨bx, rfl, hbl, b0, ⟨a1, b1, k1⟩, ⟨a2, b2, k2⟩, ⟨a3, b3, k3⟩, -⟩ := hv.box
  have g0 : Grows h (h.lay (.row 25 true bx)) := Grows.lay _ _
  have hat : (h.lay (.row 25 true bx)).at h.next = some (.row 25 true bx) := Hp.at_lay_self _ _
  obtain ⟨ak, ck, rfl, hck⟩ := id hw
  refine enter25 (by simp) ?_
  conv => whnf
  refine SeqP.go ?_
  conv => whnf
  refine SeqP.cut (α := Hp) (fun _ => [(2, ptr h.next 0), (1, .slice ak kinds.length ck)]) (fun s H => s = H ∧ POk p ∧ Grows (h.lay (.row 25 true bx)) s) ?_ ?_
  · conv => whnf
    repeat (refine SeqP.go ?_; conv => whnf)
    refine ⟨bx, all_cells hat hbl, ?_⟩
    conv => whnf
    refine CallP.mono (check_spec _ p _ (hv.ext g0) hn ho hs hr) ?_
    rintro r h1 ⟨⟨e, rfl, he1, he2⟩, g1⟩
    by_cases hP : POk p
    · have := he1 hP
      subst this
      conv => whnf
      repeat (refine SeqP.go ?_; conv => whnf)
      refine cmpF (by omega) ?_
      conv => whnf
      repeat (refine SeqP.go ?_; conv => whnf)
      exact ⟨h1, ⟨rfl, rfl, trivial⟩, ⟨rfl, hP, g1⟩, rfl⟩
    · have := he2 hP
      subst this
      conv => whnf
      repeat (refine SeqP.go ?_; conv => whnf)
      refine cmpT (by omega) ?_
      conv => whnf
      repeat (refine SeqP.go ?_; conv => whnf)
      exact ⟨⟨_, _, rfl, fun _ => ⟨rfl, rfl⟩, fun k => absurd k hP, fun k => absurd k hP⟩, g0.trans g1⟩
  rintro h1 φ1 _ ⟨rfl, hP, g1⟩
  have hat1 := g1.at_ _ _ hat
  have g01 := g0.trans g1
  conv => whnf
  refine SeqP.cut (α := Unit) (fun _ => [(2, ptr h.next 0), (1, .slice ak kinds.length ck)]) (fun s H => h1 = H ∧ Cnt kinds p.start.length) ?_ ?_
  · conv => whnf
    repeat (refine SeqP.go ?_; conv => whnf)
    refine ⟨_, cellAt_row hat1 b2, ?_⟩
    conv => whnf
    refine CallP.mono (isCount_spec _ kinds p.start.length _ (hw.ext g01) hkl) ?_
    rintro r h2 ⟨⟨b, rfl, hb⟩, rfl⟩
    cases b with
    | true =>
      have hC := hb.t
      conv => whnf
      repeat (refine SeqP.go ?_; conv => whnf)
      exact ⟨(), ⟨rfl, rfl, trivial⟩, ⟨rfl, hC⟩, rfl⟩
    | false =>
      have hC := hb.f
      conv => whnf
      repeat (refine SeqP.go ?_; conv => whnf)
      exact ⟨⟨_, _, rfl, fun k => absurd hP k, fun _ _ => ⟨rfl, rfl⟩, fun _ k => absurd k hC⟩, g01⟩
  rintro _ φ2 _ ⟨rfl, hC⟩
  have hlen : kinds.length = p.start.length := by have := hC.1; omega
  have hpn1 := hP.n1
  have hpn5 := hP.n5
  have hex5 : ∃ c5, crs 5 p.start kinds kinds.length = c5 := ⟨_, rfl⟩
  obtain ⟨c5, ec5⟩ := hex5
  have hl5 : c5.length = 5 := by rw [← ec5]; exact crs_len ..
  have hexn : ∃ n : Nat, p.n = (n : Int) := ⟨p.n.toNat, by omega⟩
  obtain ⟨n, en⟩ := hexn
  have htk : c5.take n = crs n p.start kinds kinds.length := by rw [← ec5]; exact crs_take (by omega) (fun x hx => by have := hP.sts x hx; omega) _ (by omega) (Nat.le_refl _)
  conv => whnf
  refine SeqP.cut (α := Hp) (fun s => [(7, ptr s.next 0), (2, ptr h.next 0)]) (fun s H => H = s.lay (.row 107 true (c5.map int)) ∧ Grows h1 s) ?_ ?_
  · conv => whnf
    refine ⟨bx, all_cells hat1 hbl, ?_⟩
    conv => whnf
    refine CallP.mono (ofKinds_spec _ _ p kinds _ (hv.ext g01) (hw.ext g01) hP hlen hC.2.1) ?_
    rintro r h2 ⟨rfl, g2⟩
    rw [ec5]
    unfold cv
    conv => whnf
    refine ⟨by show (c5.map int).length = 5; rw [List.length_map, hl5], _, storeAt_all (vs := c5.map int) (by rw [List.length_map, hl5]; rfl) (ints_one _) (over_int (k := [0, 0, 0, 0, 0]) (by rw [hl5]; rfl)), ?_⟩
    conv => whnf
    exact ⟨h2, ⟨rfl, rfl, trivial⟩, ⟨rfl, g2⟩, rfl⟩
  rintro h2 φ3 _ ⟨rfl, g2⟩
  have g3 := g2.then_lay (.row 107 true (c5.map int))
  have hat3 := g3.at_ _ _ hat1
  conv => whnf
  repeat (refine SeqP.go ?_; conv => whnf)
  refine ⟨_, cellAt_row hat3 b0, ?_⟩
  rw [en]
  conv => whnf
  refine resP_cutLim (n := 5) (k := n) (by decide) (by omega) ?_
  conv => whnf
  refine CallP.mono (clone_spec h2.next n 5 (crs n p.start kinds kinds.length) _ (crs_len ..) (by omega) ⟨_, _, _, Hp.at_lay_self _ _, by rw [List.length_map]; omega, fun j hj => ?_⟩) ?_
  · rw [List.getElem?_map]
    have hjn : j < n := by rw [crs_len] at hj; exact hj
    have e1 : (c5.take n)[j]? = c5[j]? := by rw [List.getElem?_take, if_pos hjn]
    rw [← e1, htk, List.getElem?_eq_getElem hj]
    rfl
  rintro r h4 ⟨hb, g4⟩
  have hb' := hb.back (h1 := h) (by rw [Hp.next_lay]; have := g01.next; have := g2.next; omega)
  have hfin : CrowdR p kinds h h4 (.tuple ⟨[r, int 0]⟩) := ⟨_, _, rfl, fun k => absurd hP k, fun _ k => absurd hC k, fun _ _ => ⟨rfl, by rw [en, Int.toNat_natCast]; exact hb'⟩⟩
  rcases id hb with ⟨rfl, e⟩ | ⟨r2, rfl, _, _⟩
  · conv => whnf
    repeat (refine SeqP.go ?_; conv => whnf)
    exact ⟨hfin, (g01.trans g3).trans g4⟩
  · conv => whnf
    repeat (refine SeqP.go ?_; conv => whnf)
    exact ⟨hfin, (g01.trans g3).trans g4⟩
theorem refcrowd_spec (v w : Value) (p : Prot) (kinds : List Int) (h : Hp) (hv : PV h v p) (hw : Ints h w kinds) (hp : POk p) (hkl : kinds.length = p.start.length) (hk : ∀ x ∈ kinds, 0 ≤ x ∧ x ≤ 9) : CallP E 47 [v, w] h (fun r h' => Built h h' 3 r (crs p.n.toNat p.start kinds kinds.length) ∧ Grows h h') := by
  obtain ⟨bx, rfl, hbl, b0, ⟨a1, b1, k1⟩, ⟨a2, b2, k2⟩, ⟨a3, b3, k3⟩, -⟩ := hv.box
  have hpn1 := hp.n1
  have hpn5 := hp.n5
  have hst2 := hp.st2
  have hexn : ∃ n : Nat, p.n = (n : Int) := ⟨p.n.toNat, by omega⟩
  obtain ⟨n, en⟩ := hexn
  rw [en] at b0 ⊢
  rw [Int.toNat_natCast]
  have hat : (h.lay (.row 26 true bx)).at h.next = some (.row 26 true bx) := Hp.at_lay_self _ _
  obtain ⟨ak, ck, rfl, hck⟩ := id hw
  refine enter47 (by simp) ?_
  conv => whnf
  refine SeqP.go ?_
  conv => whnf
  refine SeqP.cut (α := Hp) (fun Hb => [(5, slc Hb.next 0 n n), (2, ptr h.next 0), (1, .slice ak kinds.length ck)]) (fun Hb H => H = Hb.lay (.row 3 true ((crs n p.start kinds 0).map int)) ∧ Grows h Hb ∧ Hb.at h.next = some (.row 26 true bx)) ?_ ?_
  · conv => whnf
    refine ⟨_, cellAt_row hat b0, ?_⟩
    conv => whnf
    refine ⟨⟨by omega, by omega, by omega, by omega⟩, ?_⟩
    conv => whnf
    refine ⟨_, ⟨rfl, rfl, rfl, trivial⟩, ⟨?_, Grows.lay _ _, hat⟩, rfl⟩
    rw [crs_zero, ← rep_row]
    rfl
  rintro Hb φ1 _ ⟨rfl, gb, ab⟩
  conv => whnf
  refine SeqP.cut (α := Unit) (fun _ => [(5, slc Hb.next 0 n n)]) (fun _ H => H = Hb.lay (.row 3 true ((crs n p.start kinds kinds.length).map int))) ?_ ?_
  rotate_left
  · rintro _ φ9 _ rfl
    conv => whnf
    repeat (refine SeqP.go ?_; conv => whnf)
    refine ⟨.inr ⟨Hb.next, ?_, gb.next, true, Hp.at_lay_self _ _⟩, gb.then_lay _⟩
    show _ = slc Hb.next 0 (crs n p.start kinds kinds.length).length (crs n p.start kinds kinds.length).length
    rw [crs_len]
    rfl
  conv => whnf
  repeat (refine SeqP.go ?_; conv => whnf)
  refine loop_inv (α := Nat) (fun k => [(6, int k), (5, slc Hb.next 0 n n), (2, ptr h.next 0), (1, .slice ak kinds.length ck)]) (fun k => Hb.lay (.row 3 true ((crs n p.start kinds k).map int))) (fun k => k ≤ kinds.length) (fun k => kinds.length - k) 0 (Nat.zero_le _) ⟨rfl, rfl, rfl, rfl, trivial⟩ (Hp.Le.refl _) ?_
  intro k φ hkk
  conv => whnf
  repeat (refine SeqP.go ?_; conv => whnf)
  refine cmpB (fun hb1 => ?_) (fun hb1 => ?_)
  rotate_left
  · have : k = kinds.length := by omega
    subst this
    conv => whnf
    repeat (refine SeqP.go ?_; conv => whnf)
    exact ⟨(), ⟨rfl, trivial⟩, rfl, rfl⟩
  have hkl' : k < kinds.length := by omega
  have hks : k < p.start.length := by omega
  have hgk : Grows h (Hb.lay (.row 3 true ((crs n p.start kinds k).map int))) := gb.then_lay _
  have hatk : (Hb.lay (.row 3 true ((crs n p.start kinds k).map int))).at h.next = some (.row 26 true bx) := Hp.at_lay_old _ ab
  have hc := (hw.ext hgk)
  obtain ⟨ak', ck', ew, hcc⟩ := hc
  cases ew
  have hc := hcc k hkl'
  obtain ⟨r, o, sp, ea, hsp, hci⟩ := hc
  subst ea
  have hc2 := (k2.ints.ext hgk)
  obtain ⟨az', cz', ew2, hcc2⟩ := hc2
  cases ew2
  have hc2 := hcc2 k hks
  obtain ⟨r2, o2, sp2, ea2, hsp2, hci2⟩ := hc2
  subst ea2
  have hsx := hp.sts p.start[k] (List.getElem_mem hks)
  have hkx := hk kinds[k] (List.getElem_mem hkl')
  have hln := crs_len n p.start kinds k
  have hbd := crs_bd (m := n) hk k (by omega : k ≤ p.start.length) (by omega)
  have hes := crs_succ n hks hkl'
  have hexs : ∃ s : Nat, p.start[k] = (s : Int) := ⟨p.start[k].toNat, by omega⟩
  obtain ⟨s, es⟩ := hexs
  have hexc : ∃ l, crs n p.start kinds k = l := ⟨_, rfl⟩
  obtain ⟨l, el⟩ := hexc
  rw [el] at hln hbd hes hatk hci hci2 ⊢
  have hlx : 0 ≤ gl l s ∧ gl l s ≤ 9 * (k : Int) := by rw [gl_at (by omega)]; exact hbd _ (List.getElem_mem _)
  have hs1 : cellAt (Hb.lay (.row 3 true (l.map int))) r2 (offAt o2 k 1) = some (int s) := by rw [offAt_eq, Nat.add_comm, ← es]; simpa using hci2
  have hself := Hp.at_lay_self Hb (.row 3 true (l.map int))
  conv => whnf
  repeat (refine SeqP.go ?_; conv => whnf)
  refine ⟨_, cellAt_row hatk b2, ?_⟩
  conv => whnf
  refine ⟨hsp2, ⟨by omega, by omega⟩, ?_⟩
  conv => whnf
  refine ⟨int s, hs1, ?_⟩
  conv => whnf
  refine ⟨_, cellAt_row hatk b2, ?_⟩
  conv => whnf
  refine ⟨hsp2, ⟨by omega, by omega⟩, ?_⟩
  conv => whnf
  refine ⟨int s, hs1, ?_⟩
  conv => whnf
  refine ⟨rfl, ⟨by omega, by omega⟩, ?_⟩
  conv => whnf
  refine ⟨int (gl l s), ?_, ?_⟩
  · rw [offAt_eq]
    simpa using row_load hself (i := s) (by omega)
  conv => whnf
  refine ⟨hsp, ⟨by omega, by omega⟩, ?_⟩
  conv => whnf
  refine ⟨int kinds[k], by rw [offAt_eq, Nat.add_comm]; simpa using hci, ?_⟩
  conv => whnf
  refine ⟨gl l s + kinds[k], wie rfl (by omega), ?_⟩
  conv => whnf
  refine ⟨rfl, ⟨by omega, by omega⟩, ?_⟩
  conv => whnf
  have e9 : storeAt (Hb.lay (.row 3 true (l.map int))) Hb.next (offAt 0 ((s : Int)).toNat 1) [int (gl l s + kinds[k])] = some (Hb.lay (.row 3 true ((crs n p.start kinds (k + 1)).map int))) := by
    have := storeAt_lay (h := Hb) (e := 3) (x := true) (cs := l.map int) (o := s) (v := int (gl l s + kinds[k])) (by rw [List.length_map]; omega) rfl
    rw [show (l.map int).set s (int (gl l s + kinds[k])) = (l.set s (gl l s + kinds[k])).map int from by rw [List.map_set]] at this
    rw [hes, offAt_eq]
    unfold bump
    dsimp only
    rw [es]
    simpa using this
  refine ⟨rfl, _, e9, ?_⟩
  conv => whnf
  refine ⟨((k + 1 : Nat) : Int), wie (by omega) (by omega), ?_⟩
  conv => whnf
  exact Rnd.mk (k + 1) (by show k + 1 ≤ _; omega) (by show _ - (k + 1) < _ - k; omega) ⟨rfl, rfl, rfl, rfl, trivial⟩ (Hp.Le.refl _) rfl
end
end Go.Proofs.Ytpiplaicnbapbaa
