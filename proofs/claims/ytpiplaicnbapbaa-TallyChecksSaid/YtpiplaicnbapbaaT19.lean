/- Contracts of the functions that T27 comes to. -/
import Derived.Test.YtpiplaicnbapbaaT18
set_option maxRecDepth 100000
set_option maxHeartbeats 2000000
set_option linter.unusedVariables false
set_option linter.unusedSectionVars false
set_option linter.unusedSimpArgs false
namespace Go.Proofs.Ytpiplaicnbapbaa
open Go.Rx Go.RowKit
def MeetR (p : Prot) (c W : List Int) (h h' : Hp) (r : Value) : Prop := ∃ (w : Value) (k e : Int), r = .tuple ⟨[w, int k, int e]⟩ ∧ (¬ POk p → e = 60 ∧ k = 0 ∧ w = .slice none 0 0) ∧ (POk p → ¬ Cnt c p.n → e = 1 ∧ k = 0 ∧ w = .slice none 0 0) ∧ (POk p → Cnt c p.n → e = 0 ∧ k = ((doW p.rules c W).2 : Nat) ∧ Built h h' 3 w (doW p.rules c W).1)
theorem POk.qin {p : Prot} (h : POk p) : ∀ k, (hk : k < p.rules.length) → QIn p.n p.rules[k] := fun k hk => (h.rs k hk hk).1
theorem step_no {R : List Q4} {c : List Int} {i : Int} (h : ¬ (0 ≤ i ∧ i < R.length)) : step R c i = none := dif_neg h
theorem step_not {R : List Q4} {c : List Int} {i : Int} (h : 0 ≤ i ∧ i < R.length) (k : ¬ Allowed c (R[i.toNat]'(by omega))) : step R c i = none := by
  unfold step
  rw [dif_pos h, if_neg k]
theorem step_yes {R : List Q4} {c : List Int} {i : Int} (h : 0 ≤ i ∧ i < R.length) (k : Allowed c (R[i.toNat]'(by omega))) : step R c i = some (after c (R[i.toNat]'(by omega))) := by
  unfold step
  rw [dif_pos h, if_pos k]
theorem doW_stop {R : List Q4} {c cur W : List Int} {k : Nat} (hk : k < W.length) (e : doW R c W = ((doW R cur (W.drop k)).1, k + (doW R cur (W.drop k)).2)) (h : step R cur W[k] = none) : doW R c W = (cur, k) := by
  rw [List.drop_eq_getElem_cons hk, doW_none h] at e
  simpa using e
theorem doW_end {R : List Q4} {c cur W : List Int} {k : Nat} (hk : W.length ≤ k) (e : doW R c W = ((doW R cur (W.drop k)).1, k + (doW R cur (W.drop k)).2)) : doW R c W = (cur, k) := by
  rw [List.drop_of_length_le hk] at e
  simpa [doW] using e
theorem doW_go {R : List Q4} {c cur cur' W : List Int} {k : Nat} (hk : k < W.length) (e : doW R c W = ((doW R cur (W.drop k)).1, k + (doW R cur (W.drop k)).2)) (h : step R cur W[k] = some cur') : doW R c W = ((doW R cur' (W.drop (k + 1))).1, (k + 1) + (doW R cur' (W.drop (k + 1))).2) := by
  rw [List.drop_eq_getElem_cons hk, doW_some h] at e
  rw [e]
  refine congrArg _ ?_
  dsimp only
  omega
attribute [local irreducible] E idxN cellAt cellsAt storeAt callable helems hmoved lookIn findKey keyOk hentries Hp.at Hp.set Hp.lay arBits hupdated setAt CallP YieldP BoolOf IsWrap Rnd LoopP AppP CutP Int.tmod Int.tdiv Int.fdiv
section
variable [Unknowns]
attribute [local irreducible] ResP sameAt
theorem Meet_spec (v w u : Value) (p : Prot) (c W : List Int) (h : Hp) (hv : PV h v p) (hw : View h w c) (hu : Ints h u W) (hn : InR p.n) (ho : p.out.length ≤ 1000000) (hs : p.start.length ≤ 1000000) (hr : p.rules.length ≤ 1000000) (hcl : c.length ≤ 1000000) (hWl : W.length ≤ 1000000) : CallP E 28 [v, w, u] h (fun r h' => MeetR p c W h h' r ∧ Grows h h') := by
  obtain ⟨bx, rfl, hbl, b0, -, -, ⟨a3, b3, k3⟩, -⟩ := hv.box
  obtain ⟨ac, cc, rfl⟩ := hw.known
  obtain ⟨aw, cw, rfl, hcw⟩ := id hu
  have g0 : Grows h (h.lay (.row 25 true bx)) := Grows.lay _ _
  have a0 : (h.lay (.row 25 true bx)).at h.next = some (.row 25 true bx) := Hp.at_lay_self _ _
  refine enter28 (by simp) ?_
  conv => whnf
  refine SeqP.go ?_
  conv => whnf
  refine SeqP.cut (α := Hp × List Int × Int) (fun s => [(10, int s.2.2), (9, ptr s.1.next 0), (3, ptr h.next 0), (2, .slice aw W.length cw)]) (fun s H => H = s.1.lay (.row 107 true (s.2.1.map int)) ∧ s.2.1.length = 5 ∧ Grows (h.lay (.row 25 true bx)) s.1 ∧ (¬ POk p → s.2.2 = 60) ∧ (POk p → ¬ Cnt c p.n → s.2.2 = 1) ∧ (POk p → Cnt c p.n → s.2.2 = 0 ∧ s.2.1 = pad5 c)) ?_ ?_
  · conv => whnf
    refine ⟨bx, all_cells a0 hbl, ?_⟩
    conv => whnf
    refine CallP.mono (read_spec _ _ p c _ (hv.ext g0) (hw.ext g0) hn ho hs hr hcl) ?_
    rintro r h1 ⟨⟨l, e, rfl, hl, e1, e2, e3⟩, g1⟩
    have g1' : Grows (h.lay (.row 25 true bx)) h1 := g1
    unfold cv
    conv => whnf
    refine ⟨by show (l.map int).length = 5; rw [List.length_map, hl], _, storeAt_all (vs := l.map int) (by rw [List.length_map, hl]; rfl) (ints_one _) (over_int (k := [0, 0, 0, 0, 0]) (by rw [hl]; rfl)), ?_⟩
    conv => whnf
    exact ⟨(h1, l, e), ⟨rfl, rfl, rfl, rfl, trivial⟩, ⟨rfl, hl, g1', e1, e2, e3⟩, rfl⟩
  rintro ⟨h1, l, e⟩ φ1 H ⟨eH, hl, g1, e1, e2, e3⟩
  dsimp only at eH hl g1 e1 e2 e3 ⊢
  have g2 := (g0.trans g1).then_lay (.row 107 true (l.map int))
  have aD : H.at h1.next = some (.row 107 true (l.map int)) := by rw [eH]; exact Hp.at_lay_self _ _
  have a1 : H.at h.next = some (.row 25 true bx) := by rw [eH]; exact Hp.at_lay_old _ (g1.at_ _ _ a0)
  rw [← eH] at g2
  have hD : h.next < h1.next := by have := g1.next; rw [Hp.next_lay] at this; omega
  clear eH g1
  have hexD : ∃ D, h1.next = D := ⟨_, rfl⟩
  obtain ⟨D, eD⟩ := hexD
  rw [eD] at aD hD ⊢
  conv => whnf
  refine SeqP.cut (α := Unit) (fun _ => [(9, ptr D 0), (3, ptr h.next 0), (2, .slice aw W.length cw)]) (fun _ H' => H = H' ∧ POk p ∧ Cnt c p.n) ?_ ?_
  · conv => whnf
    repeat (refine SeqP.go ?_; conv => whnf)
    by_cases hP : POk p
    · by_cases hC : Cnt c p.n
      · obtain ⟨ee, -⟩ := e3 hP hC
        subst ee
        refine cmpF (by omega) ?_
        conv => whnf
        repeat (refine SeqP.go ?_; conv => whnf)
        exact ⟨(), ⟨rfl, rfl, rfl, trivial⟩, ⟨rfl, hP, hC⟩, rfl⟩
      · have ee := e2 hP hC
        subst ee
        refine cmpT (by omega) ?_
        conv => whnf
        repeat (refine SeqP.go ?_; conv => whnf)
        exact ⟨⟨_, _, _, rfl, fun k => absurd hP k, fun _ _ => ⟨rfl, rfl, rfl⟩, fun _ k => absurd k hC⟩, g2⟩
    · have ee := e1 hP
      subst ee
      refine cmpT (by omega) ?_
      conv => whnf
      repeat (refine SeqP.go ?_; conv => whnf)
      exact ⟨⟨_, _, _, rfl, fun _ => ⟨rfl, rfl, rfl⟩, fun k => absurd k hP, fun k => absurd k hP⟩, g2⟩
  rintro _ φ2 _ ⟨rfl, hP, hC⟩
  obtain ⟨-, rfl⟩ := e3 hP hC
  have hexn : ∃ n : Nat, p.n = (n : Int) := ⟨p.n.toNat, by have := hP.n1; omega⟩
  obtain ⟨n, en⟩ := hexn
  have hn5 : n ≤ 5 := by have := hP.n5; omega
  have hcr : CrOk n c := CrOk.of (by rw [← en]; exact hC)
  have hqin := hP.qin
  rw [en] at hqin b0
  conv => whnf
  refine SeqP.go ?_
  conv => whnf
  refine SeqP.cut (α := Nat × List Int × Hp) (fun s => [(11, int s.1), (9, ptr D 0), (3, ptr h.next 0)]) (fun s H => s.2.2 = H ∧ doW p.rules c W = (s.2.1, s.1) ∧ CrOk n s.2.1 ∧ Grows h s.2.2 ∧ s.2.2.at h.next = some (.row 25 true bx) ∧ s.2.2.at D = some (.row 107 true ((pad5 s.2.1).map int))) ?_ ?_
  · conv => whnf
    repeat (refine SeqP.go ?_; conv => whnf)
    refine loop_inv (α := Nat × List Int × Hp) (fun s => [(25, int s.1), (24, int W.length), (23, .slice aw W.length cw), (11, int s.1), (9, ptr D 0), (3, ptr h.next 0)]) (fun s => s.2.2) (fun s => s.1 ≤ W.length ∧ CrOk n s.2.1 ∧ doW p.rules c W = ((doW p.rules s.2.1 (W.drop s.1)).1, s.1 + (doW p.rules s.2.1 (W.drop s.1)).2) ∧ Grows h s.2.2 ∧ s.2.2.at h.next = some (.row 25 true bx) ∧ s.2.2.at D = some (.row 107 true ((pad5 s.2.1).map int))) (fun s => W.length - s.1) (0, c, H) ⟨Nat.zero_le _, hcr, by simp, g2, a1, aD⟩ ⟨rfl, rfl, rfl, rfl, rfl, rfl, trivial⟩ (Hp.Le.refl _) ?_
    rintro ⟨k, cur, H0⟩ φ3 ⟨hk, hcu, hdo, hg, ha, hd⟩
    dsimp only at hk hcu hdo hg ha hd ⊢
    have hcul := hcu.len
    have hp5 := pad5_len (c := cur) (by omega)
    conv => whnf
    repeat (refine SeqP.go ?_; conv => whnf)
    refine cmpB (fun c1 => ?_) (fun c1 => ?_)
    rotate_left
    · conv => whnf
      repeat (refine SeqP.go ?_; conv => whnf)
      exact ⟨(k, cur, H0), ⟨rfl, rfl, rfl, trivial⟩, ⟨rfl, doW_end (by omega) hdo, hcu, hg, ha, hd⟩, rfl⟩
    have hkl : k < W.length := by omega
    have hcc := (hu.ext hg)
    obtain ⟨aw', cw', ew, hcc⟩ := hcc
    cases ew
    have hcc := hcc k hkl
    obtain ⟨r, o, sp, ea, hsp, hci⟩ := hcc
    subst ea
    have hstop := doW_stop hkl hdo
    have hgo := fun cur' => doW_go (cur' := cur') hkl hdo
    have hexi : ∃ i, W[k] = i := ⟨_, rfl⟩
    obtain ⟨i, ei⟩ := hexi
    rw [ei] at hci hstop hgo
    conv => whnf
    repeat (refine SeqP.go ?_; conv => whnf)
    refine ⟨hsp, ⟨by omega, by omega⟩, ?_⟩
    conv => whnf
    refine ⟨int i, by rw [offAt_eq, Nat.add_comm]; simpa using hci, ?_⟩
    conv => whnf
    repeat (refine SeqP.go ?_; conv => whnf)
    refine cmpB (fun c2 => ?_) (fun c2 => ?_)
    · conv => whnf
      repeat (refine SeqP.go ?_; conv => whnf)
      exact ⟨(k, cur, H0), ⟨rfl, rfl, rfl, trivial⟩, ⟨rfl, hstop (step_no (by omega)), hcu, hg, ha, hd⟩, rfl⟩
    conv => whnf
    refine ⟨_, cellAt_row ha b3, ?_⟩
    conv => whnf
    refine cmpB (fun c3 => ?_) (fun c3 => ?_)
    · conv => whnf
      repeat (refine SeqP.go ?_; conv => whnf)
      exact ⟨(k, cur, H0), ⟨rfl, rfl, rfl, trivial⟩, ⟨rfl, hstop (step_no (by omega)), hcu, hg, ha, hd⟩, rfl⟩
    have hii : 0 ≤ i ∧ i < p.rules.length := by omega
    have hil : i.toNat < p.rules.length := by omega
    have hkf := RV.cells (show RV H0 _ p.rules from BuiltC.ext hg k3)
    obtain ⟨a3', e3', hkf⟩ := hkf
    cases e3'
    have hkg := hkf i.toNat hil
    clear hkf
    obtain ⟨rr, ear, hkc⟩ := hkg
    subst ear
    have hqi := hqin i.toNat hil
    have hstop2 := fun x => hstop (step_not hii x)
    have hgo2 := fun x => hgo _ (step_yes hii x)
    have hexq : ∃ q, p.rules[i.toNat] = q := ⟨_, rfl⟩
    obtain ⟨q, eq⟩ := hexq
    rw [eq] at hkc hqi hstop2 hgo2
    have hq5 : QIn 5 q := by unfold QIn at hqi ⊢; omega
    conv => whnf
    refine ⟨_, all_cells hd (by rw [List.length_map, hp5]), ?_⟩
    conv => whnf
    refine ⟨_, cellAt_row ha b3, ?_⟩
    conv => whnf
    refine ⟨rfl, ⟨by omega, by omega⟩, ?_⟩
    conv => whnf
    refine ⟨[int q.a, int q.b, int q.c, int q.d], by rw [offAt_eq]; simpa using hkc, ?_⟩
    conv => whnf
    refine CallP.mono (allows_spec (pad5 cur) q _ hp5 hq5) ?_
    rintro r1 H1 ⟨⟨b, rfl, hb⟩, g3⟩
    have hb := bo_congr hb allowed_pad
    have ha1 := g3.at_ _ _ ha
    have hd1 := g3.at_ _ _ hd
    have hg1 := hg.trans g3
    cases b with
    | false =>
      conv => whnf
      repeat (refine SeqP.go ?_; conv => whnf)
      exact ⟨(k, cur, H1), ⟨rfl, rfl, rfl, trivial⟩, ⟨rfl, hstop2 hb.f, hcu, hg1, ha1, hd1⟩, rfl⟩
    | true =>
      have hal := hb.t
      have hcu' := hcu.after hqi hal
      have hbd : ∀ j, -100 ≤ gl (pad5 cur) j ∧ gl (pad5 cur) j ≤ 100 := fun j => by
        rw [gl_pad]
        have := hcu.nn j
        have := hcu.le j
        omega
      have hkc1 := g3.cells hkc
      conv => whnf
      repeat (refine SeqP.go ?_; conv => whnf)
      refine ⟨_, all_cells hd1 (by rw [List.length_map, hp5]), ?_⟩
      conv => whnf
      refine ⟨_, cellAt_row ha1 b3, ?_⟩
      conv => whnf
      refine ⟨rfl, ⟨by omega, by omega⟩, ?_⟩
      conv => whnf
      refine ⟨[int q.a, int q.b, int q.c, int q.d], by rw [offAt_eq]; simpa using hkc1, ?_⟩
      conv => whnf
      refine CallP.mono (after_spec (pad5 cur) q _ hp5 hbd hq5) ?_
      rintro r2 H2 ⟨rfl, g4⟩
      have ha2 := g4.at_ _ _ ha1
      have hd2 := g4.at_ _ _ hd1
      have hg2 := hg1.trans g4
      have hal5 : (after (pad5 cur) q).length = 5 := by rw [after_len, hp5]
      have hap := after_pad (c := cur) (q := q) (by rw [hcul]; exact hqi)
      unfold cv
      conv => whnf
      refine ⟨by show ((after (pad5 cur) q).map int).length = 5; rw [List.length_map, hal5], _, storeAt_full (vs := (after (pad5 cur) q).map int) hd2 (by rw [List.length_map, List.length_map, hal5, hp5]) (ints_one _) (over_int (k := pad5 cur) (by rw [hal5, hp5])), ?_⟩
      conv => whnf
      refine ⟨((k + 1 : Nat) : Int), wie (by omega) (by omega), ?_⟩
      conv => whnf
      refine ⟨((k + 1 : Nat) : Int), wie (by omega) (by omega), ?_⟩
      conv => whnf
      exact Rnd.mk (k + 1, after cur q, _) ⟨by show k + 1 ≤ _; omega, hcu', hgo2 hal, hg2.then_set _ (by omega), by rw [Hp.at_set_ne _ (by omega)]; exact ha2, by rw [← hap]; exact Hp.at_set_self _ (Hp.lt_of_at hd2)⟩ (by show _ - (k + 1) < _ - k; omega) ⟨rfl, rfl, rfl, rfl, rfl, rfl, trivial⟩ (Hp.Le.refl _) rfl
  rintro ⟨k, cur, H1⟩ φ4 _ ⟨rfl, hdo, hcu, hg, ha, hd⟩
  dsimp only at hdo hcu hg ha hd ⊢
  have hcul := hcu.len
  have hp5 := pad5_len (c := cur) (by omega)
  conv => whnf
  repeat (refine SeqP.go ?_; conv => whnf)
  refine ⟨_, cellAt_row ha b0, ?_⟩
  conv => whnf
  refine resP_cutLim (n := 5) (k := n) (by decide) (by omega) ?_
  conv => whnf
  refine CallP.mono (clone_spec D n 5 cur _ hcul (by omega) ⟨_, _, _, hd, by rw [List.length_map]; omega, fun j hj => ?_⟩) ?_
  · rw [List.getElem?_map]
    have e1 : (pad5 cur)[j]? = cur[j]? := by unfold pad5; rw [List.getElem?_append_left hj]
    rw [e1, List.getElem?_eq_getElem hj]
    rfl
  rintro r h4 ⟨hb, g4⟩
  have hb' := hb.back (h1 := h) hg.next
  have hfin : MeetR p c W h h4 (.tuple ⟨[r, int k, int 0]⟩) := ⟨_, _, _, rfl, fun x => absurd hP x, fun _ x => absurd hC x, fun _ _ => ⟨rfl, by rw [hdo], by rw [hdo]; exact hb'⟩⟩
  rcases id hb with ⟨rfl, e⟩ | ⟨r2, rfl, _, _⟩
  · conv => whnf
    repeat (refine SeqP.go ?_; conv => whnf)
    exact ⟨hfin, hg.trans g4⟩
  · conv => whnf
    repeat (refine SeqP.go ?_; conv => whnf)
    exact ⟨hfin, hg.trans g4⟩
end
end Go.Proofs.Ytpiplaicnbapbaa
