/- Contracts of the functions that T22 comes to. -/
import Derived.Test.YtpiplaicnbapbaaT20
set_option maxRecDepth 100000
set_option maxHeartbeats 2000000
set_option linter.unusedVariables false
set_option linter.unusedSectionVars false
set_option linter.unusedSimpArgs false
namespace Go.Proofs.Ytpiplaicnbapbaa
open Go.Rx Go.RowKit
def RDoR (p : Prot) (c W : List Int) (h' : Hp) (r : Value) : Prop := ∃ (wv : Value), r = .tuple ⟨[wv, int (doW p.rules c W).2]⟩ ∧ View h' wv (doW p.rules c W).1
attribute [local irreducible] E idxN cellAt cellsAt storeAt callable helems hmoved lookIn findKey keyOk hentries Hp.at Hp.set Hp.lay arBits hupdated setAt CallP YieldP BoolOf IsWrap Rnd LoopP AppP CutP Int.tmod Int.tdiv Int.fdiv
section
variable [Unknowns]
attribute [local irreducible] ResP sameAt
theorem RDo_spec (v w u : Value) (p : Prot) (c W : List Int) (n : Nat) (h : Hp) (hv : PV h v p) (hw : View h w c) (hu : Ints h u W) (hWl : W.length ≤ 1000000) (hP : POk p) (en : p.n = n) (hc : CrOk n c) : CallP E 36 [v, w, u] h (fun r h' => RDoR p c W h' r ∧ CrOk n (doW p.rules c W).1 ∧ Grows h h') := by
  obtain ⟨bx, rfl, hbl, b0, -⟩ := hv.box
  obtain ⟨ac, cc, rfl⟩ := hw.known
  obtain ⟨aw, cw, rfl, hcw⟩ := id hu
  have hR : ∀ x ∈ p.rules, QIn n x := fun x hx => by
    obtain ⟨k, hk, rfl⟩ := List.getElem_of_mem hx
    rw [← en]
    exact hP.qin k hk
  have g0 : Grows h (h.lay (.row 26 true bx)) := Grows.lay _ _
  have a0 : (h.lay (.row 26 true bx)).at h.next = some (.row 26 true bx) := Hp.at_lay_self _ _
  refine enter36 (by simp) ?_
  conv => whnf
  refine SeqP.go ?_
  conv => whnf
  refine SeqP.cut (α := Nat × List Int × Value × Hp) (fun s => [(1, s.2.2.1), (2, .slice aw W.length cw)]) (fun s H => s.2.2.2 = H ∧ s.1 = W.length ∧ doW p.rules c W = (s.2.1, s.1) ∧ CrOk n s.2.1 ∧ Grows h s.2.2.2 ∧ View s.2.2.2 s.2.2.1 s.2.1) ?_ ?_
  rotate_left
  · rintro ⟨k, cur, wv, H⟩ φ9 _ ⟨rfl, hk, hdo, hcu, hg, hvw⟩
    dsimp only at hk hdo hcu hg hvw ⊢
    have kk := hvw.known
    obtain ⟨a', c', rfl⟩ := kk
    conv => whnf
    repeat (refine SeqP.go ?_; conv => whnf)
    exact ⟨⟨_, by rw [hdo, ← hk]; rfl, by rw [hdo]; exact hvw⟩, by rw [hdo]; exact hcu, hg⟩
  conv => whnf
  repeat (refine SeqP.go ?_; conv => whnf)
  refine loop_inv (α := Nat × List Int × Value × Hp) (fun s => [(8, int s.1), (1, s.2.2.1), (3, ptr h.next 0), (2, .slice aw W.length cw)]) (fun s => s.2.2.2) (fun s => s.1 ≤ W.length ∧ CrOk n s.2.1 ∧ doW p.rules c W = ((doW p.rules s.2.1 (W.drop s.1)).1, s.1 + (doW p.rules s.2.1 (W.drop s.1)).2) ∧ Grows h s.2.2.2 ∧ s.2.2.2.at h.next = some (.row 26 true bx) ∧ View s.2.2.2 s.2.2.1 s.2.1) (fun s => W.length - s.1) (0, c, _, _) ⟨Nat.zero_le _, hc, by simp, g0, a0, hw.ext g0⟩ ⟨rfl, rfl, rfl, rfl, trivial⟩ (Hp.Le.refl _) ?_
  rintro ⟨k, cur, wv, H0⟩ φ3 ⟨hk, hcu, hdo, hg, ha, hvw⟩
  dsimp only at hk hcu hdo hg ha hvw ⊢
  have kk := hvw.known
  obtain ⟨a', c', rfl⟩ := kk
  conv => whnf
  repeat (refine SeqP.go ?_; conv => whnf)
  refine cmpB (fun c1 => ?_) (fun c1 => ?_)
  rotate_left
  · conv => whnf
    repeat (refine SeqP.go ?_; conv => whnf)
    exact ⟨(k, cur, _, H0), ⟨rfl, rfl, trivial⟩, ⟨rfl, by show k = _; omega, doW_end (by omega) hdo, hcu, hg, hvw⟩, rfl⟩
  have hkl : k < W.length := by omega
  have hcc := (hu.ext hg)
  obtain ⟨aw', cw', ew, hcc⟩ := hcc
  cases ew
  have hcc := hcc k hkl
  obtain ⟨r, o, sp, ea, hsp, hci⟩ := hcc
  subst ea
  have hstop := doW_stop hkl hdo
  have hgo := fun cur' => doW_go (cur' := cur') hkl hdo
  have hexi : ∃ i, W[k] = i := ⟨_, rfl⟩
  obtain ⟨i, ei⟩ := hexi
  rw [ei] at hci hstop hgo
  conv => whnf
  repeat (refine SeqP.go ?_; conv => whnf)
  refine ⟨bx, all_cells ha hbl, ?_⟩
  conv => whnf
  refine ⟨hsp, ⟨by omega, by omega⟩, ?_⟩
  conv => whnf
  refine ⟨int i, by rw [offAt_eq, Nat.add_comm]; simpa using hci, ?_⟩
  conv => whnf
  refine CallP.mono (RMeet_spec _ _ p cur i n _ (hv.ext hg) hvw hP en hcu) ?_
  rintro r1 H1 ⟨⟨w1, b, rfl, e1, e2⟩, g1⟩
  have hg1 := hg.trans g1
  cases hst : step p.rules cur i with
  | none =>
    obtain ⟨rfl, rfl⟩ := e1 hst
    have hfin := hstop hst
    conv => whnf
    repeat (refine SeqP.go ?_; conv => whnf)
    exact ⟨⟨_, by rw [hfin]; rfl, by rw [hfin]; exact hvw.ext g1⟩, by rw [hfin]; exact hcu, hg1⟩
  | some cur' =>
    obtain ⟨rfl, hb1⟩ := e2 _ hst
    have hv1 := hb1.view
    have kk := hv1.known
    obtain ⟨a2, c2, rfl⟩ := kk
    conv => whnf
    repeat (refine SeqP.go ?_; conv => whnf)
    refine ⟨((k + 1 : Nat) : Int), wie (by omega) (by omega), ?_⟩
    conv => whnf
    exact Rnd.mk (k + 1, cur', _, H1) ⟨by show k + 1 ≤ _; omega, step_ok hR hcu hst, hgo _ hst, hg1, g1.at_ _ _ ha, hv1⟩ (by show _ - (k + 1) < _ - k; omega) ⟨rfl, rfl, rfl, rfl, trivial⟩ (Hp.Le.refl _) rfl
end
end Go.Proofs.Ytpiplaicnbapbaa
