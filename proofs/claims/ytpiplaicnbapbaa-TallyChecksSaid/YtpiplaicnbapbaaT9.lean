/- Contracts of the functions that T27 comes to. -/
import Derived.Test.YtpiplaicnbapbaaT8
set_option maxRecDepth 100000
set_option maxHeartbeats 2000000
set_option linter.unusedVariables false
set_option linter.unusedSectionVars false
set_option linter.unusedSimpArgs false
namespace Go.Proofs.Ytpiplaicnbapbaa
open Go.Rx Go.RowKit
/-- A crowd as a value. -/
def cv (l : List Int) : Value := .agg ⟨l.map int⟩
theorem over_int {l k : List Int} (h : l.length = k.length) : over (k.map int) 0 (l.map int) = l.map int := by
  have key : ∀ (a b pre : List Value), a.length = b.length → over (pre ++ b) pre.length a = pre ++ a := by
    intro a
    induction a with
    | nil => intro b pre hb; cases b with | nil => rfl | cons x b => simp at hb
    | cons x a ih =>
      intro b pre hb
      cases b with
      | nil => simp at hb
      | cons y b =>
        have h1 := ih b (pre ++ [x]) (by simpa using hb)
        have h2 : (pre ++ y :: b).set pre.length x = pre ++ [x] ++ b := by
          rw [List.set_append_right _ _ (Nat.le_refl _), Nat.sub_self]
          simp
        show over ((pre ++ y :: b).set pre.length x) (pre.length + 1) a = _
        rw [h2]
        rw [List.length_append, List.length_singleton] at h1
        rw [h1]
        simp
  exact key _ _ [] (by simp [h])
attribute [local irreducible] E idxN cellAt cellsAt storeAt callable helems hmoved lookIn findKey keyOk hentries Hp.at Hp.set Hp.lay arBits hupdated setAt CallP YieldP BoolOf IsWrap Rnd LoopP AppP CutP Int.tmod Int.tdiv Int.fdiv
section
variable [Unknowns]
attribute [local irreducible] ResP sameAt finP
theorem ofKinds_spec (v w : Value) (p : Prot) (kinds : List Int) (h : Hp) (hv : PV h v p) (hw : Ints h w kinds) (hp : POk p) (hkl : kinds.length = p.start.length) (hk : ∀ x ∈ kinds, 0 ≤ x ∧ x ≤ 9) : CallP E 67 [v, w] h (fun r h' => r = cv (crs 5 p.start kinds kinds.length) ∧ Grows h h') := by
  obtain ⟨n, out, start, rules⟩ := p
  obtain ⟨n1, n5, -, -, st1, st2, sts, -, -⟩ := hp
  obtain ⟨vo, vs, vr, rfl, k1, k2, k3⟩ := hv
  dsimp only at n1 n5 st1 st2 sts k1 k2 k3 hkl ⊢
  obtain ⟨ao, rfl⟩ := k1.known
  obtain ⟨az, rfl⟩ := k2.known
  obtain ⟨ar, rfl, -⟩ := k3.slice
  obtain ⟨ak, ck, rfl, hck⟩ := id hw
  unfold pval
  have hexv : ∃ vs : List Value, vs = [int n, .slice ao out.length out.length, .slice az start.length start.length, .slice ar rules.length rules.length] := ⟨_, rfl⟩
  obtain ⟨bx, ebx⟩ := hexv
  have b2 : bx[2]? = some (.slice az start.length start.length) := by rw [ebx]; rfl
  rw [← ebx]
  clear ebx
  refine enter67 (by simp) ?_
  conv => whnf
  refine SeqP.go ?_
  conv => whnf
  refine SeqP.cut (α := Hp) (fun Hb => [(5, ptr Hb.next 0), (4, ptr (h.next + 1) 0), (2, ptr h.next 0), (1, .slice ak kinds.length ck)]) (fun Hb H => H = Hb.lay (.row 107 true ((crs 5 start kinds 0).map int)) ∧ Grows h Hb ∧ Hb.at h.next = some (.row 25 true bx) ∧ Hb.at (h.next + 1) = some (.row 107 true [int 0, int 0, int 0, int 0, int 0]) ∧ Hb.next = h.next + 2) ?_ ?_
  · conv => whnf
    exact ⟨_, ⟨rfl, congrArg (fun k => ptr k 0) (Hp.next_lay _ _), rfl, rfl, trivial⟩, ⟨rfl, (Grows.lay _ _).then_lay _, Hp.at_lay_old _ (Hp.at_lay_self _ _), at_nx2 (Hp.next_lay _ _) (Hp.at_lay_self _ _), by simp only [Hp.next_lay]⟩, rfl⟩
  rintro Hb φ0 _ ⟨rfl, gb, ab, ab1, hbn⟩
  conv => whnf
  refine SeqP.cut (α := Unit) (fun _ => [(5, ptr Hb.next 0), (4, ptr (h.next + 1) 0)]) (fun _ H => H = Hb.lay (.row 107 true ((crs 5 start kinds kinds.length).map int))) ?_ ?_
  rotate_left
  · rintro _ φ9 _ rfl
    have hl5 := crs_len 5 start kinds kinds.length
    have hat9 : (Hb.lay (.row 107 true ((crs 5 start kinds kinds.length).map int))).at (h.next + 1) = some (.row 107 true [int 0, int 0, int 0, int 0, int 0]) := Hp.at_lay_old _ ab1
    conv => whnf
    repeat (refine SeqP.go ?_; conv => whnf)
    refine ⟨(crs 5 start kinds kinds.length).map int, by rw [cellsAt_row (Hp.at_lay_self _ _) (by rw [List.length_map]; omega), List.drop_zero, List.take_of_length_le (by rw [List.length_map]; omega)], ?_⟩
    conv => whnf
    refine ⟨by show ((crs 5 start kinds kinds.length).map int).length = 5; rw [List.length_map, hl5], _, storeAt_full (vs := (crs 5 start kinds kinds.length).map int) hat9 (by rw [List.length_map, hl5]; rfl) (ints_one _) (over_int (k := [0, 0, 0, 0, 0]) (by rw [hl5]; rfl)), ?_⟩
    conv => whnf
    repeat (refine SeqP.go ?_; conv => whnf)
    obtain ⟨i107, t107, ag107, sz107⟩ := ty107
    refine leave_cell (r := h.next + 1) (o := 0) (cs := (crs 5 start kinds kinds.length).map int) rfl t107 ag107 ?_ ⟨rfl, (gb.then_lay _).then_set _ (by omega)⟩
    rw [sz107, cellsAt_row (Hp.at_set_self _ (Hp.lt_of_at hat9)) (by rw [List.length_map]; omega), List.drop_zero, List.take_of_length_le (by rw [List.length_map]; omega)]
  conv => whnf
  repeat (refine SeqP.go ?_; conv => whnf)
  refine loop_inv (α := Nat) (fun k => [(10, int k), (9, int kinds.length), (8, .slice ak kinds.length ck), (5, ptr Hb.next 0), (4, ptr (h.next + 1) 0), (2, ptr h.next 0)]) (fun k => Hb.lay (.row 107 true ((crs 5 start kinds k).map int))) (fun k => k ≤ kinds.length) (fun k => kinds.length - k) 0 (Nat.zero_le _) ⟨rfl, rfl, rfl, rfl, rfl, rfl, trivial⟩ (Hp.Le.refl _) ?_
  intro k φ hkk
  conv => whnf
  repeat (refine SeqP.go ?_; conv => whnf)
  refine cmpB (fun hb1 => ?_) (fun hb1 => ?_)
  rotate_left
  · have : k = kinds.length := by omega
    subst this
    conv => whnf
    repeat (refine SeqP.go ?_; conv => whnf)
    exact ⟨(), ⟨rfl, rfl, trivial⟩, rfl, rfl⟩
  have hkl' : k < kinds.length := by omega
  have hks : k < start.length := by omega
  have hgk : Grows h (Hb.lay (.row 107 true ((crs 5 start kinds k).map int))) := gb.then_lay _
  have hatk : (Hb.lay (.row 107 true ((crs 5 start kinds k).map int))).at h.next = some (.row 25 true bx) := Hp.at_lay_old _ ab
  have hc := (hw.ext hgk)
  obtain ⟨ak', ck', ew, hcc⟩ := hc
  cases ew
  have hc := hcc k hkl'
  obtain ⟨r, o, sp, ea, hsp, hci⟩ := hc
  subst ea
  have hc2 := (k2.ints.ext hgk)
  obtain ⟨az', cz', ew2, hcc2⟩ := hc2
  cases ew2
  have hc2 := hcc2 k hks
  obtain ⟨r2, o2, sp2, ea2, hsp2, hci2⟩ := hc2
  subst ea2
  have hsx := sts start[k] (List.getElem_mem hks)
  have hkx := hk kinds[k] (List.getElem_mem hkl')
  have hl5 := crs_len 5 start kinds k
  have hbd := crs_bd (m := 5) hk k (by omega : k ≤ start.length) (by omega)
  have hes := crs_succ 5 hks hkl'
  have hexs : ∃ s : Nat, start[k] = (s : Int) := ⟨start[k].toNat, by omega⟩
  obtain ⟨s, es⟩ := hexs
  have hexc : ∃ l, crs 5 start kinds k = l := ⟨_, rfl⟩
  obtain ⟨l, el⟩ := hexc
  rw [el] at hl5 hbd hes ⊢
  have hlx : 0 ≤ gl l s ∧ gl l s ≤ 9 * (k : Int) := by rw [gl_at (by omega)]; exact hbd _ (List.getElem_mem _)
  conv => whnf
  refine SeqP.go ?_
  conv => whnf
  refine SeqP.go ?_
  conv => whnf
  refine SeqP.go ?_
  conv => whnf
  refine ⟨hsp, ⟨by omega, by omega⟩, ?_⟩
  conv => whnf
  refine ⟨int kinds[k], by rw [offAt_eq, Nat.add_comm, ← el]; simpa using hci, ?_⟩
  conv => whnf
  repeat (refine SeqP.go ?_; conv => whnf)
  refine ⟨_, cellAt_row (by rw [← el]; exact hatk) b2, ?_⟩
  conv => whnf
  refine ⟨hsp2, ⟨by omega, by omega⟩, ?_⟩
  conv => whnf
  refine ⟨int s, by rw [offAt_eq, Nat.add_comm, ← el, ← es]; simpa using hci2, ?_⟩
  conv => whnf
  refine ⟨⟨by omega, by omega⟩, ?_⟩
  conv => whnf
  refine ⟨int (gl l s), ?_, ?_⟩
  · rw [offAt_eq]
    simpa using row_load (Hp.at_lay_self Hb (.row 107 true (l.map int))) (i := s) (by omega)
  conv => whnf
  refine ⟨gl l s + kinds[k], wie rfl (by omega), ?_⟩
  conv => whnf
  refine ⟨⟨by omega, by omega⟩, ?_⟩
  conv => whnf
  have e9 : storeAt (Hb.lay (.row 107 true (l.map int))) Hb.next (offAt 0 ((s : Int)).toNat 1) [int (gl l s + kinds[k])] = some (Hb.lay (.row 107 true ((crs 5 start kinds (k + 1)).map int))) := by
    have := storeAt_lay (h := Hb) (e := 107) (x := true) (cs := l.map int) (o := s) (v := int (gl l s + kinds[k])) (by rw [List.length_map]; omega) rfl
    rw [show (l.map int).set s (int (gl l s + kinds[k])) = (l.set s (gl l s + kinds[k])).map int from by rw [List.map_set]] at this
    rw [hes, offAt_eq]
    unfold bump
    dsimp only
    rw [es]
    simpa using this
  refine ⟨rfl, _, e9, ?_⟩
  conv => whnf
  refine ⟨((k + 1 : Nat) : Int), wie (by omega) (by omega), ?_⟩
  conv => whnf
  exact Rnd.mk (k + 1) (by show k + 1 ≤ _; omega) (by show _ - (k + 1) < _ - k; omega) ⟨rfl, rfl, rfl, rfl, rfl, rfl, trivial⟩ (Hp.Le.refl _) rfl
end
end Go.Proofs.Ytpiplaicnbapbaa
