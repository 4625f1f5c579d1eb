/- Contracts of the functions that T27 comes to. -/
import Derived.Test.YtpiplaicnbapbaaT10
set_option maxRecDepth 100000
set_option maxHeartbeats 2000000
set_option linter.unusedVariables false
set_option linter.unusedSectionVars false
set_option linter.unusedSimpArgs false
namespace Go.Proofs.Ytpiplaicnbapbaa
open Go.Rx Go.RowKit
structure Quest where
  a : List Int
  b : Int
  m : Int
def QV (h : Hp) (v : Value) (q : Quest) : Prop := ∃ va, v = .agg ⟨[va, int q.b, int q.m]⟩ ∧ LV h va q.a
theorem QV.ext {h h' : Hp} {v : Value} {q : Quest} (g : Grows h h') (k : QV h v q) : QV h' v q := by
  obtain ⟨va, e, k⟩ := k
  exact ⟨va, e, k.ext g⟩
theorem QV.box {h : Hp} {v : Value} {q : Quest} (k : QV h v q) : ∃ bx : List Value, v = .agg ⟨bx⟩ ∧ bx.length = 3 ∧ (∃ a, bx[0]? = some (.slice a q.a.length q.a.length) ∧ LV h (.slice a q.a.length q.a.length) q.a) ∧ bx[1]? = some (int q.b) ∧ bx[2]? = some (int q.m) ∧ bx.all oneCell = true := by
  obtain ⟨va, rfl, k⟩ := k
  obtain ⟨ao, rfl⟩ := k.known
  exact ⟨_, rfl, rfl, ⟨ao, rfl, k⟩, rfl, rfl, rfl⟩
structure QOk (q : Quest) : Prop where
  l1 : 1 ≤ q.a.length
  l2 : q.a.length ≤ 2
  ac : ∀ x ∈ q.a, -5 ≤ x ∧ x ≤ 5
  b : -9 ≤ q.b ∧ q.b ≤ 9
  m : 0 ≤ q.m ∧ q.m ≤ 9
def dotN (a k : List Int) : Nat → Int
  | 0 => 0
  | j + 1 => dotN a k j + gl a j * gl k j
theorem dotN_succ (a k : List Int) (j : Nat) : dotN a k (j + 1) = dotN a k j + gl a j * gl k j := rfl
theorem mul_bd5 {x y : Int} (hx : -5 ≤ x ∧ x ≤ 5) (hy : 0 ≤ y ∧ y ≤ 9) : -45 ≤ x * y ∧ x * y ≤ 45 := by
  have h1 : (x * y).natAbs ≤ 45 := mul_bd (m := 5) (n := 9) (by omega) (by omega) (by omega)
  omega
theorem dotN_bd {a k : List Int} (ha : ∀ x ∈ a, -5 ≤ x ∧ x ≤ 5) (hk : ∀ x ∈ k, 0 ≤ x ∧ x ≤ 9) : ∀ j, j ≤ a.length → j ≤ k.length → -45 * (j : Int) ≤ dotN a k j ∧ dotN a k j ≤ 45 * j
  | 0, _, _ => by simp [dotN]
  | j + 1, h1, h2 => by
    have ih := dotN_bd ha hk j (by omega) (by omega)
    have e1 := ha (gl a j) (by rw [gl_at (by omega)]; exact List.getElem_mem _)
    have e2 := hk (gl k j) (by rw [gl_at (by omega)]; exact List.getElem_mem _)
    have := mul_bd5 e1 e2
    rw [dotN_succ]
    omega
/-- The question is true of kinds. -/
def TrueP (q : Quest) (k : List Int) : Prop := (q.m = 0 ∧ q.b ≤ dotN q.a k k.length) ∨ (q.m ≠ 0 ∧ (dotN q.a k k.length - q.b).tmod q.m = 0)
theorem sum_range (a k : List Int) : ∀ n, ((List.range n).map fun i => gl a i * gl k i).sum = dotN a k n
  | 0 => rfl
  | n + 1 => by rw [List.range_succ, List.map_append, List.sum_append, sum_range a k n]; simp [dotN_succ]
theorem sum_bd2 : ∀ (l : List Int), (∀ x ∈ l, -1000 ≤ x ∧ x ≤ 1000) → -1000 * (l.length : Int) ≤ l.sum ∧ l.sum ≤ 1000 * l.length
  | [], _ => by simp
  | x :: l, h => by
    have h1 := h x (by simp)
    have h2 := sum_bd2 l (fun y hy => h y (by simp [hy]))
    simp only [List.sum_cons, List.length_cons]
    omega
theorem tmod_abs {x m : Int} (hm : 0 < m) : (x.tmod m).natAbs < m.natAbs := by
  rw [Int.natAbs_tmod]
  exact Nat.mod_lt _ (by omega)
attribute [local irreducible] E idxN cellAt cellsAt storeAt callable helems hmoved lookIn findKey keyOk hentries Hp.at Hp.set Hp.lay arBits hupdated setAt CallP YieldP BoolOf IsWrap Rnd LoopP AppP CutP Int.tmod Int.tdiv Int.fdiv
section
variable [Unknowns]
attribute [local irreducible] ResP sameAt
theorem sum_spec2 (v : Value) (l : List Int) (h : Hp) (hv : Ints h v l) (hl : l.length ≤ 1000000) (hin : ∀ x ∈ l, -1000 ≤ x ∧ x ≤ 1000) : CallP E 90 [v] h (fun r h' => r = int l.sum ∧ h' = h) := by
  obtain ⟨a, cap, rfl, hc⟩ := id hv
  refine enter90 (by simp) ?_
  conv => whnf
  repeat (refine SeqP.go ?_; conv => whnf)
  refine loop_inv (α := Nat) (fun k => [(8, int k), (7, int l.length), (6, .slice a l.length cap), (3, int (l.take k).sum)]) (fun _ => h) (fun k => k ≤ l.length) (fun k => l.length - k) 0 (by omega) ⟨rfl, rfl, rfl, rfl, trivial⟩ (Hp.Le.refl _) ?_
  intro k φ hk
  conv => whnf
  repeat (refine SeqP.go ?_; conv => whnf)
  refine cmpB (fun hb => ?_) (fun hb => ?_)
  · have hk' : k < l.length := by omega
    obtain ⟨r, o, sp, rfl, hsp, hcell⟩ := hc k hk'
    have b1 := sum_bd2 (l.take k) (fun x hx => hin x (List.mem_of_mem_take hx))
    have b2 := hin l[k] (List.getElem_mem hk')
    have e1 : (l.take (k + 1)).sum = (l.take k).sum + l[k] := by
      rw [List.take_succ_eq_append_getElem hk', List.sum_append]; simp
    have e2 : (l.take k).length = k := by rw [List.length_take]; omega
    conv => whnf
    repeat (refine SeqP.go ?_; conv => whnf)
    refine ⟨hsp, ⟨by omega, by omega⟩, ?_⟩
    conv => whnf
    refine ⟨_, hcell, ?_⟩
    conv => whnf
    refine ⟨(l.take (k + 1)).sum, wie e1.symm (by rw [e1]; rw [e2] at b1; omega), ?_⟩
    conv => whnf
    refine ⟨_, wid (by omega), ?_⟩
    conv => whnf
    exact Rnd.mk (k + 1) (by omega) (by omega) ⟨rfl, rfl, rfl, rfl, trivial⟩ (Hp.Le.refl _) rfl
  · have : k = l.length := by omega
    subst this
    conv => whnf
    repeat (refine SeqP.go ?_; conv => whnf)
    refine ⟨?_, rfl⟩
    show int (l.take l.length).sum = _
    rw [List.take_length]
theorem isTrue_spec (v w : Value) (q : Quest) (kinds : List Int) (h : Hp) (hv : QV h v q) (hw : Ints h w kinds) (hq : QOk q) (hkl : kinds.length = q.a.length) (hk : ∀ x ∈ kinds, 0 ≤ x ∧ x ≤ 9) : CallP E 64 [v, w] h (fun r h' => (∃ b, r = .bool b ∧ BoolOf b (TrueP q kinds)) ∧ Grows h h') := by
  obtain ⟨bx, rfl, hbl, ⟨a1, b0, k1⟩, b1, b2, -⟩ := hv.box
  have hl2 := hq.l2
  have hqb := hq.b
  have hqm := hq.m
  have hat : (h.lay (.row 36 true bx)).at h.next = some (.row 36 true bx) := Hp.at_lay_self _ _
  obtain ⟨ak, ck, rfl, hck⟩ := id hw
  have hdb := dotN_bd hq.ac hk
  refine enter64 (by simp) ?_
  conv => whnf
  refine SeqP.go ?_
  conv => whnf
  refine SeqP.cut (α := Hp) (fun Hb => [(5, slc Hb.next 0 kinds.length kinds.length), (2, ptr h.next 0), (1, .slice ak kinds.length ck)]) (fun Hb H => H = Hb.lay (.row 3 true (rowF kinds.length fun i => if i < 0 then gl q.a i * gl kinds i else 0)) ∧ Grows h Hb ∧ Hb.at h.next = some (.row 36 true bx)) ?_ ?_
  · conv => whnf
    refine ⟨⟨by omega, by omega, by omega, by omega⟩, ?_⟩
    conv => whnf
    refine ⟨_, ⟨rfl, rfl, rfl, trivial⟩, ⟨?_, Grows.lay _ _, hat⟩, rfl⟩
    rw [show (rowF kinds.length fun i => if i < 0 then gl q.a i * gl kinds i else 0) = rowF kinds.length fun _ => 0 from rowF_congr fun i _ => if_neg (by omega), ← times_zero]
    rfl
  rintro Hb φ1 _ ⟨rfl, gb, ab⟩
  conv => whnf
  refine SeqP.cut (α := Unit) (fun _ => [(5, slc Hb.next 0 kinds.length kinds.length), (2, ptr h.next 0)]) (fun _ H => H = Hb.lay (.row 3 true (rowF kinds.length fun i => if i < kinds.length then gl q.a i * gl kinds i else 0))) ?_ ?_
  · conv => whnf
    repeat (refine SeqP.go ?_; conv => whnf)
    refine loop_inv (α := Nat) (fun k => [(14, int k), (13, int kinds.length), (12, .slice ak kinds.length ck), (5, slc Hb.next 0 kinds.length kinds.length), (2, ptr h.next 0)]) (fun k => Hb.lay (.row 3 true (rowF kinds.length fun i => if i < k then gl q.a i * gl kinds i else 0))) (fun k => k ≤ kinds.length) (fun k => kinds.length - k) 0 (Nat.zero_le _) ⟨rfl, rfl, rfl, rfl, rfl, trivial⟩ (Hp.Le.refl _) ?_
    intro k φ hkk
    conv => whnf
    repeat (refine SeqP.go ?_; conv => whnf)
    refine cmpB (fun hb1 => ?_) (fun hb1 => ?_)
    rotate_left
    · have : k = kinds.length := by omega
      subst this
      conv => whnf
      repeat (refine SeqP.go ?_; conv => whnf)
      exact ⟨(), ⟨rfl, rfl, trivial⟩, rfl, rfl⟩
    have hkl' : k < kinds.length := by omega
    have hex : ∃ R, (rowF kinds.length fun i => if i < k then gl q.a i * gl kinds i else 0) = R := ⟨_, rfl⟩
    obtain ⟨R, eR⟩ := hex
    have hRl : R.length = kinds.length := by rw [← eR, rowF_length]
    have hRs : R.set k (int (gl q.a k * gl kinds k)) = rowF kinds.length fun i => if i < k + 1 then gl q.a i * gl kinds i else 0 := by
      rw [← eR, rowF_set]
      refine rowF_congr fun i _ => ?_
      by_cases e : i = k
      · subst e; rw [if_pos rfl, if_pos (by omega)]
      · rw [if_neg e]
        by_cases e2 : i < k
        · rw [if_pos e2, if_pos (by omega)]
        · rw [if_neg e2, if_neg (by omega)]
    rw [eR]
    have hgk : Grows h (Hb.lay (.row 3 true R)) := gb.then_lay _
    have hatk : (Hb.lay (.row 3 true R)).at h.next = some (.row 36 true bx) := Hp.at_lay_old _ ab
    have hc := (hw.ext hgk)
    obtain ⟨ak', ck', ew, hcc⟩ := hc
    cases ew
    have hc := hcc k hkl'
    obtain ⟨r, o, sp, ea, hsp, hci⟩ := hc
    subst ea
    have hc2 := (k1.ints.ext hgk)
    obtain ⟨az', cz', ew2, hcc2⟩ := hc2
    cases ew2
    have hc2 := hcc2 k (by omega)
    obtain ⟨r2, o2, sp2, ea2, hsp2, hci2⟩ := hc2
    subst ea2
    have hsx := hq.ac (gl q.a k) (by rw [gl_at (by omega)]; exact List.getElem_mem _)
    have hkx := hk (gl kinds k) (by rw [gl_at (by omega)]; exact List.getElem_mem _)
    have hmb := mul_bd5 hsx hkx
    have e1 := gl_at (l := q.a) (i := k) (by omega)
    have e2 := gl_at (l := kinds) (i := k) (by omega)
    conv => whnf
    repeat (refine SeqP.go ?_; conv => whnf)
    refine ⟨hsp, ⟨by omega, by omega⟩, ?_⟩
    conv => whnf
    refine ⟨int (gl kinds k), by rw [offAt_eq, Nat.add_comm, e2]; simpa using hci, ?_⟩
    conv => whnf
    refine ⟨_, cellAt_row hatk b0, ?_⟩
    conv => whnf
    refine ⟨hsp2, ⟨by omega, by omega⟩, ?_⟩
    conv => whnf
    refine ⟨int (gl q.a k), by rw [offAt_eq, Nat.add_comm, e1]; simpa using hci2, ?_⟩
    conv => whnf
    refine ⟨gl q.a k * gl kinds k, wie rfl (by omega), ?_⟩
    conv => whnf
    refine ⟨rfl, ⟨by omega, by omega⟩, ?_⟩
    conv => whnf
    have e9 : storeAt (Hb.lay (.row 3 true R)) Hb.next (offAt 0 ((k : Int)).toNat 1) [int (gl q.a k * gl kinds k)] = some (Hb.lay (.row 3 true (rowF kinds.length fun i => if i < k + 1 then gl q.a i * gl kinds i else 0))) := by
      have := storeAt_lay (h := Hb) (e := 3) (x := true) (cs := R) (o := k) (v := int (gl q.a k * gl kinds k)) (by omega) rfl
      rw [hRs] at this
      rw [offAt_eq]
      simpa using this
    refine ⟨rfl, _, e9, ?_⟩
    conv => whnf
    refine ⟨((k + 1 : Nat) : Int), wie (by omega) (by omega), ?_⟩
    conv => whnf
    exact Rnd.mk (k + 1) (by show k + 1 ≤ _; omega) (by show _ - (k + 1) < _ - k; omega) ⟨rfl, rfl, rfl, rfl, rfl, trivial⟩ (Hp.Le.refl _) rfl
  rintro _ φ2 _ rfl
  have eR : (rowF kinds.length fun i => if i < kinds.length then gl q.a i * gl kinds i else 0) = ((List.range kinds.length).map fun i => gl q.a i * gl kinds i).map int := by
    unfold rowF
    rw [List.map_map]
    refine List.map_congr_left fun i hi => ?_
    exact congrArg int (if_pos (List.mem_range.1 hi))
  rw [eR]
  have hexT : ∃ T, (List.range kinds.length).map (fun i => gl q.a i * gl kinds i) = T := ⟨_, rfl⟩
  obtain ⟨T, eT⟩ := hexT
  have hTl : T.length = kinds.length := by rw [← eT]; simp
  have hTs : T.sum = dotN q.a kinds kinds.length := by rw [← eT]; exact sum_range _ _ _
  have hTb : ∀ x ∈ T, -1000 ≤ x ∧ x ≤ 1000 := fun x hx => by
    rw [← eT] at hx
    obtain ⟨i, hi, rfl⟩ := List.mem_map.1 hx
    have hi := List.mem_range.1 hi
    have hsx := hq.ac (gl q.a i) (by rw [gl_at (by omega)]; exact List.getElem_mem _)
    have hkx := hk (gl kinds i) (by rw [gl_at (by omega)]; exact List.getElem_mem _)
    have := mul_bd5 hsx hkx
    omega
  rw [eT]
  have hdn := hdb kinds.length (by omega) (Nat.le_refl _)
  have hexd : ∃ d, dotN q.a kinds kinds.length = d := ⟨_, rfl⟩
  obtain ⟨d, ed⟩ := hexd
  have hTP : TrueP q kinds ↔ (q.m = 0 ∧ q.b ≤ d) ∨ (q.m ≠ 0 ∧ (d - q.b).tmod q.m = 0) := by unfold TrueP; rw [ed]
  rw [ed] at hTs hdn
  have hT3 : Ints (Hb.lay (.row 3 true (T.map int))) (slc Hb.next 0 kinds.length kinds.length) T := by
    have := ints_of_row (c := kinds.length) (Hp.at_lay_self Hb (.row 3 true (T.map int))) (l := T) fun k hk => by rw [List.getElem?_map, List.getElem?_eq_getElem hk]; rfl
    rw [hTl] at this
    exact this
  have hat3 : (Hb.lay (.row 3 true (T.map int))).at h.next = some (.row 36 true bx) := Hp.at_lay_old _ ab
  have hg3 : Grows h (Hb.lay (.row 3 true (T.map int))) := gb.then_lay _
  conv => whnf
  refine SeqP.cut (α := Unit) (fun _ => [(8, int (d - q.b)), (2, ptr h.next 0)]) (fun _ H => H = Hb.lay (.row 3 true (T.map int))) ?_ ?_
  · conv => whnf
    refine CallP.mono (sum_spec2 _ T _ hT3 (by omega) hTb) ?_
    rintro r h5 ⟨rfl, rfl⟩
    rw [hTs]
    conv => whnf
    refine ⟨_, cellAt_row hat3 b1, ?_⟩
    conv => whnf
    refine ⟨d - q.b, wie rfl (by omega), ?_⟩
    conv => whnf
    refine ⟨?_, ?_⟩
    · repeat' (first | exact True.intro | (refine And.intro ?_ ?_ <;> (conv => whnf)))
      all_goals first
        | exact sameAt_val (h2 := _) rfl (sameV_ptr3 _ _)
        | exact sameAt_val (h2 := _) (congrArg (hval _) (cellAt_row hat3 b1)) (sameV_int _)
        | trace_state
    conv => whnf
    exact ⟨(), ⟨rfl, rfl, trivial⟩, rfl, rfl⟩
  rintro _ φ3 _ rfl
  conv => whnf
  repeat (refine SeqP.go ?_; conv => whnf)
  refine ⟨_, cellAt_row hat3 b2, ?_⟩
  conv => whnf
  refine cmpB (fun c1 => ?_) (fun c1 => ?_)
  · conv => whnf
    repeat (refine SeqP.go ?_; conv => whnf)
    refine cmpB (fun c2 => ?_) (fun c2 => ?_)
    · conv => whnf
      repeat (refine SeqP.go ?_; conv => whnf)
      exact ⟨⟨true, rfl, bo_yes (hTP.2 (.inl ⟨c1, by omega⟩))⟩, hg3⟩
    · conv => whnf
      repeat (refine SeqP.go ?_; conv => whnf)
      exact ⟨⟨false, rfl, bo_no fun k => by (rcases hTP.1 k with k | k) <;> omega⟩, hg3⟩
  · conv => whnf
    repeat (refine SeqP.go ?_; conv => whnf)
    refine ⟨_, cellAt_row hat3 b2, ?_⟩
    conv => whnf
    refine ⟨c1, ?_⟩
    conv => whnf
    refine cmpB (fun c2 => ?_) (fun c2 => ?_)
    · conv => whnf
      repeat (refine SeqP.go ?_; conv => whnf)
      exact ⟨⟨true, rfl, bo_yes (hTP.2 (.inr ⟨c1, c2⟩))⟩, hg3⟩
    · conv => whnf
      repeat (refine SeqP.go ?_; conv => whnf)
      exact ⟨⟨false, rfl, bo_no fun k => by exact (hTP.1 k).elim (fun k => c1 k.1) (fun k => c2 k.2)⟩, hg3⟩
end
end Go.Proofs.Ytpiplaicnbapbaa
