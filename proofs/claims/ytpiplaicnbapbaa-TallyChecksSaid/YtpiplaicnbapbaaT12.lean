/- Contracts of the functions that T27 comes to. -/
import Derived.Test.YtpiplaicnbapbaaT11
set_option maxRecDepth 100000
set_option maxHeartbeats 2000000
set_option linter.unusedVariables false
set_option linter.unusedSectionVars false
set_option linter.unusedSimpArgs false
namespace Go.Proofs.Ytpiplaicnbapbaa
open Go.Rx Go.RowKit
theorem one_ints (h : Hp) (n : Int) : Ints (h.lay (.row 3 true [int n])) (slc h.next 0 1 1) [n] := (Built.lay1 (h0 := h) (Nat.le_refl _)).ints
theorem one_in (a b n : Int) : (∀ x ∈ [n], a ≤ x ∧ x ≤ b) ↔ (a ≤ n ∧ n ≤ b) := by simp
def AskP (q : Quest) (many : Int) : Prop := (∀ x ∈ q.a, -5 ≤ x ∧ x ≤ 5) ∧ (q.a.length : Int) = many ∧ (-9 ≤ q.b ∧ q.b ≤ 9) ∧ (0 ≤ q.m ∧ q.m ≤ 9)
def TrueR (q : Quest) (kinds : List Int) (r : Value) : Prop := ∃ (b : Bool) (e : Int), r = .tuple ⟨[.bool b, int e]⟩ ∧ (¬ (QOk q ∧ Cnt kinds q.a.length) → e = 1 ∧ b = false) ∧ (QOk q → Cnt kinds q.a.length → e = 0 ∧ BoolOf b (TrueP q kinds))
attribute [local irreducible] E idxN cellAt cellsAt storeAt callable helems hmoved lookIn findKey keyOk hentries Hp.at Hp.set Hp.lay arBits hupdated setAt CallP YieldP BoolOf IsWrap Rnd LoopP AppP CutP Int.tmod Int.tdiv Int.fdiv
section
variable [Unknowns]
attribute [local irreducible] ResP sameAt
theorem reftrue_spec (v w : Value) (q : Quest) (kinds : List Int) (h : Hp) (hv : QV h v q) (hw : Ints h w kinds) (hq : QOk q) (hkl : kinds.length = q.a.length) (hk : ∀ x ∈ kinds, 0 ≤ x ∧ x ≤ 9) : CallP E 45 [v, w] h (fun r h' => (∃ b, r = .bool b ∧ BoolOf b (TrueP q kinds)) ∧ Grows h h') := by
  obtain ⟨bx, rfl, hbl, ⟨a1, b0, k1⟩, b1, b2, -⟩ := hv.box
  have hl2 := hq.l2
  have hqb := hq.b
  have hqm := hq.m
  have hat : (h.lay (.row 69 true bx)).at h.next = some (.row 69 true bx) := Hp.at_lay_self _ _
  have g0 : Grows h (h.lay (.row 69 true bx)) := Grows.lay _ _
  obtain ⟨ak, ck, rfl, hck⟩ := id hw
  have hdb := dotN_bd hq.ac hk
  refine enter45 (by simp) ?_
  conv => whnf
  refine SeqP.go ?_
  conv => whnf
  refine SeqP.go ?_
  conv => whnf
  refine SeqP.cut (α := Unit) (fun _ => [(5, int (dotN q.a kinds kinds.length)), (2, ptr h.next 0)]) (fun _ H => H = h.lay (.row 69 true bx)) ?_ ?_
  · conv => whnf
    repeat (refine SeqP.go ?_; conv => whnf)
    refine loop_inv (α := Nat) (fun k => [(6, int k), (5, int (dotN q.a kinds k)), (2, ptr h.next 0), (1, .slice ak kinds.length ck)]) (fun k => h.lay (.row 69 true bx)) (fun k => k ≤ kinds.length) (fun k => kinds.length - k) 0 (Nat.zero_le _) ⟨rfl, rfl, rfl, rfl, trivial⟩ (Hp.Le.refl _) ?_
    intro k φ hkk
    conv => whnf
    repeat (refine SeqP.go ?_; conv => whnf)
    refine cmpB (fun hb1 => ?_) (fun hb1 => ?_)
    rotate_left
    · have : k = kinds.length := by omega
      subst this
      conv => whnf
      repeat (refine SeqP.go ?_; conv => whnf)
      exact ⟨(), ⟨rfl, rfl, trivial⟩, rfl, rfl⟩
    have hkl' : k < kinds.length := by omega
    have hc := (hw.ext g0)
    obtain ⟨ak', ck', ew, hcc⟩ := hc
    cases ew
    have hc := hcc k hkl'
    obtain ⟨r, o, sp, ea, hsp, hci⟩ := hc
    subst ea
    have hc2 := (k1.ints.ext g0)
    obtain ⟨az', cz', ew2, hcc2⟩ := hc2
    cases ew2
    have hc2 := hcc2 k (by omega)
    obtain ⟨r2, o2, sp2, ea2, hsp2, hci2⟩ := hc2
    subst ea2
    have hsx := hq.ac (gl q.a k) (by rw [gl_at (by omega)]; exact List.getElem_mem _)
    have hkx := hk (gl kinds k) (by rw [gl_at (by omega)]; exact List.getElem_mem _)
    have hmb := mul_bd5 hsx hkx
    have e1 := gl_at (l := q.a) (i := k) (by omega)
    have e2 := gl_at (l := kinds) (i := k) (by omega)
    have e3 := dotN_succ q.a kinds k
    have hd1 := hdb k (by omega) (by omega)
    conv => whnf
    repeat (refine SeqP.go ?_; conv => whnf)
    refine ⟨_, cellAt_row hat b0, ?_⟩
    conv => whnf
    refine ⟨hsp2, ⟨by omega, by omega⟩, ?_⟩
    conv => whnf
    refine ⟨int (gl q.a k), by rw [offAt_eq, Nat.add_comm, e1]; simpa using hci2, ?_⟩
    conv => whnf
    refine ⟨hsp, ⟨by omega, by omega⟩, ?_⟩
    conv => whnf
    refine ⟨int (gl kinds k), by rw [offAt_eq, Nat.add_comm, e2]; simpa using hci, ?_⟩
    conv => whnf
    refine ⟨gl q.a k * gl kinds k, wie rfl (by omega), ?_⟩
    conv => whnf
    refine ⟨dotN q.a kinds (k + 1), wie e3.symm (by omega), ?_⟩
    conv => whnf
    refine ⟨((k + 1 : Nat) : Int), wie (by omega) (by omega), ?_⟩
    conv => whnf
    exact Rnd.mk (k + 1) (by show k + 1 ≤ _; omega) (by show _ - (k + 1) < _ - k; omega) ⟨rfl, rfl, rfl, rfl, trivial⟩ (Hp.Le.refl _) rfl
  rintro _ φ2 _ rfl
  have hdn := hdb kinds.length (by omega) (Nat.le_refl _)
  have hexd : ∃ d, dotN q.a kinds kinds.length = d := ⟨_, rfl⟩
  obtain ⟨d, ed⟩ := hexd
  have hTP : TrueP q kinds ↔ (q.m = 0 ∧ q.b ≤ d) ∨ (q.m ≠ 0 ∧ (d - q.b).tmod q.m = 0) := by unfold TrueP; rw [ed]
  rw [ed] at hdn ⊢
  conv => whnf
  repeat (refine SeqP.go ?_; conv => whnf)
  refine ⟨_, cellAt_row hat b2, ?_⟩
  conv => whnf
  refine cmpB (fun c1 => ?_) (fun c1 => ?_)
  · conv => whnf
    repeat (refine SeqP.go ?_; conv => whnf)
    refine ⟨_, cellAt_row hat b1, ?_⟩
    conv => whnf
    refine cmpB (fun c2 => ?_) (fun c2 => ?_)
    · conv => whnf
      repeat (refine SeqP.go ?_; conv => whnf)
      exact ⟨⟨true, rfl, bo_yes (hTP.2 (.inl ⟨c1, by omega⟩))⟩, g0⟩
    · conv => whnf
      repeat (refine SeqP.go ?_; conv => whnf)
      exact ⟨⟨false, rfl, bo_no fun k => by (rcases hTP.1 k with k | k) <;> omega⟩, g0⟩
  · conv => whnf
    repeat (refine SeqP.go ?_; conv => whnf)
    refine ⟨_, cellAt_row hat b1, ?_⟩
    conv => whnf
    refine ⟨d - q.b, wie rfl (by omega), ?_⟩
    conv => whnf
    refine ⟨_, cellAt_row hat b2, ?_⟩
    conv => whnf
    refine ⟨c1, ?_⟩
    conv => whnf
    refine cmpB (fun c2 => ?_) (fun c2 => ?_)
    · conv => whnf
      repeat (refine SeqP.go ?_; conv => whnf)
      exact ⟨⟨true, rfl, bo_yes (hTP.2 (.inr ⟨c1, c2⟩))⟩, g0⟩
    · conv => whnf
      repeat (refine SeqP.go ?_; conv => whnf)
      exact ⟨⟨false, rfl, bo_no fun k => (hTP.1 k).elim (fun k => c1 k.1) (fun k => c2 k.2)⟩, g0⟩
theorem isQuestion_spec (v : Value) (q : Quest) (h : Hp) (hv : QV h v q) (hl : q.a.length ≤ 1000000) : CallP E 62 [v] h (fun r h' => (∃ b, r = .bool b ∧ BoolOf b (QOk q)) ∧ Grows h h') := by
  obtain ⟨bx, rfl, hbl, ⟨a1, b0, k1⟩, b1, b2, -⟩ := hv.box
  have hat : (h.lay (.row 36 true bx)).at h.next = some (.row 36 true bx) := Hp.at_lay_self _ _
  have g0 : Grows h (h.lay (.row 36 true bx)) := Grows.lay _ _
  refine enter62 (by simp) ?_
  conv => whnf
  repeat (refine SeqP.go ?_; conv => whnf)
  refine ⟨_, cellAt_row hat b0, ?_⟩
  conv => whnf
  refine cmpB (fun c1 => ?_) (fun c1 => ?_)
  rotate_left
  · conv => whnf
    repeat (refine SeqP.go ?_; conv => whnf)
    exact ⟨⟨false, rfl, bo_no fun k => by have := k.l1; omega⟩, g0⟩
  conv => whnf
  refine ⟨_, cellAt_row hat b0, ?_⟩
  conv => whnf
  refine cmpB (fun c2 => ?_) (fun c2 => ?_)
  rotate_left
  · conv => whnf
    repeat (refine SeqP.go ?_; conv => whnf)
    exact ⟨⟨false, rfl, bo_no fun k => by have := k.l2; omega⟩, g0⟩
  conv => whnf
  refine ⟨_, cellAt_row hat b0, ?_⟩
  conv => whnf
  refine CallP.mono (within_spec (-5) 5 _ q.a _ (k1.ints.ext g0) hl) ?_
  rintro r h1 ⟨rfl, rfl⟩
  by_cases c3 : ∀ x ∈ q.a, -5 ≤ x ∧ x ≤ 5
  rotate_left
  · rw [decide_eq_false c3]
    conv => whnf
    repeat (refine SeqP.go ?_; conv => whnf)
    exact ⟨⟨false, rfl, bo_no fun k => c3 k.ac⟩, g0⟩
  rw [decide_eq_true c3]
  conv => whnf
  refine ⟨_, cellAt_row hat b1, ?_⟩
  conv => whnf
  refine CallP.mono (within_spec (-9) 9 _ [q.b] _ (one_ints _ _) (by simp)) ?_
  rintro r h2 ⟨rfl, eh2⟩
  by_cases c4 : ∀ x ∈ [q.b], -9 ≤ x ∧ x ≤ 9
  rotate_left
  · rw [decide_eq_false c4]
    subst eh2
    conv => whnf
    repeat (refine SeqP.go ?_; conv => whnf)
    exact ⟨⟨false, rfl, bo_no fun k => c4 ((one_in _ _ _).2 k.b)⟩, g0.then_lay _⟩
  rw [decide_eq_true c4]
  subst eh2
  conv => whnf
  refine ⟨_, cellAt_row (Hp.at_lay_old _ hat) b2, ?_⟩
  conv => whnf
  refine CallP.mono (within_spec 0 9 _ [q.m] _ (one_ints _ _) (by simp)) ?_
  rintro r h3 ⟨rfl, eh3⟩
  by_cases c5 : ∀ x ∈ [q.m], 0 ≤ x ∧ x ≤ 9
  · rw [decide_eq_true c5]
    subst eh3
    conv => whnf
    repeat (refine SeqP.go ?_; conv => whnf)
    exact ⟨⟨true, rfl, bo_yes ⟨by omega, by omega, c3, (one_in _ _ _).1 c4, (one_in _ _ _).1 c5⟩⟩, (g0.then_lay _).then_lay _⟩
  · rw [decide_eq_false c5]
    subst eh3
    conv => whnf
    repeat (refine SeqP.go ?_; conv => whnf)
    exact ⟨⟨false, rfl, bo_no fun k => c5 ((one_in _ _ _).2 k.m)⟩, (g0.then_lay _).then_lay _⟩
theorem True_spec (v w : Value) (q : Quest) (kinds : List Int) (h : Hp) (hv : QV h v q) (hw : Ints h w kinds) (hl : q.a.length ≤ 1000000) (hkl : kinds.length ≤ 1000000) : CallP E 43 [v, w] h (fun r h' => TrueR q kinds r ∧ Grows h h') := by
  obtain ⟨bx, rfl, hbl, ⟨a1, b0, k1⟩, b1, b2, -⟩ := hv.box
  have hat : (h.lay (.row 36 true bx)).at h.next = some (.row 36 true bx) := Hp.at_lay_self _ _
  have g0 : Grows h (h.lay (.row 36 true bx)) := Grows.lay _ _
  obtain ⟨ak, ck, rfl, hck⟩ := id hw
  refine enter43 (by simp) ?_
  conv => whnf
  refine SeqP.go ?_
  conv => whnf
  refine SeqP.cut (α := Hp) (fun _ => [(2, ptr h.next 0), (1, .slice ak kinds.length ck)]) (fun s H => s = H ∧ QOk q ∧ Cnt kinds q.a.length ∧ Grows (h.lay (.row 36 true bx)) s) ?_ ?_
  · conv => whnf
    repeat (refine SeqP.go ?_; conv => whnf)
    refine ⟨bx, all_cells hat hbl, ?_⟩
    conv => whnf
    refine CallP.mono (isQuestion_spec _ q _ (hv.ext g0) hl) ?_
    rintro r h1 ⟨⟨b, rfl, hb⟩, g1⟩
    cases b with
    | false =>
      have hno := hb.f
      conv => whnf
      repeat (refine SeqP.go ?_; conv => whnf)
      exact ⟨⟨false, 1, rfl, fun _ => ⟨rfl, rfl⟩, fun k => absurd k hno⟩, g0.trans g1⟩
    | true =>
      have hQ := hb.t
      conv => whnf
      refine ⟨_, cellAt_row (g1.at_ _ _ hat) b0, ?_⟩
      conv => whnf
      refine CallP.mono (isCount_spec _ kinds q.a.length _ (hw.ext (g0.trans g1)) hkl) ?_
      rintro r h2 ⟨⟨b, rfl, hb2⟩, rfl⟩
      cases b with
      | false =>
        have hno := hb2.f
        conv => whnf
        repeat (refine SeqP.go ?_; conv => whnf)
        exact ⟨⟨false, 1, rfl, fun _ => ⟨rfl, rfl⟩, fun _ k => absurd k hno⟩, g0.trans g1⟩
      | true =>
        have hC := hb2.t
        conv => whnf
        repeat (refine SeqP.go ?_; conv => whnf)
        exact ⟨_, ⟨rfl, rfl, trivial⟩, ⟨rfl, hQ, hC, g1⟩, rfl⟩
  rintro h1 φ1 _ ⟨rfl, hQ, hC, g1⟩
  have g01 := g0.trans g1
  conv => whnf
  repeat (refine SeqP.go ?_; conv => whnf)
  refine ⟨bx, all_cells (g1.at_ _ _ hat) hbl, ?_⟩
  conv => whnf
  refine CallP.mono (isTrue_spec _ _ q kinds _ (hv.ext g01) (hw.ext g01) hQ (by have := hC.1; omega) hC.2.1) ?_
  rintro r h2 ⟨⟨b, rfl, hb⟩, g2⟩
  conv => whnf
  repeat (refine SeqP.go ?_; conv => whnf)
  exact ⟨⟨b, 0, rfl, fun k => absurd ⟨hQ, hC⟩ k, fun _ _ => ⟨rfl, hb⟩⟩, g01.trans g2⟩
theorem asked_spec (v : Value) (q : Quest) (many : Int) (h : Hp) (hv : QV h v q) (hl : q.a.length ≤ 1000000) : CallP E 44 [v, int many] h (fun r h' => (∃ b, r = .bool b ∧ BoolOf b (AskP q many)) ∧ Grows h h') := by
  obtain ⟨bx, rfl, hbl, ⟨a1, b0, k1⟩, b1, b2, -⟩ := hv.box
  have hat : (h.lay (.row 69 true bx)).at h.next = some (.row 69 true bx) := Hp.at_lay_self _ _
  have g0 : Grows h (h.lay (.row 69 true bx)) := Grows.lay _ _
  refine enter44 (by simp) ?_
  conv => whnf
  refine SeqP.go ?_
  conv => whnf
  refine SeqP.cut (α := Unit) (fun _ => [(2, ptr h.next 0), (1, int many)]) (fun _ H => H = h.lay (.row 69 true bx) ∧ ∀ x ∈ q.a, -5 ≤ x ∧ x ≤ 5) ?_ ?_
  · conv => whnf
    repeat (refine SeqP.go ?_; conv => whnf)
    refine loop_inv (α := Nat) (fun k => [(5, int k), (2, ptr h.next 0), (1, int many)]) (fun k => h.lay (.row 69 true bx)) (fun k => k ≤ q.a.length ∧ ∀ x ∈ q.a.take k, -5 ≤ x ∧ x ≤ 5) (fun k => q.a.length - k) 0 ⟨Nat.zero_le _, by simp⟩ ⟨rfl, rfl, rfl, trivial⟩ (Hp.Le.refl _) ?_
    rintro k φ ⟨hk, hall⟩
    conv => whnf
    repeat (refine SeqP.go ?_; conv => whnf)
    refine ⟨_, cellAt_row hat b0, ?_⟩
    conv => whnf
    refine cmpB (fun hb1 => ?_) (fun hb1 => ?_)
    rotate_left
    · have : k = q.a.length := by omega
      subst this
      rw [List.take_length] at hall
      conv => whnf
      repeat (refine SeqP.go ?_; conv => whnf)
      exact ⟨(), ⟨rfl, rfl, trivial⟩, ⟨rfl, hall⟩, rfl⟩
    have hk' : k < q.a.length := by omega
    have hc2 := (k1.ints.ext g0)
    obtain ⟨az', cz', ew2, hcc2⟩ := hc2
    cases ew2
    have hc2 := hcc2 k hk'
    obtain ⟨r2, o2, sp2, ea2, hsp2, hci2⟩ := hc2
    subst ea2
    have hl1 : cellAt (h.lay (.row 69 true bx)) r2 (offAt o2 k 1) = some (int q.a[k]) := by rw [offAt_eq, Nat.add_comm]; simpa using hci2
    have no : ¬ (-5 ≤ q.a[k] ∧ q.a[k] ≤ 5) → ¬ AskP q many := fun h1 h2 => h1 (h2.1 _ (List.getElem_mem hk'))
    conv => whnf
    repeat (refine SeqP.go ?_; conv => whnf)
    refine ⟨_, cellAt_row hat b0, ?_⟩
    conv => whnf
    refine ⟨hsp2, ⟨by omega, by omega⟩, ?_⟩
    conv => whnf
    refine ⟨_, hl1, ?_⟩
    conv => whnf
    refine cmpB (fun c1 => ?_) (fun c1 => ?_)
    · conv => whnf
      repeat (refine SeqP.go ?_; conv => whnf)
      exact ⟨⟨false, rfl, bo_no (no (by omega))⟩, g0⟩
    conv => whnf
    refine ⟨_, cellAt_row hat b0, ?_⟩
    conv => whnf
    refine ⟨hsp2, ⟨by omega, by omega⟩, ?_⟩
    conv => whnf
    refine ⟨_, hl1, ?_⟩
    conv => whnf
    refine cmpB (fun c2 => ?_) (fun c2 => ?_)
    · conv => whnf
      repeat (refine SeqP.go ?_; conv => whnf)
      exact ⟨⟨false, rfl, bo_no (no (by omega))⟩, g0⟩
    conv => whnf
    repeat (refine SeqP.go ?_; conv => whnf)
    refine ⟨((k + 1 : Nat) : Int), wie (by omega) (by omega), ?_⟩
    conv => whnf
    refine Rnd.mk (k + 1) ⟨by omega, fun x hx => ?_⟩ (by omega) ⟨rfl, rfl, rfl, trivial⟩ (Hp.Le.refl _) rfl
    rw [List.take_succ_eq_append_getElem hk'] at hx
    rcases List.mem_append.1 hx with h1 | h1
    · exact hall x h1
    · rw [List.mem_singleton.1 h1]; omega
  rintro _ φ2 _ ⟨rfl, hall⟩
  conv => whnf
  repeat (refine SeqP.go ?_; conv => whnf)
  refine ⟨_, cellAt_row hat b0, ?_⟩
  conv => whnf
  refine cmpB (fun c1 => ?_) (fun c1 => ?_)
  rotate_left
  · conv => whnf
    repeat (refine SeqP.go ?_; conv => whnf)
    exact ⟨⟨false, rfl, bo_no fun k => c1 k.2.1⟩, g0⟩
  conv => whnf
  refine ⟨_, cellAt_row hat b1, ?_⟩
  conv => whnf
  refine cmpB (fun c2 => ?_) (fun c2 => ?_)
  rotate_left
  · conv => whnf
    repeat (refine SeqP.go ?_; conv => whnf)
    exact ⟨⟨false, rfl, bo_no fun k => by have := k.2.2.1; omega⟩, g0⟩
  conv => whnf
  refine ⟨_, cellAt_row hat b1, ?_⟩
  conv => whnf
  refine cmpB (fun c3 => ?_) (fun c3 => ?_)
  rotate_left
  · conv => whnf
    repeat (refine SeqP.go ?_; conv => whnf)
    exact ⟨⟨false, rfl, bo_no fun k => by have := k.2.2.1; omega⟩, g0⟩
  conv => whnf
  refine ⟨_, cellAt_row hat b2, ?_⟩
  conv => whnf
  refine cmpB (fun c4 => ?_) (fun c4 => ?_)
  rotate_left
  · conv => whnf
    repeat (refine SeqP.go ?_; conv => whnf)
    exact ⟨⟨false, rfl, bo_no fun k => by have := k.2.2.2; omega⟩, g0⟩
  conv => whnf
  refine ⟨_, cellAt_row hat b2, ?_⟩
  conv => whnf
  refine cmpB (fun c5 => ?_) (fun c5 => ?_)
  · conv => whnf
    repeat (refine SeqP.go ?_; conv => whnf)
    exact ⟨⟨true, rfl, bo_yes ⟨hall, c1, by omega, by omega⟩⟩, g0⟩
  · conv => whnf
    repeat (refine SeqP.go ?_; conv => whnf)
    exact ⟨⟨false, rfl, bo_no fun k => by have := k.2.2.2; omega⟩, g0⟩
end
end Go.Proofs.Ytpiplaicnbapbaa
