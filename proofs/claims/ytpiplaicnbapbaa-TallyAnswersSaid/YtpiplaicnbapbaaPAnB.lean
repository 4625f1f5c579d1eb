/- Contracts of the functions that PAnE comes to. -/
import Derived.Test.YtpiplaicnbapbaaPAnA
import Derived.Test.YtpiplaicnbapbaaTAwake
set_option maxRecDepth 100000
set_option maxHeartbeats 2000000
set_option linter.unusedVariables false
set_option linter.unusedSectionVars false
set_option linter.unusedSimpArgs false
namespace Go.Proofs.Ytpiplaicnbapbaa
open Go.Rx Go.RowKit
theorem one_ints (h : Hp) (n : Int) : Ints (h.lay (.row 3 true [int n])) (slc h.next 0 1 1) [n] := (Built.lay1 (h0 := h) (Nat.le_refl _)).ints
theorem one_in (a b n : Int) : (∀ x ∈ [n], a ≤ x ∧ x ≤ b) ↔ (a ≤ n ∧ n ≤ b) := by simp
attribute [local irreducible] E idxN cellAt cellsAt storeAt callable helems hmoved lookIn findKey keyOk hentries Hp.at Hp.set Hp.lay arBits hupdated setAt CallP YieldP BoolOf IsWrap Rnd LoopP AppP CutP Int.tmod Int.tdiv Int.fdiv
section
variable [Unknowns]
attribute [local irreducible] ResP sameAt
theorem reftrue_spec (v w : Value) (q : Quest) (kinds : List Int) (h : Hp) (hv : QV h v q) (hw : Ints h w kinds) (hq : QOk q) (hkl : kinds.length = q.a.length) (hk : ∀ x ∈ kinds, 0 ≤ x ∧ x ≤ 9) : CallP E 45 [v, w] h (fun r h' => (∃ b, r = .bool b ∧ BoolOf b (TrueP q kinds)) ∧ Grows h h') := by
  obtain ⟨bx, rfl, hbl, ⟨a1, b0, k1⟩, b1, b2, -⟩ := hv.box
  have hl2 := hq.l2
  have hqb := hq.b
  have hqm := hq.m
  have hat : (h.lay (.row 69 true bx)).at h.next = some (.row 69 true bx) := Hp.at_lay_self _ _
  have g0 : Grows h (h.lay (.row 69 true bx)) := Grows.lay _ _
  obtain ⟨ak, ck, rfl, hck⟩ := id hw
  have hdb := dotN_bd hq.ac hk
  refine enter45 (by simp) ?_
  conv => whnf
  refine SeqP.go ?_
  conv => whnf
  refine SeqP.go ?_
  conv => whnf
  refine SeqP.cut (α := Unit) (fun _ => [(5, int (dotN q.a kinds kinds.length)), (2, ptr h.next 0)]) (fun _ H => H = h.lay (.row 69 true bx)) ?_ ?_
  · conv => whnf
    repeat (refine SeqP.go ?_; conv => whnf)
    refine loop_inv (α := Nat) (fun k => [(6, int k), (5, int (dotN q.a kinds k)), (2, ptr h.next 0), (1, .slice ak kinds.length ck)]) (fun k => h.lay (.row 69 true bx)) (fun k => k ≤ kinds.length) (fun k => kinds.length - k) 0 (Nat.zero_le _) ⟨rfl, rfl, rfl, rfl, trivial⟩ (Hp.Le.refl _) ?_
    intro k φ hkk
    conv => whnf
    repeat (refine SeqP.go ?_; conv => whnf)
    refine cmpB (fun hb1 => ?_) (fun hb1 => ?_)
    rotate_left
    · have : k = kinds.length := by omega
      subst this
      conv => whnf
      repeat (refine SeqP.go ?_; conv => whnf)
      exact ⟨(), ⟨rfl, rfl, trivial⟩, rfl, rfl⟩
    have hkl' : k < kinds.length := by omega
    have hc := (hw.ext g0)
    obtain ⟨ak', ck', ew, hcc⟩ := hc
    cases ew
    have hc := hcc k hkl'
    obtain ⟨r, o, sp, ea, hsp, hci⟩ := hc
    subst ea
    have hc2 := (k1.ints.ext g0)
    obtain ⟨az', cz', ew2, hcc2⟩ := hc2
    cases ew2
    have hc2 := hcc2 k (by omega)
    obtain ⟨r2, o2, sp2, ea2, hsp2, hci2⟩ := hc2
    subst ea2
    have hsx := hq.ac (gl q.a k) (by rw [gl_at (by omega)]; exact List.getElem_mem _)
    have hkx := hk (gl kinds k) (by rw [gl_at (by omega)]; exact List.getElem_mem _)
    have hmb := mul_bd5 hsx hkx
    have e1 := gl_at (l := q.a) (i := k) (by omega)
    have e2 := gl_at (l := kinds) (i := k) (by omega)
    have e3 := dotN_succ q.a kinds k
    have hd1 := hdb k (by omega) (by omega)
    conv => whnf
    repeat (refine SeqP.go ?_; conv => whnf)
    refine ⟨_, cellAt_row hat b0, ?_⟩
    conv => whnf
    refine ⟨hsp2, ⟨by omega, by omega⟩, ?_⟩
    conv => whnf
    refine ⟨int (gl q.a k), by rw [offAt_eq, Nat.add_comm, e1]; simpa using hci2, ?_⟩
    conv => whnf
    refine ⟨hsp, ⟨by omega, by omega⟩, ?_⟩
    conv => whnf
    refine ⟨int (gl kinds k), by rw [offAt_eq, Nat.add_comm, e2]; simpa using hci, ?_⟩
    conv => whnf
    refine ⟨gl q.a k * gl kinds k, wie rfl (by omega), ?_⟩
    conv => whnf
    refine ⟨dotN q.a kinds (k + 1), wie e3.symm (by omega), ?_⟩
    conv => whnf
    refine ⟨((k + 1 : Nat) : Int), wie (by omega) (by omega), ?_⟩
    conv => whnf
    exact Rnd.mk (k + 1) (by show k + 1 ≤ _; omega) (by show _ - (k + 1) < _ - k; omega) ⟨rfl, rfl, rfl, rfl, trivial⟩ (Hp.Le.refl _) rfl
  rintro _ φ2 _ rfl
  have hdn := hdb kinds.length (by omega) (Nat.le_refl _)
  have hexd : ∃ d, dotN q.a kinds kinds.length = d := ⟨_, rfl⟩
  obtain ⟨d, ed⟩ := hexd
  have hTP : TrueP q kinds ↔ (q.m = 0 ∧ q.b ≤ d) ∨ (q.m ≠ 0 ∧ (d - q.b).tmod q.m = 0) := by unfold TrueP; rw [ed]
  rw [ed] at hdn ⊢
  conv => whnf
  repeat (refine SeqP.go ?_; conv => whnf)
  refine ⟨_, cellAt_row hat b2, ?_⟩
  conv => whnf
  refine cmpB (fun c1 => ?_) (fun c1 => ?_)
  · conv => whnf
    repeat (refine SeqP.go ?_; conv => whnf)
    refine ⟨_, cellAt_row hat b1, ?_⟩
    conv => whnf
    refine cmpB (fun c2 => ?_) (fun c2 => ?_)
    · conv => whnf
      repeat (refine SeqP.go ?_; conv => whnf)
      exact ⟨⟨true, rfl, bo_yes (hTP.2 (.inl ⟨c1, by omega⟩))⟩, g0⟩
    · conv => whnf
      repeat (refine SeqP.go ?_; conv => whnf)
      exact ⟨⟨false, rfl, bo_no fun k => by (rcases hTP.1 k with k | k) <;> omega⟩, g0⟩
  · conv => whnf
    repeat (refine SeqP.go ?_; conv => whnf)
    refine ⟨_, cellAt_row hat b1, ?_⟩
    conv => whnf
    refine ⟨d - q.b, wie rfl (by omega), ?_⟩
    conv => whnf
    refine ⟨_, cellAt_row hat b2, ?_⟩
    conv => whnf
    refine ⟨c1, ?_⟩
    conv => whnf
    refine cmpB (fun c2 => ?_) (fun c2 => ?_)
    · conv => whnf
      repeat (refine SeqP.go ?_; conv => whnf)
      exact ⟨⟨true, rfl, bo_yes (hTP.2 (.inr ⟨c1, c2⟩))⟩, g0⟩
    · conv => whnf
      repeat (refine SeqP.go ?_; conv => whnf)
      exact ⟨⟨false, rfl, bo_no fun k => (hTP.1 k).elim (fun k => c1 k.1) (fun k => c2 k.2)⟩, g0⟩
theorem isQuestion_spec (v : Value) (q : Quest) (h : Hp) (hv : QV h v q) (hl : q.a.length ≤ 1000000) : CallP E 62 [v] h (fun r h' => (∃ b, r = .bool b ∧ BoolOf b (QOk q)) ∧ Grows h h') := by
  obtain ⟨bx, rfl, hbl, ⟨a1, b0, k1⟩, b1, b2, -⟩ := hv.box
  have hat : (h.lay (.row 36 true bx)).at h.next = some (.row 36 true bx) := Hp.at_lay_self _ _
  have g0 : Grows h (h.lay (.row 36 true bx)) := Grows.lay _ _
  refine enter62 (by simp) ?_
  conv => whnf
  repeat (refine SeqP.go ?_; conv => whnf)
  refine ⟨_, cellAt_row hat b0, ?_⟩
  conv => whnf
  refine cmpB (fun c1 => ?_) (fun c1 => ?_)
  rotate_left
  · conv => whnf
    repeat (refine SeqP.go ?_; conv => whnf)
    exact ⟨⟨false, rfl, bo_no fun k => by have := k.l1; omega⟩, g0⟩
  conv => whnf
  refine ⟨_, cellAt_row hat b0, ?_⟩
  conv => whnf
  refine cmpB (fun c2 => ?_) (fun c2 => ?_)
  rotate_left
  · conv => whnf
    repeat (refine SeqP.go ?_; conv => whnf)
    exact ⟨⟨false, rfl, bo_no fun k => by have := k.l2; omega⟩, g0⟩
  conv => whnf
  refine ⟨_, cellAt_row hat b0, ?_⟩
  conv => whnf
  refine CallP.mono (within_spec (-5) 5 _ q.a _ (k1.ints.ext g0) hl) ?_
  rintro r h1 ⟨rfl, rfl⟩
  by_cases c3 : ∀ x ∈ q.a, -5 ≤ x ∧ x ≤ 5
  rotate_left
  · rw [decide_eq_false c3]
    conv => whnf
    repeat (refine SeqP.go ?_; conv => whnf)
    exact ⟨⟨false, rfl, bo_no fun k => c3 k.ac⟩, g0⟩
  rw [decide_eq_true c3]
  conv => whnf
  refine ⟨_, cellAt_row hat b1, ?_⟩
  conv => whnf
  refine CallP.mono (within_spec (-9) 9 _ [q.b] _ (one_ints _ _) (by simp)) ?_
  rintro r h2 ⟨rfl, eh2⟩
  by_cases c4 : ∀ x ∈ [q.b], -9 ≤ x ∧ x ≤ 9
  rotate_left
  · rw [decide_eq_false c4]
    subst eh2
    conv => whnf
    repeat (refine SeqP.go ?_; conv => whnf)
    exact ⟨⟨false, rfl, bo_no fun k => c4 ((one_in _ _ _).2 k.b)⟩, g0.then_lay _⟩
  rw [decide_eq_true c4]
  subst eh2
  conv => whnf
  refine ⟨_, cellAt_row (Hp.at_lay_old _ hat) b2, ?_⟩
  conv => whnf
  refine CallP.mono (within_spec 0 9 _ [q.m] _ (one_ints _ _) (by simp)) ?_
  rintro r h3 ⟨rfl, eh3⟩
  by_cases c5 : ∀ x ∈ [q.m], 0 ≤ x ∧ x ≤ 9
  · rw [decide_eq_true c5]
    subst eh3
    conv => whnf
    repeat (refine SeqP.go ?_; conv => whnf)
    exact ⟨⟨true, rfl, bo_yes ⟨by omega, by omega, c3, (one_in _ _ _).1 c4, (one_in _ _ _).1 c5⟩⟩, (g0.then_lay _).then_lay _⟩
  · rw [decide_eq_false c5]
    subst eh3
    conv => whnf
    repeat (refine SeqP.go ?_; conv => whnf)
    exact ⟨⟨false, rfl, bo_no fun k => c5 ((one_in _ _ _).2 k.m)⟩, (g0.then_lay _).then_lay _⟩
end
end Go.Proofs.Ytpiplaicnbapbaa
namespace Go.Proofs.Ytpiplaicnbapbaa
open Go.Rx Go.RowKit
structure PQ (H0 H : Hp) (D : Nat) (cs : List Value) : Prop where
  next : H0.next ≤ H.next
  at_ : ∀ r o, r < H0.next → r ≠ D → H0.at r = some o → H.at r = some o
  dat : H.at D = some (.row 69 true cs)
theorem PQ.start {H0 : Hp} {D : Nat} {cs : List Value} (h : H0.at D = some (.row 69 true cs)) : PQ H0 H0 D cs := ⟨Nat.le_refl _, fun _ _ _ _ e => e, h⟩
theorem PQ.ext {H0 H H' : Hp} {D : Nat} {cs : List Value} (k : PQ H0 H D cs) (g : Grows H H') : PQ H0 H' D cs := ⟨Nat.le_trans k.next g.next, fun r o h1 h2 e => g.at_ _ _ (k.at_ r o h1 h2 e), g.at_ _ _ k.dat⟩
theorem PQ.grows {h H0 H : Hp} {D : Nat} {cs : List Value} (k : PQ H0 H D cs) (g : Grows h H0) (hD : h.next ≤ D) : Grows h H := ⟨Nat.le_trans g.next k.next, fun r o e => by
  have := Hp.lt_of_at e
  have := g.next
  exact k.at_ r o (by omega) (by omega) (g.at_ _ _ e)⟩
theorem PQ.app {H0 H H1 H2 : Hp} {D : Nat} {cs : List Value} {v : Value} (k : PQ H0 H D cs) (hD : D < H0.next) (hg : Grows H H1) (keep : ∀ r o, H1.at r = some o → (∀ n c, v ≠ slc r 0 n c) → H2.at r = some o) (hv : ∀ r n c, v = slc r 0 n c → H0.next ≤ r) (hn : H0.next ≤ H2.next) (cs' : List Value) : PQ H0 (H2.set D (.row 69 true cs')) D cs' := by
  have hk : ∀ r o, r < H0.next → H1.at r = some o → H2.at r = some o := fun r o hr e => keep r o e fun n c e2 => by have := hv r n c e2; omega
  refine ⟨by rw [Hp.next_set]; exact hn, fun r o h1 h2 e => ?_, ?_⟩
  · rw [Hp.at_set_ne _ h2]
    exact hk r o h1 (hg.at_ _ _ (k.at_ r o h1 h2 e))
  · exact Hp.at_set_self _ (Hp.lt_of_at (hk D _ hD (hg.at_ _ _ k.dat)))
theorem PQ.app_dat {H0 H H1 H2 : Hp} {D : Nat} {cs : List Value} {v : Value} (k : PQ H0 H D cs) (hD : D < H0.next) (hg : Grows H H1) (keep : ∀ r o, H1.at r = some o → (∀ n c, v ≠ slc r 0 n c) → H2.at r = some o) (hv : ∀ r n c, v = slc r 0 n c → H0.next ≤ r) : H2.at D = some (.row 69 true cs) := keep D _ (hg.at_ _ _ k.dat) fun n c e2 => by have := hv D n c e2; omega
def QI (h : Hp) (v : Value) (q : Quest) : Prop := ∃ va, v = .agg ⟨[va, int q.b, int q.m]⟩ ∧ View h va q.a
theorem QI.ext {h h' : Hp} {v : Value} {q : Quest} (g : Grows h h') (k : QI h v q) : QI h' v q := by
  obtain ⟨va, e, k⟩ := k
  exact ⟨va, e, k.ext g⟩
theorem ty69 : ∃ i, E.ty 69 = some i ∧ i.agg = true ∧ i.size = 3 := by
  have hs : (tiOf Try.prog 69).isSome = true := by kernel_rfl
  refine ⟨(tiOf Try.prog 69).get hs, ty_get (by kernel_rfl) (Option.some_get hs).symm, ?_, ?_⟩ <;> kernel_rfl
attribute [local irreducible] E idxN cellAt cellsAt storeAt callable helems hmoved lookIn findKey keyOk hentries Hp.at Hp.set Hp.lay arBits hupdated setAt CallP YieldP BoolOf IsWrap Rnd LoopP AppP CutP Int.tmod Int.tdiv Int.fdiv
section
variable [Unknowns]
attribute [local irreducible] ResP sameAt finP
theorem question_spec (v : Value) (q : Quest) (h : Hp) (hv : QI h v q) (hb : InR q.b) (hm : InR q.m) (hl : q.a.length < 9223372036854775808) (many : Nat) (hm1 : 1 ≤ many) (hm2 : many ≤ 2) : CallP E 46 [v, int many] h (fun r h' => (∃ x, QV h' r x ∧ QOk x ∧ x.a.length = many) ∧ Grows h h') := by
  obtain ⟨qa, qb, qm⟩ := q
  obtain ⟨va, rfl, k1v⟩ := hv
  have k1 := k1v.ints
  dsimp only at hb hm hl k1 ⊢
  obtain ⟨ao, co, rfl, hco⟩ := id k1
  have hexv : ∃ vs : List Value, vs = [.slice ao qa.length co, int qb, int qm] := ⟨_, rfl⟩
  obtain ⟨bx, ebx⟩ := hexv
  have b0 : bx[0]? = some (.slice ao qa.length co) := by rw [ebx]; rfl
  have b1 : bx[1]? = some (int qb) := by rw [ebx]; rfl
  have b2 : bx[2]? = some (int qm) := by rw [ebx]; rfl
  rw [← ebx]
  clear ebx
  have a0 : ((h.lay (.row 36 true bx)).lay (.row 69 true [.slice none 0 0, int 0, int 0])).at h.next = some (.row 36 true bx) := Hp.at_lay_old _ (Hp.at_lay_self _ _)
  refine enter46 (by simp) ?_
  conv => whnf
  refine SeqP.go ?_
  conv => whnf
  refine SeqP.cut (α := Int × Int × Hp) (fun s => [(5, ptr (h.next + 2) 0), (2, ptr h.next 0), (4, ptr (h.next + 1) 0), (1, int many)]) (fun s H => s.2.2 = H ∧ PQ s.2.2 s.2.2 (h.next + 2) [.slice none 0 0, int s.1, int s.2.1] ∧ s.2.2.next = h.next + 3 ∧ s.2.2.at h.next = some (.row 36 true bx) ∧ s.2.2.at (h.next + 1) = some (.row 69 true [.slice none 0 0, int 0, int 0]) ∧ Grows h s.2.2 ∧ (-9 ≤ s.1 ∧ s.1 ≤ 9) ∧ (0 ≤ s.2.1 ∧ s.2.1 ≤ 9)) ?_ ?_
  · have hux := u64_of qb
    obtain ⟨u, u0, u1, hu⟩ := hux
    have e1 := tmod_bd u0 (show (0 : Int) < 19 by omega)
    have hux' := u64_of qm
    obtain ⟨u', u0', u1', hu'⟩ := hux'
    have e2 := tmod_bd u0' (show (0 : Int) < 10 by omega)
    have n2 : ((h.lay (.row 36 true bx)).lay (.row 69 true [.slice none 0 0, int 0, int 0])).next = h.next + 2 := by simp only [Hp.next_lay]
    conv => whnf
    refine ⟨_, cellAt_row a0 b1, ?_⟩
    conv => whnf
    refine ⟨u, hu, ?_⟩
    conv => whnf
    refine ⟨by omega, ?_⟩
    conv => whnf
    refine ⟨u.tmod 19, wid (by omega), ?_⟩
    conv => whnf
    refine ⟨u.tmod 19 - 9, wie rfl (by omega), ?_⟩
    conv => whnf
    refine ⟨_, cellAt_row a0 b2, ?_⟩
    conv => whnf
    refine ⟨u', hu', ?_⟩
    conv => whnf
    refine ⟨by omega, ?_⟩
    conv => whnf
    refine ⟨u'.tmod 10, wid (by omega), ?_⟩
    conv => whnf
    refine ⟨rfl, _, storeAt_all (vs := [.slice none 0 0, int (u.tmod 19 - 9), int (u'.tmod 10)]) rfl rfl rfl, ?_⟩
    conv => whnf
    exact ⟨(u.tmod 19 - 9, u'.tmod 10, _), ⟨congrArg (fun k => ptr k 0) n2, rfl, congrArg (fun k => ptr k 0) (Hp.next_lay _ _), rfl, trivial⟩, ⟨rfl, PQ.start (at_nx2 n2 (Hp.at_lay_self _ _)), by simp only [Hp.next_lay], Hp.at_lay_old _ a0, Hp.at_lay_old _ (at_nx2 (Hp.next_lay _ _) (Hp.at_lay_self _ _)), ((Grows.lay _ _).then_lay _).then_lay _, by dsimp only; omega, by dsimp only; omega⟩, rfl⟩
  rintro ⟨b, m, H0⟩ φ1 _ ⟨rfl, hpm0, hn0, hx0, hx1, hgh0, hbb, hmm⟩
  dsimp only at hpm0 hn0 hx0 hx1 hgh0 hbb hmm ⊢
  have hD : h.next + 2 < H0.next := by omega
  conv => whnf
  refine SeqP.cut (α := Value × List Int × Hp) (fun s => [(5, ptr (h.next + 2) 0), (4, ptr (h.next + 1) 0)]) (fun s H => s.2.2 = H ∧ PQ H0 s.2.2 (h.next + 2) [s.1, int b, int m] ∧ Built (bareN H0.next) s.2.2 3 s.1 s.2.1 ∧ s.2.1.length = many ∧ ∀ x ∈ s.2.1, -5 ≤ x ∧ x ≤ 5) ?_ ?_
  · conv => whnf
    repeat (refine SeqP.go ?_; conv => whnf)
    refine loop_inv (α := Nat × Value × List Int × Hp) (fun s => [(6, int s.1), (5, ptr (h.next + 2) 0), (2, ptr h.next 0), (4, ptr (h.next + 1) 0), (1, int many)]) (fun s => s.2.2.2) (fun s => s.1 ≤ many ∧ PQ H0 s.2.2.2 (h.next + 2) [s.2.1, int b, int m] ∧ Built (bareN H0.next) s.2.2.2 3 s.2.1 s.2.2.1 ∧ s.2.2.1.length = s.1 ∧ ∀ x ∈ s.2.2.1, -5 ≤ x ∧ x ≤ 5) (fun s => many - s.1) (0, .slice none 0 0, [], H0) ⟨Nat.zero_le _, hpm0, .inl ⟨rfl, rfl⟩, rfl, by simp⟩ ⟨rfl, rfl, rfl, rfl, rfl, trivial⟩ (Hp.Le.refl _) ?_
    rintro ⟨k, w, l, H⟩ φ3 ⟨hk, hpm, hbu, hll, hall⟩
    dsimp only at hk hpm hbu hll hall ⊢
    conv => whnf
    repeat (refine SeqP.go ?_; conv => whnf)
    refine cmpB (fun c1 => ?_) (fun c1 => ?_)
    rotate_left
    · conv => whnf
      exact ⟨(w, l, H), ⟨rfl, rfl, trivial⟩, ⟨rfl, hpm, hbu, by show l.length = many; omega, hall⟩, rfl⟩
    have hgH := hpm.grows hgh0 (Nat.le_add_right _ _)
    have hxH := hpm.at_ _ _ (by omega) (by omega) hx0
    conv => whnf
    refine SeqP.cut (α := Value × List Int × Hp) (fun s => [(6, int k), (5, ptr (h.next + 2) 0), (2, ptr h.next 0), (4, ptr (h.next + 1) 0), (1, int many)]) (fun s H' => s.2.2 = H' ∧ PQ H0 s.2.2 (h.next + 2) [s.1, int b, int m] ∧ Built (bareN H0.next) s.2.2 3 s.1 s.2.1 ∧ s.2.1.length = k + 1 ∧ ∀ x ∈ s.2.1, -5 ≤ x ∧ x ≤ 5) ?_ ?_
    rotate_left
    · rintro ⟨w', l', H'⟩ φ4 _ ⟨rfl, h1, h2, h3, h4⟩
      dsimp only at h1 h2 h3 h4 ⊢
      conv => whnf
      refine ⟨((k + 1 : Nat) : Int), wie (by omega) (by omega), ?_⟩
      conv => whnf
      exact Rnd.mk (k + 1, w', l', H') ⟨by show k + 1 ≤ many; omega, h1, h2, h3, h4⟩ (by show many - (k + 1) < many - k; omega) ⟨rfl, rfl, rfl, rfl, rfl, trivial⟩ (Hp.Le.refl _) rfl
    conv => whnf
    refine SeqP.go ?_
    conv => whnf
    refine SeqP.cut (α := Int) (fun y => [(7, int y), (6, int k), (5, ptr (h.next + 2) 0), (2, ptr h.next 0), (4, ptr (h.next + 1) 0), (1, int many)]) (fun y H' => H = H' ∧ -5 ≤ y ∧ y ≤ 5) ?_ ?_
    · conv => whnf
      repeat (refine SeqP.go ?_; conv => whnf)
      refine ⟨_, cellAt_row hxH b0, ?_⟩
      conv => whnf
      refine cmpB (fun c2 => ?_) (fun c2 => ?_)
      rotate_left
      · conv => whnf
        exact ⟨1, ⟨rfl, rfl, rfl, rfl, rfl, rfl, trivial⟩, ⟨rfl, by omega, by omega⟩, rfl⟩
      have hc := (k1.ext hgH)
      obtain ⟨ao', co', ew, hcc⟩ := hc
      cases ew
      have hc := hcc k (by omega)
      obtain ⟨r, o, sp, ea, hsp, hci⟩ := hc
      subst ea
      have hux := u64_of qa[k]
      obtain ⟨u, u0, u1, hu⟩ := hux
      have b1' := tmod_bd u0 (show (0 : Int) < 11 by omega)
      conv => whnf
      refine ⟨_, cellAt_row hxH b0, ?_⟩
      conv => whnf
      refine ⟨hsp, ⟨by omega, by omega⟩, ?_⟩
      conv => whnf
      refine ⟨int qa[k], by rw [offAt_eq, Nat.add_comm]; simpa using hci, ?_⟩
      conv => whnf
      refine ⟨u, hu, ?_⟩
      conv => whnf
      refine ⟨by omega, ?_⟩
      conv => whnf
      refine ⟨u.tmod 11, wid (by omega), ?_⟩
      conv => whnf
      refine ⟨u.tmod 11 - 5, wie rfl (by omega), ?_⟩
      conv => whnf
      exact ⟨u.tmod 11 - 5, ⟨rfl, rfl, rfl, rfl, rfl, rfl, trivial⟩, ⟨rfl, by omega, by omega⟩, rfl⟩
    rintro y φ5 _ ⟨rfl, hy⟩
    conv => whnf
    repeat (refine SeqP.go ?_; conv => whnf)
    refine ⟨_, cellAt_row hpm.dat rfl, ?_⟩
    conv => whnf
    have hnx := hpm.next
    refine AppP.ints (hbu.ext (Grows.lay _ _)) (bareN_grows (by rw [Hp.next_lay]; exact Nat.le_succ_of_le hnx)) Elems.lay1 (by simp; omega) ?_
    intro w2 H2 hb2 hg2 keep2
    have hdat2 := hpm.app_dat hD (Grows.lay _ _) keep2 (built_ge hbu)
    rcases id hb2 with ⟨rfl, e⟩ | ⟨r2, rfl, hr2, x2, hat2⟩
    · simp at e
    conv => whnf
    refine ⟨rfl, _, storeAt_row hdat2 (by simp) rfl, ?_⟩
    conv => whnf
    refine ⟨(_, _, _), ⟨rfl, rfl, rfl, rfl, rfl, trivial⟩, ⟨rfl, hpm.app hD (Grows.lay _ _) keep2 (built_ge hbu) hg2.next _, ?_, len_snoc hll y, all_snoc hall hy⟩, rfl⟩
    exact built_set_lt hb2 hD
  rintro ⟨w, l, H1⟩ φ6 _ ⟨rfl, hpm1, hbu, hll, hall⟩
  dsimp only at hpm1 hbu hll hall ⊢
  have hx1b := hpm1.at_ _ _ (by omega) (by omega) hx1
  have hg1 := hpm1.grows hgh0 (Nat.le_add_right _ _)
  have kw := (LV.of hbu).known
  obtain ⟨x1, rfl⟩ := kw
  have hbu' := built_set_lt (r := h.next + 1) (o := .row 69 true [.slice x1 l.length l.length, int b, int m]) hbu (by show h.next + 1 < H0.next; omega)
  conv => whnf
  refine SeqP.go ?_
  conv => whnf
  refine ⟨_, all_cells hpm1.dat rfl, ?_⟩
  conv => whnf
  refine ⟨rfl, _, storeAt_full (vs := [.slice x1 l.length l.length, int b, int m]) hx1b rfl rfl rfl, ?_⟩
  conv => whnf
  repeat (refine SeqP.go ?_; conv => whnf)
  obtain ⟨i69, t69, ag69, sz69⟩ := ty69
  refine leave_cell (r := h.next + 1) (o := 0) (cs := [.slice x1 l.length l.length, int b, int m]) rfl t69 ag69 ?_ ?_
  · rw [sz69]
    exact all_cells (Hp.at_set_self _ (Hp.lt_of_at hx1b)) rfl
  · exact ⟨⟨⟨l, b, m⟩, ⟨_, rfl, LV.of hbu'⟩, ⟨by show 1 ≤ l.length; omega, by show l.length ≤ 2; omega, hall, hbb, hmm⟩, hll⟩, hg1.then_set _ (by omega)⟩
end
end Go.Proofs.Ytpiplaicnbapbaa
namespace Go.Proofs.Ytpiplaicnbapbaa
open Go.Rx Go.RowKit
theorem under3 : Try.prog.underlying 3 = some (.int .i64) := Try.underlying3
theorem under22 : Try.prog.underlying 22 = some (.slice 3) := Try.underlying22
theorem under23 : Try.prog.underlying 23 = some (.slice 96) := Try.underlying23
theorem under96 : Try.prog.underlying 96 = some (.array 4 3) := Try.underlying96
def fieldTy (i : Nat) (t : TypeId) : Option TypeDesc → Option (TypeId × Nat)
  | some (.struct fs) => (fs[i]?).map fun f => (f.type, f.offset)
  | _ => none
theorem field_of {t ft off i : Nat} (h : fieldTy i t (Try.prog.underlying t) = some (ft, off)) {ts : List Tr} (hy : TyT Try.prog t ts) : ts.length = Try.prog.cellsOf t ∧ TyT Try.prog ft ((ts.drop off).take (Try.prog.cellsOf ft)) := by
  cases hu : Try.prog.underlying t with
  | none => rw [hu] at h; cases h
  | some d =>
    rw [hu] at h
    cases d with
    | struct fs =>
      have hf := ty_field hu hy
      unfold fieldTy at h
      dsimp only at h
      cases hg : fs[i]? with
      | none => rw [hg] at h; cases h
      | some f =>
        rw [hg] at h
        cases h
        exact ⟨hf.1, hf.2 i f hg⟩
    | _ => cases h
theorem cells3 : Try.prog.cellsOf 3 = 1 := by kernel_rfl
theorem cells22 : Try.prog.cellsOf 22 = 1 := by kernel_rfl
theorem cells23 : Try.prog.cellsOf 23 = 1 := by kernel_rfl
theorem cells96 : Try.prog.cellsOf 96 = 4 := by kernel_rfl
theorem flat4_of : ∀ (n : Nat) (l : List Int), l.length = n * 4 → ∃ R : List Q4, R.length = n ∧ flat4 R = l
  | 0, l, h => ⟨[], rfl, (List.eq_nil_of_length_eq_zero (by omega)).symm⟩
  | n + 1, l, h => by
    match l, h with
    | a :: b :: c :: d :: l, h =>
      obtain ⟨R, h1, h2⟩ := flat4_of n l (by simp at h; omega)
      exact ⟨⟨a, b, c, d⟩ :: R, by simp [h1], by simp [flat4, h2]⟩
    | [], h => simp at h
    | [_], h => simp at h; omega
    | [_, _], h => simp at h; omega
    | [_, _, _], h => simp at h; omega
theorem LentV.ri {h : Hp} {v : Value} {R : List Q4} (k : LentV h v R.length (flat4 R)) : RI h v R := by
  rcases k with (⟨rfl, h1, h2⟩ | ⟨r, rfl, hr⟩) | ⟨rfl, h1, h2⟩
  · exact ⟨none, 0, by rw [h1], fun j hj => by omega⟩
  · refine ⟨_, _, rfl, fun j hj => ⟨r, 0, rfl, ?_⟩⟩
    unfold cellsAt
    rw [hr]
    show Go.Rx.cellsIn (j * 4 + 0) 4 ((flat4 R).map int) = _
    unfold Go.Rx.cellsIn
    rw [if_pos (by rw [List.length_map, flat4_len]; omega), Nat.add_zero, ← List.map_drop, ← List.map_take, flat4_drop R j hj]
    rfl
  · exact ⟨_, _, by rw [h1]; rfl, fun j hj => by omega⟩
theorem one_of {ts : List Tr} {o : Nat} (h : o < ts.length) : (ts.drop o).take 1 = [ts[o]] := by
  rw [List.drop_eq_getElem_cons h]; rfl
theorem ag_inv {h : Hp} {v : Value} {ts : List Tr} (k : AbsT h v (.ag ts)) : ∃ vs : List Value, v = .agg ⟨vs⟩ ∧ vs.length = ts.length ∧ ∀ (k : Nat) v t, vs[k]? = some v → ts[k]? = some t → AbsT h v t := by
  cases k with
  | ag vs cs hl ht => exact ⟨vs, rfl, hl, ht⟩
theorem num_inv {h : Hp} {v : Value} {n : Int} (k : AbsT h v (.num n)) : v = int n := by cases k; rfl
theorem prot_arg {ts : List Tr} (hy : TyT Try.prog 25 ts) : ∃ p : Prot, InR p.n ∧ p.out.length ≤ maxLen ∧ p.start.length ≤ maxLen ∧ p.rules.length ≤ maxLen ∧ ∀ h v, AbsT h v (.ag ts) → PI h v p := by
  have f0 := field_of (i := 0) (ft := 3) (off := 0) (by kernel_rfl) hy
  have f1 := field_of (i := 1) (ft := 22) (off := 1) (by kernel_rfl) hy
  have f2 := field_of (i := 2) (ft := 22) (off := 2) (by kernel_rfl) hy
  have f3 := field_of (i := 3) (ft := 23) (off := 3) (by kernel_rfl) hy
  have hl : ts.length = 4 := f0.1.trans (by kernel_rfl)
  have f0 := f0.2
  have f1 := f1.2
  have f2 := f2.2
  have f3 := f3.2
  rw [cells3, one_of (by omega)] at f0
  rw [cells22, one_of (by omega)] at f1 f2
  rw [cells23, one_of (by omega)] at f3
  obtain ⟨n, en, hn⟩ := ty_num under3 f0
  obtain ⟨l1, e1, m1, r1⟩ := ty_ints under22 cells3 under3 f1
  obtain ⟨l2, e2, m2, r2⟩ := ty_ints under22 cells3 under3 f2
  obtain ⟨m, l3, e3, hl3, m3, r3⟩ := ty_rows (by omega) under23 under96 under3 cells96 cells3 f3
  obtain ⟨R, hR, eR⟩ := flat4_of m l3 hl3
  subst eR hR
  refine ⟨⟨n, l1, l2, R⟩, hn, m1, m2, m3, fun h v k => ?_⟩
  obtain ⟨vs, rfl, hvl, hk⟩ := ag_inv k
  match vs, hvl with
  | [v0, v1, v2, v3], _ =>
  have k0 := hk 0 v0 _ rfl (List.getElem?_eq_getElem (by omega))
  have k1 := hk 1 v1 _ rfl (List.getElem?_eq_getElem (by omega))
  have k2 := hk 2 v2 _ rfl (List.getElem?_eq_getElem (by omega))
  have k3 := hk 3 v3 _ rfl (List.getElem?_eq_getElem (by omega))
  rw [show ts[0] = .num n from List.cons.inj en |>.1] at k0
  rw [e1] at k1
  rw [e2] at k2
  rw [e3] at k3
  have := num_inv k0
  subst this
  exact ⟨v1, v2, v3, rfl, k1.view.ints, k2.view.ints, LentV.ri k3.lentV⟩
  | [], h | [_], h | [_, _], h | [_, _, _], h | _ :: _ :: _ :: _ :: _ :: _, h => simp [hl] at h
theorem quest_arg {ts : List Tr} (hy : TyT Try.prog 36 ts) : ∃ q : Quest, InR q.b ∧ InR q.m ∧ q.a.length ≤ maxLen ∧ ∀ h v, AbsT h v (.ag ts) → QI h v q := by
  have f0 := field_of (i := 0) (ft := 22) (off := 0) (by kernel_rfl) hy
  have f1 := field_of (i := 1) (ft := 3) (off := 1) (by kernel_rfl) hy
  have f2 := field_of (i := 2) (ft := 3) (off := 2) (by kernel_rfl) hy
  have hl : ts.length = 3 := f0.1.trans (by kernel_rfl)
  have f0 := f0.2
  have f1 := f1.2
  have f2 := f2.2
  rw [cells22, one_of (by omega)] at f0
  rw [cells3, one_of (by omega)] at f1 f2
  obtain ⟨l0, e0, m0, r0⟩ := ty_ints under22 cells3 under3 f0
  obtain ⟨b, eb, hb⟩ := ty_num under3 f1
  obtain ⟨m, em, hm⟩ := ty_num under3 f2
  refine ⟨⟨l0, b, m⟩, hb, hm, m0, fun h v k => ?_⟩
  obtain ⟨vs, rfl, hvl, hk⟩ := ag_inv k
  match vs, hvl with
  | [v0, v1, v2], _ =>
  have k0 := hk 0 v0 _ rfl (List.getElem?_eq_getElem (by omega))
  have k1 := hk 1 v1 _ rfl (List.getElem?_eq_getElem (by omega))
  have k2 := hk 2 v2 _ rfl (List.getElem?_eq_getElem (by omega))
  rw [e0] at k0
  rw [show ts[1] = .num b from List.cons.inj eb |>.1] at k1
  rw [show ts[2] = .num m from List.cons.inj em |>.1] at k2
  have x1 := num_inv k1
  have x2 := num_inv k2
  subst x1 x2
  exact ⟨v0, rfl, k0.view⟩
  | [], h | [_], h | [_, _], h | _ :: _ :: _ :: _ :: _, h => simp [hl] at h
end Go.Proofs.Ytpiplaicnbapbaa
namespace Go.Proofs.Ytpiplaicnbapbaa
open Go.Rx Go.RowKit
theorem PQ.set {H0 H : Hp} {D : Nat} {cs : List Value} (p : PQ H0 H D cs) (cs' : List Value) : PQ H0 (H.set D (.row 69 true cs')) D cs' := ⟨by rw [Hp.next_set]; exact p.next, fun r o h1 h2 e => by rw [Hp.at_set_ne _ h2]; exact p.at_ r o h1 h2 e, Hp.at_set_self _ (Hp.lt_of_at p.dat)⟩
theorem bool_neq (x y : Operand) (a : Bool) : aBin E .neq 4 x y (.bool a) (.bool a) = some (.bool false) := by
  cases a <;> kernel_rfl
theorem PI.box {h : Hp} {v : Value} {p : Prot} (k : PI h v p) : ∃ bx : List Value, v = .agg ⟨bx⟩ ∧ bx.length = 4 := by
  obtain ⟨a, b, c, rfl, _⟩ := k
  exact ⟨_, rfl, rfl⟩
theorem PI.ext {h h' : Hp} {v : Value} {p : Prot} (g : Grows h h') (k : PI h v p) : PI h' v p := by
  obtain ⟨a, b, c, e, h1, h2, h3⟩ := k
  exact ⟨a, b, c, e, h1.ext g, h2.ext g, h3.ext g⟩
end Go.Proofs.Ytpiplaicnbapbaa
namespace Go.Proofs.Ytpiplaicnbapbaa
open Go.Rx Go.RowKit
def Allowed (c : List Int) (q : Q4) : Prop := if q.a = q.b then 1 < gl c q.a.toNat else 0 < gl c q.a.toNat ∧ 0 < gl c q.b.toNat
instance (c : List Int) (q : Q4) : Decidable (Allowed c q) := by unfold Allowed; infer_instance
def after (c : List Int) (q : Q4) : List Int := bump (bump (bump (bump c (q.a, -1)) (q.b, -1)) (q.c, 1)) (q.d, 1)
theorem after_len (c : List Int) (q : Q4) : (after c q).length = c.length := by unfold after; rw [bump_len, bump_len, bump_len, bump_len]
theorem gl_bump {l : List Int} {x : Int × Int} (h : x.1.toNat < l.length) (i : Nat) : gl (bump l x) i = if i = x.1.toNat then gl l i + x.2 else gl l i := by
  unfold bump
  rw [gl_set h]
  split
  · rename_i e; rw [e]
  · rfl
theorem sum_set : ∀ {l : List Int} {i : Nat} (h : i < l.length) (y : Int), (l.set i y).sum = l.sum - gl l i + y
  | [], i, h, y => by simp at h
  | x :: l, 0, h, y => by simp [gl]; omega
  | x :: l, i + 1, h, y => by
    have := sum_set (l := l) (i := i) (by simpa using h) y
    simp only [List.set_cons_succ, List.sum_cons, this]
    have : gl (x :: l) (i + 1) = gl l i := by simp [gl]
    rw [this]; omega
theorem sum_bump {l : List Int} {x : Int × Int} (h : x.1.toNat < l.length) : (bump l x).sum = l.sum + x.2 := by unfold bump; rw [sum_set h]; omega
def ind (i j : Nat) : Int := if i = j then 1 else 0
theorem ind_bd (i j : Nat) : 0 ≤ ind i j ∧ ind i j ≤ 1 := by unfold ind; split <;> omega
theorem ind_eq {i j : Nat} (h : i = j) : ind i j = 1 := if_pos h
theorem ind_ne {i j : Nat} (h : i ≠ j) : ind i j = 0 := if_neg h
theorem gl_bump2 {l : List Int} {j x : Int} (h : j.toNat < l.length) (i : Nat) : gl (bump l (j, x)) i = gl l i + x * ind i j.toNat := by
  rw [gl_bump h]
  unfold ind
  dsimp only
  split <;> omega
theorem gl_after {n : Nat} {c : List Int} {q : Q4} (hl : c.length = n) (h : q.a.toNat < n ∧ q.b.toNat < n ∧ q.c.toNat < n ∧ q.d.toNat < n) (i : Nat) : gl (after c q) i = gl c i - ind i q.a.toNat - ind i q.b.toNat + ind i q.c.toNat + ind i q.d.toNat := by
  obtain ⟨h1, h2, h3, h4⟩ := h
  have b1 : (bump c (q.a, -1)).length = n := by rw [bump_len, hl]
  have b2 : (bump (bump c (q.a, -1)) (q.b, -1)).length = n := by rw [bump_len, b1]
  have b3 : (bump (bump (bump c (q.a, -1)) (q.b, -1)) (q.c, 1)).length = n := by rw [bump_len, b2]
  unfold after
  rw [gl_bump2 (by omega), gl_bump2 (by omega), gl_bump2 (by omega), gl_bump2 (by omega)]
  omega
structure CrOk (n : Nat) (c : List Int) : Prop where
  len : c.length = n
  nn : ∀ i, 0 ≤ gl c i
  s1 : 1 ≤ c.sum
  s9 : c.sum ≤ 9
theorem gl_out {l : List Int} {i : Nat} (h : l.length ≤ i) : gl l i = 0 := by
  unfold gl; rw [List.getD_eq_getElem?_getD, List.getElem?_eq_none h]; rfl
theorem gl_mem {l : List Int} {p : Int → Prop} (h : ∀ x ∈ l, p x) (h0 : p 0) (i : Nat) : p (gl l i) := by
  by_cases hi : i < l.length
  · rw [gl_at hi]; exact h _ (List.getElem_mem hi)
  · rw [gl_out (by omega)]; exact h0
theorem CrOk.of {n : Nat} {c : List Int} (h : Cnt c n) : CrOk n c := ⟨by have := h.1; omega, gl_mem (p := fun x => 0 ≤ x) (fun x hx => (h.2.1 x hx).1) (by omega), h.2.2.1, h.2.2.2⟩
theorem CrOk.all {n : Nat} {c : List Int} (h : CrOk n c) : ∀ x ∈ c, 0 ≤ x := fun x hx => by
  obtain ⟨i, hi, rfl⟩ := List.getElem_of_mem hx
  rw [← gl_at hi]
  exact h.nn i
theorem CrOk.le {n : Nat} {c : List Int} (h : CrOk n c) (i : Nat) : gl c i ≤ 9 := by
  by_cases hi : i < c.length
  · have := sum_le_of h.all (gl c i) (by rw [gl_at hi]; exact List.getElem_mem hi)
    have := h.s9
    omega
  · rw [gl_out (by omega)]; omega
theorem CrOk.cnt {n : Nat} {c : List Int} (h : CrOk n c) : Cnt c n := ⟨by have := h.len; omega, fun x hx => ⟨h.all x hx, by
  obtain ⟨i, hi, rfl⟩ := List.getElem_of_mem hx
  rw [← gl_at hi]
  exact h.le i⟩, h.s1, h.s9⟩
theorem qin {n : Nat} {q : Q4} (h : QIn n q) : q.a.toNat < n ∧ q.b.toNat < n ∧ q.c.toNat < n ∧ q.d.toNat < n := by unfold QIn at h; omega
theorem qin' {n : Nat} {q : Q4} (h : QIn n q) : (0 ≤ q.a ∧ q.a < n) ∧ (0 ≤ q.b ∧ q.b < n) ∧ (0 ≤ q.c ∧ q.c < n) ∧ (0 ≤ q.d ∧ q.d < n) := by unfold QIn at h; omega
theorem CrOk.after {n : Nat} {c : List Int} (h : CrOk n c) {q : Q4} (hq : QIn n q) (ha : Allowed c q) : CrOk n (after c q) := by
  obtain ⟨h1, h2, h3, h4⟩ := qin hq
  have hl := h.len
  have b1 : (bump c (q.a, -1)).length = n := by rw [bump_len, hl]
  have b2 : (bump (bump c (q.a, -1)) (q.b, -1)).length = n := by rw [bump_len, b1]
  have b3 : (bump (bump (bump c (q.a, -1)) (q.b, -1)) (q.c, 1)).length = n := by rw [bump_len, b2]
  have hs : (Ytpiplaicnbapbaa.after c q).sum = c.sum := by
    unfold Ytpiplaicnbapbaa.after
    rw [sum_bump (by show q.d.toNat < _; omega), sum_bump (by show q.c.toNat < _; omega), sum_bump (by show q.b.toNat < _; omega), sum_bump (by show q.a.toNat < _; omega)]
    dsimp only
    omega
  refine ⟨by rw [after_len, hl], fun i => ?_, by rw [hs]; exact h.s1, by rw [hs]; exact h.s9⟩
  rw [gl_after hl ⟨h1, h2, h3, h4⟩]
  have hi := h.nn i
  have hq' := qin' hq
  have x1 := ind_bd i q.a.toNat
  have x2 := ind_bd i q.b.toNat
  have x3 := ind_bd i q.c.toNat
  have x4 := ind_bd i q.d.toNat
  unfold Allowed at ha
  by_cases e : q.a = q.b
  · rw [if_pos e] at ha
    by_cases e1 : i = q.a.toNat
    · subst e1; omega
    · rw [ind_ne e1, ind_ne (by rw [← e]; exact e1)]; omega
  · rw [if_neg e] at ha
    by_cases e1 : i = q.a.toNat
    · have e2 : i ≠ q.b.toNat := by omega
      rw [ind_ne e2]
      subst e1; omega
    · rw [ind_ne e1]
      by_cases e2 : i = q.b.toNat
      · subst e2; omega
      · rw [ind_ne e2]; omega
def step (R : List Q4) (c : List Int) (i : Int) : Option (List Int) := if h : 0 ≤ i ∧ i < R.length then (if Allowed c (R[i.toNat]'(by omega)) then some (after c (R[i.toNat]'(by omega))) else none) else none
theorem step_ok {n : Nat} {R : List Q4} {c c' : List Int} {i : Int} (hR : ∀ x ∈ R, QIn n x) (hc : CrOk n c) (h : step R c i = some c') : CrOk n c' := by
  unfold step at h
  split at h
  · split at h
    · rename_i h1 h2
      cases h
      exact hc.after (hR _ (List.getElem_mem _)) h2
    · cases h
  · cases h
def pad5 (c : List Int) : List Int := c ++ List.replicate (5 - c.length) 0
theorem pad5_len {c : List Int} (h : c.length ≤ 5) : (pad5 c).length = 5 := by unfold pad5; rw [List.length_append, List.length_replicate]; omega
theorem gl_pad (c : List Int) (i : Nat) : gl (pad5 c) i = gl c i := by
  unfold pad5
  by_cases h : i < c.length
  · unfold gl
    rw [List.getD_eq_getElem?_getD, List.getElem?_append_left h, List.getD_eq_getElem?_getD]
  · rw [gl_out (l := c) (by omega)]
    unfold gl
    rw [List.getD_eq_getElem?_getD, List.getElem?_append_right (by omega), List.getElem?_replicate]
    split <;> rfl
theorem bump_pad {c : List Int} {x : Int × Int} (h : x.1.toNat < c.length) : bump (pad5 c) x = pad5 (bump c x) := by
  have e : (bump c x).length = c.length := bump_len ..
  unfold bump at e ⊢
  rw [gl_pad]
  unfold pad5
  rw [List.set_append_left _ _ h, e]
def zero5 : List Int := [0, 0, 0, 0, 0]
end Go.Proofs.Ytpiplaicnbapbaa
namespace Go.Proofs.Ytpiplaicnbapbaa
open Go.Rx Go.RowKit
def qcells (q : Q4) : List Value := [int q.a, int q.b, int q.c, int q.d]
def qv (q : Q4) : Value := .agg ⟨qcells q⟩
theorem allowed_pad {c : List Int} {q : Q4} : Allowed (pad5 c) q ↔ Allowed c q := by unfold Allowed; rw [gl_pad, gl_pad]
theorem after_pad {c : List Int} {q : Q4} (h : QIn c.length q) : after (pad5 c) q = pad5 (after c q) := by
  obtain ⟨h1, h2, h3, h4⟩ := qin h
  unfold after
  rw [bump_pad h1, bump_pad (by rw [bump_len]; exact h2), bump_pad (by rw [bump_len, bump_len]; exact h3), bump_pad (by rw [bump_len, bump_len, bump_len]; exact h4)]
structure AM (h : Hp) (q : Q4) (l : List Int) (H : Hp) : Prop where
  la : H.at h.next = some (.row 107 true (l.map int))
  qa : H.at (h.next + 1) = some (.row 96 true (qcells q))
  za : H.at (h.next + 2) = some (.row 107 true (zero5.map int))
  gr : Grows h H
  len : l.length = 5
theorem AM.put {h : Hp} {q : Q4} {l : List Int} {H : Hp} (k : AM h q l H) (l' : List Int) (hl : l'.length = 5) : AM h q l' (H.set h.next (.row 107 true (l'.map int))) :=
  ⟨Hp.at_set_self _ (Hp.lt_of_at k.la), by rw [Hp.at_set_ne _ (by omega)]; exact k.qa, by rw [Hp.at_set_ne _ (by omega)]; exact k.za, k.gr.then_set _ (Nat.le_refl _), hl⟩
theorem AM.bump {h : Hp} {q : Q4} {l : List Int} {H : Hp} (k : AM h q l H) {i : Int} (hi : 0 ≤ i ∧ i < 5) (x : Int) : storeAt H h.next (offAt 0 i.toNat 1) [int (gl l i.toNat + x)] = some (H.set h.next (.row 107 true ((Ytpiplaicnbapbaa.bump l (i, x)).map int))) := by
  have := row_store k.la (i := i.toNat) (by rw [k.len]; omega) (gl l i.toNat + x)
  rw [offAt_eq]
  unfold Ytpiplaicnbapbaa.bump
  simpa using this
theorem AM.load {h : Hp} {q : Q4} {l : List Int} {H : Hp} (k : AM h q l H) {i : Int} (hi : 0 ≤ i ∧ i < 5) : cellAt H h.next (offAt 0 i.toNat 1) = some (int (gl l i.toNat)) := by
  have := row_load k.la (i := i.toNat) (by rw [k.len]; omega)
  rw [offAt_eq]
  simpa using this
theorem gl_bd_bump {l : List Int} {i x M : Int} (hi : i.toNat < l.length) (h : ∀ j, -M ≤ gl l j ∧ gl l j ≤ M) (hx : -1 ≤ x ∧ x ≤ 1) : ∀ j, -(M + 1) ≤ gl (bump l (i, x)) j ∧ gl (bump l (i, x)) j ≤ M + 1 := fun j => by
  rw [gl_bump hi]
  have := h j
  split <;> omega
attribute [local irreducible] E idxN cellAt cellsAt storeAt callable helems hmoved lookIn findKey keyOk hentries Hp.at Hp.set Hp.lay arBits hupdated setAt CallP YieldP BoolOf IsWrap Rnd LoopP AppP CutP Int.tmod Int.tdiv Int.fdiv
section
variable [Unknowns]
attribute [local irreducible] ResP sameAt finP
theorem after_spec (c : List Int) (q : Q4) (h : Hp) (hc : c.length = 5) (hb : ∀ j, -100 ≤ gl c j ∧ gl c j ≤ 100) (hq : QIn 5 q) : CallP E 75 [cv c, qv q] h (fun r h' => r = cv (after c q) ∧ Grows h h') := by
  have hq' := qin' (n := 5) hq
  have n1 : ∀ o, (h.lay o).next = h.next + 1 := fun o => Hp.next_lay _ _
  unfold cv qv
  refine enter75 (by simp) ?_
  conv => whnf
  refine SeqP.cut (α := Unit) (fun _ => [(2, ptr h.next 0), (3, ptr (h.next + 1) 0), (4, ptr (h.next + 2) 0)]) (fun _ H => AM h q c H) ?_ ?_
  · conv => whnf
    refine ⟨(), ⟨rfl, congrArg (fun k => ptr k 0) (n1 _), congrArg (fun k => ptr k 0) (by simp only [Hp.next_lay]), trivial⟩, ⟨Hp.at_lay_old _ (Hp.at_lay_old _ (Hp.at_lay_self _ _)), Hp.at_lay_old _ (at_nx2 (n1 _) (Hp.at_lay_self _ _)), at_nx2 (by simp only [Hp.next_lay]) (Hp.at_lay_self _ _), ((Grows.lay _ _).then_lay _).then_lay _, hc⟩, rfl⟩
  rintro _ φ0 H0 m0
  have b1l : (bump c (q.a, -1)).length = 5 := by rw [bump_len, hc]
  have b2l : (bump (bump c (q.a, -1)) (q.b, -1)).length = 5 := by rw [bump_len, b1l]
  have b3l : (bump (bump (bump c (q.a, -1)) (q.b, -1)) (q.c, 1)).length = 5 := by rw [bump_len, b2l]
  have b4l : (after c q).length = 5 := by rw [after_len, hc]
  have g1 := gl_bd_bump (i := q.a) (x := -1) (by omega) hb (by omega)
  have g2 := gl_bd_bump (i := q.b) (x := -1) (by omega) g1 (by omega)
  have g3 := gl_bd_bump (i := q.c) (x := 1) (by omega) g2 (by omega)
  conv => whnf
  refine SeqP.cut (α := Unit) (fun _ => [(2, ptr h.next 0), (3, ptr (h.next + 1) 0), (4, ptr (h.next + 2) 0)]) (fun _ H => AM h q (bump c (q.a, -1)) H) ?_ ?_
  · have hx := hb q.a.toNat
    conv => whnf
    refine ⟨⟨by omega, by omega⟩, ?_⟩
    conv => whnf
    refine ⟨_, cellAt_row m0.qa rfl, ?_⟩
    conv => whnf
    refine ⟨⟨by omega, by omega⟩, ?_⟩
    conv => whnf
    refine ⟨_, m0.load hq'.1, ?_⟩
    conv => whnf
    refine ⟨gl c q.a.toNat + -1, wie (by omega) (by omega), ?_⟩
    conv => whnf
    refine ⟨⟨by omega, by omega⟩, ?_⟩
    conv => whnf
    refine ⟨rfl, _, m0.bump hq'.1 (-1), ?_⟩
    conv => whnf
    exact ⟨(), ⟨rfl, rfl, rfl, trivial⟩, m0.put _ b1l, rfl⟩
  rintro _ φ1 H1 m1
  have hexl : ∃ l, bump c (q.a, -1) = l := ⟨_, rfl⟩
  obtain ⟨l1, el1⟩ := hexl
  rw [el1] at m1 g1
  conv => whnf
  refine SeqP.cut (α := Unit) (fun _ => [(2, ptr h.next 0), (3, ptr (h.next + 1) 0), (4, ptr (h.next + 2) 0)]) (fun _ H => AM h q (bump l1 (q.b, -1)) H) ?_ ?_
  · have hx := g1 q.b.toNat
    conv => whnf
    refine ⟨⟨by omega, by omega⟩, ?_⟩
    conv => whnf
    refine ⟨_, cellAt_row m1.qa rfl, ?_⟩
    conv => whnf
    refine ⟨⟨by omega, by omega⟩, ?_⟩
    conv => whnf
    refine ⟨_, m1.load hq'.2.1, ?_⟩
    conv => whnf
    refine ⟨gl l1 q.b.toNat + -1, wie (by omega) (by omega), ?_⟩
    conv => whnf
    refine ⟨⟨by omega, by omega⟩, ?_⟩
    conv => whnf
    refine ⟨rfl, _, m1.bump hq'.2.1 (-1), ?_⟩
    conv => whnf
    exact ⟨(), ⟨rfl, rfl, rfl, trivial⟩, m1.put _ (by rw [← el1]; exact b2l), rfl⟩
  rintro _ φ2 H2 m2
  rw [el1] at b2l b3l g2 g3
  have hexl : ∃ l, bump l1 (q.b, -1) = l := ⟨_, rfl⟩
  obtain ⟨l2, el2⟩ := hexl
  rw [el2] at m2 g2 b2l b3l g3
  conv => whnf
  refine SeqP.cut (α := Unit) (fun _ => [(2, ptr h.next 0), (3, ptr (h.next + 1) 0), (4, ptr (h.next + 2) 0)]) (fun _ H => AM h q (bump l2 (q.c, 1)) H) ?_ ?_
  · have hx := g2 q.c.toNat
    conv => whnf
    refine ⟨⟨by omega, by omega⟩, ?_⟩
    conv => whnf
    refine ⟨_, cellAt_row m2.qa rfl, ?_⟩
    conv => whnf
    refine ⟨⟨by omega, by omega⟩, ?_⟩
    conv => whnf
    refine ⟨_, m2.load hq'.2.2.1, ?_⟩
    conv => whnf
    refine ⟨gl l2 q.c.toNat + 1, wie (by omega) (by omega), ?_⟩
    conv => whnf
    refine ⟨⟨by omega, by omega⟩, ?_⟩
    conv => whnf
    refine ⟨rfl, _, m2.bump hq'.2.2.1 1, ?_⟩
    conv => whnf
    exact ⟨(), ⟨rfl, rfl, rfl, trivial⟩, m2.put _ b3l, rfl⟩
  rintro _ φ3 H3 m3
  have hexl : ∃ l, bump l2 (q.c, 1) = l := ⟨_, rfl⟩
  obtain ⟨l3, el3⟩ := hexl
  rw [el3] at m3 b3l g3
  have eaf : after c q = bump l3 (q.d, 1) := by unfold after; rw [el1, el2, el3]
  rw [eaf] at b4l ⊢
  conv => whnf
  refine SeqP.cut (α := Unit) (fun _ => [(2, ptr h.next 0), (3, ptr (h.next + 1) 0), (4, ptr (h.next + 2) 0)]) (fun _ H => AM h q (bump l3 (q.d, 1)) H) ?_ ?_
  · have hx := g3 q.d.toNat
    conv => whnf
    refine ⟨⟨by omega, by omega⟩, ?_⟩
    conv => whnf
    refine ⟨_, cellAt_row m3.qa rfl, ?_⟩
    conv => whnf
    refine ⟨⟨by omega, by omega⟩, ?_⟩
    conv => whnf
    refine ⟨_, m3.load hq'.2.2.2, ?_⟩
    conv => whnf
    refine ⟨gl l3 q.d.toNat + 1, wie (by omega) (by omega), ?_⟩
    conv => whnf
    refine ⟨⟨by omega, by omega⟩, ?_⟩
    conv => whnf
    refine ⟨rfl, _, m3.bump hq'.2.2.2 1, ?_⟩
    conv => whnf
    exact ⟨(), ⟨rfl, rfl, rfl, trivial⟩, m3.put _ b4l, rfl⟩
  rintro _ φ4 H4 m4
  have hexl : ∃ l, bump l3 (q.d, 1) = l := ⟨_, rfl⟩
  obtain ⟨l4, el4⟩ := hexl
  rw [el4] at m4 b4l ⊢
  conv => whnf
  repeat (refine SeqP.go ?_; conv => whnf)
  refine ⟨l4.map int, all_cells m4.la (by rw [List.length_map, b4l]), ?_⟩
  conv => whnf
  refine ⟨by show (l4.map int).length = 5; rw [List.length_map, b4l], _, storeAt_full (vs := l4.map int) m4.za (by rw [List.length_map, b4l]; rfl) (ints_one _) (over_int (k := zero5) (by rw [b4l]; rfl)), ?_⟩
  conv => whnf
  repeat (refine SeqP.go ?_; conv => whnf)
  obtain ⟨i107, t107, ag107, sz107⟩ := ty107
  refine leave_cell (r := h.next + 2) (o := 0) (cs := l4.map int) rfl t107 ag107 ?_ ⟨rfl, m4.gr.then_set _ (by omega)⟩
  rw [sz107]
  exact all_cells (Hp.at_set_self _ (Hp.lt_of_at m4.za)) (by rw [List.length_map, b4l])
theorem allows_spec (c : List Int) (q : Q4) (h : Hp) (hc : c.length = 5) (hq : QIn 5 q) : CallP E 74 [cv c, qv q] h (fun r h' => (∃ b, r = .bool b ∧ BoolOf b (Allowed c q)) ∧ Grows h h') := by
  have hq' := qin' (n := 5) hq
  have n1 : ∀ o, (h.lay o).next = h.next + 1 := fun o => Hp.next_lay _ _
  have g0 : Grows h ((h.lay (.row 107 true (c.map int))).lay (.row 96 true (qcells q))) := (Grows.lay _ _).then_lay _
  have a0 : ((h.lay (.row 107 true (c.map int))).lay (.row 96 true (qcells q))).at h.next = some (.row 107 true (c.map int)) := Hp.at_lay_old _ (Hp.at_lay_self _ _)
  have a1 : ((h.lay (.row 107 true (c.map int))).lay (.row 96 true (qcells q))).at (h.lay (.row 107 true (c.map int))).next = some (.row 96 true (qcells q)) := Hp.at_lay_self _ _
  have ld : ∀ i : Int, 0 ≤ i ∧ i < 5 → cellAt ((h.lay (.row 107 true (c.map int))).lay (.row 96 true (qcells q))) h.next (offAt 0 i.toNat 1) = some (int (gl c i.toNat)) := fun i hi => by
    have := row_load a0 (i := i.toNat) (by omega)
    rw [offAt_eq]
    simpa using this
  unfold cv qv
  refine enter74 (by simp) ?_
  conv => whnf
  repeat (refine SeqP.go ?_; conv => whnf)
  refine ⟨⟨by omega, by omega⟩, ?_⟩
  conv => whnf
  refine ⟨_, cellAt_row a1 rfl, ?_⟩
  conv => whnf
  refine ⟨⟨by omega, by omega⟩, ?_⟩
  conv => whnf
  refine ⟨_, cellAt_row a1 rfl, ?_⟩
  conv => whnf
  repeat (refine SeqP.go ?_; conv => whnf)
  refine cmpB (fun c1 => ?_) (fun c1 => ?_)
  · conv => whnf
    repeat (refine SeqP.go ?_; conv => whnf)
    refine ⟨⟨by omega, by omega⟩, ?_⟩
    conv => whnf
    refine ⟨_, ld q.a hq'.1, ?_⟩
    conv => whnf
    refine cmpB (fun c2 => ?_) (fun c2 => ?_)
    · conv => whnf
      repeat (refine SeqP.go ?_; conv => whnf)
      exact finP_one rfl rfl ⟨⟨true, rfl, bo_yes (by unfold Allowed; rw [if_pos c1]; omega)⟩, g0⟩
    · conv => whnf
      repeat (refine SeqP.go ?_; conv => whnf)
      exact finP_one rfl rfl ⟨⟨false, rfl, bo_no (by unfold Allowed; rw [if_pos c1]; omega)⟩, g0⟩
  conv => whnf
  repeat (refine SeqP.go ?_; conv => whnf)
  refine ⟨⟨by omega, by omega⟩, ?_⟩
  conv => whnf
  refine ⟨_, ld q.a hq'.1, ?_⟩
  conv => whnf
  refine cmpB (fun c2 => ?_) (fun c2 => ?_)
  rotate_left
  · conv => whnf
    repeat (refine SeqP.go ?_; conv => whnf)
    exact finP_one rfl rfl ⟨⟨false, rfl, bo_no (by unfold Allowed; rw [if_neg c1]; omega)⟩, g0⟩
  conv => whnf
  refine ⟨⟨by omega, by omega⟩, ?_⟩
  conv => whnf
  refine ⟨_, ld q.b hq'.2.1, ?_⟩
  conv => whnf
  refine cmpB (fun c3 => ?_) (fun c3 => ?_)
  · conv => whnf
    repeat (refine SeqP.go ?_; conv => whnf)
    exact finP_one rfl rfl ⟨⟨true, rfl, bo_yes (by unfold Allowed; rw [if_neg c1]; omega)⟩, g0⟩
  · conv => whnf
    repeat (refine SeqP.go ?_; conv => whnf)
    exact finP_one rfl rfl ⟨⟨false, rfl, bo_no (by unfold Allowed; rw [if_neg c1]; omega)⟩, g0⟩
end
end Go.Proofs.Ytpiplaicnbapbaa
namespace Go.Proofs.Ytpiplaicnbapbaa
open Go.Rx Go.RowKit
theorem POk.qin {p : Prot} (h : POk p) : ∀ k, (hk : k < p.rules.length) → QIn p.n p.rules[k] := fun k hk => (h.rs k hk hk).1
theorem step_no {R : List Q4} {c : List Int} {i : Int} (h : ¬ (0 ≤ i ∧ i < R.length)) : step R c i = none := dif_neg h
theorem step_not {R : List Q4} {c : List Int} {i : Int} (h : 0 ≤ i ∧ i < R.length) (k : ¬ Allowed c (R[i.toNat]'(by omega))) : step R c i = none := by
  unfold step
  rw [dif_pos h, if_neg k]
theorem step_yes {R : List Q4} {c : List Int} {i : Int} (h : 0 ≤ i ∧ i < R.length) (k : Allowed c (R[i.toNat]'(by omega))) : step R c i = some (after c (R[i.toNat]'(by omega))) := by
  unfold step
  rw [dif_pos h, if_pos k]
end Go.Proofs.Ytpiplaicnbapbaa
namespace Go.Proofs.Ytpiplaicnbapbaa
open Go.Rx Go.RowKit
structure BM (h : Hp) (Q r : Nat) (x : Bool) (q : Q4) (l : List Int) (n : Nat) (H : Hp) : Prop where
  la : H.at r = some (.row 3 x (l.map int))
  qa : H.at Q = some (.row 96 true (qcells q))
  gr : Grows h H
  len : l.length = n
  hr : h.next ≤ r
  ne : Q ≠ r
theorem BM.put {h : Hp} {Q r : Nat} {x : Bool} {q : Q4} {l : List Int} {n : Nat} {H : Hp} (k : BM h Q r x q l n H) (l' : List Int) (hl : l'.length = n) : BM h Q r x q l' n (H.set r (.row 3 x (l'.map int))) :=
  ⟨Hp.at_set_self _ (Hp.lt_of_at k.la), by rw [Hp.at_set_ne _ k.ne]; exact k.qa, k.gr.then_set _ k.hr, hl, k.hr, k.ne⟩
theorem BM.bump {h : Hp} {Q r : Nat} {e : Bool} {q : Q4} {l : List Int} {n : Nat} {H : Hp} (k : BM h Q r e q l n H) {i : Int} (hi : 0 ≤ i ∧ i < n) (x : Int) : storeAt H r (offAt 0 i.toNat 1) [int (gl l i.toNat + x)] = some (H.set r (.row 3 e ((Ytpiplaicnbapbaa.bump l (i, x)).map int))) := by
  have := row_store k.la (i := i.toNat) (by rw [k.len]; omega) (gl l i.toNat + x)
  rw [offAt_eq]
  unfold Ytpiplaicnbapbaa.bump
  simpa using this
theorem BM.load {h : Hp} {Q r : Nat} {e : Bool} {q : Q4} {l : List Int} {n : Nat} {H : Hp} (k : BM h Q r e q l n H) {i : Int} (hi : 0 ≤ i ∧ i < n) : cellAt H r (offAt 0 i.toNat 1) = some (int (gl l i.toNat)) := by
  have := row_load k.la (i := i.toNat) (by rw [k.len]; omega)
  rw [offAt_eq]
  simpa using this
theorem BM.built {h : Hp} {Q r : Nat} {x : Bool} {q : Q4} {l : List Int} {n : Nat} {H : Hp} (k : BM h Q r x q l n H) : Built h H 3 (slc r 0 n n) l := .inr ⟨r, by rw [k.len], k.hr, x, k.la⟩
def RMeetR (p : Prot) (c : List Int) (i : Int) (w : Value) (h h' : Hp) (r : Value) : Prop := ∃ (wv : Value) (b : Bool), r = .tuple ⟨[wv, .bool b]⟩ ∧ (step p.rules c i = none → b = false ∧ wv = w) ∧ (∀ c', step p.rules c i = some c' → b = true ∧ Built h h' 3 wv c')
attribute [local irreducible] E idxN cellAt cellsAt storeAt callable helems hmoved lookIn findKey keyOk hentries Hp.at Hp.set Hp.lay arBits hupdated setAt CallP YieldP BoolOf IsWrap Rnd LoopP AppP CutP Int.tmod Int.tdiv Int.fdiv
section
variable [Unknowns]
attribute [local irreducible] ResP sameAt
theorem RMeet_spec (v w : Value) (p : Prot) (c : List Int) (i : Int) (n : Nat) (h : Hp) (hv : PV h v p) (hw : View h w c) (hP : POk p) (en : p.n = n) (hc : CrOk n c) : CallP E 38 [v, w, int i] h (fun r h' => RMeetR p c i w h h' r ∧ Grows h h') := by
  obtain ⟨bx, rfl, hbl, b0, -, -, ⟨a3, b3, k3⟩, -⟩ := hv.box
  obtain ⟨ac, cc, rfl⟩ := hw.known
  have hcl := hc.len
  have hn5 : n ≤ 5 := by have := hP.n5; omega
  have hn1 : 1 ≤ n := by have := hP.n1; omega
  have hrl := hP.rl
  have hqin := hP.qin
  rw [en] at hqin
  have g0 : Grows h (h.lay (.row 26 true bx)) := Grows.lay _ _
  have a0 : (h.lay (.row 26 true bx)).at h.next = some (.row 26 true bx) := Hp.at_lay_self _ _
  refine enter38 (by simp) ?_
  conv => whnf
  refine SeqP.go ?_
  conv => whnf
  refine SeqP.cut (α := Unit) (fun _ => [(3, ptr h.next 0), (2, int i), (1, .slice ac c.length cc)]) (fun _ H => H = h.lay (.row 26 true bx) ∧ 0 ≤ i ∧ i < p.rules.length) ?_ ?_
  · conv => whnf
    repeat (refine SeqP.go ?_; conv => whnf)
    refine cmpB (fun c2 => ?_) (fun c2 => ?_)
    · conv => whnf
      repeat (refine SeqP.go ?_; conv => whnf)
      exact ⟨⟨_, false, rfl, fun _ => ⟨rfl, rfl⟩, fun c' e => by rw [step_no (by omega)] at e; cases e⟩, g0⟩
    conv => whnf
    refine ⟨_, cellAt_row a0 b3, ?_⟩
    conv => whnf
    refine cmpB (fun c3 => ?_) (fun c3 => ?_)
    · conv => whnf
      repeat (refine SeqP.go ?_; conv => whnf)
      exact ⟨⟨_, false, rfl, fun _ => ⟨rfl, rfl⟩, fun c' e => by rw [step_no (by omega)] at e; cases e⟩, g0⟩
    · conv => whnf
      repeat (refine SeqP.go ?_; conv => whnf)
      exact ⟨(), ⟨rfl, rfl, rfl, trivial⟩, ⟨rfl, by omega, by omega⟩, rfl⟩
  rintro _ φ1 _ ⟨rfl, hi0, hi1⟩
  have hii : 0 ≤ i ∧ i < p.rules.length := ⟨hi0, hi1⟩
  have hil : i.toNat < p.rules.length := by omega
  have hkf := RV.cells (show RV (h.lay (.row 26 true bx)) _ p.rules from BuiltC.ext g0 k3)
  obtain ⟨a3', e3', hkf⟩ := hkf
  cases e3'
  have hkg := hkf i.toNat hil
  clear hkf
  obtain ⟨rr, ear, hkc⟩ := hkg
  subst ear
  have hqi := hqin i.toNat hil
  have hno := fun x => step_not (c := c) hii x
  have hyes := fun x => step_yes (c := c) hii x
  have hexq : ∃ q, p.rules[i.toNat] = q := ⟨_, rfl⟩
  obtain ⟨q, eq⟩ := hexq
  rw [eq] at hkc hqi hno hyes
  have hq' := qin' hqi
  have hexQ : ∃ Q, (h.lay (.row 26 true bx)).next = Q ∧ h.next < Q := ⟨_, rfl, by rw [Hp.next_lay]; omega⟩
  obtain ⟨Q, eQ, hQ⟩ := hexQ
  conv => whnf
  refine SeqP.cut (α := Unit) (fun _ => [(8, ptr Q 0), (1, .slice ac c.length cc)]) (fun _ H => H = (h.lay (.row 26 true bx)).lay (.row 96 true (qcells q))) ?_ ?_
  · conv => whnf
    refine ⟨_, cellAt_row a0 b3, ?_⟩
    conv => whnf
    refine ⟨rfl, ⟨by omega, by omega⟩, ?_⟩
    conv => whnf
    refine ⟨[int q.a, int q.b, int q.c, int q.d], by rw [offAt_eq]; simpa using hkc, ?_⟩
    conv => whnf
    refine ⟨rfl, _, storeAt_all (vs := [int q.a, int q.b, int q.c, int q.d]) rfl rfl rfl, ?_⟩
    conv => whnf
    exact ⟨(), ⟨congrArg (fun k => ptr k 0) eQ, rfl, trivial⟩, rfl, rfl⟩
  rintro _ φ2 H2 eH2
  have hQa : H2.at Q = some (.row 96 true (qcells q)) := by rw [eH2, ← eQ]; exact Hp.at_lay_self _ _
  have g2 : Grows h H2 := by rw [eH2]; exact g0.then_lay _
  clear eH2 eQ
  have hn2 : Q < H2.next := Hp.lt_of_at hQa
  conv => whnf
  refine SeqP.go ?_
  conv => whnf
  refine SeqP.cut (α := Nat × Bool) (fun s => [(9, slc s.1 0 n n), (8, ptr Q 0), (1, .slice ac c.length cc)]) (fun s H => BM h Q s.1 s.2 q c n H) ?_ ?_
  · conv => whnf
    refine AppP.ints (h0 := H2) (l := []) (new := c) (.inl ⟨rfl, rfl⟩) (Grows.refl _) (hw.ext g2).elems (by simp; omega) ?_
    intro v3 H3 hb3 hg3 _
    rw [List.nil_append] at hb3
    rcases hb3 with ⟨rfl, e⟩ | ⟨r, rfl, hr, x, hat⟩
    · rw [e] at hcl; simp at hcl; omega
    conv => whnf
    exact ⟨(r, x), ⟨by rw [← hcl]; rfl, rfl, rfl, trivial⟩, ⟨hat, hg3.at_ _ _ hQa, g2.trans hg3, hcl, by show h.next ≤ r; omega, by show Q ≠ r; omega⟩, rfl⟩
  rintro ⟨r, x⟩ φ3 H3 m0
  dsimp only at m0 ⊢
  have hb : ∀ j, -100 ≤ gl c j ∧ gl c j ≤ 100 := fun j => by
    have := hc.nn j
    have := hc.le j
    omega
  have hga := gl_bump2 (l := c) (j := q.a) (x := -1) (by omega)
  have b1l : (bump c (q.a, -1)).length = n := by rw [bump_len, hcl]
  have b2l : (bump (bump c (q.a, -1)) (q.b, -1)).length = n := by rw [bump_len, b1l]
  have hgb := gl_bump2 (l := bump c (q.a, -1)) (j := q.b) (x := -1) (by omega)
  have b3l : (bump (bump (bump c (q.a, -1)) (q.b, -1)) (q.c, 1)).length = n := by rw [bump_len, b2l]
  have b4l : (after c q).length = n := by rw [after_len, hcl]
  have g1 := gl_bd_bump (i := q.a) (x := -1) (by omega) hb (by omega)
  have g22 := gl_bd_bump (i := q.b) (x := -1) (by omega) g1 (by omega)
  have g3 := gl_bd_bump (i := q.c) (x := 1) (by omega) g22 (by omega)
  conv => whnf
  refine SeqP.cut (α := Unit) (fun _ => [(9, slc r 0 n n), (8, ptr Q 0), (1, .slice ac c.length cc)]) (fun _ H => BM h Q r x q (bump c (q.a, -1)) n H) ?_ ?_
  · have hx := hb q.a.toNat
    conv => whnf
    refine ⟨⟨by omega, by omega⟩, ?_⟩
    conv => whnf
    refine ⟨_, cellAt_row m0.qa rfl, ?_⟩
    conv => whnf
    refine ⟨rfl, ⟨by omega, by omega⟩, ?_⟩
    conv => whnf
    refine ⟨_, m0.load hq'.1, ?_⟩
    conv => whnf
    refine ⟨gl c q.a.toNat + -1, wie (by omega) (by omega), ?_⟩
    conv => whnf
    refine ⟨rfl, ⟨by omega, by omega⟩, ?_⟩
    conv => whnf
    refine ⟨rfl, _, m0.bump hq'.1 (-1), ?_⟩
    conv => whnf
    exact ⟨(), ⟨rfl, rfl, rfl, trivial⟩, m0.put _ (b1l), rfl⟩
  rintro _ φ_m1 H_m1 m1
  have hexl : ∃ l, bump c (q.a, -1) = l := ⟨_, rfl⟩
  obtain ⟨l1, el1⟩ := hexl
  rw [el1] at m1 g1 b1l hga hgb
  conv => whnf
  refine SeqP.cut (α := Unit) (fun _ => [(9, slc r 0 n n), (8, ptr Q 0), (1, .slice ac c.length cc)]) (fun _ H => BM h Q r x q (bump l1 (q.b, -1)) n H) ?_ ?_
  · have hx := g1 q.b.toNat
    conv => whnf
    refine ⟨⟨by omega, by omega⟩, ?_⟩
    conv => whnf
    refine ⟨_, cellAt_row m1.qa rfl, ?_⟩
    conv => whnf
    refine ⟨rfl, ⟨by omega, by omega⟩, ?_⟩
    conv => whnf
    refine ⟨_, m1.load hq'.2.1, ?_⟩
    conv => whnf
    refine ⟨gl l1 q.b.toNat + -1, wie (by omega) (by omega), ?_⟩
    conv => whnf
    refine ⟨rfl, ⟨by omega, by omega⟩, ?_⟩
    conv => whnf
    refine ⟨rfl, _, m1.bump hq'.2.1 (-1), ?_⟩
    conv => whnf
    exact ⟨(), ⟨rfl, rfl, rfl, trivial⟩, m1.put _ (by rw [← el1]; exact b2l), rfl⟩
  rintro _ φ_m2 H_m2 m2
  rw [el1] at b2l b3l g22 g3
  have hexl : ∃ l, bump l1 (q.b, -1) = l := ⟨_, rfl⟩
  obtain ⟨l2, el2⟩ := hexl
  rw [el2] at m2 g22 b2l b3l g3 hgb
  have hall : Allowed c q ↔ ¬ (gl l2 q.a.toNat < 0) ∧ ¬ (gl l2 q.b.toNat < 0) := by
    rw [hgb, hga, hgb, hga]
    unfold Allowed
    have i1 := ind_eq (rfl : q.a.toNat = q.a.toNat)
    have i2 := ind_eq (rfl : q.b.toNat = q.b.toNat)
    by_cases e : q.a = q.b
    · rw [if_pos e, e] at *
      omega
    · rw [if_neg e, ind_ne (show q.a.toNat ≠ q.b.toNat by omega), ind_ne (show q.b.toNat ≠ q.a.toNat by omega), i1, i2]
      omega
  conv => whnf
  refine SeqP.cut (α := Unit) (fun _ => [(9, slc r 0 n n), (8, ptr Q 0), (1, .slice ac c.length cc)]) (fun _ H => H_m2 = H ∧ Allowed c q) ?_ ?_
  · conv => whnf
    refine ⟨⟨by omega, by omega⟩, ?_⟩
    conv => whnf
    refine ⟨_, cellAt_row m2.qa rfl, ?_⟩
    conv => whnf
    refine ⟨rfl, ⟨by omega, by omega⟩, ?_⟩
    conv => whnf
    refine ⟨_, m2.load hq'.1, ?_⟩
    conv => whnf
    refine cmpB (fun c2 => ?_) (fun c2 => ?_)
    · have hna : ¬ Allowed c q := fun k => (hall.1 k).1 c2
      conv => whnf
      repeat (refine SeqP.go ?_; conv => whnf)
      exact ⟨⟨_, false, rfl, fun _ => ⟨rfl, rfl⟩, fun c' e => by rw [hno hna] at e; cases e⟩, m2.gr⟩
    conv => whnf
    refine ⟨⟨by omega, by omega⟩, ?_⟩
    conv => whnf
    refine ⟨_, cellAt_row m2.qa rfl, ?_⟩
    conv => whnf
    refine ⟨rfl, ⟨by omega, by omega⟩, ?_⟩
    conv => whnf
    refine ⟨_, m2.load hq'.2.1, ?_⟩
    conv => whnf
    refine cmpB (fun c3 => ?_) (fun c3 => ?_)
    · have hna : ¬ Allowed c q := fun k => (hall.1 k).2 c3
      conv => whnf
      repeat (refine SeqP.go ?_; conv => whnf)
      exact ⟨⟨_, false, rfl, fun _ => ⟨rfl, rfl⟩, fun c' e => by rw [hno hna] at e; cases e⟩, m2.gr⟩
    · conv => whnf
      repeat (refine SeqP.go ?_; conv => whnf)
      exact ⟨(), ⟨rfl, rfl, rfl, trivial⟩, ⟨rfl, hall.2 ⟨c2, c3⟩⟩, rfl⟩
  rintro _ φ8 _ ⟨rfl, hal⟩
  conv => whnf
  refine SeqP.cut (α := Unit) (fun _ => [(9, slc r 0 n n), (8, ptr Q 0), (1, .slice ac c.length cc)]) (fun _ H => BM h Q r x q (bump l2 (q.c, 1)) n H) ?_ ?_
  · have hx := g22 q.c.toNat
    conv => whnf
    refine ⟨⟨by omega, by omega⟩, ?_⟩
    conv => whnf
    refine ⟨_, cellAt_row m2.qa rfl, ?_⟩
    conv => whnf
    refine ⟨rfl, ⟨by omega, by omega⟩, ?_⟩
    conv => whnf
    refine ⟨_, m2.load hq'.2.2.1, ?_⟩
    conv => whnf
    refine ⟨gl l2 q.c.toNat + 1, wie (by omega) (by omega), ?_⟩
    conv => whnf
    refine ⟨rfl, ⟨by omega, by omega⟩, ?_⟩
    conv => whnf
    refine ⟨rfl, _, m2.bump hq'.2.2.1 (1), ?_⟩
    conv => whnf
    exact ⟨(), ⟨rfl, rfl, rfl, trivial⟩, m2.put _ (b3l), rfl⟩
  rintro _ φ_m3 H_m3 m3
  have hexl : ∃ l, bump l2 (q.c, 1) = l := ⟨_, rfl⟩
  obtain ⟨l3, el3⟩ := hexl
  rw [el3] at m3 b3l g3
  have eaf : after c q = bump l3 (q.d, 1) := by unfold after; rw [el1, el2, el3]
  have hyes := hyes hal
  rw [eaf] at b4l hyes
  conv => whnf
  refine SeqP.cut (α := Unit) (fun _ => [(9, slc r 0 n n), (8, ptr Q 0), (1, .slice ac c.length cc)]) (fun _ H => BM h Q r x q (bump l3 (q.d, 1)) n H) ?_ ?_
  · have hx := g3 q.d.toNat
    conv => whnf
    refine ⟨⟨by omega, by omega⟩, ?_⟩
    conv => whnf
    refine ⟨_, cellAt_row m3.qa rfl, ?_⟩
    conv => whnf
    refine ⟨rfl, ⟨by omega, by omega⟩, ?_⟩
    conv => whnf
    refine ⟨_, m3.load hq'.2.2.2, ?_⟩
    conv => whnf
    refine ⟨gl l3 q.d.toNat + 1, wie (by omega) (by omega), ?_⟩
    conv => whnf
    refine ⟨rfl, ⟨by omega, by omega⟩, ?_⟩
    conv => whnf
    refine ⟨rfl, _, m3.bump hq'.2.2.2 (1), ?_⟩
    conv => whnf
    exact ⟨(), ⟨rfl, rfl, rfl, trivial⟩, m3.put _ (b4l), rfl⟩
  rintro _ φ_m4 H_m4 m4
  conv => whnf
  repeat (refine SeqP.go ?_; conv => whnf)
  exact ⟨⟨_, true, rfl, fun e => (by rw [hyes] at e; cases e), fun c' e => by rw [hyes] at e; cases e; exact ⟨rfl, m4.built⟩⟩, m4.gr⟩
end
end Go.Proofs.Ytpiplaicnbapbaa
namespace Go.Proofs.Ytpiplaicnbapbaa
open Go.Rx Go.RowKit
def PL (h : Hp) (v : Value) (p : Prot) : Prop := ∃ vo vs vr, v = pval p.n vo vs vr ∧ View h vo p.out ∧ View h vs p.start ∧ LentV h vr p.rules.length (flat4 p.rules)
theorem PL.ext {h h' : Hp} {v : Value} {p : Prot} (g : Grows h h') (k : PL h v p) : PL h' v p := by
  obtain ⟨a, b, c, e, h1, h2, h3⟩ := k
  exact ⟨a, b, c, e, h1.ext g, h2.ext g, h3.ext g⟩
end Go.Proofs.Ytpiplaicnbapbaa
namespace Go.Proofs.Ytpiplaicnbapbaa
open Go.Rx Go.RowKit
inductive Rs (R : List Q4) : List Int → List Int → Prop
  | refl (c) : Rs R c c
  | tail {c d e i} : Rs R c d → step R d i = some e → Rs R c e
theorem Rs.trans {R : List Q4} {a b c : List Int} (h : Rs R a b) (k : Rs R b c) : Rs R a c := by
  induction k with
  | refl => exact h
  | tail _ hs ih => exact ih.tail hs
theorem Rs.one {R : List Q4} {a b : List Int} {i : Int} (h : step R a i = some b) : Rs R a b := (Rs.refl a).tail h
theorem Rs.head {R : List Q4} {a b c : List Int} {i : Int} (h : step R a i = some b) (k : Rs R b c) : Rs R a c := (Rs.one h).trans k
theorem Rs.ok {n : Nat} {R : List Q4} (hR : ∀ x ∈ R, QIn n x) {c d : List Int} (h : Rs R c d) (hc : CrOk n c) : CrOk n d := by
  induction h with
  | refl => exact hc
  | tail _ hs ih => exact step_ok hR ih hs
structure Gr (R : List Q4) (c : List Int) (L : List (List Int)) : Prop where
  nodup : L.Nodup
  first : L[0]? = some c
  from_ : ∀ d ∈ L, Rs R c d
  closed : ∀ d ∈ L, ∀ i e, step R d i = some e → e ∈ L
theorem Gr.pos {R : List Q4} {c : List Int} {L : List (List Int)} (g : Gr R c L) : 0 < L.length := by
  have := g.first
  cases L with
  | nil => cases this
  | cons x l => simp
theorem Gr.mem {R : List Q4} {c : List Int} {L : List (List Int)} (g : Gr R c L) {d : List Int} : d ∈ L ↔ Rs R c d := by
  refine ⟨g.from_ d, fun h => ?_⟩
  induction h with
  | refl => exact List.mem_of_getElem? g.first
  | tail _ hs ih => exact g.closed _ ih _ _ hs
def Ed (R : List Q4) (L : List (List Int)) (a b : Nat) : Prop := ∃ d e i, L[a]? = some d ∧ L[b]? = some e ∧ step R d i = some e
theorem Ed.lt {R : List Q4} {L : List (List Int)} {a b : Nat} (h : Ed R L a b) : a < L.length ∧ b < L.length := by
  obtain ⟨d, e, i, h1, h2, _⟩ := h
  exact ⟨(List.getElem?_eq_some_iff.1 h1).1, (List.getElem?_eq_some_iff.1 h2).1⟩
inductive Pt (R : List Q4) (L : List (List Int)) : Nat → Nat → Prop
  | refl (a) : Pt R L a a
  | head {a b t} : Ed R L a b → Pt R L b t → Pt R L a t
theorem Pt.trans {R : List Q4} {L : List (List Int)} {a b c : Nat} (h : Pt R L a b) (k : Pt R L b c) : Pt R L a c := by
  induction h with
  | refl => exact k
  | head e _ ih => exact .head e (ih k)
theorem Pt.lt {R : List Q4} {L : List (List Int)} {a b : Nat} (h : Pt R L a b) (ha : a < L.length) : b < L.length := by
  induction h with
  | refl => exact ha
  | head e _ ih => exact ih e.lt.2
theorem Pt.rs {R : List Q4} {L : List (List Int)} {a b : Nat} (h : Pt R L a b) : ∀ {d e : List Int}, L[a]? = some d → L[b]? = some e → Rs R d e := by
  induction h with
  | refl => intro d e h1 h2; rw [h1] at h2; cases h2; exact .refl _
  | head e _ ih =>
    intro d e' h1 h2
    obtain ⟨d1, e1, i, k1, k2, k3⟩ := e
    rw [k1] at h1
    cases h1
    exact .head k3 (ih k2 h2)
theorem Gr.pt {R : List Q4} {c : List Int} {L : List (List Int)} (g : Gr R c L) {a : Nat} {d e : List Int} (h1 : L[a]? = some d) (h : Rs R d e) : ∃ b, L[b]? = some e ∧ Pt R L a b := by
  induction h with
  | refl => exact ⟨a, h1, .refl _⟩
  | tail _ hs ih =>
    obtain ⟨b, h2, h3⟩ := ih
    have hm := g.closed _ (List.mem_of_getElem? h2) _ _ hs
    obtain ⟨k, hk⟩ := List.getElem?_of_mem hm
    exact ⟨k, hk, h3.trans (.head ⟨_, _, _, h2, hk, hs⟩ (.refl _))⟩
def Lead (R : List Q4) (L : List (List Int)) (T : Nat → Prop) (a : Nat) : Prop := ∃ t, T t ∧ Pt R L a t
theorem Lead.self {R : List Q4} {L : List (List Int)} {T : Nat → Prop} {a : Nat} (h : T a) : Lead R L T a := ⟨a, h, .refl _⟩
theorem Lead.back {R : List Q4} {L : List (List Int)} {T : Nat → Prop} {a b : Nat} (h : Lead R L T b) (e : Ed R L a b) : Lead R L T a := by
  obtain ⟨t, h1, h2⟩ := h
  exact ⟨t, h1, .head e h2⟩
theorem Lead.least {R : List Q4} {L : List (List Int)} {T M : Nat → Prop} (h1 : ∀ t, T t → M t) (h2 : ∀ a b, Ed R L a b → M b → M a) {a : Nat} (h : Lead R L T a) : M a := by
  obtain ⟨t, ht, hp⟩ := h
  induction hp with
  | refl => exact h1 _ ht
  | head e _ ih => exact h2 _ _ e (ih ht)
def AllOut (out : List Int) (on : Int) (c : List Int) : Prop := ∀ s, s < out.length → 0 < gl c s → gl out s = on
def Oth (out : List Int) (on : Int) (L : List (List Int)) (a : Nat) : Prop := ∃ d, L[a]? = some d ∧ ¬ AllOut out on d
def SettC (R : List Q4) (out : List Int) (on : Int) (c : List Int) : Prop := ∀ d, Rs R c d → AllOut out on d
def DeciC (R : List Q4) (out : List Int) (on : Int) (c : List Int) : Prop := ∀ d, Rs R c d → ∃ e, Rs R d e ∧ SettC R out on e
def SetN (R : List Q4) (out : List Int) (on : Int) (L : List (List Int)) (a : Nat) : Prop := a < L.length ∧ ¬ Lead R L (Oth out on L) a
theorem Gr.sett {R : List Q4} {c : List Int} {L : List (List Int)} (g : Gr R c L) {out : List Int} {on : Int} {a : Nat} {d : List Int} (h : L[a]? = some d) : SetN R out on L a ↔ SettC R out on d := by
  constructor
  · rintro ⟨h1, h2⟩ e he
    refine Classical.byContradiction fun hn => h2 ?_
    obtain ⟨b, h3, h4⟩ := g.pt h he
    exact ⟨b, ⟨e, h3, hn⟩, h4⟩
  · intro h1
    refine ⟨(List.getElem?_eq_some_iff.1 h).1, ?_⟩
    rintro ⟨t, ⟨e, h2, h3⟩, h4⟩
    exact h3 (h1 e (h4.rs h h2))
theorem Gr.settled {R : List Q4} {c : List Int} {L : List (List Int)} (g : Gr R c L) {out : List Int} {on : Int} : SetN R out on L 0 ↔ SettC R out on c := g.sett g.first
theorem Gr.decides {R : List Q4} {c : List Int} {L : List (List Int)} (g : Gr R c L) {out : List Int} {on : Int} : (∀ a, a < L.length → Lead R L (SetN R out on L) a) ↔ DeciC R out on c := by
  constructor
  · intro h d hd
    obtain ⟨a, ha⟩ := List.getElem?_of_mem (g.mem.2 hd)
    obtain ⟨t, h1, h2⟩ := h a (List.getElem?_eq_some_iff.1 ha).1
    have ht := List.getElem?_eq_getElem h1.1
    exact ⟨_, h2.rs ha ht, (g.sett ht).1 h1⟩
  · intro h a ha
    have h1 := List.getElem?_eq_getElem ha
    obtain ⟨e, h2, h3⟩ := h _ (g.from_ _ (List.getElem_mem ha))
    obtain ⟨b, h4, h5⟩ := g.pt h1 h2
    exact ⟨b, (g.sett h4).2 h3, h5⟩
def firstOf (P : Int → Prop) (r : Int × Bool) : Prop := (P 0 → r = (0, true)) ∧ (¬ P 0 → P 1 → r = (1, true)) ∧ (¬ P 0 → ¬ P 1 → r = (0, false))
theorem firstOf.uniq {P : Int → Prop} {r s : Int × Bool} (h : firstOf P r) (k : firstOf P s) : r = s := by
  by_cases h0 : P 0
  · rw [h.1 h0, k.1 h0]
  · by_cases h1 : P 1
    · rw [h.2.1 h0 h1, k.2.1 h0 h1]
    · rw [h.2.2 h0 h1, k.2.2 h0 h1]
end Go.Proofs.Ytpiplaicnbapbaa
namespace Go.Proofs.Ytpiplaicnbapbaa
open Go.Rx Go.RowKit
theorem nodup_lt : ∀ (N : Nat) (l : List Nat), l.Nodup → (∀ x ∈ l, x < N) → l.length ≤ N
  | 0, l, _, h => by
    cases l with
    | nil => simp
    | cons x l => exact absurd (h x (by simp)) (Nat.not_lt_zero _)
  | N + 1, l, hn, h => by
    by_cases hm : N ∈ l
    · have h1 := nodup_lt N (l.erase N) (hn.erase N) (fun x hx => by
        have h2 := (List.Nodup.mem_erase_iff hn).1 hx
        have h3 := h x h2.2
        have h4 := h2.1
        omega)
      rw [List.length_erase_of_mem hm] at h1
      omega
    · have h1 := nodup_lt N l hn (fun x hx => by
        have h3 := h x hx
        have h4 : x ≠ N := fun e => hm (e ▸ hx)
        omega)
      omega
theorem nodup_map {α β : Type} {f : α → β} : ∀ {l : List α}, l.Nodup → (∀ a ∈ l, ∀ b ∈ l, f a = f b → a = b) → (l.map f).Nodup
  | [], _, _ => by simp
  | x :: l, hn, h => by
    have hc := List.nodup_cons.1 hn
    rw [List.map_cons, List.nodup_cons]
    refine ⟨fun hm => ?_, nodup_map hc.2 fun a ha b hb => h a (by simp [ha]) b (by simp [hb])⟩
    obtain ⟨y, hy, e⟩ := List.mem_map.1 hm
    have := h y (by simp [hy]) x (by simp) e
    subst this
    exact hc.1 hy
structure Gp (R : List Q4) (n : Nat) (c : List Int) (L : List (List Int)) (i : Nat) : Prop where
  nodup : L.Nodup
  first : L[0]? = some c
  from_ : ∀ d ∈ L, Rs R c d
  ok : ∀ d ∈ L, CrOk n d
  clo : ∀ a d, a < i → L[a]? = some d → ∀ k e, step R d k = some e → e ∈ L
theorem Gp.start {R : List Q4} {n : Nat} {c : List Int} (hc : CrOk n c) : Gp R n c [c] 0 :=
  ⟨by simp, rfl, fun d hd => by rw [List.mem_singleton.1 hd]; exact .refl _, fun d hd => by rw [List.mem_singleton.1 hd]; exact hc, fun a d h => absurd h (Nat.not_lt_zero _)⟩
theorem Gp.pos {R : List Q4} {n : Nat} {c : List Int} {L : List (List Int)} {i : Nat} (g : Gp R n c L i) : 0 < L.length := by
  have := g.first
  cases L with
  | nil => cases this
  | cons x l => simp
theorem getE_snoc {α : Type} {L : List α} {a : Nat} {d x : α} (h : L[a]? = some d) : (L ++ [x])[a]? = some d := by
  rw [List.getElem?_append_left (List.getElem?_eq_some_iff.1 h).1]
  exact h
theorem Gp.add {R : List Q4} {n : Nat} {c : List Int} {L : List (List Int)} {i : Nat} (g : Gp R n c L i) (hi : i ≤ L.length) (hR : ∀ x ∈ R, QIn n x) {d e : List Int} {k : Int} (hd : d ∈ L) (hs : step R d k = some e) (hn : e ∉ L) : Gp R n c (L ++ [e]) i := by
  refine ⟨?_, getE_snoc g.first, fun x hx => ?_, fun x hx => ?_, fun a x ha hx k' y hy => ?_⟩
  · rw [List.nodup_append]
    exact ⟨g.nodup, by simp, fun a ha b hb => by rw [List.mem_singleton.1 hb]; exact fun e => hn (e ▸ ha)⟩
  · rcases List.mem_append.1 hx with hx | hx
    · exact g.from_ x hx
    · rw [List.mem_singleton.1 hx]; exact (g.from_ d hd).tail hs
  · rcases List.mem_append.1 hx with hx | hx
    · exact g.ok x hx
    · rw [List.mem_singleton.1 hx]; exact step_ok hR (g.ok d hd) hs
  · rw [List.getElem?_append_left (by omega)] at hx
    exact List.mem_append_left _ (g.clo a x ha hx k' y hy)
theorem Gp.turn {R : List Q4} {n : Nat} {c : List Int} {L : List (List Int)} {i : Nat} (g : Gp R n c L i) {d : List Int} (hd : L[i]? = some d) (h : ∀ k e, step R d k = some e → e ∈ L) : Gp R n c L (i + 1) :=
  ⟨g.nodup, g.first, g.from_, g.ok, fun a x ha hx k e hs => by
    by_cases e2 : a = i
    · subst e2
      rw [hd] at hx
      cases hx
      exact h k e hs
    · exact g.clo a x (by omega) hx k e hs⟩
theorem Gp.done {R : List Q4} {n : Nat} {c : List Int} {L : List (List Int)} (g : Gp R n c L L.length) : Gr R c L :=
  ⟨g.nodup, g.first, g.from_, fun d hd k e hs => by
    obtain ⟨a, ha⟩ := List.getElem?_of_mem hd
    exact g.clo a d (List.getElem?_eq_some_iff.1 ha).1 ha k e hs⟩
structure RowOk (R : List Q4) (L : List (List Int)) (d : List Int) (r : Nat) (row : List Int) : Prop where
  fwd : ∀ x ∈ row, ∃ (k : Nat) (e : List Int) (j : Int), x = (k : Int) ∧ L[k]? = some e ∧ step R d j = some e
  bwd : ∀ (j : Int) (e : List Int), j < (r : Int) → step R d j = some e → ∃ k : Nat, L[k]? = some e ∧ (k : Int) ∈ row
  few : row.length ≤ r
theorem step_range {R : List Q4} {d e : List Int} {j : Int} (h : step R d j = some e) : 0 ≤ j ∧ j < R.length := by
  by_cases hc : 0 ≤ j ∧ j < R.length
  · exact hc
  · rw [step_no hc] at h; cases h
theorem RowOk.start {R : List Q4} {L : List (List Int)} {d : List Int} : RowOk R L d 0 [] :=
  ⟨fun x h => by simp at h, fun j e hj hs => by have := step_range hs; omega, by simp⟩
theorem RowOk.ext {R : List Q4} {L : List (List Int)} {d : List Int} {r : Nat} {row : List Int} (k : RowOk R L d r row) (x : List Int) : RowOk R (L ++ [x]) d r row :=
  ⟨fun y hy => let ⟨k', e, j, h1, h2, h3⟩ := k.fwd y hy; ⟨k', e, j, h1, getE_snoc h2, h3⟩, fun j e hj hs => let ⟨k', h1, h2⟩ := k.bwd j e hj hs; ⟨k', getE_snoc h1, h2⟩, k.few⟩
theorem RowOk.skip {R : List Q4} {L : List (List Int)} {d : List Int} {r : Nat} {row : List Int} (k : RowOk R L d r row) (h : step R d r = none) : RowOk R L d (r + 1) row :=
  ⟨k.fwd, fun j e hj hs => by
    by_cases e2 : j = (r : Int)
    · subst e2; rw [h] at hs; cases hs
    · exact k.bwd j e (by omega) hs, by have := k.few; omega⟩
theorem RowOk.add {R : List Q4} {L : List (List Int)} {d e : List Int} {r : Nat} {row : List Int} (k : RowOk R L d r row) (h : step R d r = some e) {a : Nat} (ha : L[a]? = some e) : RowOk R L d (r + 1) (row ++ [(a : Int)]) :=
  ⟨fun x hx => by
    rcases List.mem_append.1 hx with hx | hx
    · exact k.fwd x hx
    · exact ⟨a, e, r, List.mem_singleton.1 hx, ha, h⟩, fun j e' hj hs => by
    by_cases e2 : j = (r : Int)
    · subst e2
      rw [h] at hs
      cases hs
      exact ⟨a, ha, by simp⟩
    · obtain ⟨k', h1, h2⟩ := k.bwd j e' (by omega) hs
      exact ⟨k', h1, List.mem_append_left _ h2⟩, by have := k.few; rw [List.length_append, List.length_singleton]; omega⟩
theorem RowOk.all {R : List Q4} {L : List (List Int)} {d : List Int} {row : List Int} (k : RowOk R L d R.length row) {j : Int} {e : List Int} (hs : step R d j = some e) : e ∈ L := by
  obtain ⟨k', h1, _⟩ := k.bwd j e (step_range hs).2 hs
  exact List.mem_of_getElem? h1
inductive Wy (R : List Q4) : Nat → List Int → List Int → Prop
  | refl (c) : Wy R 0 c c
  | tail {k c d e i} : Wy R k c d → step R d i = some e → Wy R (k + 1) c e
theorem Wy.rs {R : List Q4} {k : Nat} {c d : List Int} (h : Wy R k c d) : Rs R c d := by
  induction h with
  | refl => exact .refl _
  | tail _ hs ih => exact ih.tail hs
structure St (R : List Q4) (c : List Int) (L : List (List Int)) (S : List Int) (i : Nat) : Prop where
  len : S.length = L.length
  way : ∀ a d, L[a]? = some d → ∃ k : Nat, gl S a = (k : Int) ∧ Wy R k c d
  start_ : gl S 0 = 0
  le : ∀ a, a < S.length → gl S a ≤ (a : Int)
  mono : ∀ a b, a ≤ b → b < S.length → gl S a ≤ gl S b
  near : ∀ a b, i ≤ a → a < S.length → b < S.length → gl S b ≤ gl S a + 1
  clo : ∀ a d, a < i → L[a]? = some d → ∀ k e, step R d k = some e → ∃ b, L[b]? = some e ∧ gl S b ≤ gl S a + 1
theorem St.start {R : List Q4} {c : List Int} : St R c [c] [0] 0 := by
  refine ⟨rfl, fun a d h => ?_, rfl, fun a ha => (by simp at ha; subst ha; exact Int.le_refl _), fun a b hab hb => ?_, fun a b _ ha hb => ?_, fun a d h => absurd h (Nat.not_lt_zero _)⟩
  · have : a = 0 := by have := (List.getElem?_eq_some_iff.1 h).1; simp at this; exact this
    subst this
    cases h
    exact ⟨0, rfl, .refl _⟩
  · simp at hb; subst hb; have : a = 0 := by omega
    subst this; exact Int.le_refl _
  · simp at ha hb; subst ha; subst hb; show gl [0] 0 ≤ gl [0] 0 + 1; omega
theorem gl_old {l : List Int} {x : Int} {j : Nat} (h : j < l.length) : gl (l ++ [x]) j = gl l j := by
  unfold gl
  rw [List.getD_eq_getElem?_getD, List.getD_eq_getElem?_getD, List.getElem?_append_left h]
theorem gl_last {l : List Int} {x : Int} : gl (l ++ [x]) l.length = x := by
  unfold gl
  rw [List.getD_eq_getElem?_getD, List.getElem?_append_right (Nat.le_refl _)]
  simp
theorem St.add {R : List Q4} {c : List Int} {L : List (List Int)} {S : List Int} {i : Nat} (s : St R c L S i) (hi : i < L.length) {d e : List Int} {k : Int} (hd : L[i]? = some d) (hs : step R d k = some e) : St R c (L ++ [e]) (S ++ [gl S i + 1]) i := by
  have hl := s.len
  have old : ∀ a, a < S.length → gl (S ++ [gl S i + 1]) a = gl S a := fun a ha => gl_old ha
  have new : gl (S ++ [gl S i + 1]) S.length = gl S i + 1 := gl_last
  refine ⟨by rw [List.length_append, List.length_append, hl]; rfl, fun a x hx => ?_, by rw [old 0 (by omega)]; exact s.start_, fun a ha => ?_, fun a b hab hb => ?_, fun a b ha1 ha hb => ?_, fun a x ha hx k' y hy => ?_⟩
  · by_cases ha : a < L.length
    · rw [List.getElem?_append_left ha] at hx
      rw [old a (by omega)]
      exact s.way a x hx
    · have h1 := (List.getElem?_eq_some_iff.1 hx).1
      rw [List.length_append, List.length_singleton] at h1
      have : a = S.length := by omega
      subst this
      rw [List.getElem?_append_right (by omega), hl] at hx
      simp at hx
      subst hx
      rw [new]
      obtain ⟨k0, e0, w0⟩ := s.way i d hd
      exact ⟨k0 + 1, by rw [e0]; rfl, w0.tail hs⟩
  · rw [List.length_append, List.length_singleton] at ha
    by_cases ha2 : a < S.length
    · rw [old a ha2]; exact s.le a ha2
    · have : a = S.length := by omega
      subst this
      rw [new]
      have := s.le i (by omega)
      omega
  · rw [List.length_append, List.length_singleton] at hb
    by_cases hb2 : b < S.length
    · rw [old a (by omega), old b hb2]; exact s.mono a b hab hb2
    · have : b = S.length := by omega
      subst this
      rw [new]
      by_cases ha2 : a < S.length
      · rw [old a ha2]; exact s.near i a (Nat.le_refl _) (by omega) ha2
      · have : a = S.length := by omega
        subst this
        rw [new]; exact Int.le_refl _
  · rw [List.length_append, List.length_singleton] at ha hb
    have hA : gl S i ≤ gl (S ++ [gl S i + 1]) a := by
      by_cases ha2 : a < S.length
      · rw [old a ha2]; exact s.mono i a ha1 ha2
      · have : a = S.length := by omega
        subst this
        rw [new]; omega
    have hB : gl (S ++ [gl S i + 1]) b ≤ gl S i + 1 := by
      by_cases hb2 : b < S.length
      · rw [old b hb2]; exact s.near i b (Nat.le_refl _) (by omega) hb2
      · have : b = S.length := by omega
        subst this
        rw [new]; exact Int.le_refl _
    omega
  · rw [List.getElem?_append_left (by omega)] at hx
    obtain ⟨b, h1, h2⟩ := s.clo a x ha hx k' y hy
    have hb := (List.getElem?_eq_some_iff.1 h1).1
    exact ⟨b, getE_snoc h1, by rw [old b (by omega), old a (by omega)]; exact h2⟩
theorem St.turn {R : List Q4} {c : List Int} {L : List (List Int)} {S : List Int} {i : Nat} (s : St R c L S i) (hi : i < L.length) {d : List Int} (hd : L[i]? = some d) {row : List Int} (h : RowOk R L d R.length row) : St R c L S (i + 1) :=
  ⟨s.len, s.way, s.start_, s.le, s.mono, fun a b ha => s.near a b (by omega), fun a x ha hx k e hs => by
    by_cases e2 : a = i
    · subst e2
      rw [hd] at hx
      cases hx
      obtain ⟨b, h1, _⟩ := h.bwd k e (step_range hs).2 hs
      have hb := (List.getElem?_eq_some_iff.1 h1).1
      exact ⟨b, h1, s.near a b (Nat.le_refl _) (by have := s.len; omega) (by have := s.len; omega)⟩
    · exact s.clo a x (by omega) hx k e hs⟩
theorem St.least {R : List Q4} {c : List Int} {L : List (List Int)} {S : List Int} (s : St R c L S L.length) (hf : L[0]? = some c) {k : Nat} {d : List Int} (w : Wy R k c d) : ∃ b, L[b]? = some d ∧ gl S b ≤ k := by
  induction w with
  | refl => exact ⟨0, hf, by rw [s.start_]; exact Int.le_refl _⟩
  | @tail k c d e i hw hs ih =>
    obtain ⟨a, h1, h2⟩ := ih s hf
    obtain ⟨b, h3, h4⟩ := s.clo a d (List.getElem?_eq_some_iff.1 h1).1 h1 i e hs
    exact ⟨b, h3, by omega⟩
structure Nx (R : List Q4) (L : List (List Int)) (N : List (List Int)) : Prop where
  row : ∀ (a : Nat) (d row : List Int), L[a]? = some d → N[a]? = some row → RowOk R L d R.length row
theorem Nx.ext {R : List Q4} {L N : List (List Int)} (k : Nx R L N) (hN : N.length ≤ L.length) (x : List Int) : Nx R (L ++ [x]) N :=
  ⟨fun a d row hd hr => by
    have := (List.getElem?_eq_some_iff.1 hr).1
    rw [List.getElem?_append_left (by omega)] at hd
    exact (k.row a d row hd hr).ext x⟩
theorem Nx.add {R : List Q4} {L N : List (List Int)} (k : Nx R L N) {d row : List Int} (hd : L[N.length]? = some d) (h : RowOk R L d R.length row) : Nx R L (N ++ [row]) :=
  ⟨fun a d' row' hd' hr => by
    by_cases e : a < N.length
    · rw [List.getElem?_append_left e] at hr
      exact k.row a d' row' hd' hr
    · have h1 := (List.getElem?_eq_some_iff.1 hr).1
      rw [List.length_append, List.length_singleton] at h1
      have : a = N.length := by omega
      subst this
      rw [List.getElem?_append_right (Nat.le_refl _)] at hr
      simp at hr
      subst hr
      rw [hd] at hd'
      cases hd'
      exact h⟩
end Go.Proofs.Ytpiplaicnbapbaa
namespace Go.Proofs.Ytpiplaicnbapbaa
open Go.Rx Go.RowKit
def SL (h : Hp) (v : Value) (LL : List (List Int)) : Prop := ∃ a c, v = .slice a LL.length c ∧ ∀ j, (hj : j < LL.length) → ∃ r o sp w, a = some ⟨r, o, sp⟩ ∧ voidSp sp = false ∧ cellAt h r (j + o) = some w ∧ View h w LL[j]
theorem SL.ext {h h' : Hp} {v : Value} {LL : List (List Int)} (g : Grows h h') (k : SL h v LL) : SL h' v LL := by
  obtain ⟨a, c, e, hc⟩ := k
  exact ⟨a, c, e, fun j hj => let ⟨r, o, sp, w, e1, e2, e3, e4⟩ := hc j hj; ⟨r, o, sp, w, e1, e2, g.cell e3, e4.ext g⟩⟩
abbrev gb (l : List Bool) (i : Nat) : Bool := l.getD i false
theorem gb_at {l : List Bool} {i : Nat} (h : i < l.length) : gb l i = l[i] := by
  unfold gb; rw [List.getD_eq_getElem?_getD, List.getElem?_eq_getElem h]; rfl
theorem gb_out {l : List Bool} {i : Nat} (h : l.length ≤ i) : gb l i = false := by
  unfold gb; rw [List.getD_eq_getElem?_getD, List.getElem?_eq_none h]; rfl
theorem gb_lt {l : List Bool} {i : Nat} (h : gb l i = true) : i < l.length := Classical.byContradiction fun k => by rw [gb_out (by omega)] at h; cases h
theorem gb_set {l : List Bool} {i : Nat} (h : i < l.length) (b : Bool) (j : Nat) : gb (l.set i b) j = if j = i then b else gb l j := by
  unfold gb
  rw [List.getD_eq_getElem?_getD, List.getElem?_set, List.getD_eq_getElem?_getD]
  by_cases e : i = j
  · subst e; rw [if_pos rfl, if_pos h, if_pos rfl]; rfl
  · rw [if_neg e, if_neg (fun x => e x.symm)]
def nf : List Bool → Nat
  | [] => 0
  | b :: l => (if b = true then 0 else 1) + nf l
theorem nf_set : ∀ {l : List Bool} {i : Nat}, i < l.length → gb l i = false → nf (l.set i true) + 1 = nf l
  | [], i, h, _ => by simp at h
  | b :: l, 0, _, e => by
    have : b = false := by simpa [gb] using e
    subst this
    simp [nf]
    omega
  | b :: l, i + 1, h, e => by
    have := nf_set (l := l) (i := i) (by simpa using h) (by simpa [gb] using e)
    simp only [List.set_cons_succ, nf]
    omega
structure SM (h : Hp) (r : Nat) (x : Bool) (ms : List Bool) (H : Hp) : Prop where
  at_ : H.at r = some (.row 4 x (ms.map .bool))
  gr : Grows h H
  hr : h.next ≤ r
theorem SM.put {h : Hp} {r : Nat} {x : Bool} {ms : List Bool} {H : Hp} (k : SM h r x ms H) (ms' : List Bool) : SM h r x ms' (H.set r (.row 4 x (ms'.map .bool))) := ⟨Hp.at_set_self _ (Hp.lt_of_at k.at_), k.gr.then_set _ k.hr, k.hr⟩
theorem SM.load {h : Hp} {r : Nat} {x : Bool} {ms : List Bool} {H : Hp} (k : SM h r x ms H) {i : Nat} (hi : i < ms.length) : cellAt H r (offAt 0 i 1) = some (.bool (gb ms i)) := by
  rw [offAt_eq]
  refine cellAt_row k.at_ ?_
  rw [List.getElem?_map, gb_at hi]
  simp [hi]
theorem SM.store {h : Hp} {r : Nat} {x : Bool} {ms : List Bool} {H : Hp} (k : SM h r x ms H) {i : Nat} (hi : i < ms.length) (b : Bool) : storeAt H r (offAt 0 i 1) [.bool b] = some (H.set r (.row 4 x ((ms.set i b).map .bool))) := by
  have := storeAt_row k.at_ (o := i) (v := .bool b) (by rw [List.length_map]; exact hi) rfl
  rw [show (ms.map Value.bool).set i (.bool b) = (ms.set i b).map .bool from by rw [List.map_set]] at this
  rw [offAt_eq]
  simpa using this
def BV (h : Hp) (v : Value) (ms : List Bool) : Prop := ∃ r x, v = slc r 0 ms.length ms.length ∧ h.at r = some (.row 4 x (ms.map .bool))
theorem BV.ext {h h' : Hp} {v : Value} {ms : List Bool} (g : Grows h h') (k : BV h v ms) : BV h' v ms := by
  obtain ⟨r, x, e, h1⟩ := k
  exact ⟨r, x, e, g.at_ _ _ h1⟩
theorem bools_one (l : List Bool) : (l.map Value.bool).all oneCell = true := by
  rw [List.all_eq_true]
  intro v hv
  obtain ⟨n, _, rfl⟩ := List.mem_map.1 hv
  rfl
theorem BV.elems {h : Hp} {v : Value} {ms : List Bool} (k : BV h v ms) : ElemsC h 1 v ms.length (ms.map .bool) := by
  obtain ⟨r, x, rfl, h1⟩ := k
  refine ⟨rfl, ?_, by rw [List.length_map, Nat.mul_one], bools_one _⟩
  show cellsAt h r 0 (ms.length * 1) = _
  rw [cellsAt_row h1 (by rw [List.length_map]; omega), List.drop_zero, List.take_of_length_le (by rw [List.length_map]; omega)]
structure NxOk (R : List Q4) (L : List (List Int)) (N : List (List Int)) : Prop where
  len : N.length = L.length
  fwd : ∀ i, (hi : i < N.length) → ∀ x ∈ N[i], ∃ k : Nat, x = (k : Int) ∧ Ed R L i k
  bwd : ∀ i k, Ed R L i k → ∃ hi : i < N.length, (k : Int) ∈ N[i]
  small : ∀ i, (hi : i < N.length) → N[i].length ≤ 1000
structure Mk (R : List Q4) (L : List (List Int)) (T : Nat → Prop) (ms : List Bool) : Prop where
  len : ms.length = L.length
  all : ∀ t, t < L.length → T t → gb ms t = true
  only : ∀ a, gb ms a = true → Lead R L T a
theorem Mk.set {R : List Q4} {L : List (List Int)} {T : Nat → Prop} {ms : List Bool} (k : Mk R L T ms) {i : Nat} (hi : i < L.length) (h : Lead R L T i) : Mk R L T (ms.set i true) := by
  have hl := k.len
  refine ⟨by rw [List.length_set]; exact hl, fun t ht hT => ?_, fun a ha => ?_⟩
  · rw [gb_set (by omega)]
    split
    · rfl
    · exact k.all t ht hT
  · rw [gb_set (by omega)] at ha
    split at ha
    · rename_i e; rw [e]; exact h
    · exact k.only a ha
def Still (R : List Q4) (L : List (List Int)) (ms : List Bool) (n : Nat) : Prop := ∀ a k, a < n → Ed R L a k → gb ms k = true → gb ms a = true
theorem Mk.done {R : List Q4} {L : List (List Int)} {T : Nat → Prop} {ms : List Bool} (k : Mk R L T ms) (hT : ∀ t, T t → t < L.length) (hs : Still R L ms L.length) (a : Nat) : gb ms a = true ↔ Lead R L T a :=
  ⟨k.only a, fun h => h.least (M := fun a => gb ms a = true) (fun t ht => k.all t (hT t ht) ht) fun a b e hb => hs a b e.lt.1 e hb⟩
end Go.Proofs.Ytpiplaicnbapbaa
namespace Go.Proofs.Ytpiplaicnbapbaa
open Go.Rx Go.RowKit
structure Ps (R : List Q4) (L : List (List Int)) (T : Nat → Prop) (ms0 : List Bool) (i : Nat) (ag : Bool) (ms : List Bool) : Prop where
  km : Mk R L T ms
  le : nf ms ≤ nf ms0
  lt : ag = true → nf ms < nf ms0
  st : ag = false → ms = ms0 ∧ Still R L ms0 i
theorem Ps.start {R : List Q4} {L : List (List Int)} {T : Nat → Prop} {ms : List Bool} (h : Mk R L T ms) : Ps R L T ms 0 false ms := ⟨h, Nat.le_refl _, fun e => (by cases e), fun _ => ⟨rfl, fun a k ha => by omega⟩⟩
theorem Ps.mark {R : List Q4} {L : List (List Int)} {T : Nat → Prop} {ms0 ms : List Bool} {i : Nat} {ag : Bool} (h : Ps R L T ms0 i ag ms) (hi : i < L.length) (hf : gb ms i = false) {k : Nat} (e : Ed R L i k) (hk : gb ms k = true) : Ps R L T ms0 i true (ms.set i true) := by
  have hl := h.km.len
  have hn := nf_set (l := ms) (i := i) (by omega) hf
  have := h.le
  exact ⟨h.km.set hi ((h.km.only k hk).back e), by omega, fun _ => by omega, fun e => (by cases e)⟩
theorem Ps.next {R : List Q4} {L : List (List Int)} {T : Nat → Prop} {ms0 ms : List Bool} {i : Nat} {ag : Bool} (h : Ps R L T ms0 i ag ms) (hs : ag = false → ∀ k, Ed R L i k → gb ms0 k = true → gb ms0 i = true) : Ps R L T ms0 (i + 1) ag ms :=
  ⟨h.km, h.le, h.lt, fun e => ⟨(h.st e).1, fun a k ha he hk => by
    by_cases e2 : a = i
    · subst e2; exact hs e k he hk
    · exact (h.st e).2 a k (by omega) he hk⟩⟩
attribute [local irreducible] E idxN cellAt cellsAt storeAt callable helems hmoved lookIn findKey keyOk hentries Hp.at Hp.set Hp.lay arBits hupdated setAt CallP YieldP BoolOf IsWrap Rnd LoopP AppP CutP Int.tmod Int.tdiv Int.fdiv
section
variable [Unknowns]
attribute [local irreducible] ResP sameAt
theorem spread_spec (bx : List Value) (nv bv : Value) (R : List Q4) (L N : List (List Int)) (some_ : List Bool) (h : Hp) (hbx : bx.length = 3) (hone : bx.all oneCell = true) (b2 : bx[2]? = some nv) (hN : SL h nv N) (hNx : NxOk R L N) (hb : BV h bv some_) (hlen : some_.length = L.length) (hL1 : 0 < L.length) (hL2 : L.length ≤ 1000000) : CallP E 83 [.agg ⟨bx⟩, bv] h (fun r h' => (∃ ms, BV h' r ms ∧ ms.length = L.length ∧ ∀ a, gb ms a = true ↔ Lead R L (fun t => gb some_ t = true) a) ∧ Grows h h' ∧ ∃ k, (∃ n, r = slc k 0 n n) ∧ h.next ≤ k) := by
  obtain ⟨an, cn, rfl, hcn⟩ := id hN
  have hNl := hNx.len
  obtain ⟨rb, xb, rfl, hbat⟩ := id hb
  have g0 : Grows h (h.lay (.row 64 true bx)) := Grows.lay _ _
  have a0 : (h.lay (.row 64 true bx)).at h.next = some (.row 64 true bx) := Hp.at_lay_self _ _
  have hT : ∀ t, gb some_ t = true → t < L.length := fun t ht => by have := gb_lt ht; omega
  refine enter83 (by simp) ?_
  conv => whnf
  refine SeqP.go ?_
  conv => whnf
  refine SeqP.go ?_
  conv => whnf
  refine SeqP.cut (α := Nat × Bool × Hp) (fun s => [(5, slc s.1 0 L.length L.length), (2, ptr h.next 0)]) (fun s H => s.2.2 = H ∧ SM h s.1 s.2.1 some_ s.2.2 ∧ s.2.2.at h.next = some (.row 64 true bx) ∧ h.next < s.1) ?_ ?_
  · conv => whnf
    refine AppP.cells (h0 := h.lay (.row 64 true bx)) (e := 4) (s := 1) BuiltC.nil (.refl _) (BV.elems (hb.ext g0)) (by omega) (by omega) ?_
    intro r3 H3 hb3 g3 _
    rw [Nat.zero_add, List.nil_append] at hb3
    obtain ⟨-, hb4⟩ := hb3
    rcases hb4 with ⟨-, e⟩ | ⟨r, rfl, hr, x, hat⟩
    · rw [hlen] at e; omega
    rw [Hp.next_lay] at hr
    conv => whnf
    exact ⟨(r, x, H3), ⟨by rw [hlen]; rfl, rfl, trivial⟩, ⟨rfl, ⟨hat, g0.trans g3, by show h.next ≤ r; omega⟩, g3.at_ _ _ a0, by show h.next < r; omega⟩, rfl⟩
  rintro ⟨r, x, H3⟩ φ1 _ ⟨rfl, hsm, hbox, hrn⟩
  dsimp only at hsm hbox hrn ⊢
  conv => whnf
  refine SeqP.cut (α := List Bool × Hp) (fun s => [(5, slc r 0 L.length L.length)]) (fun s H => s.2 = H ∧ SM h r x s.1 s.2 ∧ Mk R L (fun t => gb some_ t = true) s.1 ∧ Still R L s.1 L.length) ?_ ?_
  rotate_left
  · rintro ⟨ms, H⟩ φ2 _ ⟨rfl, h1, h2, h3⟩
    dsimp only at h1 h2 h3 ⊢
    conv => whnf
    repeat (refine SeqP.go ?_; conv => whnf)
    exact ⟨⟨ms, ⟨r, x, by rw [h2.len]; rfl, h1.at_⟩, h2.len, h2.done hT h3⟩, h1.gr, r, ⟨_, rfl⟩, h1.hr⟩
  conv => whnf
  repeat (refine SeqP.go ?_; conv => whnf)
  refine loop_inv (α := Bool × List Bool × Hp) (fun s => [(6, .bool s.1), (5, slc r 0 L.length L.length), (2, ptr h.next 0)]) (fun s => s.2.2) (fun s => SM h r x s.2.1 s.2.2 ∧ Mk R L (fun t => gb some_ t = true) s.2.1 ∧ (s.1 = false → Still R L s.2.1 L.length) ∧ s.2.2.at h.next = some (.row 64 true bx)) (fun s => 2 * nf s.2.1 + (if s.1 = true then 1 else 0)) (true, some_, H3) ⟨hsm, ⟨hlen, fun t _ ht => ht, fun a ha => Lead.self ha⟩, fun e => (by cases e), hbox⟩ ⟨rfl, rfl, rfl, trivial⟩ (Hp.Le.refl _) ?_
  rintro ⟨ag, ms0, H0⟩ φ3 ⟨hs0, hm0, hst0, hb0⟩
  dsimp only at hs0 hm0 hst0 hb0 ⊢
  cases ag with
  | false =>
    conv => whnf
    repeat (refine SeqP.go ?_; conv => whnf)
    exact ⟨(ms0, H0), ⟨rfl, trivial⟩, ⟨rfl, hs0, hm0, hst0 rfl⟩, rfl⟩
  | true =>
  conv => whnf
  repeat (refine SeqP.go ?_; conv => whnf)
  refine loop_inv (α := Nat × Bool × List Bool × Hp) (fun s => [(7, int s.1), (6, .bool s.2.1), (5, slc r 0 L.length L.length), (2, ptr h.next 0)]) (fun s => s.2.2.2) (fun s => s.1 ≤ L.length ∧ SM h r x s.2.2.1 s.2.2.2 ∧ Ps R L (fun t => gb some_ t = true) ms0 s.1 s.2.1 s.2.2.1 ∧ s.2.2.2.at h.next = some (.row 64 true bx)) (fun s => L.length - s.1) (0, false, ms0, H0) ⟨Nat.zero_le _, hs0, Ps.start hm0, hb0⟩ ⟨rfl, rfl, rfl, rfl, trivial⟩ (Hp.Le.refl _) ?_
  rintro ⟨i, ag, ms, H1⟩ φ4 ⟨hi, hs1, hp1, hb1⟩
  dsimp only at hi hs1 hp1 hb1 ⊢
  conv => whnf
  repeat (refine SeqP.go ?_; conv => whnf)
  refine cmpB (fun c1 => ?_) (fun c1 => ?_)
  rotate_left
  · have : i = L.length := by omega
    subst this
    conv => whnf
    repeat (refine SeqP.go ?_; conv => whnf)
    refine Rnd.mk (ag, ms, H1) ⟨hs1, hp1.km, fun e => ?_, hb1⟩ ?_ ⟨rfl, rfl, rfl, trivial⟩ (Hp.Le.refl _) rfl
    · have := hp1.st e
      rw [this.1]
      exact this.2
    · show 2 * nf ms + (if ag = true then 1 else 0) < 2 * nf ms0 + (if true = true then 1 else 0)
      have := hp1.le
      cases ag with
      | true => have := hp1.lt rfl; simp; omega
      | false => simp; omega
  have hil : i < L.length := by omega
  have hiN : i < N.length := by omega
  have hcN := hN.ext hs1.gr
  obtain ⟨an', cn', ew, hcN⟩ := hcN
  cases ew
  have hcj := hcN i hiN
  clear hcN
  obtain ⟨rn, on, sp, w, ea, hsp, hw1, hw2⟩ := hcj
  subst ea
  have hkk := hw2.known
  obtain ⟨aw, cw, rfl⟩ := hkk
  have hsmall := hNx.small i hiN
  conv => whnf
  refine SeqP.cut (α := Bool × List Bool × Hp) (fun s => [(7, int i), (6, .bool s.1), (5, slc r 0 L.length L.length), (2, ptr h.next 0)]) (fun s H' => s.2.2 = H' ∧ SM h r x s.2.1 s.2.2 ∧ Ps R L (fun t => gb some_ t = true) ms0 (i + 1) s.1 s.2.1 ∧ s.2.2.at h.next = some (.row 64 true bx)) ?_ ?_
  rotate_left
  · rintro ⟨ag', ms', H'⟩ φ5 _ ⟨rfl, e1, e2, e3⟩
    dsimp only at e1 e2 e3 ⊢
    conv => whnf
    refine ⟨((i + 1 : Nat) : Int), wie (by omega) (by omega), ?_⟩
    conv => whnf
    exact Rnd.mk (i + 1, ag', ms', H') ⟨by show i + 1 ≤ _; omega, e1, e2, e3⟩ (by show _ - (i + 1) < _ - i; omega) ⟨rfl, rfl, rfl, rfl, trivial⟩ (Hp.Le.refl _) rfl
  conv => whnf
  repeat (refine SeqP.go ?_; conv => whnf)
  refine loop_inv (α := Nat × Bool × List Bool × Hp) (fun s => [(8, int s.1), (7, int i), (6, .bool s.2.1), (5, slc r 0 L.length L.length), (2, ptr h.next 0)]) (fun s => s.2.2.2) (fun s => s.1 ≤ N[i].length ∧ SM h r x s.2.2.1 s.2.2.2 ∧ Ps R L (fun t => gb some_ t = true) ms0 i s.2.1 s.2.2.1 ∧ s.2.2.2.at h.next = some (.row 64 true bx) ∧ Grows h s.2.2.2 ∧ (s.2.1 = false → ∀ j, (hj : j < N[i].length) → j < s.1 → ∀ k : Nat, N[i][j] = (k : Int) → gb ms0 k = true → gb ms0 i = true)) (fun s => N[i].length - s.1) (0, ag, ms, H1) ⟨Nat.zero_le _, hs1, hp1, hb1, hs1.gr, fun _ j hj hj0 => by omega⟩ ⟨rfl, rfl, rfl, rfl, rfl, trivial⟩ (Hp.Le.refl _) ?_
  rintro ⟨k, ag, ms, H2⟩ φ6 ⟨hk, hs2, hp2, hb2, hg2, hdone⟩
  dsimp only at hk hs2 hp2 hb2 hg2 hdone ⊢
  have hcN := hN.ext hg2
  obtain ⟨an', cn', ew, hcN⟩ := hcN
  cases ew
  have hcj := hcN i hiN
  clear hcN
  obtain ⟨rn', on', sp', w', ea, hsp', hw1', hw2'⟩ := hcj
  cases ea
  have hkk := hw2'.known
  obtain ⟨aw', cw', rfl⟩ := hkk
  have hmsl := hp2.km.len
  have hexb : ∃ b, gb ms i = b := ⟨_, rfl⟩
  obtain ⟨b, eb⟩ := hexb
  have hldi := hs2.load (i := i) (by omega)
  rw [eb] at hldi
  have hldw : cellAt H2 rn (offAt on i 1) = some (.slice aw' N[i].length cw') := by rw [offAt_eq, Nat.add_comm]; simpa using hw1'
  conv => whnf
  repeat (refine SeqP.go ?_; conv => whnf)
  refine ⟨_, cellAt_row hb2 b2, ?_⟩
  conv => whnf
  refine ⟨hsp', ⟨by omega, by omega⟩, ?_⟩
  conv => whnf
  refine ⟨_, hldw, ?_⟩
  conv => whnf
  refine cmpB (fun c2 => ?_) (fun c2 => ?_)
  rotate_left
  · conv => whnf
    repeat (refine SeqP.go ?_; conv => whnf)
    refine ⟨(ag, ms, H2), ⟨rfl, rfl, rfl, rfl, trivial⟩, ⟨rfl, hs2, hp2.next fun e kk he hkk => ?_, hb2⟩, rfl⟩
    obtain ⟨h1, h2⟩ := hNx.bwd i kk he
    obtain ⟨j, hj, ej⟩ := List.getElem_of_mem h2
    exact hdone e j hj (by omega) kk ej hkk
  have hkl : k < N[i].length := by omega
  conv => whnf
  refine ⟨rfl, ⟨by omega, by omega⟩, ?_⟩
  conv => whnf
  refine ⟨_, hldi, ?_⟩
  conv => whnf
  cases b with
  | true =>
    conv => whnf
    repeat (refine SeqP.go ?_; conv => whnf)
    refine ⟨(ag, ms, H2), ⟨rfl, rfl, rfl, rfl, trivial⟩, ⟨rfl, hs2, hp2.next fun e kk he hkk => ?_, hb2⟩, rfl⟩
    rw [← (hp2.st e).1]
    exact eb
  | false =>
  have hci := hw2'.ints
  obtain ⟨ax, cx, ex, hci⟩ := hci
  cases ex
  have hcik := hci k hkl
  clear hci
  obtain ⟨r5, o5, sp5, ea5, hsp5, hc5⟩ := hcik
  subst ea5
  have hfw := hNx.fwd i hiN N[i][k] (List.getElem_mem _)
  obtain ⟨kk, ekk, hed⟩ := hfw
  have hkkl := hed.lt.2
  rw [ekk] at hc5
  have hldk := hs2.load (i := kk) (by omega)
  have hexc : ∃ c, gb ms kk = c := ⟨_, rfl⟩
  obtain ⟨c, ec⟩ := hexc
  rw [ec] at hldk
  conv => whnf
  repeat (refine SeqP.go ?_; conv => whnf)
  refine ⟨_, cellAt_row hb2 b2, ?_⟩
  conv => whnf
  refine ⟨hsp', ⟨by omega, by omega⟩, ?_⟩
  conv => whnf
  refine ⟨_, hldw, ?_⟩
  conv => whnf
  refine ⟨hsp5, ⟨by omega, by omega⟩, ?_⟩
  conv => whnf
  refine ⟨int kk, by rw [offAt_eq, Nat.add_comm]; simpa using hc5, ?_⟩
  conv => whnf
  refine ⟨rfl, ⟨by omega, by omega⟩, ?_⟩
  conv => whnf
  refine ⟨_, hldk, ?_⟩
  conv => whnf
  cases c with
  | true =>
    conv => whnf
    refine ⟨rfl, ⟨by omega, by omega⟩, ?_⟩
    conv => whnf
    refine ⟨rfl, _, hs2.store (i := i) (by omega) true, ?_⟩
    conv => whnf
    repeat (refine SeqP.go ?_; conv => whnf)
    refine ⟨((k + 1 : Nat) : Int), wie (by omega) (by omega), ?_⟩
    conv => whnf
    exact Rnd.mk (k + 1, true, ms.set i true, _) ⟨by show k + 1 ≤ _; omega, hs2.put _, hp2.mark hil eb hed ec, by rw [Hp.at_set_ne _ (by omega)]; exact hb2, (hs2.put _).gr, fun e => (by cases e)⟩ (by show _ - (k + 1) < _ - k; omega) ⟨rfl, rfl, rfl, rfl, rfl, trivial⟩ (Hp.Le.refl _) rfl
  | false =>
    conv => whnf
    repeat (refine SeqP.go ?_; conv => whnf)
    refine ⟨((k + 1 : Nat) : Int), wie (by omega) (by omega), ?_⟩
    conv => whnf
    refine Rnd.mk (k + 1, ag, ms, H2) ⟨by show k + 1 ≤ _; omega, hs2, hp2, hb2, hg2, fun e j hj hj1 k2 ek2 hk2 => ?_⟩ (by show _ - (k + 1) < _ - k; omega) ⟨rfl, rfl, rfl, rfl, rfl, trivial⟩ (Hp.Le.refl _) rfl
    by_cases e3 : j = k
    · subst e3
      rw [ekk] at ek2
      have : kk = k2 := by omega
      subst this
      rw [← (hp2.st e).1, ec] at hk2
      cases hk2
    · exact hdone e j hj (by omega) k2 ek2 hk2
end
end Go.Proofs.Ytpiplaicnbapbaa
namespace Go.Proofs.Ytpiplaicnbapbaa
open Go.Rx Go.RowKit
structure CR (h : Hp) (bx : List Value) (R : List Q4) (n : Nat) (c : List Int) (L N : List (List Int)) : Prop where
  len : bx.length = 3
  one : bx.all oneCell = true
  lv : ∃ v, bx[0]? = some v ∧ SL h v L
  nv : ∃ v, bx[2]? = some v ∧ SL h v N
  nx : NxOk R L N
  gr : Gr R c L
  ok : ∀ d ∈ L, CrOk n d
  few : L.length ≤ 100000
  sv : ∃ v S, bx[1]? = some v ∧ View h v S ∧ St R c L S L.length
theorem CR.ext {h h' : Hp} {bx : List Value} {R : List Q4} {n : Nat} {c : List Int} {L N : List (List Int)} (g : Grows h h') (k : CR h bx R n c L N) : CR h' bx R n c L N := by
  obtain ⟨h1, h2, ⟨v, h3, h4⟩, ⟨w, h5, h6⟩, h7, h8, h9, h10, ⟨u, S, h11, h12, h13⟩⟩ := k
  exact ⟨h1, h2, ⟨v, h3, h4.ext g⟩, ⟨w, h5, h6.ext g⟩, h7, h8, h9, h10, ⟨u, S, h11, h12.ext g, h13⟩⟩
theorem oth_iff {out : List Int} {on : Int} {L : List (List Int)} {a : Nat} {d : List Int} (h : L[a]? = some d) : Oth out on L a ↔ ∃ s, s < out.length ∧ 0 < gl d s ∧ gl out s ≠ on := by
  constructor
  · rintro ⟨e, h1, h2⟩
    rw [h] at h1
    cases h1
    refine Classical.byContradiction fun hn => h2 fun s hs h3 => Classical.byContradiction fun h4 => hn ⟨s, hs, h3, h4⟩
  · rintro ⟨s, h1, h2, h3⟩
    exact ⟨d, h, fun k => h3 (k s h1 h2)⟩
theorem rep_bool (b : Bool) (n : Nat) : times [Value.bool b] n = (List.replicate n b).map .bool := by
  induction n with
  | zero => rfl
  | succ n ih => show Value.bool b :: times [Value.bool b] n = _; rw [ih, List.replicate_succ]; rfl
theorem gb_rep (n a : Nat) : gb (List.replicate n false) a = false := by
  unfold gb
  rw [List.getD_eq_getElem?_getD, List.getElem?_replicate]
  split <;> rfl
attribute [local irreducible] E idxN cellAt cellsAt storeAt callable helems hmoved lookIn findKey keyOk hentries Hp.at Hp.set Hp.lay arBits hupdated setAt CallP YieldP BoolOf IsWrap Rnd LoopP AppP CutP Int.tmod Int.tdiv Int.fdiv
section
variable [Unknowns]
attribute [local irreducible] ResP sameAt
theorem RSettled_spec (v : Value) (p : Prot) (bx : List Value) (on : Int) (n : Nat) (c : List Int) (L N : List (List Int)) (h : Hp) (hv : PV h v p) (hP : POk p) (en : p.n = n) (hx : CR h bx p.rules n c L N) : CallP E 82 [v, .agg ⟨bx⟩, int on] h (fun r h' => (∃ ms, BV h' r ms ∧ ms.length = L.length ∧ ∀ a, gb ms a = true ↔ SetN p.rules p.out on L a) ∧ Grows h h') := by
  obtain ⟨bp, rfl, hbl, b0, ⟨a1, b1, k1⟩, -⟩ := hv.box
  have hol : p.out.length = n := by have := hP.outl; omega
  have hn5 : n ≤ 5 := by have := hP.n5; omega
  rw [en] at b0
  obtain ⟨hxl, hxo, ⟨lv, x0, hL⟩, ⟨nv, x2, hN⟩, hnx, hgr, hok, hfew, -⟩ := id hx
  have hL0 := hgr.pos
  have hLk := id hL
  obtain ⟨al, cl, rfl, -⟩ := hLk
  have g0 : Grows h ((h.lay (.row 26 true bp)).lay (.row 64 true bx)) := (Grows.lay _ _).then_lay _
  have a0 : ((h.lay (.row 26 true bp)).lay (.row 64 true bx)).at h.next = some (.row 26 true bp) := Hp.at_lay_old _ (Hp.at_lay_self _ _)
  have hexX : ∃ X, (h.lay (.row 26 true bp)).next = X ∧ h.next < X := ⟨_, rfl, by rw [Hp.next_lay]; omega⟩
  obtain ⟨X, eX, hX⟩ := hexX
  have a1' : ((h.lay (.row 26 true bp)).lay (.row 64 true bx)).at X = some (.row 64 true bx) := by rw [← eX]; exact Hp.at_lay_self _ _
  have nX : ((h.lay (.row 26 true bp)).lay (.row 64 true bx)).next = X + 1 := by rw [Hp.next_lay, eX]
  refine enter82 (by simp) ?_
  conv => whnf
  refine SeqP.go ?_
  conv => whnf
  refine SeqP.cut (α := Nat × Hp) (fun s => [(7, slc s.1 0 L.length L.length), (4, ptr X 0), (3, ptr h.next 0), (2, int on)]) (fun s H => s.2 = H ∧ SM h s.1 true (List.replicate L.length false) s.2 ∧ s.2.at h.next = some (.row 26 true bp) ∧ s.2.at X = some (.row 64 true bx) ∧ X < s.1) ?_ ?_
  · conv => whnf
    refine ⟨_, cellAt_row (at_nx2 eX.symm a1') x0, ?_⟩
    conv => whnf
    refine ⟨⟨by omega, by omega, by omega, by omega⟩, ?_⟩
    conv => whnf
    refine ⟨(_, _), ⟨rfl, congrArg (fun k => ptr k 0) eX, rfl, rfl, trivial⟩, ⟨rfl, ⟨?_, g0.then_lay _, ?_⟩, Hp.at_lay_old _ a0, Hp.at_lay_old _ a1', ?_⟩, rfl⟩
    · rw [← rep_bool]
      exact Hp.at_lay_self _ _
    · show h.next ≤ ((h.lay (.row 26 true bp)).lay (.row 64 true bx)).next
      omega
    · show X < ((h.lay (.row 26 true bp)).lay (.row 64 true bx)).next
      omega
  rintro ⟨r, H3⟩ φ1 _ ⟨rfl, hsm, hbp3, hbx3, hrX⟩
  dsimp only at hsm hbp3 hbx3 hrX ⊢
  conv => whnf
  refine SeqP.cut (α := List Bool × Hp) (fun s => [(7, slc r 0 L.length L.length), (4, ptr X 0)]) (fun s H => s.2 = H ∧ SM h r true s.1 s.2 ∧ s.1.length = L.length ∧ (∀ a, gb s.1 a = true ↔ Oth p.out on L a) ∧ s.2.at X = some (.row 64 true bx)) ?_ ?_
  · conv => whnf
    repeat (refine SeqP.go ?_; conv => whnf)
    refine loop_inv (α := Nat × List Bool × Hp) (fun s => [(8, int s.1), (7, slc r 0 L.length L.length), (4, ptr X 0), (3, ptr h.next 0), (2, int on)]) (fun s => s.2.2) (fun s => s.1 ≤ L.length ∧ SM h r true s.2.1 s.2.2 ∧ s.2.1.length = L.length ∧ (∀ a, gb s.2.1 a = true ↔ a < s.1 ∧ Oth p.out on L a) ∧ s.2.2.at h.next = some (.row 26 true bp) ∧ s.2.2.at X = some (.row 64 true bx)) (fun s => L.length - s.1) (0, List.replicate L.length false, H3) ⟨Nat.zero_le _, hsm, List.length_replicate, fun a => ⟨fun e => (by rw [gb_rep] at e; cases e), fun e => absurd e.1 (Nat.not_lt_zero _)⟩, hbp3, hbx3⟩ ⟨rfl, rfl, rfl, rfl, rfl, trivial⟩ (Hp.Le.refl _) ?_
    rintro ⟨i, ms, H⟩ φ2 ⟨hi, hs, hml, hms, hbp, hbx⟩
    dsimp only at hi hs hml hms hbp hbx ⊢
    conv => whnf
    repeat (refine SeqP.go ?_; conv => whnf)
    refine ⟨_, cellAt_row hbx x0, ?_⟩
    conv => whnf
    refine cmpB (fun c1 => ?_) (fun c1 => ?_)
    rotate_left
    · have : i = L.length := by omega
      subst this
      conv => whnf
      repeat (refine SeqP.go ?_; conv => whnf)
      refine ⟨(ms, H), ⟨rfl, rfl, trivial⟩, ⟨rfl, hs, hml, fun a => ?_, hbx⟩, rfl⟩
      rw [hms]
      refine ⟨fun k => k.2, fun k => ⟨?_, k⟩⟩
      obtain ⟨d, h1, _⟩ := k
      exact (List.getElem?_eq_some_iff.1 h1).1
    have hil : i < L.length := by omega
    have hexd : ∃ d, L[i] = d ∧ L[i]? = some d := ⟨_, rfl, List.getElem?_eq_getElem hil⟩
    obtain ⟨d, ed, ed2⟩ := hexd
    have hdo := hok d (List.mem_of_getElem? ed2)
    have hoi := oth_iff (out := p.out) (on := on) ed2
    conv => whnf
    refine SeqP.cut (α := List Bool × Hp) (fun s => [(8, int i), (7, slc r 0 L.length L.length), (4, ptr X 0), (3, ptr h.next 0), (2, int on)]) (fun s H' => s.2 = H' ∧ SM h r true s.1 s.2 ∧ s.1.length = L.length ∧ (∀ a, gb s.1 a = true ↔ a < i + 1 ∧ Oth p.out on L a) ∧ s.2.at h.next = some (.row 26 true bp) ∧ s.2.at X = some (.row 64 true bx)) ?_ ?_
    rotate_left
    · rintro ⟨ms', H'⟩ φ3 _ ⟨rfl, e1, e2, e3, e4, e5⟩
      dsimp only at e1 e2 e3 e4 e5 ⊢
      conv => whnf
      refine ⟨((i + 1 : Nat) : Int), wie (by omega) (by omega), ?_⟩
      conv => whnf
      exact Rnd.mk (i + 1, ms', H') ⟨by show i + 1 ≤ _; omega, e1, e2, e3, e4, e5⟩ (by show _ - (i + 1) < _ - i; omega) ⟨rfl, rfl, rfl, rfl, rfl, trivial⟩ (Hp.Le.refl _) rfl
    conv => whnf
    repeat (refine SeqP.go ?_; conv => whnf)
    refine loop_inv (α := Nat × List Bool × Hp) (fun s => [(9, int s.1), (8, int i), (7, slc r 0 L.length L.length), (4, ptr X 0), (3, ptr h.next 0), (2, int on)]) (fun s => s.2.2) (fun s => s.1 ≤ n ∧ SM h r true s.2.1 s.2.2 ∧ s.2.1.length = L.length ∧ (∀ a, a ≠ i → (gb s.2.1 a = true ↔ a < i ∧ Oth p.out on L a)) ∧ (gb s.2.1 i = true ↔ ∃ s', s' < s.1 ∧ 0 < gl d s' ∧ gl p.out s' ≠ on) ∧ s.2.2.at h.next = some (.row 26 true bp) ∧ s.2.2.at X = some (.row 64 true bx)) (fun s => n - s.1) (0, ms, H) ⟨Nat.zero_le _, hs, hml, fun a _ => hms a, ⟨fun e => absurd ((hms i).1 e).1 (Nat.lt_irrefl _), fun ⟨s', h1, _⟩ => absurd h1 (Nat.not_lt_zero _)⟩, hbp, hbx⟩ ⟨rfl, rfl, rfl, rfl, rfl, rfl, trivial⟩ (Hp.Le.refl _) ?_
    clear hs hml hms hbp hbx
    rintro ⟨s, ms, H⟩ φ4 ⟨hsn, hs, hml, hms, hmi, hbp, hbx⟩
    dsimp only at hsn hs hml hms hmi hbp hbx ⊢
    conv => whnf
    repeat (refine SeqP.go ?_; conv => whnf)
    refine ⟨_, cellAt_row hbp b0, ?_⟩
    conv => whnf
    refine cmpB (fun c2 => ?_) (fun c2 => ?_)
    rotate_left
    · have : s = n := by omega
      subst this
      conv => whnf
      repeat (refine SeqP.go ?_; conv => whnf)
      refine ⟨(ms, H), ⟨rfl, rfl, rfl, rfl, rfl, trivial⟩, ⟨rfl, hs, hml, fun a => ?_, hbp, hbx⟩, rfl⟩
      by_cases e : a = i
      · subst e
        rw [hmi, hoi, hol]
        exact ⟨fun k => ⟨Nat.lt_succ_self _, k⟩, fun k => k.2⟩
      · rw [hms a e]
        exact ⟨fun k => ⟨by omega, k.2⟩, fun k => ⟨by omega, k.2⟩⟩
    have hsl : s < n := by omega
    have hcL := hL.ext hs.gr
    obtain ⟨an', cn', ew, hcL⟩ := hcL
    cases ew
    have hcj := hcL i hil
    clear hcL
    obtain ⟨rn, on', sp, w, ea, hsp, hw1, hw2⟩ := hcj
    subst ea
    rw [ed] at hw2
    have hkk := hw2.known
    obtain ⟨aw, cw, rfl⟩ := hkk
    have hci := hw2.ints
    obtain ⟨ax, cx, ex, hci⟩ := hci
    cases ex
    have hdl := hdo.len
    have hcik := hci s (by omega)
    clear hci
    obtain ⟨r5, o5, sp5, ea5, hsp5, hc5⟩ := hcik
    subst ea5
    rw [← gl_at (l := d) (i := s) (by omega)] at hc5
    have hko := (k1.ext hs.gr).ints
    obtain ⟨ay, cy, ey, hko⟩ := hko
    cases ey
    have hkos := hko s (by omega)
    clear hko
    obtain ⟨r6, o6, sp6, ea6, hsp6, hc6⟩ := hkos
    subst ea6
    rw [← gl_at (l := p.out) (i := s) (by omega)] at hc6
    conv => whnf
    repeat (refine SeqP.go ?_; conv => whnf)
    refine ⟨_, cellAt_row hbx x0, ?_⟩
    conv => whnf
    refine ⟨hsp, ⟨by omega, by omega⟩, ?_⟩
    conv => whnf
    refine ⟨.slice (some ⟨r5, o5, sp5⟩) d.length cw, by rw [offAt_eq, Nat.add_comm]; simpa using hw1, ?_⟩
    conv => whnf
    refine ⟨hsp5, ⟨by omega, by omega⟩, ?_⟩
    conv => whnf
    refine ⟨int (gl d s), by rw [offAt_eq, Nat.add_comm]; simpa using hc5, ?_⟩
    conv => whnf
    have same : ¬ (0 < gl d s ∧ gl p.out s ≠ on) → (gb ms i = true ↔ ∃ s', s' < s + 1 ∧ 0 < gl d s' ∧ gl p.out s' ≠ on) := fun hn => by
      rw [hmi]
      constructor
      · rintro ⟨s', h1, h2⟩
        exact ⟨s', by omega, h2⟩
      · rintro ⟨s', h1, h2⟩
        by_cases e : s' = s
        · subst e; exact absurd h2 hn
        · exact ⟨s', by omega, h2⟩
    refine cmpB (fun c3 => ?_) (fun c3 => ?_)
    · conv => whnf
      refine ⟨_, cellAt_row hbp b1, ?_⟩
      conv => whnf
      refine ⟨hsp6, ⟨by omega, by omega⟩, ?_⟩
      conv => whnf
      refine ⟨int (gl p.out s), by rw [offAt_eq, Nat.add_comm]; simpa using hc6, ?_⟩
      conv => whnf
      refine cmpB (fun c4 => ?_) (fun c4 => ?_)
      · conv => whnf
        refine ⟨rfl, ⟨by omega, by omega⟩, ?_⟩
        conv => whnf
        refine ⟨rfl, _, hs.store (i := i) (by omega) true, ?_⟩
        conv => whnf
        repeat (refine SeqP.go ?_; conv => whnf)
        refine ⟨((s + 1 : Nat) : Int), wie (by omega) (by omega), ?_⟩
        conv => whnf
        refine Rnd.mk (s + 1, ms.set i true, _) ⟨by show s + 1 ≤ _; omega, hs.put _, by show (ms.set i true).length = _; rw [List.length_set]; exact hml, fun a ha => ?_, ?_, by rw [Hp.at_set_ne _ (by omega)]; exact hbp, by rw [Hp.at_set_ne _ (by omega)]; exact hbx⟩ (by show _ - (s + 1) < _ - s; omega) ⟨rfl, rfl, rfl, rfl, rfl, rfl, trivial⟩ (Hp.Le.refl _) rfl
        · show gb (ms.set i true) a = true ↔ _
          rw [gb_set (by omega), if_neg ha]
          exact hms a ha
        · show gb (ms.set i true) i = true ↔ _
          rw [gb_set (by omega), if_pos rfl]
          exact ⟨fun _ => ⟨s, Nat.lt_succ_self _, by omega, c4⟩, fun _ => rfl⟩
      · conv => whnf
        repeat (refine SeqP.go ?_; conv => whnf)
        refine ⟨((s + 1 : Nat) : Int), wie (by omega) (by omega), ?_⟩
        conv => whnf
        exact Rnd.mk (s + 1, ms, H) ⟨by show s + 1 ≤ _; omega, hs, hml, hms, same fun k => c4 k.2, hbp, hbx⟩ (by show _ - (s + 1) < _ - s; omega) ⟨rfl, rfl, rfl, rfl, rfl, rfl, trivial⟩ (Hp.Le.refl _) rfl
    · conv => whnf
      repeat (refine SeqP.go ?_; conv => whnf)
      refine ⟨((s + 1 : Nat) : Int), wie (by omega) (by omega), ?_⟩
      conv => whnf
      exact Rnd.mk (s + 1, ms, H) ⟨by show s + 1 ≤ _; omega, hs, hml, hms, same fun k => by omega, hbp, hbx⟩ (by show _ - (s + 1) < _ - s; omega) ⟨rfl, rfl, rfl, rfl, rfl, rfl, trivial⟩ (Hp.Le.refl _) rfl
  rintro ⟨ms, H4⟩ φ5 _ ⟨rfl, hs4, hml4, hms4, hbx4⟩
  dsimp only at hs4 hml4 hms4 hbx4 ⊢
  conv => whnf
  refine SeqP.cut (α := Nat × Bool × List Bool × Hp) (fun s => [(10, slc s.1 0 L.length L.length)]) (fun s H => s.2.2.2 = H ∧ SM h s.1 s.2.1 s.2.2.1 s.2.2.2 ∧ s.2.2.1.length = L.length ∧ (∀ a, gb s.2.2.1 a = true ↔ Lead p.rules L (Oth p.out on L) a)) ?_ ?_
  · conv => whnf
    refine ⟨bx, all_cells hbx4 hxl, ?_⟩
    conv => whnf
    refine CallP.mono (spread_spec bx nv _ p.rules L N ms _ hxl hxo x2 (hN.ext hs4.gr) hnx ⟨r, true, by rw [hml4]; rfl, hs4.at_⟩ hml4 hL0 (by omega)) ?_
    rintro r5 H5 ⟨⟨ms5, hb5, hl5, hm5⟩, g5, k5, ⟨n5, e5⟩, hk5⟩
    obtain ⟨r6, x6, e6, hat6⟩ := hb5
    have hrk : r6 = k5 := by
      rw [e6] at e5
      simp [slc] at e5
      exact e5.1
    subst hrk
    subst e6
    conv => whnf
    refine ⟨(r6, x6, ms5, H5), ⟨by rw [← hl5]; rfl, trivial⟩, ⟨rfl, ⟨hat6, hs4.gr.trans g5, ?_⟩, hl5, fun a => ?_⟩, rfl⟩
    · have := hs4.gr.next
      show h.next ≤ r6
      omega
    · rw [hm5]
      have : (fun t => gb ms t = true) = Oth p.out on L := funext fun t => propext (hms4 t)
      rw [this]
  rintro ⟨k, x6, ms5, H5⟩ φ6 _ ⟨rfl, hs5, hl5, hm5⟩
  dsimp only at hs5 hl5 hm5 ⊢
  conv => whnf
  refine SeqP.cut (α := List Bool × Hp) (fun s => [(10, slc k 0 L.length L.length)]) (fun s H => s.2 = H ∧ SM h k x6 s.1 s.2 ∧ s.1.length = L.length ∧ ∀ a, gb s.1 a = true ↔ SetN p.rules p.out on L a) ?_ ?_
  rotate_left
  · rintro ⟨ms6, H6⟩ φ7 _ ⟨rfl, h1, h2, h3⟩
    dsimp only at h1 h2 h3 ⊢
    conv => whnf
    repeat (refine SeqP.go ?_; conv => whnf)
    exact ⟨⟨ms6, ⟨k, x6, by rw [h2]; rfl, h1.at_⟩, h2, h3⟩, h1.gr⟩
  conv => whnf
  repeat (refine SeqP.go ?_; conv => whnf)
  refine loop_inv (α := Nat × List Bool × Hp) (fun s => [(11, int s.1), (10, slc k 0 L.length L.length)]) (fun s => s.2.2) (fun s => s.1 ≤ L.length ∧ SM h k x6 s.2.1 s.2.2 ∧ s.2.1.length = L.length ∧ (∀ a, a < s.1 → gb s.2.1 a = !gb ms5 a) ∧ (∀ a, s.1 ≤ a → gb s.2.1 a = gb ms5 a)) (fun s => L.length - s.1) (0, ms5, H5) ⟨Nat.zero_le _, hs5, hl5, fun a ha => absurd ha (Nat.not_lt_zero _), fun a _ => rfl⟩ ⟨rfl, rfl, trivial⟩ (Hp.Le.refl _) ?_
  rintro ⟨i, ms6, H6⟩ φ8 ⟨hi, hs6, hl6, hlo, hhi⟩
  dsimp only at hi hs6 hl6 hlo hhi ⊢
  conv => whnf
  repeat (refine SeqP.go ?_; conv => whnf)
  refine cmpB (fun c1 => ?_) (fun c1 => ?_)
  rotate_left
  · have : i = L.length := by omega
    subst this
    conv => whnf
    repeat (refine SeqP.go ?_; conv => whnf)
    refine ⟨(ms6, H6), ⟨rfl, trivial⟩, ⟨rfl, hs6, hl6, fun a => ?_⟩, rfl⟩
    show gb ms6 a = true ↔ _
    unfold SetN
    rw [← hm5 a]
    by_cases ha : a < L.length
    · rw [hlo a ha]
      cases gb ms5 a <;> simp [ha]
    · rw [gb_out (by omega)]
      simp [ha]
  have hil : i < L.length := by omega
  have hexb : ∃ b, gb ms6 i = b := ⟨_, rfl⟩
  obtain ⟨b, eb⟩ := hexb
  have hld := hs6.load (i := i) (by omega)
  rw [eb] at hld
  conv => whnf
  repeat (refine SeqP.go ?_; conv => whnf)
  refine ⟨rfl, ⟨by omega, by omega⟩, ?_⟩
  conv => whnf
  refine ⟨_, hld, ?_⟩
  conv => whnf
  refine ⟨rfl, ⟨by omega, by omega⟩, ?_⟩
  conv => whnf
  refine ⟨rfl, _, hs6.store (i := i) (by omega) (!b), ?_⟩
  conv => whnf
  refine ⟨((i + 1 : Nat) : Int), wie (by omega) (by omega), ?_⟩
  conv => whnf
  refine Rnd.mk (i + 1, ms6.set i (!b), _) ⟨by show i + 1 ≤ _; omega, hs6.put _, by show (ms6.set i (!b)).length = _; rw [List.length_set]; exact hl6, fun a ha => ?_, fun a ha => ?_⟩ (by show _ - (i + 1) < _ - i; omega) ⟨rfl, rfl, trivial⟩ (Hp.Le.refl _) rfl
  · show gb (ms6.set i (!b)) a = _
    rw [gb_set (by omega)]
    split
    · rename_i e
      rw [← hhi a (by omega), e, eb]
    · exact hlo a (by have : a < i + 1 := ha; omega)
  · show gb (ms6.set i (!b)) a = _
    have : i + 1 ≤ a := ha
    rw [gb_set (by omega), if_neg (by omega)]
    exact hhi a (by omega)
end
end Go.Proofs.Ytpiplaicnbapbaa
