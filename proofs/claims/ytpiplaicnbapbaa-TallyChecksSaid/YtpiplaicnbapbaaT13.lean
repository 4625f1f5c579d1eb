/- Contracts of the functions that T27 comes to. -/
import Derived.Test.YtpiplaicnbapbaaT12
set_option maxRecDepth 100000
set_option maxHeartbeats 2000000
set_option linter.unusedVariables false
set_option linter.unusedSectionVars false
set_option linter.unusedSimpArgs false
namespace Go.Proofs.Ytpiplaicnbapbaa
open Go.Rx Go.RowKit
/-- What was in memory before stays, but one object. -/
structure PQ (H0 H : Hp) (D : Nat) (cs : List Value) : Prop where
  next : H0.next ≤ H.next
  at_ : ∀ r o, r < H0.next → r ≠ D → H0.at r = some o → H.at r = some o
  dat : H.at D = some (.row 69 true cs)
theorem PQ.start {H0 : Hp} {D : Nat} {cs : List Value} (h : H0.at D = some (.row 69 true cs)) : PQ H0 H0 D cs := ⟨Nat.le_refl _, fun _ _ _ _ e => e, h⟩
theorem PQ.ext {H0 H H' : Hp} {D : Nat} {cs : List Value} (k : PQ H0 H D cs) (g : Grows H H') : PQ H0 H' D cs := ⟨Nat.le_trans k.next g.next, fun r o h1 h2 e => g.at_ _ _ (k.at_ r o h1 h2 e), g.at_ _ _ k.dat⟩
theorem PQ.grows {h H0 H : Hp} {D : Nat} {cs : List Value} (k : PQ H0 H D cs) (g : Grows h H0) (hD : h.next ≤ D) : Grows h H := ⟨Nat.le_trans g.next k.next, fun r o e => by
  have := Hp.lt_of_at e
  have := g.next
  exact k.at_ r o (by omega) (by omega) (g.at_ _ _ e)⟩
theorem PQ.app {H0 H H1 H2 : Hp} {D : Nat} {cs : List Value} {v : Value} (k : PQ H0 H D cs) (hD : D < H0.next) (hg : Grows H H1) (keep : ∀ r o, H1.at r = some o → (∀ n c, v ≠ slc r 0 n c) → H2.at r = some o) (hv : ∀ r n c, v = slc r 0 n c → H0.next ≤ r) (hn : H0.next ≤ H2.next) (cs' : List Value) : PQ H0 (H2.set D (.row 69 true cs')) D cs' := by
  have hk : ∀ r o, r < H0.next → H1.at r = some o → H2.at r = some o := fun r o hr e => keep r o e fun n c e2 => by have := hv r n c e2; omega
  refine ⟨by rw [Hp.next_set]; exact hn, fun r o h1 h2 e => ?_, ?_⟩
  · rw [Hp.at_set_ne _ h2]
    exact hk r o h1 (hg.at_ _ _ (k.at_ r o h1 h2 e))
  · exact Hp.at_set_self _ (Hp.lt_of_at (hk D _ hD (hg.at_ _ _ k.dat)))
theorem PQ.app_dat {H0 H H1 H2 : Hp} {D : Nat} {cs : List Value} {v : Value} (k : PQ H0 H D cs) (hD : D < H0.next) (hg : Grows H H1) (keep : ∀ r o, H1.at r = some o → (∀ n c, v ≠ slc r 0 n c) → H2.at r = some o) (hv : ∀ r n c, v = slc r 0 n c → H0.next ≤ r) : H2.at D = some (.row 69 true cs) := keep D _ (hg.at_ _ _ k.dat) fun n c e2 => by have := hv D n c e2; omega
/-- A question of any data, as an argument. -/
def QI (h : Hp) (v : Value) (q : Quest) : Prop := ∃ va, v = .agg ⟨[va, int q.b, int q.m]⟩ ∧ View h va q.a
theorem QI.ext {h h' : Hp} {v : Value} {q : Quest} (g : Grows h h') (k : QI h v q) : QI h' v q := by
  obtain ⟨va, e, k⟩ := k
  exact ⟨va, e, k.ext g⟩
theorem ty69 : ∃ i, E.ty 69 = some i ∧ i.agg = true ∧ i.size = 3 := by
  have hs : (tiOf Try.prog 69).isSome = true := by kernel_rfl
  refine ⟨(tiOf Try.prog 69).get hs, ty_get (by kernel_rfl) (Option.some_get hs).symm, ?_, ?_⟩ <;> kernel_rfl
attribute [local irreducible] E idxN cellAt cellsAt storeAt callable helems hmoved lookIn findKey keyOk hentries Hp.at Hp.set Hp.lay arBits hupdated setAt CallP YieldP BoolOf IsWrap Rnd LoopP AppP CutP Int.tmod Int.tdiv Int.fdiv
section
variable [Unknowns]
attribute [local irreducible] ResP sameAt finP
theorem question_spec (v : Value) (q : Quest) (h : Hp) (hv : QI h v q) (hb : InR q.b) (hm : InR q.m) (hl : q.a.length < 9223372036854775808) (many : Nat) (hm1 : 1 ≤ many) (hm2 : many ≤ 2) : CallP E 46 [v, int many] h (fun r h' => (∃ x, QV h' r x ∧ QOk x ∧ x.a.length = many) ∧ Grows h h') := by
  obtain ⟨qa, qb, qm⟩ := q
  obtain ⟨va, rfl, k1v⟩ := hv
  have k1 := k1v.ints
  dsimp only at hb hm hl k1 ⊢
  obtain ⟨ao, co, rfl, hco⟩ := id k1
  have hexv : ∃ vs : List Value, vs = [.slice ao qa.length co, int qb, int qm] := ⟨_, rfl⟩
  obtain ⟨bx, ebx⟩ := hexv
  have b0 : bx[0]? = some (.slice ao qa.length co) := by rw [ebx]; rfl
  have b1 : bx[1]? = some (int qb) := by rw [ebx]; rfl
  have b2 : bx[2]? = some (int qm) := by rw [ebx]; rfl
  rw [← ebx]
  clear ebx
  have a0 : ((h.lay (.row 36 true bx)).lay (.row 69 true [.slice none 0 0, int 0, int 0])).at h.next = some (.row 36 true bx) := Hp.at_lay_old _ (Hp.at_lay_self _ _)
  refine enter46 (by simp) ?_
  conv => whnf
  refine SeqP.go ?_
  conv => whnf
  refine SeqP.cut (α := Int × Int × Hp) (fun s => [(5, ptr (h.next + 2) 0), (2, ptr h.next 0), (4, ptr (h.next + 1) 0), (1, int many)]) (fun s H => s.2.2 = H ∧ PQ s.2.2 s.2.2 (h.next + 2) [.slice none 0 0, int s.1, int s.2.1] ∧ s.2.2.next = h.next + 3 ∧ s.2.2.at h.next = some (.row 36 true bx) ∧ s.2.2.at (h.next + 1) = some (.row 69 true [.slice none 0 0, int 0, int 0]) ∧ Grows h s.2.2 ∧ (-9 ≤ s.1 ∧ s.1 ≤ 9) ∧ (0 ≤ s.2.1 ∧ s.2.1 ≤ 9)) ?_ ?_
  · have hux := u64_of qb
    obtain ⟨u, u0, u1, hu⟩ := hux
    have e1 := tmod_bd u0 (show (0 : Int) < 19 by omega)
    have hux' := u64_of qm
    obtain ⟨u', u0', u1', hu'⟩ := hux'
    have e2 := tmod_bd u0' (show (0 : Int) < 10 by omega)
    have n2 : ((h.lay (.row 36 true bx)).lay (.row 69 true [.slice none 0 0, int 0, int 0])).next = h.next + 2 := by simp only [Hp.next_lay]
    conv => whnf
    refine ⟨_, cellAt_row a0 b1, ?_⟩
    conv => whnf
    refine ⟨u, hu, ?_⟩
    conv => whnf
    refine ⟨by omega, ?_⟩
    conv => whnf
    refine ⟨u.tmod 19, wid (by omega), ?_⟩
    conv => whnf
    refine ⟨u.tmod 19 - 9, wie rfl (by omega), ?_⟩
    conv => whnf
    refine ⟨_, cellAt_row a0 b2, ?_⟩
    conv => whnf
    refine ⟨u', hu', ?_⟩
    conv => whnf
    refine ⟨by omega, ?_⟩
    conv => whnf
    refine ⟨u'.tmod 10, wid (by omega), ?_⟩
    conv => whnf
    refine ⟨rfl, _, storeAt_all (vs := [.slice none 0 0, int (u.tmod 19 - 9), int (u'.tmod 10)]) rfl rfl rfl, ?_⟩
    conv => whnf
    exact ⟨(u.tmod 19 - 9, u'.tmod 10, _), ⟨congrArg (fun k => ptr k 0) n2, rfl, congrArg (fun k => ptr k 0) (Hp.next_lay _ _), rfl, trivial⟩, ⟨rfl, PQ.start (at_nx2 n2 (Hp.at_lay_self _ _)), by simp only [Hp.next_lay], Hp.at_lay_old _ a0, Hp.at_lay_old _ (at_nx2 (Hp.next_lay _ _) (Hp.at_lay_self _ _)), ((Grows.lay _ _).then_lay _).then_lay _, by dsimp only; omega, by dsimp only; omega⟩, rfl⟩
  rintro ⟨b, m, H0⟩ φ1 _ ⟨rfl, hpm0, hn0, hx0, hx1, hgh0, hbb, hmm⟩
  dsimp only at hpm0 hn0 hx0 hx1 hgh0 hbb hmm ⊢
  have hD : h.next + 2 < H0.next := by omega
  conv => whnf
  refine SeqP.cut (α := Value × List Int × Hp) (fun s => [(5, ptr (h.next + 2) 0), (4, ptr (h.next + 1) 0)]) (fun s H => s.2.2 = H ∧ PQ H0 s.2.2 (h.next + 2) [s.1, int b, int m] ∧ Built (bareN H0.next) s.2.2 3 s.1 s.2.1 ∧ s.2.1.length = many ∧ ∀ x ∈ s.2.1, -5 ≤ x ∧ x ≤ 5) ?_ ?_
  · conv => whnf
    repeat (refine SeqP.go ?_; conv => whnf)
    refine loop_inv (α := Nat × Value × List Int × Hp) (fun s => [(6, int s.1), (5, ptr (h.next + 2) 0), (2, ptr h.next 0), (4, ptr (h.next + 1) 0), (1, int many)]) (fun s => s.2.2.2) (fun s => s.1 ≤ many ∧ PQ H0 s.2.2.2 (h.next + 2) [s.2.1, int b, int m] ∧ Built (bareN H0.next) s.2.2.2 3 s.2.1 s.2.2.1 ∧ s.2.2.1.length = s.1 ∧ ∀ x ∈ s.2.2.1, -5 ≤ x ∧ x ≤ 5) (fun s => many - s.1) (0, .slice none 0 0, [], H0) ⟨Nat.zero_le _, hpm0, .inl ⟨rfl, rfl⟩, rfl, by simp⟩ ⟨rfl, rfl, rfl, rfl, rfl, trivial⟩ (Hp.Le.refl _) ?_
    rintro ⟨k, w, l, H⟩ φ3 ⟨hk, hpm, hbu, hll, hall⟩
    dsimp only at hk hpm hbu hll hall ⊢
    conv => whnf
    repeat (refine SeqP.go ?_; conv => whnf)
    refine cmpB (fun c1 => ?_) (fun c1 => ?_)
    rotate_left
    · conv => whnf
      exact ⟨(w, l, H), ⟨rfl, rfl, trivial⟩, ⟨rfl, hpm, hbu, by show l.length = many; omega, hall⟩, rfl⟩
    have hgH := hpm.grows hgh0 (Nat.le_add_right _ _)
    have hxH := hpm.at_ _ _ (by omega) (by omega) hx0
    conv => whnf
    refine SeqP.cut (α := Value × List Int × Hp) (fun s => [(6, int k), (5, ptr (h.next + 2) 0), (2, ptr h.next 0), (4, ptr (h.next + 1) 0), (1, int many)]) (fun s H' => s.2.2 = H' ∧ PQ H0 s.2.2 (h.next + 2) [s.1, int b, int m] ∧ Built (bareN H0.next) s.2.2 3 s.1 s.2.1 ∧ s.2.1.length = k + 1 ∧ ∀ x ∈ s.2.1, -5 ≤ x ∧ x ≤ 5) ?_ ?_
    rotate_left
    · rintro ⟨w', l', H'⟩ φ4 _ ⟨rfl, h1, h2, h3, h4⟩
      dsimp only at h1 h2 h3 h4 ⊢
      conv => whnf
      refine ⟨((k + 1 : Nat) : Int), wie (by omega) (by omega), ?_⟩
      conv => whnf
      exact Rnd.mk (k + 1, w', l', H') ⟨by show k + 1 ≤ many; omega, h1, h2, h3, h4⟩ (by show many - (k + 1) < many - k; omega) ⟨rfl, rfl, rfl, rfl, rfl, trivial⟩ (Hp.Le.refl _) rfl
    conv => whnf
    refine SeqP.go ?_
    conv => whnf
    refine SeqP.cut (α := Int) (fun y => [(7, int y), (6, int k), (5, ptr (h.next + 2) 0), (2, ptr h.next 0), (4, ptr (h.next + 1) 0), (1, int many)]) (fun y H' => H = H' ∧ -5 ≤ y ∧ y ≤ 5) ?_ ?_
    · conv => whnf
      repeat (refine SeqP.go ?_; conv => whnf)
      refine ⟨_, cellAt_row hxH b0, ?_⟩
      conv => whnf
      refine cmpB (fun c2 => ?_) (fun c2 => ?_)
      rotate_left
      · conv => whnf
        exact ⟨1, ⟨rfl, rfl, rfl, rfl, rfl, rfl, trivial⟩, ⟨rfl, by omega, by omega⟩, rfl⟩
      have hc := (k1.ext hgH)
      obtain ⟨ao', co', ew, hcc⟩ := hc
      cases ew
      have hc := hcc k (by omega)
      obtain ⟨r, o, sp, ea, hsp, hci⟩ := hc
      subst ea
      have hux := u64_of qa[k]
      obtain ⟨u, u0, u1, hu⟩ := hux
      have b1' := tmod_bd u0 (show (0 : Int) < 11 by omega)
      conv => whnf
      refine ⟨_, cellAt_row hxH b0, ?_⟩
      conv => whnf
      refine ⟨hsp, ⟨by omega, by omega⟩, ?_⟩
      conv => whnf
      refine ⟨int qa[k], by rw [offAt_eq, Nat.add_comm]; simpa using hci, ?_⟩
      conv => whnf
      refine ⟨u, hu, ?_⟩
      conv => whnf
      refine ⟨by omega, ?_⟩
      conv => whnf
      refine ⟨u.tmod 11, wid (by omega), ?_⟩
      conv => whnf
      refine ⟨u.tmod 11 - 5, wie rfl (by omega), ?_⟩
      conv => whnf
      exact ⟨u.tmod 11 - 5, ⟨rfl, rfl, rfl, rfl, rfl, rfl, trivial⟩, ⟨rfl, by omega, by omega⟩, rfl⟩
    rintro y φ5 _ ⟨rfl, hy⟩
    conv => whnf
    repeat (refine SeqP.go ?_; conv => whnf)
    refine ⟨_, cellAt_row hpm.dat rfl, ?_⟩
    conv => whnf
    have hnx := hpm.next
    refine AppP.ints (hbu.ext (Grows.lay _ _)) (bareN_grows (by rw [Hp.next_lay]; exact Nat.le_succ_of_le hnx)) Elems.lay1 (by simp; omega) ?_
    intro w2 H2 hb2 hg2 keep2
    have hdat2 := hpm.app_dat hD (Grows.lay _ _) keep2 (built_ge hbu)
    rcases id hb2 with ⟨rfl, e⟩ | ⟨r2, rfl, hr2, x2, hat2⟩
    · simp at e
    conv => whnf
    refine ⟨rfl, _, storeAt_row hdat2 (by simp) rfl, ?_⟩
    conv => whnf
    refine ⟨(_, _, _), ⟨rfl, rfl, rfl, rfl, rfl, trivial⟩, ⟨rfl, hpm.app hD (Grows.lay _ _) keep2 (built_ge hbu) hg2.next _, ?_, len_snoc hll y, all_snoc hall hy⟩, rfl⟩
    exact built_set_lt hb2 hD
  rintro ⟨w, l, H1⟩ φ6 _ ⟨rfl, hpm1, hbu, hll, hall⟩
  dsimp only at hpm1 hbu hll hall ⊢
  have hx1b := hpm1.at_ _ _ (by omega) (by omega) hx1
  have hg1 := hpm1.grows hgh0 (Nat.le_add_right _ _)
  have kw := (LV.of hbu).known
  obtain ⟨x1, rfl⟩ := kw
  have hbu' := built_set_lt (r := h.next + 1) (o := .row 69 true [.slice x1 l.length l.length, int b, int m]) hbu (by show h.next + 1 < H0.next; omega)
  conv => whnf
  refine SeqP.go ?_
  conv => whnf
  refine ⟨_, all_cells hpm1.dat rfl, ?_⟩
  conv => whnf
  refine ⟨rfl, _, storeAt_full (vs := [.slice x1 l.length l.length, int b, int m]) hx1b rfl rfl rfl, ?_⟩
  conv => whnf
  repeat (refine SeqP.go ?_; conv => whnf)
  obtain ⟨i69, t69, ag69, sz69⟩ := ty69
  refine leave_cell (r := h.next + 1) (o := 0) (cs := [.slice x1 l.length l.length, int b, int m]) rfl t69 ag69 ?_ ?_
  · rw [sz69]
    exact all_cells (Hp.at_set_self _ (Hp.lt_of_at hx1b)) rfl
  · exact ⟨⟨⟨l, b, m⟩, ⟨_, rfl, LV.of hbu'⟩, ⟨by show 1 ≤ l.length; omega, by show l.length ≤ 2; omega, hall, hbb, hmm⟩, hll⟩, hg1.then_set _ (by omega)⟩
end
end Go.Proofs.Ytpiplaicnbapbaa
