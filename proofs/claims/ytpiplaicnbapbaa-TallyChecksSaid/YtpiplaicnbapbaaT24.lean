/- Contracts of the functions that T27 comes to. -/
import Derived.Test.YtpiplaicnbapbaaT23
set_option maxRecDepth 100000
set_option maxHeartbeats 2000000
set_option linter.unusedVariables false
set_option linter.unusedSectionVars false
set_option linter.unusedSimpArgs false
namespace Go.Proofs.Ytpiplaicnbapbaa
open Go.Rx Go.RowKit
def ql (q : Q4) : List Int := [q.a, q.b, q.c, q.d]
theorem ql_in {n : Int} {q : Q4} : QIn n q ↔ ∀ j, j < 4 → 0 ≤ gl (ql q) j ∧ gl (ql q) j ≤ n - 1 := by
  constructor
  · rintro ⟨h1, h2, h3, h4⟩ j hj
    match j, hj with
    | 0, _ => exact h1
    | 1, _ => exact h2
    | 2, _ => exact h3
    | 3, _ => exact h4
  · intro h
    exact ⟨h 0 (by omega), h 1 (by omega), h 2 (by omega), h 3 (by omega)⟩
theorem forall_gl {l : List Int} {P : Int → Prop} (h : ∀ j, j < l.length → P (gl l j)) : ∀ x ∈ l, P x := fun x hx => by
  obtain ⟨i, hi, rfl⟩ := List.getElem_of_mem hx
  rw [← gl_at hi]
  exact h i hi
theorem gl_forall {l : List Int} {P : Int → Prop} (h : ∀ x ∈ l, P x) {j : Nat} (hj : j < l.length) : P (gl l j) := by
  rw [gl_at hj]; exact h _ (List.getElem_mem _)
attribute [local irreducible] E idxN cellAt cellsAt storeAt callable helems hmoved lookIn findKey keyOk hentries Hp.at Hp.set Hp.lay arBits hupdated setAt CallP YieldP BoolOf IsWrap Rnd LoopP AppP CutP Int.tmod Int.tdiv Int.fdiv
section
variable [Unknowns]
attribute [local irreducible] ResP sameAt
theorem RCheck_spec (v : Value) (p : Prot) (h : Hp) (hv : PV h v p) (ho : p.out.length ≤ 1000000) (hs : p.start.length ≤ 1000000) (hr : p.rules.length ≤ 1000000) : CallP E 20 [v] h (fun r h' => (∃ b, r = .bool b ∧ BoolOf b (POk p)) ∧ Grows h h') := by
  obtain ⟨bx, rfl, hbl, b0, ⟨a1, b1, k1⟩, ⟨a2, b2, k2⟩, ⟨a3, b3, k3⟩, -⟩ := hv.box
  obtain ⟨n, out, start, R⟩ := p
  dsimp only at b0 b1 b2 b3 k1 k2 k3 ho hs hr
  have hat : (h.lay (.row 26 true bx)).at h.next = some (.row 26 true bx) := Hp.at_lay_self _ _
  have g0 : Grows h (h.lay (.row 26 true bx)) := Grows.lay _ _
  have bad : ∀ H, Grows h H → ¬ POk ⟨n, out, start, R⟩ → (∃ b, Value.bool false = .bool b ∧ BoolOf b (POk ⟨n, out, start, R⟩)) ∧ Grows h H := fun H g k => ⟨⟨false, rfl, bo_no k⟩, g⟩
  refine enter20 (by simp) ?_
  conv => whnf
  refine SeqP.go ?_
  conv => whnf
  refine SeqP.cut (α := Unit) (fun _ => [(3, int n), (1, ptr h.next 0)]) (fun _ H => H = h.lay (.row 26 true bx)) ?_ ?_
  · conv => whnf
    refine ⟨_, cellAt_row hat b0, ?_⟩
    conv => whnf
    exact ⟨(), ⟨rfl, rfl, trivial⟩, rfl, rfl⟩
  rintro _ φ1 _ rfl
  conv => whnf
  refine SeqP.cut (α := Unit) (fun _ => [(3, int n), (1, ptr h.next 0)]) (fun _ H => H = h.lay (.row 26 true bx) ∧ 1 ≤ n ∧ n ≤ 5 ∧ (out.length : Int) = n ∧ 1 ≤ start.length ∧ start.length ≤ 2 ∧ R.length ≤ 15) ?_ ?_
  · conv => whnf
    repeat (refine SeqP.go ?_; conv => whnf)
    refine cmpB (fun c1 => ?_) (fun c1 => ?_)
    · conv => whnf
      repeat (refine SeqP.go ?_; conv => whnf)
      exact bad _ g0 fun k => by have : 1 ≤ n := k.n1; omega
    conv => whnf
    refine cmpB (fun c2 => ?_) (fun c2 => ?_)
    · conv => whnf
      repeat (refine SeqP.go ?_; conv => whnf)
      exact bad _ g0 fun k => by have : n ≤ 5 := k.n5; omega
    conv => whnf
    refine ⟨_, cellAt_row hat b1, ?_⟩
    conv => whnf
    refine cmpB (fun c3 => ?_) (fun c3 => ?_)
    · conv => whnf
      repeat (refine SeqP.go ?_; conv => whnf)
      exact bad _ g0 fun k => c3 k.outl
    conv => whnf
    refine ⟨_, cellAt_row hat b2, ?_⟩
    conv => whnf
    refine cmpB (fun c4 => ?_) (fun c4 => ?_)
    · conv => whnf
      repeat (refine SeqP.go ?_; conv => whnf)
      exact bad _ g0 fun k => by have : 1 ≤ start.length := k.st1; omega
    conv => whnf
    refine ⟨_, cellAt_row hat b2, ?_⟩
    conv => whnf
    refine cmpB (fun c5 => ?_) (fun c5 => ?_)
    · conv => whnf
      repeat (refine SeqP.go ?_; conv => whnf)
      exact bad _ g0 fun k => by have : start.length ≤ 2 := k.st2; omega
    conv => whnf
    refine ⟨_, cellAt_row hat b3, ?_⟩
    conv => whnf
    refine cmpB (fun c6 => ?_) (fun c6 => ?_)
    · conv => whnf
      repeat (refine SeqP.go ?_; conv => whnf)
      exact bad _ g0 fun k => by have : R.length ≤ 15 := k.rl; omega
    · conv => whnf
      repeat (refine SeqP.go ?_; conv => whnf)
      exact ⟨(), ⟨rfl, rfl, trivial⟩, ⟨rfl, by omega, by omega, by omega, by omega, by omega, by omega⟩, rfl⟩
  rintro _ φ2 _ ⟨rfl, hn1, hn5, hol, hs1, hs2, hrl⟩
  conv => whnf
  refine SeqP.cut (α := Unit) (fun _ => [(3, int n), (1, ptr h.next 0)]) (fun _ H => H = h.lay (.row 26 true bx) ∧ ∀ x ∈ out, 0 ≤ x ∧ x ≤ 1) ?_ ?_
  · conv => whnf
    repeat (refine SeqP.go ?_; conv => whnf)
    refine loop_inv (α := Nat) (fun k => [(4, int k), (3, int n), (1, ptr h.next 0)]) (fun k => h.lay (.row 26 true bx)) (fun k => k ≤ out.length ∧ ∀ j, j < k → 0 ≤ gl out j ∧ gl out j ≤ 1) (fun k => out.length - k) 0 ⟨Nat.zero_le _, fun j hj => by omega⟩ ⟨rfl, rfl, rfl, trivial⟩ (Hp.Le.refl _) ?_
    rintro k φ ⟨hk, hin⟩
    conv => whnf
    repeat (refine SeqP.go ?_; conv => whnf)
    refine cmpB (fun c1 => ?_) (fun c1 => ?_)
    rotate_left
    · conv => whnf
      repeat (refine SeqP.go ?_; conv => whnf)
      exact ⟨(), ⟨rfl, rfl, trivial⟩, ⟨rfl, forall_gl fun j hj => hin j (by omega)⟩, rfl⟩
    have hkl : k < out.length := by omega
    have hc := (k1.ints.ext g0)
    obtain ⟨ak, ck, ew, hcc⟩ := hc
    cases ew
    have hc := hcc k hkl
    obtain ⟨r, o, sp, ea, hsp, hci⟩ := hc
    subst ea
    have e1 := gl_at hkl
    rw [← e1] at hci
    have hbad : ¬ (0 ≤ gl out k ∧ gl out k ≤ 1) → ¬ POk ⟨n, out, start, R⟩ := fun k1 k2 => k1 (gl_forall (P := fun x => 0 ≤ x ∧ x ≤ 1) k2.outs hkl)
    have hlo : ∀ e : 0 ≤ gl out k ∧ gl out k ≤ 1, ∀ j, j < k + 1 → 0 ≤ gl out j ∧ gl out j ≤ 1 := fun e j hj => by
      by_cases e2 : j = k
      · rw [e2]; exact e
      · exact hin j (by omega)
    conv => whnf
    repeat (refine SeqP.go ?_; conv => whnf)
    refine ⟨_, cellAt_row hat b1, ?_⟩
    conv => whnf
    refine ⟨hsp, ⟨by omega, by omega⟩, ?_⟩
    conv => whnf
    refine ⟨int (gl out k), by rw [offAt_eq, Nat.add_comm]; simpa using hci, ?_⟩
    conv => whnf
    refine cmpB (fun c2 => ?_) (fun c2 => ?_)
    · conv => whnf
      refine ⟨_, cellAt_row hat b1, ?_⟩
      conv => whnf
      refine ⟨hsp, ⟨by omega, by omega⟩, ?_⟩
      conv => whnf
      refine ⟨int (gl out k), by rw [offAt_eq, Nat.add_comm]; simpa using hci, ?_⟩
      conv => whnf
      refine cmpB (fun c3 => ?_) (fun c3 => ?_)
      · conv => whnf
        repeat (refine SeqP.go ?_; conv => whnf)
        exact bad _ g0 (hbad fun e => by omega)
      · conv => whnf
        repeat (refine SeqP.go ?_; conv => whnf)
        refine ⟨((k + 1 : Nat) : Int), wie (by omega) (by omega), ?_⟩
        conv => whnf
        exact Rnd.mk (k + 1) ⟨by show k + 1 ≤ _; omega, hlo (by omega)⟩ (by show _ - (k + 1) < _ - k; omega) ⟨rfl, rfl, rfl, trivial⟩ (Hp.Le.refl _) rfl
    · conv => whnf
      repeat (refine SeqP.go ?_; conv => whnf)
      refine ⟨((k + 1 : Nat) : Int), wie (by omega) (by omega), ?_⟩
      conv => whnf
      exact Rnd.mk (k + 1) ⟨by show k + 1 ≤ _; omega, hlo (by omega)⟩ (by show _ - (k + 1) < _ - k; omega) ⟨rfl, rfl, rfl, trivial⟩ (Hp.Le.refl _) rfl
  rintro _ φ3 _ ⟨rfl, hos⟩
  conv => whnf
  refine SeqP.cut (α := Unit) (fun _ => [(3, int n), (1, ptr h.next 0)]) (fun _ H => H = h.lay (.row 26 true bx) ∧ ∀ x ∈ start, 0 ≤ x ∧ x ≤ n - 1) ?_ ?_
  · conv => whnf
    repeat (refine SeqP.go ?_; conv => whnf)
    refine loop_inv (α := Nat) (fun k => [(5, int k), (3, int n), (1, ptr h.next 0)]) (fun k => h.lay (.row 26 true bx)) (fun k => k ≤ start.length ∧ ∀ j, j < k → 0 ≤ gl start j ∧ gl start j ≤ n - 1) (fun k => start.length - k) 0 ⟨Nat.zero_le _, fun j hj => by omega⟩ ⟨rfl, rfl, rfl, trivial⟩ (Hp.Le.refl _) ?_
    rintro k φ ⟨hk, hin⟩
    conv => whnf
    repeat (refine SeqP.go ?_; conv => whnf)
    refine ⟨_, cellAt_row hat b2, ?_⟩
    conv => whnf
    refine cmpB (fun c1 => ?_) (fun c1 => ?_)
    rotate_left
    · conv => whnf
      repeat (refine SeqP.go ?_; conv => whnf)
      exact ⟨(), ⟨rfl, rfl, trivial⟩, ⟨rfl, forall_gl (P := fun x => 0 ≤ x ∧ x ≤ n - 1) fun j hj => hin j (by omega)⟩, rfl⟩
    have hkl : k < start.length := by omega
    have hc := (k2.ints.ext g0)
    obtain ⟨ak, ck, ew, hcc⟩ := hc
    cases ew
    have hc := hcc k hkl
    obtain ⟨r, o, sp, ea, hsp, hci⟩ := hc
    subst ea
    have e1 := gl_at hkl
    rw [← e1] at hci
    have hbad : ¬ (0 ≤ gl start k ∧ gl start k ≤ n - 1) → ¬ POk ⟨n, out, start, R⟩ := fun k1 k2 => k1 (gl_forall (P := fun x => 0 ≤ x ∧ x ≤ n - 1) k2.sts hkl)
    have hlo : ∀ e : 0 ≤ gl start k ∧ gl start k ≤ n - 1, ∀ j, j < k + 1 → 0 ≤ gl start j ∧ gl start j ≤ n - 1 := fun e j hj => by
      by_cases e2 : j = k
      · rw [e2]; exact e
      · exact hin j (by omega)
    conv => whnf
    repeat (refine SeqP.go ?_; conv => whnf)
    refine ⟨_, cellAt_row hat b2, ?_⟩
    conv => whnf
    refine ⟨hsp, ⟨by omega, by omega⟩, ?_⟩
    conv => whnf
    refine ⟨int (gl start k), by rw [offAt_eq, Nat.add_comm]; simpa using hci, ?_⟩
    conv => whnf
    refine cmpB (fun c2 => ?_) (fun c2 => ?_)
    · conv => whnf
      repeat (refine SeqP.go ?_; conv => whnf)
      exact bad _ g0 (hbad fun e => by omega)
    conv => whnf
    refine ⟨_, cellAt_row hat b2, ?_⟩
    conv => whnf
    refine ⟨hsp, ⟨by omega, by omega⟩, ?_⟩
    conv => whnf
    refine ⟨int (gl start k), by rw [offAt_eq, Nat.add_comm]; simpa using hci, ?_⟩
    conv => whnf
    refine cmpB (fun c3 => ?_) (fun c3 => ?_)
    · conv => whnf
      repeat (refine SeqP.go ?_; conv => whnf)
      exact bad _ g0 (hbad fun e => by omega)
    · conv => whnf
      repeat (refine SeqP.go ?_; conv => whnf)
      refine ⟨((k + 1 : Nat) : Int), wie (by omega) (by omega), ?_⟩
      conv => whnf
      exact Rnd.mk (k + 1) ⟨by show k + 1 ≤ _; omega, hlo (by omega)⟩ (by show _ - (k + 1) < _ - k; omega) ⟨rfl, rfl, rfl, trivial⟩ (Hp.Le.refl _) rfl
  rintro _ φ4 _ ⟨rfl, hss⟩
  conv => whnf
  refine SeqP.cut (α := Unit) (fun _ => []) (fun _ H => Grows h H ∧ ROk n R R.length) ?_ ?_
  rotate_left
  · rintro _ φ9 H9 ⟨g9, hro⟩
    conv => whnf
    repeat (refine SeqP.go ?_; conv => whnf)
    exact ⟨⟨true, rfl, bo_yes ⟨hn1, hn5, hol, hos, hs1, hs2, hss, hrl, hro⟩⟩, g9⟩
  obtain ⟨a3', e3', hkf⟩ := RV.cells k3
  cases e3'
  conv => whnf
  repeat (refine SeqP.go ?_; conv => whnf)
  refine loop_inv (α := Nat × Hp) (fun s => [(6, int s.1), (3, int n), (1, ptr h.next 0)]) (fun s => s.2) (fun s => s.1 ≤ R.length ∧ Grows (h.lay (.row 26 true bx)) s.2 ∧ ROk n R s.1) (fun s => R.length - s.1) (0, _) ⟨Nat.zero_le _, .refl _, fun k _ h0 => by omega⟩ ⟨rfl, rfl, rfl, trivial⟩ (Hp.Le.refl _) ?_
  rintro ⟨k, H⟩ φ5 ⟨hk, hg, hro⟩
  dsimp only at hk hg hro ⊢
  have hatH := hg.at_ _ _ hat
  have hgA := g0.trans hg
  conv => whnf
  repeat (refine SeqP.go ?_; conv => whnf)
  refine ⟨_, cellAt_row hatH b3, ?_⟩
  conv => whnf
  refine cmpB (fun c1 => ?_) (fun c1 => ?_)
  rotate_left
  · have : k = R.length := by omega
    subst this
    conv => whnf
    repeat (refine SeqP.go ?_; conv => whnf)
    exact ⟨(), trivial, ⟨hgA, hro⟩, rfl⟩
  have hkl : k < R.length := by omega
  have hkg := hkf k hkl
  obtain ⟨rr, ear, hkc⟩ := hkg
  subst ear
  have hkc := hgA.cells hkc
  have bad2 : ¬ RuleOk n R k hkl → ¬ POk ⟨n, out, start, R⟩ := fun hno hp => hno (hp.rs k hkl hkl)
  unfold RuleOk at bad2
  have hexq : ∃ q, R[k] = q := ⟨_, rfl⟩
  obtain ⟨q, eq⟩ := hexq
  rw [eq] at hkc bad2
  conv => whnf
  refine SeqP.cut (α := Hp) (fun s => [(6, int k), (3, int n), (1, ptr h.next 0)]) (fun s H' => s = H' ∧ Grows H s ∧ RuleOk n R k hkl) ?_ ?_
  rotate_left
  · rintro H1 φ6 _ ⟨rfl, hg1, hok⟩
    conv => whnf
    refine ⟨((k + 1 : Nat) : Int), wie (by omega) (by omega), ?_⟩
    conv => whnf
    refine Rnd.mk (k + 1, H1) ⟨by show k + 1 ≤ R.length; omega, hg.trans hg1, fun j hj hj2 => ?_⟩ (by show R.length - (k + 1) < R.length - k; omega) ⟨rfl, rfl, rfl, trivial⟩ (Hp.Le.refl _) rfl
    by_cases e : j = k
    · subst e; exact hok
    · exact hro j hj (by omega)
  conv => whnf
  refine SeqP.cut (α := Hp) (fun s => [(7, ptr H.next 0), (6, int k), (3, int n), (1, ptr h.next 0)]) (fun s H' => s = H' ∧ s = H.lay (.row 96 true ((ql q).map int))) ?_ ?_
  · conv => whnf
    refine ⟨_, cellAt_row hatH b3, ?_⟩
    conv => whnf
    refine ⟨rfl, ⟨by omega, by omega⟩, ?_⟩
    conv => whnf
    refine ⟨[int q.a, int q.b, int q.c, int q.d], by rw [offAt_eq]; simpa using hkc, ?_⟩
    conv => whnf
    refine ⟨rfl, _, storeAt_all (vs := [int q.a, int q.b, int q.c, int q.d]) rfl rfl rfl, ?_⟩
    conv => whnf
    exact ⟨_, ⟨rfl, rfl, rfl, rfl, trivial⟩, ⟨rfl, rfl⟩, rfl⟩
  rintro H1 φ6 _ ⟨rfl, eH1⟩
  have hq1 : H1.at H.next = some (.row 96 true ((ql q).map int)) := by rw [eH1]; exact Hp.at_lay_self _ _
  have hg1 : Grows H H1 := by rw [eH1]; exact Grows.lay _ _
  clear eH1
  have hat1 := hg1.at_ _ _ hatH
  have hgB := hgA.trans hg1
  have hql : (ql q).length = 4 := rfl
  conv => whnf
  refine SeqP.cut (α := Unit) (fun _ => [(7, ptr H.next 0), (6, int k), (3, int n), (1, ptr h.next 0)]) (fun s H' => H1 = H' ∧ QIn n q) ?_ ?_
  · conv => whnf
    repeat (refine SeqP.go ?_; conv => whnf)
    refine loop_inv (α := Nat) (fun j => [(8, int j), (7, ptr H.next 0), (6, int k), (3, int n), (1, ptr h.next 0)]) (fun _ => H1) (fun j => j ≤ 4 ∧ ∀ i, i < j → 0 ≤ gl (ql q) i ∧ gl (ql q) i ≤ n - 1) (fun j => 4 - j) 0 ⟨Nat.zero_le _, fun i hi => by omega⟩ ⟨rfl, rfl, rfl, rfl, rfl, trivial⟩ (Hp.Le.refl _) ?_
    rintro j φ7 ⟨hj, hin⟩
    conv => whnf
    repeat (refine SeqP.go ?_; conv => whnf)
    refine cmpB (fun c2 => ?_) (fun c2 => ?_)
    rotate_left
    · conv => whnf
      repeat (refine SeqP.go ?_; conv => whnf)
      exact ⟨(), ⟨rfl, rfl, rfl, rfl, trivial⟩, ⟨rfl, ql_in.2 fun i hi => hin i (by omega)⟩, rfl⟩
    have hj4 : j < 4 := by omega
    have hld : cellAt H1 H.next (offAt 0 ((j : Int)).toNat 1) = some (int (gl (ql q) j)) := by
      have := row_load hq1 (i := j) (by rw [hql]; exact hj4)
      rw [offAt_eq]
      simpa using this
    have hbad : ¬ (0 ≤ gl (ql q) j ∧ gl (ql q) j ≤ n - 1) → ¬ POk ⟨n, out, start, R⟩ := fun x => bad2 fun y => x (ql_in.1 y.1 j hj4)
    conv => whnf
    repeat (refine SeqP.go ?_; conv => whnf)
    refine ⟨⟨by omega, by omega⟩, ?_⟩
    conv => whnf
    refine ⟨_, hld, ?_⟩
    conv => whnf
    refine cmpB (fun c3 => ?_) (fun c3 => ?_)
    · conv => whnf
      repeat (refine SeqP.go ?_; conv => whnf)
      exact bad _ hgB (hbad fun e => by omega)
    conv => whnf
    refine ⟨⟨by omega, by omega⟩, ?_⟩
    conv => whnf
    refine ⟨_, hld, ?_⟩
    conv => whnf
    refine cmpB (fun c4 => ?_) (fun c4 => ?_)
    · conv => whnf
      repeat (refine SeqP.go ?_; conv => whnf)
      exact bad _ hgB (hbad fun e => by omega)
    · conv => whnf
      repeat (refine SeqP.go ?_; conv => whnf)
      refine ⟨((j + 1 : Nat) : Int), wie (by omega) (by omega), ?_⟩
      conv => whnf
      refine Rnd.mk (j + 1) ⟨by show j + 1 ≤ _; omega, fun i hi => ?_⟩ (by show _ - (j + 1) < _ - j; omega) ⟨rfl, rfl, rfl, rfl, rfl, trivial⟩ (Hp.Le.refl _) rfl
      by_cases e2 : i = j
      · rw [e2]; omega
      · exact hin i (by omega)
  rintro _ φ8 _ ⟨rfl, hqin⟩
  conv => whnf
  refine SeqP.cut (α := Unit) (fun _ => [(7, ptr H.next 0), (6, int k), (3, int n), (1, ptr h.next 0)]) (fun s H' => H1 = H' ∧ q.a ≤ q.b) ?_ ?_
  · conv => whnf
    refine ⟨⟨by omega, by omega⟩, ?_⟩
    conv => whnf
    refine ⟨int q.a, cellAt_row hq1 rfl, ?_⟩
    conv => whnf
    refine ⟨⟨by omega, by omega⟩, ?_⟩
    conv => whnf
    refine ⟨int q.b, cellAt_row hq1 rfl, ?_⟩
    conv => whnf
    refine cmpB (fun c3 => ?_) (fun c3 => ?_)
    · conv => whnf
      repeat (refine SeqP.go ?_; conv => whnf)
      exact bad _ hgB (bad2 fun y => by have := y.2.1; omega)
    · conv => whnf
      repeat (refine SeqP.go ?_; conv => whnf)
      exact ⟨(), ⟨rfl, rfl, rfl, rfl, trivial⟩, ⟨rfl, by omega⟩, rfl⟩
  rintro _ φ9 _ ⟨rfl, hab⟩
  conv => whnf
  repeat (refine SeqP.go ?_; conv => whnf)
  refine cmpB (fun c3 => ?_) (fun c3 => ?_)
  rotate_left
  · conv => whnf
    repeat (refine SeqP.go ?_; conv => whnf)
    refine ⟨H1, ⟨rfl, rfl, rfl, trivial⟩, ⟨rfl, hg1, ?_⟩, rfl⟩
    unfold RuleOk
    rw [eq]
    exact ⟨hqin, hab, fun h0 => by omega⟩
  have hk0 : 0 < k := by omega
  have hkg := hkf (k - 1) (by omega)
  obtain ⟨rr', ear, hkc2⟩ := hkg
  cases ear
  have hkc2 := hgB.cells hkc2
  have hexq : ∃ y, R[k - 1]'(by omega) = y := ⟨_, rfl⟩
  obtain ⟨y, ey⟩ := hexq
  rw [ey] at hkc2
  have bad3 : ¬ QLess y q → ¬ POk ⟨n, out, start, R⟩ := fun x => bad2 fun z => x (by rw [← ey]; exact z.2.2 hk0)
  conv => whnf
  refine SeqP.cut (α := Hp × Nat) (fun s => [(9, ptr s.2 0), (7, ptr H.next 0), (6, int k), (3, int n), (1, ptr h.next 0)]) (fun s H' => s.1 = H' ∧ Grows H1 s.1 ∧ s.1.at s.2 = some (.row 96 true ((ql y).map int))) ?_ ?_
  · conv => whnf
    refine ⟨_, cellAt_row hat1 b3, ?_⟩
    conv => whnf
    refine ⟨((k - 1 : Nat) : Int), wie (by omega) (by omega), ?_⟩
    conv => whnf
    refine ⟨rfl, ⟨by omega, by omega⟩, ?_⟩
    conv => whnf
    refine ⟨[int y.a, int y.b, int y.c, int y.d], by rw [offAt_eq]; simpa using hkc2, ?_⟩
    conv => whnf
    refine ⟨rfl, _, storeAt_all (vs := [int y.a, int y.b, int y.c, int y.d]) rfl rfl rfl, ?_⟩
    conv => whnf
    exact ⟨(_, H1.next), ⟨rfl, rfl, rfl, rfl, rfl, trivial⟩, ⟨rfl, Grows.lay _ _, Hp.at_lay_self _ _⟩, rfl⟩
  rintro ⟨H2, Y⟩ φ10 _ ⟨rfl, hg2, hY⟩
  dsimp only at hg2 hY ⊢
  have hq2 := hg2.at_ _ _ hq1
  have hok : QLess y q → RuleOk n R k hkl := fun x => by
    unfold RuleOk
    rw [eq]
    exact ⟨hqin, hab, fun h0 => by rw [ey]; exact x⟩
  conv => whnf
  repeat (refine SeqP.go ?_; conv => whnf)
  refine ⟨⟨by omega, by omega⟩, ?_⟩
  conv => whnf
  refine ⟨int y.a, cellAt_row hY rfl, ?_⟩
  conv => whnf
  refine ⟨⟨by omega, by omega⟩, ?_⟩
  conv => whnf
  refine ⟨int q.a, cellAt_row hq2 rfl, ?_⟩
  conv => whnf
  refine cmpB (fun c4 => ?_) (fun c4 => ?_)
  · conv => whnf
    repeat (refine SeqP.go ?_; conv => whnf)
    exact bad _ (hgB.trans hg2) (bad3 fun z => by unfold QLess at z; omega)
  conv => whnf
  refine ⟨⟨by omega, by omega⟩, ?_⟩
  conv => whnf
  refine ⟨int y.a, cellAt_row hY rfl, ?_⟩
  conv => whnf
  refine ⟨⟨by omega, by omega⟩, ?_⟩
  conv => whnf
  refine ⟨int q.a, cellAt_row hq2 rfl, ?_⟩
  conv => whnf
  refine cmpB (fun c5 => ?_) (fun c5 => ?_)
  · conv => whnf
    refine ⟨⟨by omega, by omega⟩, ?_⟩
    conv => whnf
    refine ⟨int y.b, cellAt_row hY rfl, ?_⟩
    conv => whnf
    refine ⟨⟨by omega, by omega⟩, ?_⟩
    conv => whnf
    refine ⟨int q.b, cellAt_row hq2 rfl, ?_⟩
    conv => whnf
    refine cmpB (fun c6 => ?_) (fun c6 => ?_)
    · conv => whnf
      repeat (refine SeqP.go ?_; conv => whnf)
      exact bad _ (hgB.trans hg2) (bad3 fun z => by unfold QLess at z; omega)
    · conv => whnf
      repeat (refine SeqP.go ?_; conv => whnf)
      exact ⟨H2, ⟨rfl, rfl, rfl, trivial⟩, ⟨rfl, hg1.trans hg2, hok (by unfold QLess; omega)⟩, rfl⟩
  · conv => whnf
    repeat (refine SeqP.go ?_; conv => whnf)
    exact ⟨H2, ⟨rfl, rfl, rfl, trivial⟩, ⟨rfl, hg1.trans hg2, hok (by unfold QLess; omega)⟩, rfl⟩
end
end Go.Proofs.Ytpiplaicnbapbaa
