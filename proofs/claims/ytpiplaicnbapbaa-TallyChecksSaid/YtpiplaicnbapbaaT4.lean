/- Contracts of the functions that T27 comes to. -/
import Derived.Test.YtpiplaicnbapbaaT3
set_option maxRecDepth 100000
set_option maxHeartbeats 1000000
set_option linter.unusedVariables false
set_option linter.unusedSectionVars false
set_option linter.unusedSimpArgs false
namespace Go.Proofs.Ytpiplaicnbapbaa
open Go.Rx Go.RowKit
theorem resP_cutLim {E : Env} {h : Hp} {n k r o : Nat} {K : Value → Hp → Prop} (hn : 0 < n) (hk : k ≤ n) (q : K (.slice (some ⟨r, o, some 1⟩) k n) h) : ResP E (hcutA h n 1 (ptr r o) none (some (int k)) none) K := by
  have e : hcutA h n 1 (ptr r o) none (some (int k)) none = .val (.slice (some ⟨r, o, some 1⟩) k n) h := by
    unfold hcutA
    dsimp only [ptr]
    rw [bounds_of (i := 0) (j := k) ⟨.inl ⟨rfl, rfl⟩, .inr rfl⟩ (by omega) hk (Nat.le_refl _)]
    unfold cutLim
    dsimp only
    have e1 : cutTo 1 o 0 n = o := by
      unfold cutTo
      cases n with
      | zero => omega
      | succ n => rfl
    rw [e1]
    rfl
  rw [e]
  exact q
theorem ints_lim {h : Hp} {r o c : Nat} {l : List Int} (k : ∀ j, (hj : j < l.length) → cellAt h r (j + o) = some (int l[j])) : Ints h (.slice (some ⟨r, o, some 1⟩) l.length c) l := ⟨_, c, rfl, fun j hj => ⟨r, o, some 1, rfl, rfl, k j hj⟩⟩
theorem cells_cell {h : Hp} {r o m : Nat} {vs : List Value} (e : cellsAt h r o m = some vs) (j : Nat) (hj : j < m) : cellAt h r (o + j) = vs[j]? := by
  unfold cellsAt at e
  unfold cellAt
  have key : ∀ cs : List Value, Go.Rx.cellsIn o m cs = some vs → cs[o + j]? = vs[j]? := by
    intro cs e
    unfold Go.Rx.cellsIn at e
    split at e
    · cases e
      rw [List.getElem?_take, if_pos hj, List.getElem?_drop]
    · cases e
  split at e
  · exact key _ e
  · exact key _ e
  · cases e
/-- One rule before another one. -/
def QLess (x y : Q4) : Prop := x.a < y.a ∨ x.a = y.a ∧ x.b < y.b
def QIn (n : Int) (x : Q4) : Prop := (0 ≤ x.a ∧ x.a ≤ n - 1) ∧ (0 ≤ x.b ∧ x.b ≤ n - 1) ∧ (0 ≤ x.c ∧ x.c ≤ n - 1) ∧ (0 ≤ x.d ∧ x.d ≤ n - 1)
def RuleOk (n : Int) (R : List Q4) (k : Nat) (hk : k < R.length) : Prop := QIn n R[k] ∧ R[k].a ≤ R[k].b ∧ ∀ h0 : 0 < k, QLess (R[k - 1]'(by omega)) R[k]
def ROk (n : Int) (R : List Q4) (m : Nat) : Prop := ∀ k, (hk : k < R.length) → k < m → RuleOk n R k hk
structure POk (p : Prot) : Prop where
  n1 : 1 ≤ p.n
  n5 : p.n ≤ 5
  outl : (p.out.length : Int) = p.n
  outs : ∀ x ∈ p.out, 0 ≤ x ∧ x ≤ 1
  st1 : 1 ≤ p.start.length
  st2 : p.start.length ≤ 2
  sts : ∀ x ∈ p.start, 0 ≤ x ∧ x ≤ p.n - 1
  rl : p.rules.length ≤ 15
  rs : ROk p.n p.rules p.rules.length
def PChk (p : Prot) (e : Int) : Prop := (POk p → e = 0) ∧ (¬ POk p → e = 60)
theorem PChk.bad {p : Prot} (h : ¬ POk p) : PChk p 60 := ⟨fun k => absurd k h, fun _ => rfl⟩
theorem four_in (n : Int) (q : Q4) : (∀ x ∈ [q.a, q.b, q.c, q.d], 0 ≤ x ∧ x ≤ n) ↔ (0 ≤ q.a ∧ q.a ≤ n) ∧ (0 ≤ q.b ∧ q.b ≤ n) ∧ (0 ≤ q.c ∧ q.c ≤ n) ∧ (0 ≤ q.d ∧ q.d ≤ n) := by simp
theorem row_cell4 {H : Hp} {r : Nat} {e : TypeId} {x : Bool} {a b c d : Int} (hr : H.at r = some (.row e x [int a, int b, int c, int d])) (j : Nat) (hj : j < 4) : cellAt H r (j + 0) = some (int ([a, b, c, d][j]'(by simpa using hj))) := by
  refine cellAt_row hr ?_
  match j, hj with
  | 0, _ => rfl
  | 1, _ => rfl
  | 2, _ => rfl
  | 3, _ => rfl
attribute [local irreducible] E idxN cellAt cellsAt storeAt callable helems hmoved lookIn findKey keyOk hentries Hp.at Hp.set Hp.lay arBits hupdated setAt CallP YieldP BoolOf IsWrap Rnd LoopP AppP CutP Int.tmod Int.tdiv Int.fdiv
section
variable [Unknowns]
attribute [local irreducible] ResP sameAt
theorem check_spec (v : Value) (p : Prot) (h : Hp) (hv : PV h v p) (hn : InR p.n) (ho : p.out.length ≤ 1000000) (hs : p.start.length ≤ 1000000) (hr : p.rules.length ≤ 1000000) : CallP E 21 [v] h (fun r h' => (∃ e, r = int e ∧ PChk p e) ∧ Grows h h') := by
  obtain ⟨n, out, start, R⟩ := p
  obtain ⟨vo, vs, vr, rfl, k1, k2, k3⟩ := hv
  dsimp only at hn ho hs hr k1 k2 k3 ⊢
  unfold InR at hn
  obtain ⟨ao, rfl⟩ := k1.known
  obtain ⟨az, rfl⟩ := k2.known
  obtain ⟨ar, rfl, hcr⟩ := k3.cells
  unfold pval
  have hexv : ∃ vs : List Value, vs = [int n, .slice ao out.length out.length, .slice az start.length start.length, .slice ar R.length R.length] := ⟨_, rfl⟩
  obtain ⟨bx, ebx⟩ := hexv
  have b0 : bx[0]? = some (int n) := by rw [ebx]; rfl
  have b1 : bx[1]? = some (.slice ao out.length out.length) := by rw [ebx]; rfl
  have b2 : bx[2]? = some (.slice az start.length start.length) := by rw [ebx]; rfl
  have b3 : bx[3]? = some (.slice ar R.length R.length) := by rw [ebx]; rfl
  rw [← ebx]
  have hat : (h.lay (.row 25 true bx)).at h.next = some (.row 25 true bx) := Hp.at_lay_self _ _
  have g0 : Grows h (h.lay (.row 25 true bx)) := Grows.lay _ _
  refine enter21 (by simp) ?_
  clear ebx
  conv => whnf
  refine SeqP.go ?_
  conv => whnf
  refine SeqP.cut (α := Unit) (fun _ => [(1, ptr h.next 0)]) (fun _ H => H = h.lay (.row 25 true bx) ∧ 1 ≤ n ∧ n ≤ 5 ∧ (out.length : Int) = n ∧ ∀ x ∈ out, 0 ≤ x ∧ x ≤ 1) ?_ ?_
  · conv => whnf
    repeat (refine SeqP.go ?_; conv => whnf)
    refine ⟨_, cellAt_row hat b0, ?_⟩
    conv => whnf
    refine cmpB (fun c1 => ?_) (fun c1 => ?_)
    · conv => whnf
      repeat (refine SeqP.go ?_; conv => whnf)
      exact ⟨⟨60, rfl, PChk.bad fun k => by have : 1 ≤ n := k.n1; omega⟩, g0⟩
    conv => whnf
    refine ⟨_, cellAt_row hat b0, ?_⟩
    conv => whnf
    refine cmpB (fun c2 => ?_) (fun c2 => ?_)
    · conv => whnf
      repeat (refine SeqP.go ?_; conv => whnf)
      exact ⟨⟨60, rfl, PChk.bad fun k => by have : n ≤ 5 := k.n5; omega⟩, g0⟩
    conv => whnf
    refine ⟨_, cellAt_row hat b1, ?_⟩
    conv => whnf
    refine ⟨_, cellAt_row hat b0, ?_⟩
    conv => whnf
    refine cmpB (fun c3 => ?_) (fun c3 => ?_)
    · conv => whnf
      repeat (refine SeqP.go ?_; conv => whnf)
      exact ⟨⟨60, rfl, PChk.bad fun k => c3 k.outl⟩, g0⟩
    conv => whnf
    refine ⟨_, cellAt_row hat b1, ?_⟩
    conv => whnf
    refine CallP.mono (within_spec 0 1 _ out _ (k1.ints.ext g0) ho) ?_
    rintro r h2 ⟨rfl, rfl⟩
    by_cases hin : ∀ x ∈ out, 0 ≤ x ∧ x ≤ 1
    · rw [decide_eq_true hin]
      conv => whnf
      repeat (refine SeqP.go ?_; conv => whnf)
      exact ⟨(), ⟨rfl, trivial⟩, ⟨rfl, by omega, by omega, by omega, hin⟩, rfl⟩
    · rw [decide_eq_false hin]
      conv => whnf
      repeat (refine SeqP.go ?_; conv => whnf)
      exact ⟨⟨60, rfl, PChk.bad fun k => hin k.outs⟩, g0⟩
  rintro _ φ1 _ ⟨rfl, hn1, hn5, hol, hos⟩
  conv => whnf
  refine SeqP.cut (α := Unit) (fun _ => [(1, ptr h.next 0)]) (fun _ H => H = h.lay (.row 25 true bx) ∧ 1 ≤ start.length ∧ start.length ≤ 2 ∧ (∀ x ∈ start, 0 ≤ x ∧ x ≤ n - 1) ∧ R.length ≤ 15) ?_ ?_
  · conv => whnf
    repeat (refine SeqP.go ?_; conv => whnf)
    refine ⟨_, cellAt_row hat b2, ?_⟩
    conv => whnf
    refine cmpB (fun c1 => ?_) (fun c1 => ?_)
    · conv => whnf
      repeat (refine SeqP.go ?_; conv => whnf)
      exact ⟨⟨60, rfl, PChk.bad fun k => by have : 1 ≤ start.length := k.st1; omega⟩, g0⟩
    conv => whnf
    refine ⟨_, cellAt_row hat b2, ?_⟩
    conv => whnf
    refine cmpB (fun c2 => ?_) (fun c2 => ?_)
    · conv => whnf
      repeat (refine SeqP.go ?_; conv => whnf)
      exact ⟨⟨60, rfl, PChk.bad fun k => by have : start.length ≤ 2 := k.st2; omega⟩, g0⟩
    conv => whnf
    refine ⟨_, cellAt_row hat b0, ?_⟩
    conv => whnf
    refine ⟨n - 1, wie rfl (by omega), ?_⟩
    conv => whnf
    refine ⟨_, cellAt_row hat b2, ?_⟩
    conv => whnf
    refine CallP.mono (within_spec 0 (n - 1) _ start _ (k2.ints.ext g0) hs) ?_
    rintro r h2 ⟨rfl, rfl⟩
    by_cases hin : ∀ x ∈ start, 0 ≤ x ∧ x ≤ n - 1
    rotate_left
    · rw [decide_eq_false hin]
      conv => whnf
      repeat (refine SeqP.go ?_; conv => whnf)
      exact ⟨⟨60, rfl, PChk.bad fun k => hin k.sts⟩, g0⟩
    rw [decide_eq_true hin]
    conv => whnf
    refine ⟨_, cellAt_row hat b3, ?_⟩
    conv => whnf
    refine cmpB (fun c3 => ?_) (fun c3 => ?_)
    · conv => whnf
      repeat (refine SeqP.go ?_; conv => whnf)
      exact ⟨⟨60, rfl, PChk.bad fun k => by have : R.length ≤ 15 := k.rl; omega⟩, g0⟩
    · conv => whnf
      repeat (refine SeqP.go ?_; conv => whnf)
      exact ⟨(), ⟨rfl, trivial⟩, ⟨rfl, by omega, by omega, hin, by omega⟩, rfl⟩
  rintro _ φ2 _ ⟨rfl, hs1, hs2, hss, hrl⟩
  conv => whnf
  refine SeqP.cut (α := Unit) (fun _ => []) (fun _ H => Grows h H ∧ ROk n R R.length) ?_ ?_
  rotate_left
  · rintro _ φ9 H9 ⟨g9, hro⟩
    conv => whnf
    repeat (refine SeqP.go ?_; conv => whnf)
    exact ⟨⟨0, rfl, ⟨fun _ => rfl, fun k => absurd ⟨hn1, hn5, hol, hos, hs1, hs2, hss, hrl, hro⟩ k⟩⟩, g9⟩
  conv => whnf
  repeat (refine SeqP.go ?_; conv => whnf)
  refine ⟨_, cellAt_row hat b3, ?_⟩
  conv => whnf
  refine loop_inv (α := Nat × Hp) (fun s => [(55, int s.1), (54, int R.length), (53, .slice ar R.length R.length), (1, ptr h.next 0)]) (fun s => s.2) (fun s => s.1 ≤ R.length ∧ Grows (h.lay (.row 25 true bx)) s.2 ∧ ROk n R s.1) (fun s => R.length - s.1) (0, _) ⟨Nat.zero_le _, .refl _, fun k _ h0 => by omega⟩ ⟨rfl, rfl, rfl, rfl, trivial⟩ (Hp.Le.refl _) ?_
  rintro ⟨k, H⟩ φ3 ⟨hk, hg, hro⟩
  dsimp only at hk hg hro ⊢
  conv => whnf
  repeat (refine SeqP.go ?_; conv => whnf)
  refine cmpB (fun hb1 => ?_) (fun hb1 => ?_)
  rotate_left
  · have : k = R.length := by omega
    subst this
    conv => whnf
    repeat (refine SeqP.go ?_; conv => whnf)
    exact ⟨(), trivial, ⟨g0.trans hg, hro⟩, rfl⟩
  have hkl : k < R.length := by omega
  have hck := hcr k hkl
  obtain ⟨rr, ear, hck⟩ := hck
  subst ear
  have hckH : cellsAt H rr (k * 4) 4 = some [int R[k].a, int R[k].b, int R[k].c, int R[k].d] := (g0.trans hg).cells hck
  have hatH := hg.at_ _ _ hat
  have hexq : ∃ q, R[k] = q := ⟨_, rfl⟩
  obtain ⟨q, eq⟩ := hexq
  rw [eq] at hckH
  have bad : ¬ RuleOk n R k hkl → ¬ POk ⟨n, out, start, R⟩ := fun hno hp => hno (hp.rs k hkl hkl)
  unfold RuleOk at bad
  rw [eq] at bad
  conv => whnf
  refine SeqP.go ?_
  conv => whnf
  refine SeqP.cut (α := Hp) (fun _ => [(55, int k), (54, int R.length), (53, .slice (some ⟨rr, 0, none⟩) R.length R.length), (1, ptr h.next 0)]) (fun s H' => s = H' ∧ Grows H s ∧ RuleOk n R k hkl) ?_ ?_
  rotate_left
  · rintro H1 φ6 _ ⟨rfl, hg1, hok⟩
    conv => whnf
    refine ⟨((k + 1 : Nat) : Int), wie (by omega) (by omega), ?_⟩
    conv => whnf
    refine Rnd.mk (k + 1, H1) ⟨by show k + 1 ≤ R.length; omega, hg.trans hg1, fun j hj hj2 => ?_⟩ (by show R.length - (k + 1) < R.length - k; omega) ⟨rfl, rfl, rfl, rfl, trivial⟩ (Hp.Le.refl _) rfl
    by_cases e : j = k
    · subst e; exact hok
    · exact hro j hj (by omega)
  conv => whnf
  refine SeqP.cut (α := Hp) (fun s => [(4, ptr H.next 0), (3, int k), (55, int k), (54, int R.length), (53, .slice (some ⟨rr, 0, none⟩) R.length R.length), (1, ptr h.next 0)]) (fun s H' => s = H' ∧ s = H.lay (.row 96 true [int q.a, int q.b, int q.c, int q.d])) ?_ ?_
  · conv => whnf
    refine ⟨rfl, ⟨by omega, by omega⟩, ?_⟩
    conv => whnf
    refine ⟨[int q.a, int q.b, int q.c, int q.d], by rw [offAt_eq]; simpa using hckH, ?_⟩
    conv => whnf
    refine ⟨rfl, _, storeAt_all (vs := [int q.a, int q.b, int q.c, int q.d]) rfl rfl rfl, ?_⟩
    conv => whnf
    exact ⟨_, ⟨rfl, rfl, rfl, rfl, rfl, rfl, trivial⟩, ⟨rfl, rfl⟩, rfl⟩
  rintro H1 φ4 _ ⟨rfl, eH1⟩
  have hq1 : H1.at H.next = some (.row 96 true [int q.a, int q.b, int q.c, int q.d]) := by rw [eH1]; exact Hp.at_lay_self _ _
  have hg1 : Grows H H1 := by rw [eH1]; exact Grows.lay _ _
  clear eH1
  have hat1 := hg1.at_ _ _ hatH
  have hcell := row_cell4 hq1
  have hgA := (g0.trans hg).trans hg1
  conv => whnf
  refine SeqP.cut (α := Unit) (fun _ => [(4, ptr H.next 0), (3, int k), (55, int k), (54, int R.length), (53, .slice (some ⟨rr, 0, none⟩) R.length R.length), (1, ptr h.next 0)]) (fun s H' => H1 = H' ∧ QIn n q ∧ q.a ≤ q.b) ?_ ?_
  · conv => whnf
    repeat (refine SeqP.go ?_; conv => whnf)
    refine ⟨_, cellAt_row hat1 b0, ?_⟩
    conv => whnf
    refine ⟨n - 1, wie rfl (by omega), ?_⟩
    conv => whnf
    refine resP_cutA ?_ (by omega)
    conv => whnf
    refine CallP.mono (within_spec 0 (n - 1) _ [q.a, q.b, q.c, q.d] _ (ints_lim (l := [q.a, q.b, q.c, q.d]) (c := 4) hcell) (by simp)) ?_
    rintro r h2 ⟨rfl, rfl⟩
    by_cases hin : ∀ x ∈ [q.a, q.b, q.c, q.d], 0 ≤ x ∧ x ≤ n - 1
    rotate_left
    · rw [decide_eq_false hin]
      conv => whnf
      repeat (refine SeqP.go ?_; conv => whnf)
      exact ⟨⟨60, rfl, PChk.bad (bad fun hk => hin ((four_in _ q).2 hk.1))⟩, hgA⟩
    rw [decide_eq_true hin]
    have hin := (four_in _ q).1 hin
    conv => whnf
    refine ⟨⟨by omega, by omega⟩, ?_⟩
    conv => whnf
    refine ⟨_, cellAt_row hq1 rfl, ?_⟩
    conv => whnf
    refine ⟨⟨by omega, by omega⟩, ?_⟩
    conv => whnf
    refine ⟨_, cellAt_row hq1 rfl, ?_⟩
    conv => whnf
    refine cmpB (fun c1 => ?_) (fun c1 => ?_)
    · conv => whnf
      repeat (refine SeqP.go ?_; conv => whnf)
      exact ⟨⟨60, rfl, PChk.bad (bad fun hk => by have := hk.2.1; omega)⟩, hgA⟩
    · conv => whnf
      repeat (refine SeqP.go ?_; conv => whnf)
      exact ⟨(), ⟨rfl, rfl, rfl, rfl, rfl, rfl, trivial⟩, ⟨rfl, hin, by omega⟩, rfl⟩
  rintro _ φ5 _ ⟨rfl, hin, hab⟩
  conv => whnf
  repeat (refine SeqP.go ?_; conv => whnf)
  refine cmpB (fun c1 => ?_) (fun c1 => ?_)
  rotate_left
  · have hk0 : k = 0 := by omega
    conv => whnf
    repeat (refine SeqP.go ?_; conv => whnf)
    exact ⟨H1, ⟨rfl, rfl, rfl, rfl, trivial⟩, ⟨rfl, hg1, by unfold RuleOk; rw [eq]; exact ⟨hin, hab, fun h0 => by omega⟩⟩, rfl⟩
  have hk0 : 0 < k := by omega
  have hkp : k - 1 < R.length := by omega
  have hcp := hcr (k - 1) hkp
  obtain ⟨rr2, ear2, hcp⟩ := hcp
  cases ear2
  have hcp1 := hgA.cells hcp
  have hexy : ∃ y, R[k - 1] = y := ⟨_, rfl⟩
  obtain ⟨y, ey⟩ := hexy
  rw [ey] at hcp1
  have hya : ∀ j, (hj : j < [y.a, y.b].length) → cellAt H1 rr (j + (k - 1) * 4) = some (int [y.a, y.b][j]) := fun j hj => by
    have := cells_cell hcp1 j (by simp at hj; omega)
    rw [Nat.add_comm, this]
    match j, hj with
    | 0, _ => rfl
    | 1, _ => rfl
  have hqa : ∀ j, (hj : j < [q.a, q.b].length) → cellAt H1 H.next (j + 0) = some (int [q.a, q.b][j]) := fun j hj => by
    rw [hcell j (by simp at hj; omega)]
    match j, hj with
    | 0, _ => rfl
    | 1, _ => rfl
  conv => whnf
  refine ⟨_, cellAt_row hat1 b3, ?_⟩
  conv => whnf
  refine ⟨((k - 1 : Nat) : Int), wie (by omega) (by omega), ?_⟩
  conv => whnf
  refine ⟨rfl, ⟨by omega, by omega⟩, ?_⟩
  conv => whnf
  refine resP_cutLim (n := 4) (k := 2) (by decide) (by decide) ?_
  conv => whnf
  refine resP_cutLim (n := 4) (k := 2) (by decide) (by decide) ?_
  conv => whnf
  have eoff : offAt 0 (((k - 1 : Nat) : Int)).toNat 4 = (k - 1) * 4 := by rw [offAt_eq]; omega
  rw [eoff]
  refine CallP.mono (compare_spec _ _ (y.a, y.b) (q.a, q.b) H1 (ints_lim (l := [y.a, y.b]) (c := 4) hya) (ints_lim (l := [q.a, q.b]) (c := 4) hqa)) ?_
  rintro r h2 ⟨⟨c, rfl, hc1, hc2⟩, rfl⟩
  conv => whnf
  refine cmpB (fun c2 => ?_) (fun c2 => ?_)
  · conv => whnf
    repeat (refine SeqP.go ?_; conv => whnf)
    refine ⟨⟨60, rfl, PChk.bad (bad fun hk => ?_)⟩, hgA⟩
    have := hk.2.2 hk0
    rw [ey] at this
    have := hc1.2 this
    omega
  · conv => whnf
    repeat (refine SeqP.go ?_; conv => whnf)
    refine ⟨_, ⟨rfl, rfl, rfl, rfl, trivial⟩, ⟨rfl, hg1, ?_⟩, rfl⟩
    unfold RuleOk
    rw [eq]
    exact ⟨hin, hab, fun _ => by rw [ey]; exact hc1.1 (by omega)⟩
end
end Go.Proofs.Ytpiplaicnbapbaa
