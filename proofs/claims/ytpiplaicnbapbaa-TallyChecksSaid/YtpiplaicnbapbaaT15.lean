/- Contracts of the functions that T27 comes to. -/
import Derived.Test.YtpiplaicnbapbaaT14
import Derived.Test.YtpiplaicnbapbaaTAwake
set_option maxRecDepth 100000
set_option maxHeartbeats 2000000
set_option linter.unusedVariables false
set_option linter.unusedSectionVars false
set_option linter.unusedSimpArgs false
namespace Go.Proofs.Ytpiplaicnbapbaa
open Go.Rx Go.RowKit
theorem built_setD {h0 h : Hp} {e e' : TypeId} {v : Value} {l : List Int} {D : Nat} {x : Bool} {cs : List Value} {o : Rx.Obj} (k : Built h0 h e v l) (hD : h.at D = some (.row e' x cs)) (hne : e ≠ e') : Built h0 (h.set D o) e v l := by
  rcases k with h1 | ⟨r, e1, h2, y, h3⟩
  · exact .inl h1
  · refine .inr ⟨r, e1, h2, y, ?_⟩
    have : r ≠ D := fun e2 => by subst e2; rw [h3] at hD; cases hD; exact hne rfl
    rw [Hp.at_set_ne _ this]
    exact h3
theorem LV.pq {H0 H : Hp} {D : Nat} {cs : List Value} {v : Value} {l : List Int} (p : PQ H0 H D cs) (hD : ∃ x c0, H0.at D = some (.row 69 x c0)) (k : LV H0 v l) : LV H v l := by
  obtain ⟨x, c0, hD⟩ := hD
  rcases k with h1 | ⟨r, e1, h2, y, h3⟩
  · exact .inl h1
  · refine .inr ⟨r, e1, h2, y, p.at_ _ _ (Hp.lt_of_at h3) (fun e2 => ?_) h3⟩
    subst e2
    rw [h3] at hD
    cases hD
theorem RV.pq {H0 H : Hp} {D : Nat} {cs : List Value} {v : Value} {R : List Q4} (p : PQ H0 H D cs) (hD : ∃ x c0, H0.at D = some (.row 69 x c0)) (k : RV H0 v R) : RV H v R := by
  obtain ⟨x, c0, hD⟩ := hD
  obtain ⟨hl, k⟩ := k
  refine ⟨hl, ?_⟩
  rcases k with h1 | ⟨r, e1, h2, y, h3⟩
  · exact .inl h1
  · refine .inr ⟨r, e1, h2, y, p.at_ _ _ (Hp.lt_of_at h3) (fun e2 => ?_) h3⟩
    subst e2
    rw [h3] at hD
    cases hD
theorem PV.pq {H0 H : Hp} {D : Nat} {cs : List Value} {v : Value} {q : Prot} (p : PQ H0 H D cs) (hD : ∃ x c0, H0.at D = some (.row 69 x c0)) (k : PV H0 v q) : PV H v q := by
  obtain ⟨a, b, c, e, h1, h2, h3⟩ := k
  exact ⟨a, b, c, e, LV.pq p hD h1, LV.pq p hD h2, RV.pq p hD h3⟩
theorem PQ.set {H0 H : Hp} {D : Nat} {cs : List Value} (p : PQ H0 H D cs) (cs' : List Value) : PQ H0 (H.set D (.row 69 true cs')) D cs' := ⟨by rw [Hp.next_set]; exact p.next, fun r o h1 h2 e => by rw [Hp.at_set_ne _ h2]; exact p.at_ r o h1 h2 e, Hp.at_set_self _ (Hp.lt_of_at p.dat)⟩
theorem bool_neq (x y : Operand) (a : Bool) : aBin E .neq 4 x y (.bool a) (.bool a) = some (.bool false) := by
  cases a <;> kernel_rfl
theorem ask_ok {q : Quest} : QOk q ↔ AskP q q.a.length ∧ 1 ≤ q.a.length ∧ q.a.length ≤ 2 :=
  ⟨fun k => ⟨⟨k.ac, rfl, k.b, k.m⟩, k.l1, k.l2⟩, fun k => ⟨k.2.1, k.2.2, k.1.1, k.1.2.2.1, k.1.2.2.2⟩⟩
theorem mod2 (n : Nat) : ((n : Int)).tmod 2 = ((n % 2 : Nat) : Int) := tmod_nat n 2
theorem PI.box {h : Hp} {v : Value} {p : Prot} (k : PI h v p) : ∃ bx : List Value, v = .agg ⟨bx⟩ ∧ bx.length = 4 := by
  obtain ⟨a, b, c, rfl, _⟩ := k
  exact ⟨_, rfl, rfl⟩
theorem PI.ext {h h' : Hp} {v : Value} {p : Prot} (g : Grows h h') (k : PI h v p) : PI h' v p := by
  obtain ⟨a, b, c, e, h1, h2, h3⟩ := k
  exact ⟨a, b, c, e, h1.ext g, h2.ext g, h3.ext g⟩
attribute [local irreducible] E idxN cellAt cellsAt storeAt callable helems hmoved lookIn findKey keyOk hentries Hp.at Hp.set Hp.lay arBits hupdated setAt CallP YieldP BoolOf IsWrap Rnd LoopP AppP CutP Int.tmod Int.tdiv Int.fdiv
section
variable [Unknowns]
attribute [local irreducible] ResP sameAt
theorem true_law (ts0 : List Tr) (hy0 : TyT Try.prog 25 ts0) (ts1 : List Tr) (hy1 : TyT Try.prog 36 ts1) (t2 : Tr) (hy2 : TyT Try.prog 22 [t2]) : ∀ h vs, AllT h vs [.ag ts0, .ag ts1, t2] → CallP E 7 vs h (fun r _ => r = .bool true) := by
  have hmax : maxLen < 9223372036854775808 := by decide
  intro h vs hvs
  match vs, hvs with
  | [a0, a1, a2], hvs =>
  obtain ⟨k0, k1, k2, -⟩ := hvs
  obtain ⟨P, pn, po, ps, pr, hP⟩ := prot_arg hy0
  obtain ⟨Q, qb, qm, qa, hQ⟩ := quest_arg hy1
  obtain ⟨l, rfl, hl, -⟩ := ty_ints under22 cells3 under3 hy2
  have hP := hP h a0 k0
  have hQ := hQ h a1 k1
  have hL := k2.view
  obtain ⟨bp, rfl, hbp⟩ := hP.box
  obtain ⟨va, rfl, hva⟩ := id hQ
  have hvk := hva.known
  obtain ⟨aq, cq, rfl⟩ := hvk
  have hLk := hL.known
  obtain ⟨al, cl, rfl⟩ := hLk
  have hexq : ∃ bq : List Value, bq = [.slice aq Q.a.length cq, int Q.b, int Q.m] := ⟨_, rfl⟩
  obtain ⟨bq, ebq⟩ := hexq
  have q0 : bq[0]? = some (.slice aq Q.a.length cq) := by rw [ebq]; rfl
  have q1 : bq[1]? = some (int Q.b) := by rw [ebq]; rfl
  have q2 : bq[2]? = some (int Q.m) := by rw [ebq]; rfl
  have hbq : bq.length = 3 := by rw [ebq]; rfl
  have hQv : QI h (.agg ⟨bq⟩) Q := by rw [ebq]; exact hQ
  rw [← ebq]
  clear ebq
  refine enter7 (by simp) ?_
  conv => whnf
  refine SeqP.go ?_
  conv => whnf
  refine SeqP.cut (α := Value × List Value × Hp) (fun s => [(7, s.1), (8, ptr (h.next + 2) 0), (4, ptr (h.next + 1) 0), (3, ptr h.next 0), (2, .slice al l.length cl)]) (fun s H => s.2.2 = H ∧ LV s.2.2 s.1 (l.take 3) ∧ QV s.2.2 (.agg ⟨s.2.1⟩) ⟨Q.a.take 3, Q.b, Q.m⟩ ∧ PQ s.2.2 s.2.2 (h.next + 2) s.2.1 ∧ s.2.2.at h.next = some (.row 25 true bp) ∧ s.2.2.at (h.next + 1) = some (.row 36 true bq) ∧ Grows h s.2.2 ∧ h.next + 3 ≤ s.2.2.next) ?_ ?_
  · have hexb : ∃ H : Hp, H = ((h.lay (.row 25 true bp)).lay (.row 36 true bq)).lay (.row 69 true [.slice none 0 0, int 0, int 0]) := ⟨_, rfl⟩
    obtain ⟨Hb, eHb⟩ := hexb
    have x0 : (((h.lay (.row 25 true bp)).lay (.row 36 true bq)).lay (.row 69 true [.slice none 0 0, int 0, int 0])).at h.next = some (.row 25 true bp) := Hp.at_lay_old _ (Hp.at_lay_old _ (Hp.at_lay_self _ _))
    have x1 : (((h.lay (.row 25 true bp)).lay (.row 36 true bq)).lay (.row 69 true [.slice none 0 0, int 0, int 0])).at (h.next + 1) = some (.row 36 true bq) := Hp.at_lay_old _ (at_nx2 (Hp.next_lay _ _) (Hp.at_lay_self _ _))
    have x1' : (((h.lay (.row 25 true bp)).lay (.row 36 true bq)).lay (.row 69 true [.slice none 0 0, int 0, int 0])).at (h.lay (.row 25 true bp)).next = some (.row 36 true bq) := Hp.at_lay_old _ (Hp.at_lay_self _ _)
    have n2 : ((h.lay (.row 25 true bp)).lay (.row 36 true bq)).next = h.next + 2 := by simp only [Hp.next_lay]
    have x2 : (((h.lay (.row 25 true bp)).lay (.row 36 true bq)).lay (.row 69 true [.slice none 0 0, int 0, int 0])).at (h.next + 2) = some (.row 69 true [.slice none 0 0, int 0, int 0]) := at_nx2 n2 (Hp.at_lay_self _ _)
    have n3 : (((h.lay (.row 25 true bp)).lay (.row 36 true bq)).lay (.row 69 true [.slice none 0 0, int 0, int 0])).next = h.next + 3 := by simp only [Hp.next_lay]
    have gb : Grows h (((h.lay (.row 25 true bp)).lay (.row 36 true bq)).lay (.row 69 true [.slice none 0 0, int 0, int 0])) := ((Grows.lay _ _).then_lay _).then_lay _
    conv => whnf
    refine CallP.mono (few_spec _ l _ (hL.ext gb) (by omega) 3 (by omega)) ?_
    rintro r1 H1 ⟨hb1, g1⟩
    have g1' : Grows (((h.lay (.row 25 true bp)).lay (.row 36 true bq)).lay (.row 69 true [.slice none 0 0, int 0, int 0])) H1 := g1
    conv => whnf
    refine ⟨_, cellAt_row (g1.at_ _ _ x1') q0, ?_⟩
    conv => whnf
    refine CallP.mono (few_spec _ Q.a _ (hva.ext (gb.trans g1')) (by omega) 3 (by omega)) ?_
    rintro r2 H2 ⟨hb2, g2⟩
    have g12 := g1'.trans g2
    conv => whnf
    refine ⟨_, cellAt_row (g12.at_ _ _ x1') q1, ?_⟩
    conv => whnf
    refine ⟨_, cellAt_row (g12.at_ _ _ x1') q2, ?_⟩
    have hb2k := (LV.of hb2).known
    obtain ⟨ar2, rfl⟩ := hb2k
    have hb1k := (LV.of hb1).known
    obtain ⟨ar1, rfl⟩ := hb1k
    have hbn : h.next + 3 ≤ H1.next := by have := g1'.next; omega
    conv => whnf
    refine ⟨rfl, _, storeAt_full (vs := [.slice ar2 (Q.a.take 3).length (Q.a.take 3).length, int Q.b, int Q.m]) (at_nx2 n2.symm (g12.at_ _ _ x2)) rfl rfl rfl, ?_⟩
    have okl : ∀ (H' : Hp) (i : Nat) (v : Value), Grows (((h.lay (.row 25 true bp)).lay (.row 36 true bq)).lay (.row 69 true [.slice none 0 0, int 0, int 0])) H' → bq[i]? = some v → hval H' (cellAt H' (h.lay (.row 25 true bp)).next i) = .val v H' := fun H' i v g e => by
      rw [cellAt_row (g.at_ _ _ x1') e]
      rfl
    conv => whnf
    refine ⟨?_, ?_⟩
    · repeat' (first | exact True.intro | (refine And.intro ?_ ?_ <;> (conv => whnf)))
      all_goals first
        | exact ⟨_, rfl, Hp.at_lay_self _ _, rfl⟩
        | exact ⟨_, rfl, g1.at_ _ _ (Hp.at_lay_self _ _), rfl⟩
        | exact ⟨_, rfl, g12.at_ _ _ (Hp.at_lay_self _ _), rfl⟩
        | exact ⟨_, rfl, Hp.at_lay_self _ _⟩
        | exact ⟨_, rfl, g1.at_ _ _ (Hp.at_lay_self _ _)⟩
        | exact ⟨_, rfl, g12.at_ _ _ (Hp.at_lay_self _ _)⟩
        | exact sameAt_val (h2 := _) rfl (sameV_ptr3 _ _)
        | exact sameAt_val (h2 := _) (okl _ 0 _ (Grows.refl _) q0) (sameV_slice _ _ _)
        | exact sameAt_val (h2 := _) (okl _ 0 _ g1' q0) (sameV_slice _ _ _)
        | exact sameAt_val (h2 := _) (okl _ 0 _ g12 q0) (sameV_slice _ _ _)
        | exact sameAt_val (h2 := _) (okl _ 1 _ (Grows.refl _) q1) (sameV_int _)
        | exact sameAt_val (h2 := _) (okl _ 1 _ g1' q1) (sameV_int _)
        | exact sameAt_val (h2 := _) (okl _ 1 _ g12 q1) (sameV_int _)
        | exact sameAt_val (h2 := _) (okl _ 2 _ (Grows.refl _) q2) (sameV_int _)
        | exact sameAt_val (h2 := _) (okl _ 2 _ g1' q2) (sameV_int _)
        | exact sameAt_val (h2 := _) (okl _ 2 _ g12 q2) (sameV_int _)
        | trace_state
    conv => whnf
    refine ⟨(_, [.slice ar2 (Q.a.take 3).length (Q.a.take 3).length, int Q.b, int Q.m], H2.set (h.next + 2) (.row 69 true [.slice ar2 (Q.a.take 3).length (Q.a.take 3).length, int Q.b, int Q.m])), ⟨rfl, congrArg (fun k => ptr k 0) n2, congrArg (fun k => ptr k 0) (Hp.next_lay _ _), rfl, rfl, trivial⟩, ⟨congrArg (fun k => H2.set k (.row 69 true [.slice ar2 (Q.a.take 3).length (Q.a.take 3).length, int Q.b, int Q.m])) n2.symm, LV.of (built_setD (hb1.ext g2) (g12.at_ _ _ x2) (by decide)), ⟨_, rfl, LV.of (built_setD hb2 (g12.at_ _ _ x2) (by decide))⟩, PQ.start (Hp.at_set_self _ (Hp.lt_of_at (g12.at_ _ _ x2))), ?_, ?_, (gb.trans g12).then_set _ (by omega), ?_⟩, rfl⟩
    · show (H2.set _ _).at h.next = _
      rw [Hp.at_set_ne _ (by omega)]
      exact g12.at_ _ _ x0
    · show (H2.set _ _).at (h.next + 1) = _
      rw [Hp.at_set_ne _ (by omega)]
      exact g12.at_ _ _ x1
    · show h.next + 3 ≤ (H2.set _ _).next
      rw [Hp.next_set]
      have := g12.next
      omega
  rintro ⟨kv, cs, H1⟩ φ1 _ ⟨rfl, hkv, hqv, hpq, hx0, hx1, hg1, hn1⟩
  dsimp only at hkv hqv hpq hx0 hx1 hg1 hn1 ⊢
  have hD : h.next + 2 < H1.next := by omega
  conv => whnf
  refine SeqP.cut (α := Prot × List Value × Hp × Nat) (fun s => [(7, kv), (8, ptr (h.next + 2) 0), (9, ptr s.2.2.2 0), (4, ptr (h.next + 1) 0), (2, .slice al l.length cl)]) (fun s H => s.2.2.1 = H ∧ Grows H1 s.2.2.1 ∧ s.2.2.1.at s.2.2.2 = some (.row 26 true s.2.1) ∧ s.2.1.length = 4 ∧ PV s.2.2.1 (.agg ⟨s.2.1⟩) s.1 ∧ POk s.1) ?_ ?_
  · conv => whnf
    refine ⟨bp, all_cells hx0 hbp, ?_⟩
    conv => whnf
    refine CallP.mono (tame_spec _ P _ (hP.ext hg1) pn (by omega) (by omega) (by omega) 5 (by omega) (by omega)) ?_
    rintro r H2 ⟨⟨x, hx, hok, -⟩, g2⟩
    obtain ⟨v1, v2, v3, rfl, e1, e2, e3⟩ := id hx
    obtain ⟨w1, rfl⟩ := e1.known
    obtain ⟨w2, rfl⟩ := e2.known
    obtain ⟨w3, rfl, -⟩ := e3.slice
    unfold pval at hx ⊢
    conv => whnf
    refine ⟨rfl, _, storeAt_all (vs := [int x.n, .slice w1 x.out.length x.out.length, .slice w2 x.start.length x.start.length, .slice w3 x.rules.length x.rules.length]) rfl rfl rfl, ?_⟩
    conv => whnf
    exact ⟨(x, [int x.n, .slice w1 x.out.length x.out.length, .slice w2 x.start.length x.start.length, .slice w3 x.rules.length x.rules.length], _, H2.next), ⟨rfl, rfl, rfl, rfl, rfl, trivial⟩, ⟨rfl, g2.then_lay _, Hp.at_lay_self _ _, rfl, hx.ext (Grows.lay _ _), hok⟩, rfl⟩
  rintro ⟨x, b9, H2, X⟩ φ2 _ ⟨rfl, hg2, hX, hb9, hPV, hOk⟩
  dsimp only at hg2 hX hb9 hPV hOk ⊢
  have hn2 := hg2.next
  have hXlt := Hp.lt_of_at hX
  have hg02 := hg1.trans hg2
  have hx1' := hg2.at_ _ _ hx1
  have hD2 : ∃ x c0, H2.at (h.next + 2) = some (.row 69 x c0) := ⟨_, _, hg2.at_ _ _ hpq.dat⟩
  have hXD : X ≠ h.next + 2 := fun e => by
    rw [e] at hX
    have := hg2.at_ _ _ hpq.dat
    rw [this] at hX
    cases hX
  have hpq2 : PQ H2 H2 (h.next + 2) cs := PQ.start (hg2.at_ _ _ hpq.dat)
  have hqv2 := hqv.ext hg2
  have hkv2 := hkv.ext hg2
  clear hqv hkv
  conv => whnf
  refine SeqP.cut (α := Hp × List Value) (fun s => [(9, ptr X 0), (2, .slice al l.length cl)]) (fun s H => s.1 = H ∧ PQ H2 s.1 (h.next + 2) s.2) ?_ ?_
  · conv => whnf
    repeat (refine SeqP.go ?_; conv => whnf)
    refine loop_inv (α := Nat × Value × List Int × Quest × List Value × Hp) (fun s => [(10, int s.1), (7, s.2.1), (8, ptr (h.next + 2) 0), (9, ptr X 0), (4, ptr (h.next + 1) 0), (2, .slice al l.length cl)]) (fun s => s.2.2.2.2.2) (fun s => s.1 ≤ 2 ∧ LV s.2.2.2.2.2 s.2.1 s.2.2.1 ∧ s.2.2.1.length ≤ 9 ∧ QV s.2.2.2.2.2 (.agg ⟨s.2.2.2.2.1⟩) s.2.2.2.1 ∧ s.2.2.2.1.a.length ≤ 3 ∧ PQ H2 s.2.2.2.2.2 (h.next + 2) s.2.2.2.2.1) (fun s => 2 - s.1) (0, kv, l.take 3, ⟨Q.a.take 3, Q.b, Q.m⟩, cs, H2) ⟨Nat.zero_le _, hkv2, by show (l.take 3).length ≤ 9; rw [List.length_take]; omega, hqv2, by show (Q.a.take 3).length ≤ 3; rw [List.length_take]; omega, hpq2⟩ ⟨rfl, rfl, rfl, rfl, rfl, rfl, trivial⟩ (Hp.Le.refl _) ?_
    clear hkv2 hqv2
    rintro ⟨i, kv, k, q, cs, H⟩ φ3 ⟨hi, hkv, hkl, hqv, hql, hpm⟩
    dsimp only at hi hkv hkl hqv hql hpm ⊢
    conv => whnf
    repeat (refine SeqP.go ?_; conv => whnf)
    refine cmpB (fun c1 => ?_) (fun c1 => ?_)
    rotate_left
    · conv => whnf
      repeat (refine SeqP.go ?_; conv => whnf)
      exact ⟨(H, cs), ⟨rfl, rfl, trivial⟩, ⟨rfl, hpm⟩, rfl⟩
    have hgH := hpm.grows hg02 (Nat.le_add_right _ _)
    have hxH := hpm.at_ _ _ (by omega) (by omega) hx1'
    obtain ⟨bq', ebq', hbl', ⟨aa, c0, kq⟩, cb, cm, hone⟩ := hqv.box
    cases ebq'
    have hkvk := hkv.known
    obtain ⟨ak, rfl⟩ := hkvk
    conv => whnf
    refine SeqP.cut (α := Value × List Int × Quest × List Value × Hp) (fun s => [(10, int i), (7, s.1), (8, ptr (h.next + 2) 0), (9, ptr X 0), (4, ptr (h.next + 1) 0), (2, .slice al l.length cl)]) (fun s H' => s.2.2.2.2 = H' ∧ LV s.2.2.2.2 s.1 s.2.1 ∧ s.2.1.length ≤ 9 ∧ QV s.2.2.2.2 (.agg ⟨s.2.2.2.1⟩) s.2.2.1 ∧ s.2.2.1.a.length ≤ 3 ∧ PQ H2 s.2.2.2.2 (h.next + 2) s.2.2.2.1) ?_ ?_
    rotate_left
    · rintro ⟨kv', k', q', cs', H'⟩ φ4 _ ⟨rfl, h1, h2, h3, h4, h5⟩
      dsimp only at h1 h2 h3 h4 h5 ⊢
      conv => whnf
      refine ⟨((i + 1 : Nat) : Int), wie (by omega) (by omega), ?_⟩
      conv => whnf
      exact Rnd.mk (i + 1, kv', k', q', cs', H') ⟨by show i + 1 ≤ 2; omega, h1, h2, h3, h4, h5⟩ (by show 2 - (i + 1) < 2 - i; omega) ⟨rfl, rfl, rfl, rfl, rfl, rfl, trivial⟩ (Hp.Le.refl _) rfl
    conv => whnf
    refine SeqP.cut (α := Bool × Int × Hp) (fun s => [(11, .bool s.1), (12, int s.2.1), (10, int i), (7, .slice ak k.length k.length), (8, ptr (h.next + 2) 0), (9, ptr X 0), (4, ptr (h.next + 1) 0), (2, .slice al l.length cl)]) (fun s H' => s.2.2 = H' ∧ TrueR q k (.tuple ⟨[.bool s.1, int s.2.1]⟩) ∧ Grows H s.2.2) ?_ ?_
    · conv => whnf
      refine ⟨_, cellAt_row hpm.dat c0, ?_⟩
      conv => whnf
      refine CallP.mono (few_spec _ q.a _ kq.view (by omega) 3 (by omega)) ?_
      rintro r3 H3 ⟨hb3, g3⟩
      have e3 : q.a.take 3 = q.a := List.take_of_length_le hql
      rw [e3] at hb3
      have hb3k := (LV.of hb3).known
      obtain ⟨ar3, rfl⟩ := hb3k
      have d3 := g3.at_ _ _ hpm.dat
      conv => whnf
      refine ⟨_, cellAt_row d3 cb, ?_⟩
      conv => whnf
      refine ⟨_, cellAt_row d3 cm, ?_⟩
      conv => whnf
      refine CallP.mono (True_spec _ _ q k _ ⟨_, rfl, LV.of hb3⟩ (hkv.ext g3).ints (by omega) (by omega)) ?_
      rintro r4 H4 ⟨hT, g4⟩
      obtain ⟨b, e, rfl, hT1, hT2⟩ := id hT
      have g34 := g3.trans g4
      have okl : ∀ (H' : Hp) (i : Nat) (v : Value), Grows H H' → cs[i]? = some v → hval H' (cellAt H' (h.next + 2) i) = .val v H' := fun H' i v g e => by
        rw [cellAt_row (g.at_ _ _ hpm.dat) e]
        rfl
      conv => whnf
      refine ⟨?_, ?_⟩
      · repeat' (first | exact True.intro | (refine And.intro ?_ ?_ <;> (conv => whnf)))
        all_goals first
          | exact sameAt_val (h2 := _) rfl (sameV_ptr3 _ _)
          | exact sameAt_val (h2 := _) rfl (sameV_slice _ _ _)
          | exact sameAt_val (h2 := _) (okl _ 1 _ (Grows.refl _) cb) (sameV_int _)
          | exact sameAt_val (h2 := _) (okl _ 1 _ g3 cb) (sameV_int _)
          | exact sameAt_val (h2 := _) (okl _ 1 _ g34 cb) (sameV_int _)
          | exact sameAt_val (h2 := _) (okl _ 2 _ (Grows.refl _) cm) (sameV_int _)
          | exact sameAt_val (h2 := _) (okl _ 2 _ g3 cm) (sameV_int _)
          | exact sameAt_val (h2 := _) (okl _ 2 _ g34 cm) (sameV_int _)
          | trace_state
      conv => whnf
      exact ⟨(b, e, H4), ⟨rfl, rfl, rfl, rfl, rfl, rfl, rfl, rfl, trivial⟩, ⟨rfl, hT, g34⟩, rfl⟩
    rintro ⟨b, e, H4⟩ φ5 _ ⟨rfl, hT, g4⟩
    dsimp only at hT g4 ⊢
    have hpm4 : PQ H2 H4 (h.next + 2) cs := ⟨Nat.le_trans hpm.next g4.next, fun r o h1 h2 e => g4.at_ _ _ (hpm.at_ r o h1 h2 e), g4.at_ _ _ hpm.dat⟩
    have hqv4 := hqv.ext g4
    have hkv4 := hkv.ext g4
    obtain ⟨bb, ee, eT, hT1, hT2⟩ := hT
    cases eT
    conv => whnf
    refine SeqP.cut (α := Hp) (fun s => [(10, int i), (8, ptr (h.next + 2) 0), (9, ptr X 0), (4, ptr (h.next + 1) 0), (2, .slice al l.length cl)]) (fun s H' => s = H' ∧ Grows H4 s) ?_ ?_
    · conv => whnf
      refine SeqP.cut (α := Bool × Hp) (fun s => [(69, .bool s.1), (11, .bool b), (12, int e), (10, int i), (7, .slice ak k.length k.length), (8, ptr (h.next + 2) 0), (9, ptr X 0), (4, ptr (h.next + 1) 0), (2, .slice al l.length cl)]) (fun s H' => s.2 = H' ∧ BoolOf s.1 (¬ (QOk q ∧ Cnt k q.a.length)) ∧ Grows H4 s.2) ?_ ?_
      · conv => whnf
        refine ⟨_, all_cells hpm4.dat hbl', ?_⟩
        conv => whnf
        refine ⟨_, cellAt_row hpm4.dat c0, ?_⟩
        conv => whnf
        refine CallP.mono (asked_spec _ q q.a.length _ hqv4 (by omega)) ?_
        rintro r5 H5 ⟨⟨b5, rfl, hb5⟩, g5⟩
        cases b5 with
        | false =>
          have hno := hb5.f
          conv => whnf
          exact ⟨(true, H5), ⟨rfl, rfl, rfl, rfl, rfl, rfl, rfl, rfl, rfl, trivial⟩, ⟨rfl, bo_yes fun k => hno (ask_ok.1 k.1).1, g5⟩, rfl⟩
        | true =>
        have hyes := hb5.t
        have d5 := g5.at_ _ _ hpm4.dat
        conv => whnf
        refine ⟨_, cellAt_row d5 c0, ?_⟩
        conv => whnf
        refine cmpB (fun c2 => ?_) (fun c2 => ?_)
        · conv => whnf
          exact ⟨(true, H5), ⟨rfl, rfl, rfl, rfl, rfl, rfl, rfl, rfl, rfl, trivial⟩, ⟨rfl, bo_yes fun k => by have := k.1.l1; omega, g5⟩, rfl⟩
        conv => whnf
        refine ⟨_, cellAt_row d5 c0, ?_⟩
        conv => whnf
        refine cmpB (fun c3 => ?_) (fun c3 => ?_)
        · conv => whnf
          exact ⟨(true, H5), ⟨rfl, rfl, rfl, rfl, rfl, rfl, rfl, rfl, rfl, trivial⟩, ⟨rfl, bo_yes fun k => by have := k.1.l2; omega, g5⟩, rfl⟩
        conv => whnf
        refine ⟨_, cellAt_row d5 c0, ?_⟩
        conv => whnf
        refine CallP.mono (crowded_spec _ k q.a.length _ (hkv4.ext g5).ints (by omega)) ?_
        rintro r6 H6 ⟨⟨b6, rfl, hb6⟩, rfl⟩
        have hQok : QOk q := ask_ok.2 ⟨hyes, by omega, by omega⟩
        cases b6 with
        | false =>
          have hno := hb6.f
          conv => whnf
          exact ⟨(true, _), ⟨rfl, rfl, rfl, rfl, rfl, rfl, rfl, rfl, rfl, trivial⟩, ⟨rfl, bo_yes fun k => hno k.2, g5⟩, rfl⟩
        | true =>
          have hy := hb6.t
          conv => whnf
          exact ⟨(false, _), ⟨rfl, rfl, rfl, rfl, rfl, rfl, rfl, rfl, rfl, trivial⟩, ⟨rfl, bo_no fun k => k ⟨hQok, hy⟩, g5⟩, rfl⟩
      rintro ⟨b7, H7⟩ φ6 _ ⟨rfl, hb7, g7⟩
      dsimp only at hb7 g7 ⊢
      cases b7 with
      | true =>
        obtain ⟨e1, e2⟩ := hT1 hb7.t
        subst e1 e2
        conv => whnf
        repeat (refine SeqP.go ?_; conv => whnf)
        refine cmpF (by omega) ?_
        conv => whnf
        repeat (refine SeqP.go ?_; conv => whnf)
        exact ⟨H7, ⟨rfl, rfl, rfl, rfl, rfl, trivial⟩, ⟨rfl, g7⟩, rfl⟩
      | false =>
        have hQC : QOk q ∧ Cnt k q.a.length := Classical.byContradiction fun hn => hb7.f hn
        obtain ⟨e1, hbT⟩ := hT2 hQC.1 hQC.2
        subst e1
        have d7 := g7.at_ _ _ hpm4.dat
        conv => whnf
        repeat (refine SeqP.go ?_; conv => whnf)
        refine cmpF (by omega) ?_
        conv => whnf
        refine ⟨_, all_cells d7 hbl', ?_⟩
        conv => whnf
        refine CallP.mono (reftrue_spec _ _ q k _ (hqv4.ext g7) (hkv4.ext g7).ints hQC.1 (by have := hQC.2.1; omega) hQC.2.2.1) ?_
        rintro r8 H8 ⟨⟨b8, rfl, hb8⟩, g8⟩
        have eb := bo_same hb8 hbT
        subst eb
        conv => whnf
        refine resP_val (v := .bool false) (h := H8) ?_ ?_
        · show hval _ (aBin E .neq 4 _ _ (.bool b8) (.bool b8)) = _
          rw [bool_neq]
          rfl
        conv => whnf
        repeat (refine SeqP.go ?_; conv => whnf)
        exact ⟨H8, ⟨rfl, rfl, rfl, rfl, rfl, trivial⟩, ⟨rfl, g7.trans g8⟩, rfl⟩
    rintro H8 φ7 _ ⟨rfl, g8⟩
    have hpm8 : PQ H2 H8 (h.next + 2) cs := ⟨Nat.le_trans hpm4.next g8.next, fun r o h1 h2 e => g8.at_ _ _ (hpm4.at_ r o h1 h2 e), g8.at_ _ _ hpm4.dat⟩
    have hg8 := hpm8.grows hg02 (Nat.le_add_right _ _)
    have hxH8 := hpm8.at_ _ _ (by omega) (by omega) hx1'
    have hm2 := mod2 l.length
    conv => whnf
    refine SeqP.cut (α := Quest × List Value × Hp) (fun s => [(10, int i), (8, ptr (h.next + 2) 0), (9, ptr X 0), (4, ptr (h.next + 1) 0), (2, .slice al l.length cl)]) (fun s H' => s.2.2 = H' ∧ QV s.2.2 (.agg ⟨s.2.1⟩) s.1 ∧ s.1.a.length ≤ 3 ∧ PQ H2 s.2.2 (h.next + 2) s.2.1) ?_ ?_
    · conv => whnf
      refine ⟨_, all_cells hxH8 hbq, ?_⟩
      conv => whnf
      refine ⟨by omega, ?_⟩
      conv => whnf
      refine ⟨((1 + l.length % 2 : Nat) : Int), wie (by omega) (by omega), ?_⟩
      conv => whnf
      refine CallP.mono (question_spec _ Q _ (hQv.ext hg8) qb qm (by omega) (1 + l.length % 2) (by omega) (by omega)) ?_
      rintro r9 H9 ⟨⟨q', hq', hok', hlen'⟩, g9⟩
      have d9 := g9.at_ _ _ hpm8.dat
      obtain ⟨va', rfl, kva'⟩ := hq'
      have kk := kva'.known
      obtain ⟨ar', rfl⟩ := kk
      have hpm9 : PQ H2 H9 (h.next + 2) cs := ⟨Nat.le_trans hpm8.next g9.next, fun r o h1 h2 e => g9.at_ _ _ (hpm8.at_ r o h1 h2 e), d9⟩
      conv => whnf
      refine ⟨rfl, _, storeAt_full (vs := [.slice ar' q'.a.length q'.a.length, int q'.b, int q'.m]) d9 (by rw [hbl']; rfl) rfl (by
        match cs, hbl' with
        | [_, _, _], _ => rfl), ?_⟩
      conv => whnf
      exact ⟨(q', [.slice ar' q'.a.length q'.a.length, int q'.b, int q'.m], _), ⟨rfl, rfl, rfl, rfl, rfl, trivial⟩, ⟨rfl, ⟨_, rfl, LV.of (built_setD kva' d9 (by decide))⟩, by show q'.a.length ≤ 3; omega, hpm9.set _⟩, rfl⟩
    rintro ⟨q', cs', H9⟩ φ8 _ ⟨rfl, hq', hql', hpm9⟩
    dsimp only at hq' hql' hpm9 ⊢
    have hg9 := hpm9.grows hg02 (Nat.le_add_right _ _)
    conv => whnf
    refine ⟨by omega, ?_⟩
    conv => whnf
    refine ⟨((1 + l.length % 2 : Nat) : Int), wie (by omega) (by omega), ?_⟩
    conv => whnf
    refine CallP.mono (gathered_spec _ l _ (hL.ext hg9).ints (by omega) (1 + l.length % 2) 9 (by omega) (by omega) (by omega) (by omega)) ?_
    rintro r10 H10 ⟨c, hc1, hc2, hc3, hc4, hc5, g10⟩
    conv => whnf
    exact ⟨(r10, c, q', cs', H10), ⟨rfl, rfl, rfl, rfl, rfl, rfl, trivial⟩, ⟨rfl, LV.of hc1, by show c.length ≤ 9; omega, hq'.ext g10, hql', ⟨Nat.le_trans hpm9.next g10.next, fun r o h1 h2 e => g10.at_ _ _ (hpm9.at_ r o h1 h2 e), g10.at_ _ _ hpm9.dat⟩⟩, rfl⟩
  rintro ⟨H3, cs3⟩ φ9 _ ⟨rfl, hpm3⟩
  dsimp only at hpm3 ⊢
  have hg3 := hpm3.grows hg02 (Nat.le_add_right _ _)
  have hX3 := hpm3.at_ _ _ hXlt hXD hX
  have hPV3 := PV.pq hpm3 hD2 hPV
  obtain ⟨b9', eb9, -, y0, ⟨z1, y1, j1⟩, ⟨z2, y2, j2⟩, ⟨z3, y3, j3⟩, -⟩ := hPV3.box
  cases eb9
  have hol := hOk.outl
  have hn5 := hOk.n5
  have hn1' := hOk.n1
  have hst1 := hOk.st1
  have hst2 := hOk.st2
  have hrl := hOk.rl
  conv => whnf
  refine SeqP.cut (α := Value × List Int × Hp) (fun s => [(7, s.1), (9, ptr X 0)]) (fun s H => s.2.2 = H ∧ LV s.2.2 s.1 s.2.1 ∧ Cnt s.2.1 x.start.length ∧ Grows H3 s.2.2) ?_ ?_
  · conv => whnf
    refine ⟨_, cellAt_row hX3 y2, ?_⟩
    conv => whnf
    refine CallP.mono (gathered_spec _ l _ (hL.ext hg3).ints (by omega) x.start.length 9 (by omega) (by omega) (by omega) (by omega)) ?_
    rintro r4 H4 ⟨c, hc1, hc2, hc3, hc4, hc5, g4⟩
    conv => whnf
    refine ⟨(r4, c, H4), ⟨rfl, rfl, trivial⟩, ⟨rfl, LV.of hc1, ⟨by show (c.length : Int) = (x.start.length : Int); omega, fun y hy => ⟨hc3 y hy, ?_⟩, hc4, by show c.sum ≤ 9; omega⟩, g4⟩, rfl⟩
    have := sum_le_of hc3 y hy
    omega
  rintro ⟨kv, k, H4⟩ φ10 _ ⟨rfl, hkv, hC, g4⟩
  dsimp only at hkv hC g4 ⊢
  have hX4 := g4.at_ _ _ hX3
  have hPV4 := hPV3.ext g4
  have hkl : k.length = x.start.length := by have := hC.1; omega
  conv => whnf
  refine SeqP.cut (α := Value × Hp) (fun s => [(13, s.1), (14, int 0), (7, kv), (9, ptr X 0)]) (fun s H => s.2 = H ∧ LV s.2 s.1 (crs x.n.toNat x.start k k.length) ∧ Grows H4 s.2) ?_ ?_
  · conv => whnf
    refine ⟨b9, all_cells hX4 hb9, ?_⟩
    conv => whnf
    refine CallP.mono (given_spec _ x _ hPV4 (by omega) (by omega) (by omega)) ?_
    rintro r5 H5 ⟨hr5, g5⟩
    conv => whnf
    refine CallP.mono (Crowd_spec _ _ x k _ hr5 (hkv.ext g5).ints (by unfold InR; omega) (by omega) (by omega) (by omega) (by omega)) ?_
    rintro r6 H6 ⟨⟨w, e, rfl, -, -, hc⟩, g6⟩
    obtain ⟨rfl, hw⟩ := hc hOk hC
    conv => whnf
    exact ⟨(w, H6), ⟨rfl, rfl, rfl, rfl, trivial⟩, ⟨rfl, LV.of hw, g5.trans g6⟩, rfl⟩
  rintro ⟨w, H6⟩ φ11 _ ⟨rfl, hw, g6⟩
  dsimp only at hw g6 ⊢
  conv => whnf
  repeat (refine SeqP.go ?_; conv => whnf)
  refine cmpT rfl ?_
  conv => whnf
  refine ⟨b9, all_cells (g6.at_ _ _ hX4) hb9, ?_⟩
  conv => whnf
  refine CallP.mono (refcrowd_spec _ _ x k _ (hPV4.ext g6) (hkv.ext g6).ints hOk hkl hC.2.1) ?_
  rintro r7 H7 ⟨hr7, g7⟩
  conv => whnf
  refine CallP.mono (ints_same _ _ _ _ (hw.ext g7).ints hr7.ints (by rw [crs_len]; omega)) ?_
  rintro r8 H8 ⟨rfl, rfl⟩
  conv => whnf
  refine memo27 ?_
  conv => whnf
  rfl
end
end Go.Proofs.Ytpiplaicnbapbaa
