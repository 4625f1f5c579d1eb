/- Contracts of the functions that SMarksZ comes to. -/
import Derived.Test.YticmdpcahpimhaaSMkM
import Derived.Test.YticmdpcahpimhaaSGen2
import Derived.Test.YticmdpcahpimhaaSFew
import Derived.Test.YticmdpcahpimhaaSAwake
import Derived.Test.YticmdpcahpimhaaWx11
set_option maxRecDepth 100000
set_option maxHeartbeats 1000000
set_option linter.unusedVariables false
set_option linter.unusedSectionVars false
set_option linter.unusedSimpArgs false
namespace Go.Proofs.Yticmdpcahpimhaa
open Go.Rx Go.RowKit Go.Comp
theorem bool_neq2 (x y : Operand) (a : Bool) : aBin E .neq 4 x y (.bool a) (.bool a) = some (.bool false) := by
  cases a <;> kernel_rfl
theorem bo_same {a b : Bool} {p : Prop} (h : BoolOf a p) (k : BoolOf b p) : a = b := by
  have e := h.trans k.symm
  cases a <;> cases b <;> simp_all
/-- A list in memory of which one number may be raised. -/
theorem ints_set {H : Hp} {r n : Nat} {e : TypeId} {x : Bool} {l : List Int} (hr : H.at r = some (.row e x (l.map int))) (hn : l.length = n) (v : Nat) (y : Int) : Ints (H.set r (.row e x ((l.set v y).map int))) (slc r 0 n n) (l.set v y) := by
  have := ints_of_row (c := n) (Hp.at_set_self (.row e x ((l.set v y).map int)) (Hp.lt_of_at hr)) (l := l.set v y) fun k hk => by
    rw [List.getElem?_map, List.getElem?_eq_getElem hk]; rfl
  rw [List.length_set, hn] at this
  exact this
attribute [local irreducible] E idxN cellAt cellsAt storeAt callable helems hmoved lookIn findKey keyOk hentries Hp.at Hp.set Hp.lay arBits hupdated setAt CallP YieldP BoolOf IsWrap Rnd LoopP AppP CutP Int.tmod Int.tdiv Int.fdiv
section
variable [Unknowns]
attribute [local irreducible] ResP sameAt natI tv Z bestM
theorem marks_law (n0 : Int) (hn0 : -9223372036854775808 ≤ n0 ∧ n0 < 9223372036854775808) (v0 : Value) (l : List Int) (hl : l.length ≤ maxLen) (hl' : ∀ n ∈ l, -9223372036854775808 ≤ n ∧ n < 9223372036854775808) (v1 : Value) (p : List Int) (hp : p.length ≤ maxLen) (hp' : ∀ n ∈ p, -9223372036854775808 ≤ n ∧ n < 9223372036854775808) :
    ∀ h vs, AllIs h vs [.i n0, .s v0 l, .s v1 p] → CallP E 9 vs h (fun r _ => r = .bool true) := by
  have hmax : maxLen < 9223372036854775808 := by decide
  intro h vs hvs
  match vs, hvs with
  | [a0, a1, a2], hvs =>
  obtain ⟨rfl, k0, k1, -⟩ := hvs
  have k1i := k1.ints
  obtain ⟨ap, cp, rfl, hcellp⟩ := k1i
  refine enter9 (by simp) ?_
  conv => whnf
  repeat (refine SeqP.go ?_; conv => whnf)
  refine CallP.mono (lawtree_spec n0 l a1 h k0.ints (by omega)) ?_
  rintro r h1 ⟨⟨n, P, w, rfl, hn1, hn2, hT, hPl, hw⟩, hg1⟩
  conv => whnf
  refine SeqP.cut (α := Value × List Int) (fun s => [(8, s.1), (7, w), (2, .slice ap p.length cp), (0, int n)]) (fun s H => Ints H s.1 s.2 ∧ s.2.length ≤ 11 ∧ Grows h1 H) ?_ ?_
  · conv => whnf
    refine CallP.mono (few_spec _ p h1 (k1.view.ext hg1) (by omega) 11 (by omega)) ?_
    rintro r h2 ⟨hb, hg2⟩
    conv => whnf
    exact ⟨(r, p.take 11), ⟨rfl, rfl, rfl, rfl, trivial⟩, ⟨hb.ints, by rw [List.length_take]; omega, hg2⟩, rfl⟩
  rintro ⟨m, lm⟩ φ1 h2 ⟨hm, hlm, hg2⟩
  dsimp only at hm hlm ⊢
  have hcell2 : ∀ (H : Hp), Grows h2 H → Ints H (.slice ap p.length cp) p := fun H g => k1.ints.ext ((hg1.trans hg2).trans g)
  conv => whnf
  repeat (refine SeqP.go ?_; conv => whnf)
  refine loop_inv (α := Nat × Value × List Int × Hp) (fun s => [(9, int s.1), (8, s.2.1), (7, w), (2, .slice ap p.length cp), (0, int n)]) (fun s => s.2.2.2) (fun s => s.1 ≤ 3 ∧ Ints s.2.2.2 s.2.1 s.2.2.1 ∧ s.2.2.1.length ≤ 11 ∧ Grows h2 s.2.2.2) (fun s => 3 - s.1) (0, m, lm, h2) ⟨by simp, hm, hlm, .refl _⟩ ⟨rfl, rfl, rfl, rfl, rfl, trivial⟩ (Hp.Le.refl _) ?_
  clear hm hlm
  rintro ⟨i, m, lm, H⟩ φ2 ⟨hi, hm, hlm, hg⟩
  dsimp only at hi hm hlm hg ⊢
  have hpi := hcell2 H hg
  have hwH := hw.ext (hg2.trans hg)
  conv => whnf
  repeat (refine SeqP.go ?_; conv => whnf)
  refine cmpB (fun hb1 => ?_) (fun hb1 => ?_)
  rotate_left
  · conv => whnf
    repeat (refine SeqP.go ?_; conv => whnf)
    refine memo27 ?_
    conv => whnf
    rfl
  conv => whnf
  refine SeqP.cut (α := Value × List Int × Hp) (fun s => [(9, int i), (8, s.1), (7, w), (2, .slice ap p.length cp), (0, int n)]) (fun s H' => s.2.2 = H' ∧ Ints s.2.2 s.1 s.2.1 ∧ s.2.1.length ≤ 11 ∧ Grows h2 s.2.2) ?_ ?_
  rotate_left
  · rintro ⟨m', lm', H'⟩ φ3 _ ⟨rfl, hm', hlm', hg'⟩
    dsimp only at hm' hlm' hg' ⊢
    conv => whnf
    refine ⟨((i + 1 : Nat) : Int), wie (by omega) (by omega), ?_⟩
    conv => whnf
    exact Rnd.mk (i + 1, m', lm', H') ⟨by show i + 1 ≤ 3; omega, hm', hlm', hg'⟩ (by show 3 - (i + 1) < 3 - i; omega) ⟨rfl, rfl, rfl, rfl, rfl, trivial⟩ (Hp.Le.refl _) rfl
  conv => whnf
  refine SeqP.cut (α := Bool × Hp) (fun s => [(11, int 0), (10, .bool s.1), (9, int i), (8, m), (7, w), (2, .slice ap p.length cp), (0, int n)]) (fun s H' => s.2 = H' ∧ BoolOf s.1 (MOk P n lm) ∧ Grows H s.2) ?_ ?_
  · conv => whnf
    refine CallP.mono (arem_spec n P (by omega) hT lm w m H hwH hm (by omega)) ?_
    rintro r h4 ⟨⟨b, rfl, hb⟩, hg4⟩
    conv => whnf
    exact ⟨(b, h4), ⟨rfl, rfl, rfl, rfl, rfl, rfl, rfl, trivial⟩, ⟨rfl, hb, hg4⟩, rfl⟩
  rintro ⟨b, h4⟩ φ4 _ ⟨rfl, hb, hg4⟩
  dsimp only at hb hg4 ⊢
  conv => whnf
  refine SeqP.cut (α := Hp) (fun s => [(9, int i), (8, m), (7, w), (2, .slice ap p.length cp), (0, int n)]) (fun s H' => s = H' ∧ Grows h4 s) ?_ ?_
  · conv => whnf
    repeat (refine SeqP.go ?_; conv => whnf)
    refine cmpF (by omega) ?_
    conv => whnf
    refine CallP.mono (refmarks_spec n hn2 P (UpTo.edges hT.up) (by omega) lm w m h4 (hwH.ext hg4) (hm.ext hg4) (by omega)) ?_
    rintro r h5 ⟨⟨b', rfl, hb'⟩, hg5⟩
    have e := bo_same hb hb'
    subst e
    conv => whnf
    refine resP_val (v := .bool false) (h := h5) ?_ ?_
    · show hval _ (aBin E .neq 4 _ _ (.bool b) (.bool b)) = _
      rw [bool_neq2]
      rfl
    conv => whnf
    repeat (refine SeqP.go ?_; conv => whnf)
    exact ⟨h5, ⟨rfl, rfl, rfl, rfl, rfl, trivial⟩, ⟨rfl, hg5⟩, rfl⟩
  rintro h5 φ5 _ ⟨rfl, hg5⟩
  have hg05 := hg4.trans hg5
  have hpi5 := hpi.ext hg05
  conv => whnf
  by_cases hi1 : i = 1
  · subst hi1
    repeat (refine SeqP.go ?_; conv => whnf)
    refine cmpT rfl ?_
    conv => whnf
    refine SeqP.cut (α := Value × Hp) (fun s => [(13, int 0), (12, s.1), (9, int 1), (7, w), (2, .slice ap p.length cp), (0, int n)]) (fun s H' => s.2 = H' ∧ Built h5 s.2 3 s.1 (bestM P n) ∧ Grows h5 s.2) ?_ ?_
    · conv => whnf
      refine CallP.mono (Marks_spec n P (by omega) hT w h5 (hwH.ext hg05)) ?_
      rintro r h6 ⟨⟨v, rfl, hb6⟩, hg6⟩
      conv => whnf
      exact ⟨(v, h6), ⟨rfl, rfl, rfl, rfl, rfl, rfl, trivial⟩, ⟨rfl, hb6, hg6⟩, rfl⟩
    rintro ⟨v, h6⟩ φ6 _ ⟨rfl, hb6, hg6⟩
    dsimp only at hb6 hg6 ⊢
    have hlb := bestM_len P n
    have hbb := bestM_bd P n
    rcases hb6 with ⟨rfl, e⟩ | ⟨rr, rfl, q1, x, q2⟩
    · rw [e] at hlb
      simp at hlb
      omega
    rw [hlb]
    have hpi6 := hpi5.ext hg6
    conv => whnf
    repeat (refine SeqP.go ?_; conv => whnf)
    refine cmpF (by omega) ?_
    conv => whnf
    refine cmpF (by omega) ?_
    conv => whnf
    repeat (refine SeqP.go ?_; conv => whnf)
    refine cmpB (fun hb2 => ?_) (fun hb2 => ?_)
    rotate_left
    · conv => whnf
      repeat (refine SeqP.go ?_; conv => whnf)
      refine ⟨(slc rr 0 n n, bestM P n, h6), ⟨rfl, rfl, rfl, rfl, rfl, trivial⟩, ⟨rfl, ?_, by show (bestM P n).length ≤ 11; omega, hg.trans (hg05.trans hg6)⟩, rfl⟩
      have := ints_of_row (c := n) q2 (l := bestM P n) fun k hk => by simp [hk]
      rw [hlb] at this
      exact this
    have hpc := hpi6
    obtain ⟨ap', cp', ew, hcc⟩ := hpc
    cases ew
    have hc := hcc 0 (by omega)
    obtain ⟨r, o, sp, ea, hsp, hci⟩ := hc
    subst ea
    have hux := u64_of p[0]
    obtain ⟨u, u0, u1, hu⟩ := hux
    have b1 := tmod_bd u0 (show (0 : Int) < (n : Int) by omega)
    have hexq : ∃ q : Nat, u.tmod n = (q : Int) := ⟨(u.tmod n).toNat, by omega⟩
    obtain ⟨q, hq⟩ := hexq
    have hqn : q < n := by omega
    have hqb := hbb _ (List.getElem_mem (l := bestM P n) (n := q) (by omega))
    conv => whnf
    repeat (refine SeqP.go ?_; conv => whnf)
    refine ⟨hsp, ⟨by omega, by omega⟩, ?_⟩
    conv => whnf
    refine ⟨int p[0], by rw [offAt_eq, Nat.add_comm]; simpa using hci, ?_⟩
    conv => whnf
    refine ⟨u, hu, ?_⟩
    conv => whnf
    refine ⟨(n : Int), u64_id (by omega), ?_⟩
    conv => whnf
    refine ⟨by omega, ?_⟩
    conv => whnf
    refine ⟨(q : Int), wie hq (by omega), ?_⟩
    conv => whnf
    refine ⟨rfl, ⟨by omega, by omega⟩, ?_⟩
    conv => whnf
    refine ⟨int (bestM P n)[q], ?_, ?_⟩
    · refine cellAt_row q2 ?_
      rw [offAt_eq, Int.toNat_natCast, Nat.zero_add, Nat.mul_one, List.getElem?_map, List.getElem?_eq_getElem (by omega)]
      rfl
    conv => whnf
    refine ⟨(bestM P n)[q] + 1, wie rfl (by omega), ?_⟩
    conv => whnf
    refine ⟨rfl, ⟨by omega, by omega⟩, ?_⟩
    conv => whnf
    have e9 : storeAt h6 rr (offAt 0 ((q : Int)).toNat 1) [int ((bestM P n)[q] + 1)] = some (h6.set rr (.row 3 x (((bestM P n).set q ((bestM P n)[q] + 1)).map int))) := by
      have := storeAt_row q2 (o := q) (v := int ((bestM P n)[q] + 1)) (by rw [List.length_map]; omega) rfl
      rw [map_set_int] at this
      rw [offAt_eq]
      simpa using this
    refine ⟨rfl, _, e9, ?_⟩
    conv => whnf
    repeat (refine SeqP.go ?_; conv => whnf)
    refine ⟨(slc rr 0 n n, (bestM P n).set q ((bestM P n)[q] + 1), _), ⟨rfl, rfl, rfl, rfl, rfl, trivial⟩, ⟨rfl, ?_, by show ((bestM P n).set q _).length ≤ 11; rw [List.length_set]; omega, ((hg.trans hg05).trans hg6).then_set _ (by have := hg.next; have := hg05.next; omega)⟩, rfl⟩
    exact ints_set q2 hlb q _
  repeat (refine SeqP.go ?_; conv => whnf)
  refine cmpF (by omega) ?_
  conv => whnf
  repeat (refine SeqP.go ?_; conv => whnf)
  refine loop_inv (α := Nat × Value × List Int × Hp) (fun s => [(14, int s.1), (8, s.2.1), (9, int i), (7, w), (2, .slice ap p.length cp), (0, int n)]) (fun s => s.2.2.2) (fun s => s.1 ≤ n ∧ Built h5 s.2.2.2 3 s.2.1 s.2.2.1 ∧ s.2.2.1.length = s.1 ∧ Grows h5 s.2.2.2) (fun s => n - s.1) (0, .slice none 0 0, [], h5) ⟨Nat.zero_le _, .inl ⟨rfl, rfl⟩, rfl, .refl _⟩ ⟨rfl, rfl, rfl, rfl, rfl, rfl, trivial⟩ (Hp.Le.refl _) ?_
  rintro ⟨k, v, lv, H7⟩ φ7 ⟨hk, hbv, hlv, hg7⟩
  dsimp only at hk hbv hlv hg7 ⊢
  conv => whnf
  repeat (refine SeqP.go ?_; conv => whnf)
  refine cmpB (fun hb3 => ?_) (fun hb3 => ?_)
  rotate_left
  · conv => whnf
    repeat (refine SeqP.go ?_; conv => whnf)
    exact ⟨(v, lv, H7), ⟨rfl, rfl, rfl, rfl, rfl, trivial⟩, ⟨rfl, hbv.ints, by show lv.length ≤ 11; omega, hg.trans (hg05.trans hg7)⟩, rfl⟩
  have hpi7 := hpi5.ext hg7
  conv => whnf
  refine SeqP.cut (α := Value × List Int × Hp) (fun s => [(14, int k), (8, s.1), (9, int i), (7, w), (2, .slice ap p.length cp), (0, int n)]) (fun s H' => s.2.2 = H' ∧ Built h5 s.2.2 3 s.1 s.2.1 ∧ s.2.1.length = k + 1 ∧ Grows h5 s.2.2) ?_ ?_
  rotate_left
  · rintro ⟨v8, l8, h8⟩ φ8 _ ⟨rfl, hb8, hl8, hg8⟩
    dsimp only at hb8 hl8 hg8 ⊢
    conv => whnf
    refine ⟨((k + 1 : Nat) : Int), wie (by omega) (by omega), ?_⟩
    conv => whnf
    exact Rnd.mk (k + 1, v8, l8, h8) ⟨by show k + 1 ≤ n; omega, hb8, hl8, hg8⟩ (by show n - (k + 1) < n - k; omega) ⟨rfl, rfl, rfl, rfl, rfl, rfl, trivial⟩ (Hp.Le.refl _) rfl
  conv => whnf
  refine SeqP.go ?_
  conv => whnf
  refine SeqP.cut (α := Int) (fun y => [(15, int y), (14, int k), (8, v), (9, int i), (7, w), (2, .slice ap p.length cp), (0, int n)]) (fun y H' => H7 = H') ?_ ?_
  · conv => whnf
    repeat (refine SeqP.go ?_; conv => whnf)
    refine cmpB (fun hb4 => ?_) (fun hb4 => ?_)
    rotate_left
    · conv => whnf
      exact ⟨(k : Int), ⟨rfl, rfl, rfl, rfl, rfl, rfl, rfl, trivial⟩, rfl, rfl⟩
    have hpc := hpi7
    obtain ⟨ap', cp', ew, hcc⟩ := hpc
    cases ew
    have hc := hcc k (by omega)
    obtain ⟨r, o, sp, ea, hsp, hci⟩ := hc
    subst ea
    have hux := u64_of p[k]
    obtain ⟨u, u0, u1, hu⟩ := hux
    have b1 := tmod_bd u0 (show (0 : Int) < 4 by omega)
    conv => whnf
    refine ⟨hsp, ⟨by omega, by omega⟩, ?_⟩
    conv => whnf
    refine ⟨int p[k], by rw [offAt_eq, Nat.add_comm]; simpa using hci, ?_⟩
    conv => whnf
    refine ⟨u, hu, ?_⟩
    conv => whnf
    refine ⟨by omega, ?_⟩
    conv => whnf
    refine ⟨u.tmod 4, wid (by omega), ?_⟩
    conv => whnf
    exact ⟨u.tmod 4, ⟨rfl, rfl, rfl, rfl, rfl, rfl, rfl, trivial⟩, rfl, rfl⟩
  rintro y φ9 _ rfl
  conv => whnf
  refine AppP.ints (hbv.ext (Grows.lay _ _)) (hg7.then_lay _) Elems.lay1 (by simp; omega) ?_
  intro v9 h9 hb9 hg9 _
  conv => whnf
  refine ⟨(v9, lv ++ [y], h9), ⟨rfl, rfl, rfl, rfl, rfl, rfl, trivial⟩, ⟨rfl, hb9, by simp; omega, ?_⟩, rfl⟩
  exact hg9
end
end Go.Proofs.Yticmdpcahpimhaa
