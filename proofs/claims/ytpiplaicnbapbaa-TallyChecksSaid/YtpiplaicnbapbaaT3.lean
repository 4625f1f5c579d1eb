/- Contracts of the functions that T27 comes to. -/
import Derived.Test.YtpiplaicnbapbaaT2
set_option maxRecDepth 100000
set_option maxHeartbeats 1000000
set_option linter.unusedVariables false
set_option linter.unusedSectionVars false
set_option linter.unusedSimpArgs false
namespace Go.Proofs.Ytpiplaicnbapbaa
open Go.Rx Go.RowKit
/-- A rule. -/
structure Q4 where
  a : Int
  b : Int
  c : Int
  d : Int
def flat4 : List Q4 → List Int
  | [] => []
  | q :: l => q.a :: q.b :: q.c :: q.d :: flat4 l
theorem flat4_len : ∀ l : List Q4, (flat4 l).length = l.length * 4
  | [] => rfl
  | q :: l => by show (flat4 l).length + 1 + 1 + 1 + 1 = (l.length + 1) * 4; rw [flat4_len l]; omega
theorem flat4_app : ∀ l m : List Q4, flat4 (l ++ m) = flat4 l ++ flat4 m
  | [], _ => rfl
  | q :: l, m => by show _ :: _ :: _ :: _ :: flat4 (l ++ m) = _; rw [flat4_app l m]; rfl
theorem flat4_drop : ∀ (l : List Q4) (k : Nat) (h : k < l.length), ((flat4 l).drop (k * 4)).take 4 = [l[k].a, l[k].b, l[k].c, l[k].d]
  | [], k, h => by simp at h
  | q :: l, 0, h => by simp [flat4]
  | q :: l, k + 1, h => by
    have := flat4_drop l k (by simp at h; omega)
    rw [show (k + 1) * 4 = k * 4 + 1 + 1 + 1 + 1 by omega]
    simpa [flat4] using this
structure Prot where
  n : Int
  out : List Int
  start : List Int
  rules : List Q4
def bare0 : Hp := ⟨0, fun _ => none⟩
theorem bare0_grows (h : Hp) : Grows bare0 h := ⟨Nat.zero_le _, fun r o e => by
  unfold Hp.at bare0 at e
  dsimp only at e
  split at e <;> cases e⟩
abbrev LV (h : Hp) (v : Value) (l : List Int) : Prop := Built bare0 h 3 v l
abbrev RV (h : Hp) (v : Value) (R : List Q4) : Prop := BuiltC bare0 h 96 4 v R.length ((flat4 R).map int)
theorem LV.of {h0 h : Hp} {v : Value} {l : List Int} (k : Built h0 h 3 v l) : LV h v l := k.back (Nat.zero_le _)
theorem RV.of {h0 h : Hp} {v : Value} {R : List Q4} (k : BuiltC h0 h 96 4 v R.length ((flat4 R).map int)) : RV h v R := k.back (Nat.zero_le _)
theorem RV.cells {h : Hp} {v : Value} {R : List Q4} (k : RV h v R) : ∃ a, v = .slice a R.length R.length ∧ ∀ j, (hj : j < R.length) → ∃ r, a = some ⟨r, 0, none⟩ ∧ cellsAt h r (j * 4) 4 = some [int R[j].a, int R[j].b, int R[j].c, int R[j].d] := by
  obtain ⟨a, e, hc⟩ := k.slice
  refine ⟨a, e, fun j hj => ?_⟩
  obtain ⟨r, e2, x, hr⟩ := hc j hj
  refine ⟨r, e2, ?_⟩
  rw [cellsAt_row hr (by rw [List.length_map, flat4_len]; omega), ← List.map_drop, ← List.map_take, flat4_drop R j hj]
  rfl
theorem RV.one {h : Hp} {v : Value} {R : List Q4} (k : RV h v R) : ElemsC h 4 v R.length ((flat4 R).map int) := k.elems (ints_one _)
def pval (n : Int) (vo vs vr : Value) : Value := .agg ⟨[int n, vo, vs, vr]⟩
/-- A protocol as a value. -/
def PV (h : Hp) (v : Value) (p : Prot) : Prop := ∃ vo vs vr, v = pval p.n vo vs vr ∧ LV h vo p.out ∧ LV h vs p.start ∧ RV h vr p.rules
theorem PV.ext {h h' : Hp} {v : Value} {p : Prot} (g : Grows h h') (k : PV h v p) : PV h' v p := by
  obtain ⟨a, b, c, e, h1, h2, h3⟩ := k
  exact ⟨a, b, c, e, h1.ext g, h2.ext g, h3.ext g⟩
theorem ty25 : ∃ i, E.ty 25 = some i ∧ i.agg = true ∧ i.size = 4 := by
  have hs : (tiOf Try.prog 25).isSome = true := by kernel_rfl
  refine ⟨(tiOf Try.prog 25).get hs, ty_get (by kernel_rfl) (Option.some_get hs).symm, ?_, ?_⟩ <;> kernel_rfl
theorem ty26 : ∃ i, E.ty 26 = some i ∧ i.agg = true ∧ i.size = 4 := by
  have hs : (tiOf Try.prog 26).isSome = true := by kernel_rfl
  refine ⟨(tiOf Try.prog 26).get hs, ty_get (by kernel_rfl) (Option.some_get hs).symm, ?_, ?_⟩ <;> kernel_rfl
theorem four_cells {H : Hp} {r e : Nat} {x : Bool} {a b c d : Value} (hr : H.at r = some (.row e x [a, b, c, d])) : cellsAt H r 0 4 = some [a, b, c, d] := by
  rw [cellsAt_row hr (by simp)]; rfl
theorem LV.known {h : Hp} {v : Value} {l : List Int} (k : LV h v l) : ∃ a, v = .slice a l.length l.length := by
  rcases k with ⟨rfl, rfl⟩ | ⟨r, rfl, _⟩
  · exact ⟨none, rfl⟩
  · exact ⟨_, rfl⟩
theorem at_nx2 {h : Hp} {r r' : Nat} {o : Rx.Obj} (e : r = r') (k : h.at r = some o) : h.at r' = some o := e ▸ k
theorem built_set_lt {h0 h : Hp} {e : TypeId} {v : Value} {l : List Int} {r : Nat} {o : Rx.Obj} (k : Built h0 h e v l) (hr : r < h0.next) : Built h0 (h.set r o) e v l := by
  rcases k with h1 | ⟨r', rfl, h2, x, hr'⟩
  · exact .inl h1
  · exact .inr ⟨r', rfl, h2, x, by rw [Hp.at_set_ne _ (by omega)]; exact hr'⟩
theorem builtC_set_lt {h0 h : Hp} {e : TypeId} {s n : Nat} {v : Value} {cs : List Value} {r : Nat} {o : Rx.Obj} (k : BuiltC h0 h e s v n cs) (hr : r < h0.next) : BuiltC h0 (h.set r o) e s v n cs := by
  obtain ⟨hl, k⟩ := k
  refine ⟨hl, ?_⟩
  rcases k with h1 | ⟨r', e1, h2, x, hr'⟩
  · exact .inl h1
  · exact .inr ⟨r', e1, h2, x, by rw [Hp.at_set_ne _ (by omega)]; exact hr'⟩
theorem sameV_ptr3 (a b : Nat) : sameV 4 (ptr a b) (ptr a b) = true := by simp [sameV, ptr]
attribute [local irreducible] E idxN cellAt cellsAt storeAt callable helems hmoved lookIn findKey keyOk hentries Hp.at Hp.set Hp.lay arBits hupdated setAt CallP YieldP BoolOf IsWrap Rnd LoopP AppP CutP Int.tmod Int.tdiv Int.fdiv
section
variable [Unknowns]
attribute [local irreducible] ResP sameAt finP
theorem given_spec (v : Value) (p : Prot) (h : Hp) (hv : PV h v p) (ho : p.out.length ≤ 6) (hs : p.start.length ≤ 3) (hr : p.rules.length ≤ 1000) : CallP E 18 [v] h (fun r h' => PV h' r p ∧ Grows h h') := by
  obtain ⟨n, out, start, rules⟩ := p
  obtain ⟨vo, vs, vr, rfl, k1, k2, k3⟩ := hv
  dsimp only at ho hs hr k1 k2 k3 ⊢
  obtain ⟨ao, rfl⟩ := k1.known
  obtain ⟨az, rfl⟩ := k2.known
  obtain ⟨ar, rfl, -⟩ := k3.slice
  unfold pval
  refine enter18 (by simp) ?_
  have hat : ((h.lay (.row 26 true [int n, .slice ao out.length out.length, .slice az start.length start.length, .slice ar rules.length rules.length])).lay (.row 25 true [int 0, .slice none 0 0, .slice none 0 0, .slice none 0 0])).at h.next = some (.row 26 true [int n, .slice ao out.length out.length, .slice az start.length start.length, .slice ar rules.length rules.length]) := Hp.at_lay_old _ (Hp.at_lay_self _ _)
  have g0 : Grows h ((h.lay (.row 26 true [int n, .slice ao out.length out.length, .slice az start.length start.length, .slice ar rules.length rules.length])).lay (.row 25 true [int 0, .slice none 0 0, .slice none 0 0, .slice none 0 0])) := (Grows.lay _ _).then_lay _
  conv => whnf
  repeat (refine SeqP.go ?_; conv => whnf)
  refine ⟨_, cellAt_row hat rfl, ?_⟩
  conv => whnf
  refine ⟨_, cellAt_row hat rfl, ?_⟩
  conv => whnf
  refine CallP.mono (few_spec _ out _ (k1.view.ext g0) (by omega) 6 (by omega)) ?_
  rintro r1 H1 ⟨hb1, g1⟩
  have hg1 := g1
  have at1 := g1.at_ _ _ hat
  conv => whnf
  refine ⟨_, cellAt_row at1 rfl, ?_⟩
  conv => whnf
  refine CallP.mono (few_spec _ start _ (k2.view.ext (g0.trans g1)) (by omega) 3 (by omega)) ?_
  rintro r2 H2 ⟨hb2, g2⟩
  have g02 := (g0.trans g1).trans g2
  have at2 := g2.at_ _ _ at1
  conv => whnf
  refine ⟨_, cellAt_row at2 rfl, ?_⟩
  conv => whnf
  refine AppP.cells (h0 := H2) BuiltC.nil (.refl _) (RV.one (k3.ext g02)) (by omega) (by omega) ?_
  intro r3 H3 hb3 g3 _
  rw [Nat.zero_add, List.nil_append] at hb3
  have at3 := g3.at_ _ _ at2
  have g03 := g02.trans g3
  have ho1 : ((h.lay (.row 26 true [int n, .slice ao out.length out.length, .slice az start.length start.length, .slice ar rules.length rules.length])).lay (.row 25 true [int 0, .slice none 0 0, .slice none 0 0, .slice none 0 0])).at (h.next + 1) = some (.row 25 true [int 0, .slice none 0 0, .slice none 0 0, .slice none 0 0]) := at_nx2 (Hp.next_lay _ _) (Hp.at_lay_self _ _)
  have ho3 := g3.at_ _ _ (g2.at_ _ _ (g1.at_ _ _ ho1))
  have hb1' := (LV.of hb1).known
  obtain ⟨a1, rfl⟩ := hb1'
  have hb2' := (LV.of hb2).known
  obtain ⟨a2, rfl⟩ := hb2'
  have hb3' := hb3.slice
  obtain ⟨a3, rfl, -⟩ := hb3'
  conv => whnf
  refine ⟨rfl, _, storeAt_full (vs := [int n, .slice a1 (out.take 6).length (out.take 6).length, .slice a2 (start.take 3).length (start.take 3).length, .slice a3 rules.length rules.length]) (at_nx2 (Hp.next_lay _ _).symm ho3) rfl rfl rfl, ?_⟩
  have okl : ∀ (H' : Hp) (i : Nat) (v : Value), Grows ((h.lay (.row 26 true [int n, .slice ao out.length out.length, .slice az start.length start.length, .slice ar rules.length rules.length])).lay (.row 25 true [int 0, .slice none 0 0, .slice none 0 0, .slice none 0 0])) H' → [int n, .slice ao out.length out.length, .slice az start.length start.length, .slice ar rules.length rules.length][i]? = some v → hval H' (cellAt H' h.next i) = .val v H' := fun H' i v g e => by
    rw [cellAt_row (g.at_ _ _ hat) e]
    rfl
  have g12 := g1.trans g2
  have g13 := g12.trans g3
  conv => whnf
  refine ⟨?_, ?_⟩
  · repeat' (first | exact True.intro | (refine And.intro ?_ ?_ <;> (conv => whnf)))
    all_goals first
      | exact sameAt_val (h2 := _) rfl (sameV_ptr3 _ _)
      | exact sameAt_val (h2 := _) rfl (sameV_slice _ _ _)
      | exact sameAt_val (h2 := _) (okl _ 0 _ (Grows.refl _) rfl) (sameV_int _)
      | exact sameAt_val (h2 := _) (okl _ 0 _ g1 rfl) (sameV_int _)
      | exact sameAt_val (h2 := _) (okl _ 0 _ g12 rfl) (sameV_int _)
      | exact sameAt_val (h2 := _) (okl _ 0 _ g13 rfl) (sameV_int _)
      | exact sameAt_val (h2 := _) (okl _ 2 _ (Grows.refl _) rfl) (sameV_slice _ _ _)
      | exact sameAt_val (h2 := _) (okl _ 2 _ g1 rfl) (sameV_slice _ _ _)
      | exact sameAt_val (h2 := _) (okl _ 2 _ g12 rfl) (sameV_slice _ _ _)
      | exact sameAt_val (h2 := _) (okl _ 2 _ g13 rfl) (sameV_slice _ _ _)
      | exact sameAt_val (h2 := _) (okl _ 3 _ (Grows.refl _) rfl) (sameV_slice _ _ _)
      | exact sameAt_val (h2 := _) (okl _ 3 _ g1 rfl) (sameV_slice _ _ _)
      | exact sameAt_val (h2 := _) (okl _ 3 _ g12 rfl) (sameV_slice _ _ _)
      | exact sameAt_val (h2 := _) (okl _ 3 _ g13 rfl) (sameV_slice _ _ _)
      | trace_state
  conv => whnf
  repeat (refine SeqP.go ?_; conv => whnf)
  obtain ⟨i25, t25, ag25, sz25⟩ := ty25
  refine leave_cell (r := h.next + 1) (o := 0) (cs := [int n, .slice a1 (out.take 6).length (out.take 6).length, .slice a2 (start.take 3).length (start.take 3).length, .slice a3 rules.length rules.length]) ?_ t25 ag25 ?_ ?_
  · exact congrArg (fun k => ptr k 0) (Hp.next_lay _ _)
  · rw [sz25]
    refine four_cells (at_nx2 (Hp.next_lay _ _) (Hp.at_set_self _ ?_))
    rw [Hp.next_lay]
    exact Hp.lt_of_at ho3
  · have e1 : out.take 6 = out := List.take_of_length_le ho
    have e2 : start.take 3 = start := List.take_of_length_le hs
    rw [e1] at hb1 ⊢
    rw [e2] at hb2 ⊢
    have n0 : (h.lay (.row 26 true [int n, .slice ao out.length out.length, .slice az start.length start.length, .slice ar rules.length rules.length])).next = h.next + 1 := Hp.next_lay _ _
    have n1 : ((h.lay (.row 26 true [int n, .slice ao out.length out.length, .slice az start.length start.length, .slice ar rules.length rules.length])).lay (.row 25 true [int 0, .slice none 0 0, .slice none 0 0, .slice none 0 0])).next = h.next + 2 := by rw [Hp.next_lay, n0]
    have m1 := g1.next
    have m2 := g2.next
    refine ⟨⟨_, _, _, rfl, LV.of (built_set_lt (hb1.ext (g2.trans g3)) ?_), LV.of (built_set_lt (hb2.ext g3) ?_), RV.of (builtC_set_lt hb3 ?_)⟩, g03.then_set _ ?_⟩
    · rw [n0, n1]; omega
    · rw [n0]; omega
    · rw [n0]; omega
    · rw [n0]; omega
end
end Go.Proofs.Ytpiplaicnbapbaa
