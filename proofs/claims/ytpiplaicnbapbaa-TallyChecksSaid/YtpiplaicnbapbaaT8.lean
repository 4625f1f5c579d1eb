/- Contracts of the functions that T27 comes to. -/
import Derived.Test.YtpiplaicnbapbaaT7
set_option maxRecDepth 100000
set_option maxHeartbeats 2000000
set_option linter.unusedVariables false
set_option linter.unusedSectionVars false
set_option linter.unusedSimpArgs false
namespace Go.Proofs.Ytpiplaicnbapbaa
open Go.Rx Go.RowKit
abbrev gl (l : List Int) (i : Nat) : Int := l.getD i 0
theorem gl_at {l : List Int} {i : Nat} (h : i < l.length) : gl l i = l[i] := by
  unfold gl; rw [List.getD_eq_getElem?_getD, List.getElem?_eq_getElem h]; rfl
theorem gl_set {l : List Int} {v : Nat} {x : Int} (h : v < l.length) (i : Nat) : gl (l.set v x) i = if i = v then x else gl l i := by
  unfold gl
  rw [List.getD_eq_getElem?_getD, List.getElem?_set, List.getD_eq_getElem?_getD]
  by_cases e : v = i
  · subst e; rw [if_pos rfl, if_pos h, if_pos rfl]; rfl
  · rw [if_neg e, if_neg (fun x => e x.symm)]
def bump (l : List Int) (x : Int × Int) : List Int := l.set x.1.toNat (gl l x.1.toNat + x.2)
theorem bump_len (l : List Int) (x : Int × Int) : (bump l x).length = l.length := List.length_set ..
/-- The crowd of kinds, in so many numbers. -/
def crs (m : Nat) (start kinds : List Int) (k : Nat) : List Int := ((start.zip kinds).take k).foldl bump (List.replicate m 0)
theorem fold_len : ∀ (l : List (Int × Int)) (a : List Int), (l.foldl bump a).length = a.length
  | [], _ => rfl
  | x :: l, a => (fold_len l (bump a x)).trans (bump_len a x)
theorem crs_len (m : Nat) (start kinds : List Int) (k : Nat) : (crs m start kinds k).length = m := by unfold crs; rw [fold_len, List.length_replicate]
theorem crs_zero (m : Nat) (start kinds : List Int) : crs m start kinds 0 = List.replicate m 0 := rfl
theorem crs_succ (m : Nat) {start kinds : List Int} {k : Nat} (h1 : k < start.length) (h2 : k < kinds.length) : crs m start kinds (k + 1) = bump (crs m start kinds k) (start[k], kinds[k]) := by
  unfold crs
  rw [List.take_succ_eq_append_getElem (by rw [List.length_zip]; omega), List.foldl_append, List.getElem_zip]
  rfl
theorem bump_take {m n : Nat} {l k : List Int} (hl : l.length = m) (hk : k.length = n) (hnm : n ≤ m) (e : l.take n = k) {x : Int × Int} (h0 : 0 ≤ x.1 ∧ x.1 < n) : (bump l x).take n = bump k x := by
  subst e
  unfold bump
  rw [List.take_set]
  have : gl (l.take n) x.1.toNat = gl l x.1.toNat := by
    unfold gl
    rw [List.getD_eq_getElem?_getD, List.getD_eq_getElem?_getD, List.getElem?_take, if_pos (by omega)]
  rw [this]
theorem crs_take {m n : Nat} {start kinds : List Int} (hnm : n ≤ m) (hs : ∀ x ∈ start, 0 ≤ x ∧ x ≤ (n : Int) - 1) : ∀ k, k ≤ start.length → k ≤ kinds.length → (crs m start kinds k).take n = crs n start kinds k
  | 0, _, _ => by rw [crs_zero, crs_zero, List.take_replicate, Nat.min_eq_left hnm]
  | k + 1, h1, h2 => by
    have ih := crs_take (kinds := kinds) hnm hs k (by omega) (by omega)
    rw [crs_succ m (start := start) (kinds := kinds) (by omega) (by omega), crs_succ n (start := start) (kinds := kinds) (by omega) (by omega)]
    have hx := hs start[k] (List.getElem_mem (l := start) (n := k) (by omega))
    exact bump_take (crs_len ..) (crs_len ..) hnm ih ⟨hx.1, by dsimp only; omega⟩
theorem bump_bd {l : List Int} {x : Int × Int} {M : Int} (h : ∀ y ∈ l, 0 ≤ y ∧ y ≤ M) (hM : 0 ≤ M) (h0 : 0 ≤ x.2 ∧ x.2 ≤ 9) : ∀ y ∈ bump l x, 0 ≤ y ∧ y ≤ M + 9 := by
  intro y hy
  rcases List.mem_or_eq_of_mem_set hy with hy | rfl
  · have := h y hy; omega
  · have : 0 ≤ gl l x.1.toNat ∧ gl l x.1.toNat ≤ M := by
      unfold gl
      rw [List.getD_eq_getElem?_getD]
      cases e : l[x.1.toNat]? with
      | none => exact ⟨Int.le_refl _, hM⟩
      | some z => exact h z (List.mem_of_getElem? e)
    omega
theorem crs_bd {m : Nat} {start kinds : List Int} (hk : ∀ x ∈ kinds, 0 ≤ x ∧ x ≤ 9) : ∀ k, k ≤ start.length → k ≤ kinds.length → ∀ y ∈ crs m start kinds k, 0 ≤ y ∧ y ≤ 9 * (k : Int)
  | 0, _, _ => by
    intro y hy
    rw [crs_zero] at hy
    rw [(List.mem_replicate.1 hy).2]
    omega
  | k + 1, h1, h2 => by
    have ih := crs_bd (m := m) (start := start) hk k (by omega) (by omega)
    rw [crs_succ m (start := start) (kinds := kinds) (by omega) (by omega)]
    intro y hy
    have hkk : 0 ≤ kinds[k] ∧ kinds[k] ≤ 9 := hk _ (List.getElem_mem (l := kinds) (n := k) (by omega))
    have := bump_bd (x := (start[k], kinds[k])) ih (by omega) hkk y hy
    omega
theorem ty107 : ∃ i, E.ty 107 = some i ∧ i.agg = true ∧ i.size = 5 := by
  have hs : (tiOf Try.prog 107).isSome = true := by kernel_rfl
  refine ⟨(tiOf Try.prog 107).get hs, ty_get (by kernel_rfl) (Option.some_get hs).symm, ?_, ?_⟩ <;> kernel_rfl
theorem ty22 : ∃ i, E.ty 22 = some i ∧ i.desc = .slice 3 := by
  have hs : (tiOf Try.prog 22).isSome = true := by kernel_rfl
  refine ⟨(tiOf Try.prog 22).get hs, ty_get (by kernel_rfl) (Option.some_get hs).symm, ?_⟩
  kernel_rfl
theorem nil_neq (x : Operand) (c : Value) (a : Addr) (n m : Nat) : aBin E .eql 22 x (.const c) (.slice (some a) n m) (.slice none 0 0) = some (.bool false) := by
  obtain ⟨i, hi, hd⟩ := ty22
  show binOther E .eql 22 x (.const c) (.slice (some a) n m) (.slice none 0 0) = _
  unfold binOther
  show binNil E .eql 22 x (.const c) (.slice (some a) n m) (.slice none 0 0) false = _
  unfold binNil
  rw [hi]
  dsimp only
  rw [hd]
  have : (isConstOp x || isConstOp (.const c)) = true := by cases x <;> rfl
  rw [this]
  rfl
theorem row_store {H : Hp} {r i : Nat} {e : TypeId} {x : Bool} {l : List Int} (hat : H.at r = some (.row e x (l.map int))) (hi : i < l.length) (y : Int) : storeAt H r i [int y] = some (H.set r (.row e x ((l.set i y).map int))) := by
  have := storeAt_row hat (o := i) (v := int y) (by rw [List.length_map]; exact hi) rfl
  rwa [show (l.map int).set i (int y) = (l.set i y).map int from by rw [List.map_set]] at this
theorem row_load {H : Hp} {r i : Nat} {e : TypeId} {x : Bool} {l : List Int} (hat : H.at r = some (.row e x (l.map int))) (hi : i < l.length) : cellAt H r i = some (int (gl l i)) := by
  refine cellAt_row hat ?_
  rw [List.getElem?_map, List.getElem?_eq_getElem hi, gl_at hi]
  rfl
theorem rep_row (z : Int) (n : Nat) : times [int z] n = (List.replicate n z).map int := by
  induction n with
  | zero => rfl
  | succ n ih => show int z :: times [int z] n = _; rw [ih, List.replicate_succ]; rfl
attribute [local irreducible] E idxN cellAt cellsAt storeAt callable helems hmoved lookIn findKey keyOk hentries Hp.at Hp.set Hp.lay arBits hupdated setAt CallP YieldP BoolOf IsWrap Rnd LoopP AppP CutP Int.tmod Int.tdiv Int.fdiv
section
variable [Unknowns]
attribute [local irreducible] ResP sameAt
theorem clone_spec (r n c : Nat) (l : List Int) (h : Hp) (hn : l.length = n) (hn6 : n ≤ 1000000) (hr : ∃ e x cs, h.at r = some (.row e x cs) ∧ n ≤ cs.length ∧ ∀ j, (hj : j < l.length) → cs[j]? = some (int l[j])) : CallP E 71 [.slice (some ⟨r, 0, some 1⟩) n c] h (fun r h' => Built h h' 3 r l ∧ Grows h h') := by
  obtain ⟨e, x, cs, hat, hcl, hc⟩ := hr
  refine enter71 (by simp) ?_
  conv => whnf
  repeat (refine SeqP.go ?_; conv => whnf)
  refine resP_val (v := .bool false) (h := h) ?_ ?_
  · show hval _ (aBin E .eql 22 _ (.const _) (.slice (some ⟨r, 0, some 1⟩) n c) (.slice none 0 0)) = _
    rw [nil_neq]
    rfl
  conv => whnf
  repeat (refine SeqP.go ?_; conv => whnf)
  refine AppP.ints (h0 := h) (l := []) (new := l) (.inr ⟨h.next, rfl, Nat.le_refl _, true, Hp.at_lay_self _ _⟩) (Grows.lay _ _) ?_ (by simp; omega) ?_
  · subst hn
    refine ⟨rfl, Eq.trans (b := helems (h.lay (.row 3 true [])) 1 l.length (.slice (some ⟨r, 0, some 1⟩) l.length c)) rfl ?_⟩
    unfold helems
    dsimp only
    rw [cellsAt_row (Hp.at_lay_old _ hat) (by omega), List.drop_zero, Nat.mul_one]
    refine congrArg some (List.ext_getElem? fun k => ?_)
    by_cases hk : k < l.length
    · rw [List.getElem?_take, if_pos hk, hc k hk]
      simp [hk]
    · rw [List.getElem?_take, if_neg hk]
      simp [hk]
  intro v2 h2 hb hg _
  rw [List.nil_append] at hb
  rcases id hb with ⟨rfl, e⟩ | ⟨r2, rfl, _, _⟩
  · conv => whnf
    repeat (refine SeqP.go ?_; conv => whnf)
    exact ⟨hb, hg⟩
  · conv => whnf
    repeat (refine SeqP.go ?_; conv => whnf)
    exact ⟨hb, hg⟩
end
end Go.Proofs.Ytpiplaicnbapbaa
