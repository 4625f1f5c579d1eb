/- Contracts of the functions that T27 comes to. -/
import Derived.Test.YtpiplaicnbapbaaT13
set_option maxRecDepth 100000
set_option maxHeartbeats 2000000
set_option linter.unusedVariables false
set_option linter.unusedSectionVars false
set_option linter.unusedSimpArgs false
namespace Go.Proofs.Ytpiplaicnbapbaa
open Go.Rx Go.RowKit
theorem under3 : Try.prog.underlying 3 = some (.int .i64) := Try.underlying3
theorem under22 : Try.prog.underlying 22 = some (.slice 3) := Try.underlying22
theorem under23 : Try.prog.underlying 23 = some (.slice 96) := Try.underlying23
theorem under96 : Try.prog.underlying 96 = some (.array 4 3) := Try.underlying96
def fieldTy (i : Nat) (t : TypeId) : Option TypeDesc → Option (TypeId × Nat)
  | some (.struct fs) => (fs[i]?).map fun f => (f.type, f.offset)
  | _ => none
theorem field_of {t ft off i : Nat} (h : fieldTy i t (Try.prog.underlying t) = some (ft, off)) {ts : List Tr} (hy : TyT Try.prog t ts) : ts.length = Try.prog.cellsOf t ∧ TyT Try.prog ft ((ts.drop off).take (Try.prog.cellsOf ft)) := by
  cases hu : Try.prog.underlying t with
  | none => rw [hu] at h; cases h
  | some d =>
    rw [hu] at h
    cases d with
    | struct fs =>
      have hf := ty_field hu hy
      unfold fieldTy at h
      dsimp only at h
      cases hg : fs[i]? with
      | none => rw [hg] at h; cases h
      | some f =>
        rw [hg] at h
        cases h
        exact ⟨hf.1, hf.2 i f hg⟩
    | _ => cases h
theorem cells3 : Try.prog.cellsOf 3 = 1 := by kernel_rfl
theorem cells22 : Try.prog.cellsOf 22 = 1 := by kernel_rfl
theorem cells23 : Try.prog.cellsOf 23 = 1 := by kernel_rfl
theorem cells96 : Try.prog.cellsOf 96 = 4 := by kernel_rfl
theorem flat4_of : ∀ (n : Nat) (l : List Int), l.length = n * 4 → ∃ R : List Q4, R.length = n ∧ flat4 R = l
  | 0, l, h => ⟨[], rfl, (List.eq_nil_of_length_eq_zero (by omega)).symm⟩
  | n + 1, l, h => by
    match l, h with
    | a :: b :: c :: d :: l, h =>
      obtain ⟨R, h1, h2⟩ := flat4_of n l (by simp at h; omega)
      exact ⟨⟨a, b, c, d⟩ :: R, by simp [h1], by simp [flat4, h2]⟩
    | [], h => simp at h
    | [_], h => simp at h; omega
    | [_, _], h => simp at h; omega
    | [_, _, _], h => simp at h; omega
theorem LentV.ri {h : Hp} {v : Value} {R : List Q4} (k : LentV h v R.length (flat4 R)) : RI h v R := by
  rcases k with (⟨rfl, h1, h2⟩ | ⟨r, rfl, hr⟩) | ⟨rfl, h1, h2⟩
  · exact ⟨none, 0, by rw [h1], fun j hj => by omega⟩
  · refine ⟨_, _, rfl, fun j hj => ⟨r, 0, rfl, ?_⟩⟩
    unfold cellsAt
    rw [hr]
    show Go.Rx.cellsIn (j * 4 + 0) 4 ((flat4 R).map int) = _
    unfold Go.Rx.cellsIn
    rw [if_pos (by rw [List.length_map, flat4_len]; omega), Nat.add_zero, ← List.map_drop, ← List.map_take, flat4_drop R j hj]
    rfl
  · exact ⟨_, _, by rw [h1]; rfl, fun j hj => by omega⟩
theorem one_of {ts : List Tr} {o : Nat} (h : o < ts.length) : (ts.drop o).take 1 = [ts[o]] := by
  rw [List.drop_eq_getElem_cons h]; rfl
theorem ag_inv {h : Hp} {v : Value} {ts : List Tr} (k : AbsT h v (.ag ts)) : ∃ vs : List Value, v = .agg ⟨vs⟩ ∧ vs.length = ts.length ∧ ∀ (k : Nat) v t, vs[k]? = some v → ts[k]? = some t → AbsT h v t := by
  cases k with
  | ag vs cs hl ht => exact ⟨vs, rfl, hl, ht⟩
theorem num_inv {h : Hp} {v : Value} {n : Int} (k : AbsT h v (.num n)) : v = int n := by cases k; rfl
/-- What a protocol is as an argument. -/
theorem prot_arg {ts : List Tr} (hy : TyT Try.prog 25 ts) : ∃ p : Prot, InR p.n ∧ p.out.length ≤ maxLen ∧ p.start.length ≤ maxLen ∧ p.rules.length ≤ maxLen ∧ ∀ h v, AbsT h v (.ag ts) → PI h v p := by
  have f0 := field_of (i := 0) (ft := 3) (off := 0) (by kernel_rfl) hy
  have f1 := field_of (i := 1) (ft := 22) (off := 1) (by kernel_rfl) hy
  have f2 := field_of (i := 2) (ft := 22) (off := 2) (by kernel_rfl) hy
  have f3 := field_of (i := 3) (ft := 23) (off := 3) (by kernel_rfl) hy
  have hl : ts.length = 4 := f0.1.trans (by kernel_rfl)
  have f0 := f0.2
  have f1 := f1.2
  have f2 := f2.2
  have f3 := f3.2
  rw [cells3, one_of (by omega)] at f0
  rw [cells22, one_of (by omega)] at f1 f2
  rw [cells23, one_of (by omega)] at f3
  obtain ⟨n, en, hn⟩ := ty_num under3 f0
  obtain ⟨l1, e1, m1, r1⟩ := ty_ints under22 cells3 under3 f1
  obtain ⟨l2, e2, m2, r2⟩ := ty_ints under22 cells3 under3 f2
  obtain ⟨m, l3, e3, hl3, m3, r3⟩ := ty_rows (by omega) under23 under96 under3 cells96 cells3 f3
  obtain ⟨R, hR, eR⟩ := flat4_of m l3 hl3
  subst eR hR
  refine ⟨⟨n, l1, l2, R⟩, hn, m1, m2, m3, fun h v k => ?_⟩
  obtain ⟨vs, rfl, hvl, hk⟩ := ag_inv k
  match vs, hvl with
  | [v0, v1, v2, v3], _ =>
  have k0 := hk 0 v0 _ rfl (List.getElem?_eq_getElem (by omega))
  have k1 := hk 1 v1 _ rfl (List.getElem?_eq_getElem (by omega))
  have k2 := hk 2 v2 _ rfl (List.getElem?_eq_getElem (by omega))
  have k3 := hk 3 v3 _ rfl (List.getElem?_eq_getElem (by omega))
  rw [show ts[0] = .num n from List.cons.inj en |>.1] at k0
  rw [e1] at k1
  rw [e2] at k2
  rw [e3] at k3
  have := num_inv k0
  subst this
  exact ⟨v1, v2, v3, rfl, k1.view.ints, k2.view.ints, LentV.ri k3.lentV⟩
  | [], h | [_], h | [_, _], h | [_, _, _], h | _ :: _ :: _ :: _ :: _ :: _, h => simp [hl] at h
theorem quest_arg {ts : List Tr} (hy : TyT Try.prog 36 ts) : ∃ q : Quest, InR q.b ∧ InR q.m ∧ q.a.length ≤ maxLen ∧ ∀ h v, AbsT h v (.ag ts) → QI h v q := by
  have f0 := field_of (i := 0) (ft := 22) (off := 0) (by kernel_rfl) hy
  have f1 := field_of (i := 1) (ft := 3) (off := 1) (by kernel_rfl) hy
  have f2 := field_of (i := 2) (ft := 3) (off := 2) (by kernel_rfl) hy
  have hl : ts.length = 3 := f0.1.trans (by kernel_rfl)
  have f0 := f0.2
  have f1 := f1.2
  have f2 := f2.2
  rw [cells22, one_of (by omega)] at f0
  rw [cells3, one_of (by omega)] at f1 f2
  obtain ⟨l0, e0, m0, r0⟩ := ty_ints under22 cells3 under3 f0
  obtain ⟨b, eb, hb⟩ := ty_num under3 f1
  obtain ⟨m, em, hm⟩ := ty_num under3 f2
  refine ⟨⟨l0, b, m⟩, hb, hm, m0, fun h v k => ?_⟩
  obtain ⟨vs, rfl, hvl, hk⟩ := ag_inv k
  match vs, hvl with
  | [v0, v1, v2], _ =>
  have k0 := hk 0 v0 _ rfl (List.getElem?_eq_getElem (by omega))
  have k1 := hk 1 v1 _ rfl (List.getElem?_eq_getElem (by omega))
  have k2 := hk 2 v2 _ rfl (List.getElem?_eq_getElem (by omega))
  rw [e0] at k0
  rw [show ts[1] = .num b from List.cons.inj eb |>.1] at k1
  rw [show ts[2] = .num m from List.cons.inj em |>.1] at k2
  have x1 := num_inv k1
  have x2 := num_inv k2
  subst x1 x2
  exact ⟨v0, rfl, k0.view⟩
  | [], h | [_], h | [_, _], h | _ :: _ :: _ :: _ :: _, h => simp [hl] at h
end Go.Proofs.Ytpiplaicnbapbaa
