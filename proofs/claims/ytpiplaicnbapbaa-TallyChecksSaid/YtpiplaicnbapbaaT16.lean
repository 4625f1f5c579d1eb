/- Contracts of the functions that T27 comes to. -/
import Derived.Test.YtpiplaicnbapbaaT14
set_option maxRecDepth 100000
set_option maxHeartbeats 2000000
set_option linter.unusedVariables false
set_option linter.unusedSectionVars false
set_option linter.unusedSimpArgs false
namespace Go.Proofs.Ytpiplaicnbapbaa
open Go.Rx Go.RowKit
/-- Two of a crowd can meet by a rule. -/
def Allowed (c : List Int) (q : Q4) : Prop := if q.a = q.b then 1 < gl c q.a.toNat else 0 < gl c q.a.toNat ∧ 0 < gl c q.b.toNat
instance (c : List Int) (q : Q4) : Decidable (Allowed c q) := by unfold Allowed; infer_instance
def after (c : List Int) (q : Q4) : List Int := bump (bump (bump (bump c (q.a, -1)) (q.b, -1)) (q.c, 1)) (q.d, 1)
theorem after_len (c : List Int) (q : Q4) : (after c q).length = c.length := by unfold after; rw [bump_len, bump_len, bump_len, bump_len]
theorem gl_bump {l : List Int} {x : Int × Int} (h : x.1.toNat < l.length) (i : Nat) : gl (bump l x) i = if i = x.1.toNat then gl l i + x.2 else gl l i := by
  unfold bump
  rw [gl_set h]
  split
  · rename_i e; rw [e]
  · rfl
theorem sum_set : ∀ {l : List Int} {i : Nat} (h : i < l.length) (y : Int), (l.set i y).sum = l.sum - gl l i + y
  | [], i, h, y => by simp at h
  | x :: l, 0, h, y => by simp [gl]; omega
  | x :: l, i + 1, h, y => by
    have := sum_set (l := l) (i := i) (by simpa using h) y
    simp only [List.set_cons_succ, List.sum_cons, this]
    have : gl (x :: l) (i + 1) = gl l i := by simp [gl]
    rw [this]; omega
theorem sum_bump {l : List Int} {x : Int × Int} (h : x.1.toNat < l.length) : (bump l x).sum = l.sum + x.2 := by unfold bump; rw [sum_set h]; omega
def ind (i j : Nat) : Int := if i = j then 1 else 0
theorem ind_bd (i j : Nat) : 0 ≤ ind i j ∧ ind i j ≤ 1 := by unfold ind; split <;> omega
theorem ind_eq {i j : Nat} (h : i = j) : ind i j = 1 := if_pos h
theorem ind_ne {i j : Nat} (h : i ≠ j) : ind i j = 0 := if_neg h
theorem gl_bump2 {l : List Int} {j x : Int} (h : j.toNat < l.length) (i : Nat) : gl (bump l (j, x)) i = gl l i + x * ind i j.toNat := by
  rw [gl_bump h]
  unfold ind
  dsimp only
  split <;> omega
theorem gl_after {n : Nat} {c : List Int} {q : Q4} (hl : c.length = n) (h : q.a.toNat < n ∧ q.b.toNat < n ∧ q.c.toNat < n ∧ q.d.toNat < n) (i : Nat) : gl (after c q) i = gl c i - ind i q.a.toNat - ind i q.b.toNat + ind i q.c.toNat + ind i q.d.toNat := by
  obtain ⟨h1, h2, h3, h4⟩ := h
  have b1 : (bump c (q.a, -1)).length = n := by rw [bump_len, hl]
  have b2 : (bump (bump c (q.a, -1)) (q.b, -1)).length = n := by rw [bump_len, b1]
  have b3 : (bump (bump (bump c (q.a, -1)) (q.b, -1)) (q.c, 1)).length = n := by rw [bump_len, b2]
  unfold after
  rw [gl_bump2 (by omega), gl_bump2 (by omega), gl_bump2 (by omega), gl_bump2 (by omega)]
  omega
/-- A crowd of n states. -/
structure CrOk (n : Nat) (c : List Int) : Prop where
  len : c.length = n
  nn : ∀ i, 0 ≤ gl c i
  s1 : 1 ≤ c.sum
  s9 : c.sum ≤ 9
theorem gl_out {l : List Int} {i : Nat} (h : l.length ≤ i) : gl l i = 0 := by
  unfold gl; rw [List.getD_eq_getElem?_getD, List.getElem?_eq_none h]; rfl
theorem gl_mem {l : List Int} {p : Int → Prop} (h : ∀ x ∈ l, p x) (h0 : p 0) (i : Nat) : p (gl l i) := by
  by_cases hi : i < l.length
  · rw [gl_at hi]; exact h _ (List.getElem_mem hi)
  · rw [gl_out (by omega)]; exact h0
theorem CrOk.of {n : Nat} {c : List Int} (h : Cnt c n) : CrOk n c := ⟨by have := h.1; omega, gl_mem (p := fun x => 0 ≤ x) (fun x hx => (h.2.1 x hx).1) (by omega), h.2.2.1, h.2.2.2⟩
theorem CrOk.all {n : Nat} {c : List Int} (h : CrOk n c) : ∀ x ∈ c, 0 ≤ x := fun x hx => by
  obtain ⟨i, hi, rfl⟩ := List.getElem_of_mem hx
  rw [← gl_at hi]
  exact h.nn i
theorem CrOk.le {n : Nat} {c : List Int} (h : CrOk n c) (i : Nat) : gl c i ≤ 9 := by
  by_cases hi : i < c.length
  · have := sum_le_of h.all (gl c i) (by rw [gl_at hi]; exact List.getElem_mem hi)
    have := h.s9
    omega
  · rw [gl_out (by omega)]; omega
theorem CrOk.cnt {n : Nat} {c : List Int} (h : CrOk n c) : Cnt c n := ⟨by have := h.len; omega, fun x hx => ⟨h.all x hx, by
  obtain ⟨i, hi, rfl⟩ := List.getElem_of_mem hx
  rw [← gl_at hi]
  exact h.le i⟩, h.s1, h.s9⟩
theorem qin {n : Nat} {q : Q4} (h : QIn n q) : q.a.toNat < n ∧ q.b.toNat < n ∧ q.c.toNat < n ∧ q.d.toNat < n := by unfold QIn at h; omega
theorem qin' {n : Nat} {q : Q4} (h : QIn n q) : (0 ≤ q.a ∧ q.a < n) ∧ (0 ≤ q.b ∧ q.b < n) ∧ (0 ≤ q.c ∧ q.c < n) ∧ (0 ≤ q.d ∧ q.d < n) := by unfold QIn at h; omega
theorem CrOk.after {n : Nat} {c : List Int} (h : CrOk n c) {q : Q4} (hq : QIn n q) (ha : Allowed c q) : CrOk n (after c q) := by
  obtain ⟨h1, h2, h3, h4⟩ := qin hq
  have hl := h.len
  have b1 : (bump c (q.a, -1)).length = n := by rw [bump_len, hl]
  have b2 : (bump (bump c (q.a, -1)) (q.b, -1)).length = n := by rw [bump_len, b1]
  have b3 : (bump (bump (bump c (q.a, -1)) (q.b, -1)) (q.c, 1)).length = n := by rw [bump_len, b2]
  have hs : (Ytpiplaicnbapbaa.after c q).sum = c.sum := by
    unfold Ytpiplaicnbapbaa.after
    rw [sum_bump (by show q.d.toNat < _; omega), sum_bump (by show q.c.toNat < _; omega), sum_bump (by show q.b.toNat < _; omega), sum_bump (by show q.a.toNat < _; omega)]
    dsimp only
    omega
  refine ⟨by rw [after_len, hl], fun i => ?_, by rw [hs]; exact h.s1, by rw [hs]; exact h.s9⟩
  rw [gl_after hl ⟨h1, h2, h3, h4⟩]
  have hi := h.nn i
  have hq' := qin' hq
  have x1 := ind_bd i q.a.toNat
  have x2 := ind_bd i q.b.toNat
  have x3 := ind_bd i q.c.toNat
  have x4 := ind_bd i q.d.toNat
  unfold Allowed at ha
  by_cases e : q.a = q.b
  · rw [if_pos e] at ha
    by_cases e1 : i = q.a.toNat
    · subst e1; omega
    · rw [ind_ne e1, ind_ne (by rw [← e]; exact e1)]; omega
  · rw [if_neg e] at ha
    by_cases e1 : i = q.a.toNat
    · have e2 : i ≠ q.b.toNat := by omega
      rw [ind_ne e2]
      subst e1; omega
    · rw [ind_ne e1]
      by_cases e2 : i = q.b.toNat
      · subst e2; omega
      · rw [ind_ne e2]; omega
/-- One rule of a way. -/
def step (R : List Q4) (c : List Int) (i : Int) : Option (List Int) := if h : 0 ≤ i ∧ i < R.length then (if Allowed c (R[i.toNat]'(by omega)) then some (after c (R[i.toNat]'(by omega))) else none) else none
def doW (R : List Q4) : List Int → List Int → List Int × Nat
  | c, [] => (c, 0)
  | c, i :: w => match step R c i with
    | none => (c, 0)
    | some c' => ((doW R c' w).1, (doW R c' w).2 + 1)
theorem doW_none {R : List Q4} {c : List Int} {i : Int} {w : List Int} (h : step R c i = none) : doW R c (i :: w) = (c, 0) := by
  show (match step R c i with | none => _ | some c' => _) = _
  rw [h]
theorem doW_some {R : List Q4} {c c' : List Int} {i : Int} {w : List Int} (h : step R c i = some c') : doW R c (i :: w) = ((doW R c' w).1, (doW R c' w).2 + 1) := by
  show (match step R c i with | none => _ | some c' => _) = _
  rw [h]
theorem step_ok {n : Nat} {R : List Q4} {c c' : List Int} {i : Int} (hR : ∀ x ∈ R, QIn n x) (hc : CrOk n c) (h : step R c i = some c') : CrOk n c' := by
  unfold step at h
  split at h
  · split at h
    · rename_i h1 h2
      cases h
      exact hc.after (hR _ (List.getElem_mem _)) h2
    · cases h
  · cases h
def pad5 (c : List Int) : List Int := c ++ List.replicate (5 - c.length) 0
theorem pad5_len {c : List Int} (h : c.length ≤ 5) : (pad5 c).length = 5 := by unfold pad5; rw [List.length_append, List.length_replicate]; omega
theorem gl_pad (c : List Int) (i : Nat) : gl (pad5 c) i = gl c i := by
  unfold pad5
  by_cases h : i < c.length
  · unfold gl
    rw [List.getD_eq_getElem?_getD, List.getElem?_append_left h, List.getD_eq_getElem?_getD]
  · rw [gl_out (l := c) (by omega)]
    unfold gl
    rw [List.getD_eq_getElem?_getD, List.getElem?_append_right (by omega), List.getElem?_replicate]
    split <;> rfl
theorem bump_pad {c : List Int} {x : Int × Int} (h : x.1.toNat < c.length) : bump (pad5 c) x = pad5 (bump c x) := by
  have e : (bump c x).length = c.length := bump_len ..
  unfold bump at e ⊢
  rw [gl_pad]
  unfold pad5
  rw [List.set_append_left _ _ h, e]
theorem pad5_take (c : List Int) : (pad5 c).take c.length = c := by unfold pad5; rw [List.take_left]
theorem over_part (a b : List Value) (h : a.length ≤ b.length) : over b 0 a = a ++ b.drop a.length := by
  have key : ∀ (a b pre : List Value), a.length ≤ b.length → over (pre ++ b) pre.length a = pre ++ (a ++ b.drop a.length) := by
    intro a
    induction a with
    | nil => intro b pre hb; rfl
    | cons x a ih =>
      intro b pre hb
      cases b with
      | nil => simp at hb
      | cons y b =>
        have h1 := ih b (pre ++ [x]) (by simpa using hb)
        have h2 : (pre ++ y :: b).set pre.length x = pre ++ [x] ++ b := by
          rw [List.set_append_right _ _ (Nat.le_refl _), Nat.sub_self]
          simp
        show over ((pre ++ y :: b).set pre.length x) (pre.length + 1) a = _
        rw [h2]
        rw [List.length_append, List.length_singleton] at h1
        rw [h1]
        simp
  exact key a b [] h
def zero5 : List Int := [0, 0, 0, 0, 0]
theorem pad_over {c : List Int} (h : c.length ≤ 5) : over (zero5.map int) 0 (c.map int) = (pad5 c).map int := by
  rw [over_part _ _ (by rw [List.length_map, List.length_map]; exact h)]
  unfold pad5
  rw [List.map_append, List.length_map]
  congr 1
  have : c.length = 0 ∨ c.length = 1 ∨ c.length = 2 ∨ c.length = 3 ∨ c.length = 4 ∨ c.length = 5 := by omega
  rcases this with e | e | e | e | e | e <;> rw [e] <;> rfl
theorem storeAt_over {H : Hp} {r : Nat} {e : TypeId} {x : Bool} {cs vs : List Value} (hr : H.at r = some (.row e x cs)) (hl : vs.length ≤ cs.length) (h1 : vs.all oneCell = true) : storeAt H r 0 vs = some (H.set r (.row e x (over cs 0 vs))) := by
  unfold storeAt
  rw [hr]
  dsimp only
  rw [if_pos ⟨by omega, h1⟩]
theorem copy5 {H : Hp} {r : Nat} {w : Value} {c : List Int} (hat : H.at r = some (.row 107 true (zero5.map int))) (hel : Elems H w c) (hc : c.length ≤ 5) : hcopyT H 1 (.slice (some ⟨r, 0, some 1⟩) 5 5) w = .val (int c.length) (H.set r (.row 107 true ((pad5 c).map int))) := by
  unfold hcopyT
  dsimp only
  rw [hel.1]
  dsimp only
  rw [Nat.min_eq_left hc, hel.2]
  unfold hcopyInto
  dsimp only
  rw [show voidSp (some 1) = false from rfl]
  dsimp only
  rw [storeAt_over hat (by rw [List.length_map, List.length_map]; exact hc) (ints_one _), pad_over hc]
  rfl
def ReadR (p : Prot) (c : List Int) (r : Value) : Prop := ∃ (l : List Int) (e : Int), r = .tuple ⟨[cv l, int e]⟩ ∧ l.length = 5 ∧ (¬ POk p → e = 60) ∧ (POk p → ¬ Cnt c p.n → e = 1) ∧ (POk p → Cnt c p.n → e = 0 ∧ l = pad5 c)
attribute [local irreducible] E idxN cellAt cellsAt storeAt callable helems hmoved lookIn findKey keyOk hentries Hp.at Hp.set Hp.lay arBits hupdated setAt CallP YieldP BoolOf IsWrap Rnd LoopP AppP CutP Int.tmod Int.tdiv Int.fdiv
section
variable [Unknowns]
attribute [local irreducible] ResP sameAt finP
theorem crowdOf_spec (w : Value) (c : List Int) (h : Hp) (hw : View h w c) (hc : c.length ≤ 5) : CallP E 101 [w] h (fun r h' => r = cv (pad5 c) ∧ Grows h h') := by
  obtain ⟨ak, ck, rfl⟩ := hw.known
  have hp5 := pad5_len hc
  have g2 : Grows h ((h.lay (.row 107 true (zero5.map int))).lay (.row 107 true (zero5.map int))) := (Grows.lay _ _).then_lay _
  have n1 : (h.lay (.row 107 true (zero5.map int))).next = h.next + 1 := Hp.next_lay _ _
  have hel := (hw.ext g2).elems
  have hat3 := Hp.at_lay_self (h.lay (.row 107 true (zero5.map int))) (.row 107 true (zero5.map int))
  refine enter101 (by simp) ?_
  conv => whnf
  repeat (refine SeqP.go ?_; conv => whnf)
  refine resP_cutA ?_ (by omega)
  conv => whnf
  refine resP_val (v := int c.length) (h := ((h.lay (.row 107 true (zero5.map int))).lay (.row 107 true (zero5.map int))).set (h.lay (.row 107 true (zero5.map int))).next (.row 107 true ((pad5 c).map int))) ?_ ?_
  · exact copy5 hat3 hel hc
  have hat4 : (((h.lay (.row 107 true (zero5.map int))).lay (.row 107 true (zero5.map int))).set (h.lay (.row 107 true (zero5.map int))).next (.row 107 true ((pad5 c).map int))).at (h.lay (.row 107 true (zero5.map int))).next = some (.row 107 true ((pad5 c).map int)) := Hp.at_set_self _ (Hp.lt_of_at hat3)
  have hat5 : (((h.lay (.row 107 true (zero5.map int))).lay (.row 107 true (zero5.map int))).set (h.lay (.row 107 true (zero5.map int))).next (.row 107 true ((pad5 c).map int))).at h.next = some (.row 107 true (zero5.map int)) := by
    rw [Hp.at_set_ne _ (by rw [n1]; omega)]
    exact Hp.at_lay_old _ (Hp.at_lay_self _ _)
  conv => whnf
  repeat (refine SeqP.go ?_; conv => whnf)
  refine ⟨(pad5 c).map int, all_cells hat4 (by rw [List.length_map, hp5]), ?_⟩
  conv => whnf
  refine ⟨by show ((pad5 c).map int).length = 5; rw [List.length_map, hp5], _, storeAt_full (vs := (pad5 c).map int) hat5 (by rw [List.length_map, hp5]; rfl) (ints_one _) (over_int (k := zero5) (by rw [hp5]; rfl)), ?_⟩
  conv => whnf
  repeat (refine SeqP.go ?_; conv => whnf)
  obtain ⟨i107, t107, ag107, sz107⟩ := ty107
  refine leave_cell (r := h.next) (o := 0) (cs := (pad5 c).map int) rfl t107 ag107 ?_ ⟨rfl, (g2.then_set _ (by rw [n1]; omega)).then_set _ (Nat.le_refl _)⟩
  rw [sz107]
  exact all_cells (Hp.at_set_self _ (Hp.lt_of_at hat5)) (by rw [List.length_map, hp5])
end
end Go.Proofs.Ytpiplaicnbapbaa
