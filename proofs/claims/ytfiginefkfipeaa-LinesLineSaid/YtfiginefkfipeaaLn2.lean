/- Contracts of the functions that LnL comes to. -/
import Derived.Test.YtfiginefkfipeaaLn1
set_option maxRecDepth 100000
set_option maxHeartbeats 1000000
set_option linter.unusedVariables false
set_option linter.unusedSectionVars false
set_option linter.unusedSimpArgs false
namespace Go.Proofs.Ytfiginefkfipeaa
open Go.Rx Go.RowKit
theorem ty34 : ∃ i, E.ty 34 = some i ∧ i.agg = true ∧ i.size = 3 := by
  have hs : (tiOf Try.prog 34).isSome = true := by kernel_rfl
  refine ⟨(tiOf Try.prog 34).get hs, ty_get (by kernel_rfl) (Option.some_get hs).symm, ?_, ?_⟩
  · kernel_rfl
  · kernel_rfl
theorem ty23 : ∃ i, E.ty 23 = some i ∧ i.agg = true ∧ i.size = 3 := by
  have hs : (tiOf Try.prog 23).isSome = true := by kernel_rfl
  refine ⟨(tiOf Try.prog 23).get hs, ty_get (by kernel_rfl) (Option.some_get hs).symm, ?_, ?_⟩
  · kernel_rfl
  · kernel_rfl
theorem storeAt_full {h : Hp} {r : Nat} {e : TypeId} {x : Bool} {cs vs : List Value} (hr : h.at r = some (.row e x cs)) (hl : vs.length = cs.length) (h1 : vs.all oneCell = true) (ho : over cs 0 vs = vs) : storeAt h r 0 vs = some (h.set r (.row e x vs)) := by
  unfold storeAt
  rw [hr]
  dsimp only
  rw [if_pos ⟨by omega, h1⟩, ho]
theorem gcdL_three (a b c : Int) : gcdL [a, b, c] = G3 a b c := by
  unfold gcdL G3
  simp
theorem natAbs_tdiv_le {x : Int} {g m : Nat} (h : x.natAbs ≤ m) : (x.tdiv g).natAbs ≤ m := by
  rw [Int.natAbs_tdiv]
  exact Nat.le_trans (Nat.div_le_self _ _) h
attribute [local irreducible] E idxN cellAt cellsAt storeAt callable helems hmoved lookIn findKey keyOk hentries Hp.at Hp.set Hp.lay arBits hupdated setAt CallP YieldP BoolOf IsWrap Rnd LoopP AppP CutP Int.tmod Int.tdiv Int.fdiv
section
variable [Unknowns]
theorem lowest_spec (v : Value) (l : List Int) (h : Hp) (hv : Ints h v l) (hl : l.length ≤ 1000) (hb : ∀ x ∈ l, x.natAbs ≤ 1000) (h0 : gcdL l ≠ 0) : CallP E 19 [v] h (fun r h' => r = slc h.next 0 l.length l.length ∧ h' = h.lay (.row 3 true (rowF l.length fun j => (l.getD j 0).tdiv (gcdL l)))) := by
  obtain ⟨a, cap, rfl, hc⟩ := id hv
  refine enter19 (by simp) ?_
  conv => whnf
  refine CallP.mono (divisor_spec _ l h hv hl hb) ?_
  rintro r h1 ⟨rfl, rfl⟩
  conv => whnf
  refine ⟨⟨by omega, by omega, by omega, by omega⟩, ?_⟩
  conv => whnf
  refine loop_inv (α := Nat) (fun k => [(14, int k), (13, int l.length), (12, .slice a l.length cap), (4, slc h1.next 0 l.length l.length), (3, int (gcdL l))]) (fun k => h1.lay (.row 3 true (rowF l.length fun j => if j < k then (l.getD j 0).tdiv (gcdL l) else 0))) (fun k => k ≤ l.length) (fun k => l.length - k) 0 (by omega) ⟨rfl, rfl, rfl, rfl, rfl, trivial⟩ ?_ ?_
  · have e : rowF l.length (fun k => if k < 0 then (l.getD k 0).tdiv (gcdL l) else 0) = times [int 0] l.length := by
      rw [times_zero, rowF_congr (g := fun _ => 0) (fun k _ => by simp)]
    rw [e]; exact Hp.Le.refl _
  rintro k φ hk
  dsimp only at hk ⊢
  conv => whnf
  refine cmpB (fun hb1 => ?_) (fun hb1 => ?_)
  rotate_left
  · conv => whnf
    refine ⟨rfl, ?_⟩
    have : k = l.length := by omega
    subst this
    exact congrArg (fun cs => h1.lay (.row 3 true cs)) (rowF_congr fun j hj => by rw [if_pos hj])
  have hk' : k < l.length := by omega
  obtain ⟨r, of, sp, rfl, hsp, hcell⟩ := hc k hk'
  have hlk := hb _ (List.getElem_mem hk')
  have hq := natAbs_tdiv_le (g := gcdL l) hlk
  conv => whnf
  refine ⟨hsp, ⟨by omega, by omega⟩, ?_⟩
  conv => whnf
  refine ⟨_, (Grows.lay _ _).cell hcell, ?_⟩
  conv => whnf
  refine ⟨by omega, _, wid (by omega), ?_⟩
  conv => whnf
  refine ⟨rfl, ⟨by omega, by omega⟩, ?_⟩
  conv => whnf
  have hof : offAt 0 (k : Int).toNat 1 = k := by rw [offAt_eq]; omega
  refine ⟨rfl, _, storeAt_lay (by rw [rowF_length]; omega) rfl, ?_⟩
  conv => whnf
  refine ⟨_, wid (by omega), ?_⟩
  conv => whnf
  refine Rnd.mk (k + 1) (by show k + 1 ≤ _; omega) (by show l.length - (k + 1) < l.length - k; omega) ⟨rfl, rfl, rfl, rfl, rfl, trivial⟩ ?_ rfl
  have e : (rowF l.length fun j => if j < k then (l.getD j 0).tdiv (gcdL l) else 0).set k (int (l[k].tdiv (gcdL l))) = rowF l.length fun j => if j < k + 1 then (l.getD j 0).tdiv (gcdL l) else 0 := by
    rw [rowF_set]
    refine rowF_congr fun j hj => ?_
    by_cases h1 : j = k
    · subst h1
      rw [if_pos rfl, if_pos (by omega)]
      simp [hk']
    · rw [if_neg h1]
      by_cases h2 : j < k
      · rw [if_pos h2, if_pos (by omega)]
      · rw [if_neg h2, if_neg (by omega)]
  show Hp.Le (h1.lay (.row 3 true (rowF l.length fun j => if j < k + 1 then (l.getD j 0).tdiv (gcdL l) else 0))) (h1.lay (.row 3 true ((rowF l.length fun j => if j < k then (l.getD j 0).tdiv (gcdL l) else 0).set (offAt 0 (k : Int).toNat 1) (int (l[k].tdiv (gcdL l))))))
  rw [hof, e]
  exact Hp.Le.refl _
end
section
variable [Unknowns]
attribute [local irreducible] SeqP finP ResP
theorem line_spec (a b c : Int) (h : Hp) (ha : a.natAbs ≤ 1000) (hb : b.natAbs ≤ 1000) (hc : c.natAbs ≤ 1000) (hab : a ≠ 0 ∨ b ≠ 0) : CallP E 8 [int a, int b, int c] h (fun r h' => r = .agg ⟨[int (lx a b c a), int (lx a b c b), int (lx a b c c)]⟩ ∧ Grows h h') := by
  obtain ⟨i, hi, hag, hs⟩ := ty34
  refine enter8 (by simp) ?_
  conv => whnf
  refine SeqP.go ?_
  conv => whnf
  obtain ⟨A, hA⟩ : ∃ A, A = if Flip a b then -a else a := ⟨_, rfl⟩
  obtain ⟨B, hB⟩ : ∃ B, B = if Flip a b then -b else b := ⟨_, rfl⟩
  obtain ⟨C, hC⟩ : ∃ C, C = if Flip a b then -c else c := ⟨_, rfl⟩
  have bA : A.natAbs ≤ 1000 := by rw [hA]; split <;> omega
  have bB : B.natAbs ≤ 1000 := by rw [hB]; split <;> omega
  have bC : C.natAbs ≤ 1000 := by rw [hC]; split <;> omega
  have nA : A.natAbs = a.natAbs := by rw [hA]; split <;> omega
  have nB : B.natAbs = b.natAbs := by rw [hB]; split <;> omega
  have nC : C.natAbs = c.natAbs := by rw [hC]; split <;> omega
  have hG : gcdL [A, B, C] = G3 a b c := by rw [gcdL_three]; unfold G3; rw [nA, nB, nC]
  have hp := G3_pos (c := c) hab
  refine SeqP.cut (α := Unit) (fun _ => [(0, int A), (1, int B), (2, int C), (6, ptr h.next 0)]) (fun _ h' => h' = h.lay (.row 34 true [int 0, int 0, int 0])) ?_ ?_
  · conv => whnf
    refine SeqP.go ?_
    conv => whnf
    by_cases ca : a < 0
    · have hf : Flip a b := .inl ca
      refine cmpT ca ?_
      conv => whnf
      refine resP_val (v := int (-a)) (h := h.lay (.row 34 true [int 0, int 0, int 0])) ?_ ?_
      · conv => lhs; whnf
        exact congrArg (HRes.val · _) (neg_eq (by omega))
      conv => whnf
      refine resP_val (v := int (-b)) (h := h.lay (.row 34 true [int 0, int 0, int 0])) ?_ ?_
      · conv => lhs; whnf
        exact congrArg (HRes.val · _) (neg_eq (by omega))
      conv => whnf
      refine resP_val (v := int (-c)) (h := h.lay (.row 34 true [int 0, int 0, int 0])) ?_ ?_
      · conv => lhs; whnf
        exact congrArg (HRes.val · _) (neg_eq (by omega))
      conv => whnf
      exact ⟨(), ⟨by show int _ = int _; rw [hA, if_pos hf], by show int _ = int _; rw [hB, if_pos hf], by show int _ = int _; rw [hC, if_pos hf], rfl, trivial⟩, rfl, rfl⟩
    refine cmpF ca ?_
    conv => whnf
    by_cases ca0 : a = 0
    · refine cmpT ca0 ?_
      conv => whnf
      by_cases cb : b < 0
      · have hf : Flip a b := .inr ⟨ca0, cb⟩
        refine cmpT cb ?_
        conv => whnf
        refine resP_val (v := int (-a)) (h := h.lay (.row 34 true [int 0, int 0, int 0])) ?_ ?_
        · conv => lhs; whnf
          exact congrArg (HRes.val · _) (neg_eq (by omega))
        conv => whnf
        refine resP_val (v := int (-b)) (h := h.lay (.row 34 true [int 0, int 0, int 0])) ?_ ?_
        · conv => lhs; whnf
          exact congrArg (HRes.val · _) (neg_eq (by omega))
        conv => whnf
        refine resP_val (v := int (-c)) (h := h.lay (.row 34 true [int 0, int 0, int 0])) ?_ ?_
        · conv => lhs; whnf
          exact congrArg (HRes.val · _) (neg_eq (by omega))
        conv => whnf
        exact ⟨(), ⟨by show int _ = int _; rw [hA, if_pos hf], by show int _ = int _; rw [hB, if_pos hf], by show int _ = int _; rw [hC, if_pos hf], rfl, trivial⟩, rfl, rfl⟩
      refine cmpF cb ?_
      conv => whnf
      have hf : ¬ Flip a b := by unfold Flip; omega
      exact ⟨(), ⟨by show int _ = int _; rw [hA, if_neg hf], by show int _ = int _; rw [hB, if_neg hf], by show int _ = int _; rw [hC, if_neg hf], rfl, trivial⟩, rfl, rfl⟩
    refine cmpF ca0 ?_
    conv => whnf
    have hf : ¬ Flip a b := by unfold Flip; omega
    exact ⟨(), ⟨by show int _ = int _; rw [hA, if_neg hf], by show int _ = int _; rw [hB, if_neg hf], by show int _ = int _; rw [hC, if_neg hf], rfl, trivial⟩, rfl, rfl⟩
  rintro ⟨⟩ φ h1 rfl
  conv => whnf
  refine SeqP.go ?_
  conv => whnf
  refine CallP.mono (lowest_spec _ [A, B, C] _ (ints_of_row (l := [A, B, C]) (Hp.at_lay_self _ _) ?_) (by simp) (by simp; exact ⟨bA, bB, bC⟩) (by rw [hG]; omega)) ?_
  · intro k hk
    have hk3 : k = 0 ∨ k = 1 ∨ k = 2 := by simp at hk; omega
    rcases hk3 with rfl | rfl | rfl <;> rfl
  rintro r h2 ⟨rfl, rfl⟩
  conv => whnf
  refine SeqP.go ?_
  conv => whnf
  have hq1 : A.tdiv (gcdL [A, B, C]) = lx a b c a := by rw [hG, hA]; rfl
  have hq2 : B.tdiv (gcdL [A, B, C]) = lx a b c b := by rw [hG, hB]; rfl
  have hq3 : C.tdiv (gcdL [A, B, C]) = lx a b c c := by rw [hG, hC]; rfl
  refine ⟨rfl, ⟨by omega, by simp⟩, ?_⟩
  conv => whnf
  refine ⟨int (lx a b c a), cellAt_lay (by rw [← hq1]; rfl), ?_⟩
  conv => whnf
  refine ⟨rfl, ⟨by omega, by simp⟩, ?_⟩
  conv => whnf
  refine ⟨int (lx a b c b), cellAt_lay (by rw [← hq2]; rfl), ?_⟩
  conv => whnf
  refine ⟨rfl, ⟨by omega, by simp⟩, ?_⟩
  conv => whnf
  refine ⟨int (lx a b c c), cellAt_lay (by rw [← hq3]; rfl), ?_⟩
  conv => whnf
  refine ⟨rfl, _, storeAt_full (Hp.at_lay_old _ (Hp.at_lay_old _ (Hp.at_lay_self _ _))) rfl rfl rfl, ?_⟩
  conv => whnf
  refine leave_cell (cs := [int (lx a b c a), int (lx a b c b), int (lx a b c c)]) rfl hi hag ?_ ⟨rfl, (((Grows.lay _ _).then_lay _).then_lay _).then_set _ (Nat.le_refl _)⟩
  rw [hs]
  exact cellsAt_row (Hp.at_set_self _ (by rw [Hp.next_lay, Hp.next_lay, Hp.next_lay]; omega)) (by simp)
end
end Go.Proofs.Ytfiginefkfipeaa
