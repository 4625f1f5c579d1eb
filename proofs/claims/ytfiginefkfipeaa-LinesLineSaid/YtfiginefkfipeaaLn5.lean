/- Contracts of the functions that LnL comes to. -/
import Derived.Test.YtfiginefkfipeaaLn4
set_option maxRecDepth 100000
set_option maxHeartbeats 1000000
set_option linter.unusedVariables false
set_option linter.unusedSectionVars false
set_option linter.unusedSimpArgs false
namespace Go.Proofs.Ytfiginefkfipeaa
open Go.Rx Go.RowKit
theorem quo_val {x y r : Int} {h : Hp} (hy : y ≠ 0) (e : x.tdiv y = r) (b : r.natAbs ≤ 1000) : hval h (arK .i64 .quo x y) = .val (int r) h := by
  unfold arK
  dsimp only
  rw [if_neg hy, e, wrapI_id ⟨by omega, by omega⟩]
  rfl
theorem sameV_three (x y z : Int) : sameV 4 (.agg ⟨[int x, int y, int z]⟩) (.agg ⟨[int x, int y, int z]⟩) = true := by
  have q : ∀ n : Int, eqI n n = true := fun n => by unfold eqI; cases n <;> simp
  simp [sameV, sameL, q]
attribute [local irreducible] E idxN cellAt cellsAt storeAt callable helems hmoved lookIn findKey keyOk hentries Hp.at Hp.set Hp.lay arBits hupdated setAt CallP YieldP BoolOf IsWrap Rnd LoopP AppP CutP Int.tmod Int.tdiv Int.fdiv
section
variable [Unknowns]
attribute [local irreducible] SeqP finP ResP sameAt
theorem ref_spec (a b c d : Int) (h : Hp) (hgood : ¬ Bad a b c d) : CallP E 5 [.agg ⟨[int a, int b]⟩, .agg ⟨[int c, int d]⟩] h (fun r h' => r = .tuple ⟨[.agg ⟨[int (l0 a b c d), int (l1 a b c d), int (l2 a b c d)]⟩, .bool (decide ((l0 a b c d).natAbs ≤ 20 ∧ (l1 a b c d).natAbs ≤ 20 ∧ (l2 a b c d).natAbs ≤ 20))]⟩ ∧ Grows h h') := by
  obtain ⟨i, hi, hag, hs⟩ := ty23
  have hg4 : a.natAbs ≤ 4 ∧ b.natAbs ≤ 4 ∧ c.natAbs ≤ 4 ∧ d.natAbs ≤ 4 := by unfold Bad at hgood; omega
  have hne : ¬ (a = c ∧ b = d) := by unfold Bad at hgood; omega
  have bA : (lA a b c d).natAbs ≤ 8 := by unfold lA; omega
  have bB : (lB a b c d).natAbs ≤ 8 := by unfold lB; omega
  have bM := mul_bd (k := 32) bA hg4.1 (by omega)
  have bN := mul_bd (k := 32) bB hg4.2.1 (by omega)
  have bC : (lC a b c d).natAbs ≤ 64 := by unfold lC; omega
  have hnz : lA a b c d ≠ 0 ∨ lB a b c d ≠ 0 := by unfold lA lB; omega
  obtain ⟨A, hA⟩ : ∃ A, lA a b c d = A := ⟨_, rfl⟩
  obtain ⟨B, hB⟩ : ∃ B, lB a b c d = B := ⟨_, rfl⟩
  obtain ⟨C, hC⟩ : ∃ C, lC a b c d = C := ⟨_, rfl⟩
  rw [hA] at bA hnz bM
  rw [hB] at bB hnz bN
  rw [hC] at bC
  have e0 : l0 a b c d = lx A B C A := by unfold l0; rw [hA, hB, hC]
  have e1 : l1 a b c d = lx A B C B := by unfold l1; rw [hA, hB, hC]
  have e2 : l2 a b c d = lx A B C C := by unfold l2; rw [hA, hB, hC]
  have hp2 : (((h.lay (.row 22 true [int a, int b])).lay (.row 22 true [int c, int d])).lay (.row 23 true [int 0, int 0, int 0])).at h.next = some (.row 22 true [int a, int b]) := Hp.at_lay_old _ (Hp.at_lay_old _ (Hp.at_lay_self _ _))
  have hp3 : (((h.lay (.row 22 true [int a, int b])).lay (.row 22 true [int c, int d])).lay (.row 23 true [int 0, int 0, int 0])).at (h.lay (.row 22 true [int a, int b])).next = some (.row 22 true [int c, int d]) := Hp.at_lay_old _ (Hp.at_lay_self _ _)
  have hp4 : (((h.lay (.row 22 true [int a, int b])).lay (.row 22 true [int c, int d])).lay (.row 23 true [int 0, int 0, int 0])).at ((h.lay (.row 22 true [int a, int b])).lay (.row 22 true [int c, int d])).next = some (.row 23 true [int 0, int 0, int 0]) := Hp.at_lay_self _ _
  have hgr : Grows h (((h.lay (.row 22 true [int a, int b])).lay (.row 22 true [int c, int d])).lay (.row 23 true [int 0, int 0, int 0])) := ((Grows.lay _ _).then_lay _).then_lay _
  refine enter5 (by simp) ?_
  conv => whnf
  refine SeqP.go ?_
  conv => whnf
  refine SeqP.go ?_
  conv => whnf
  refine ⟨⟨by omega, by omega⟩, ?_⟩
  conv => whnf
  refine ⟨int d, cellAt_row hp3 rfl, ?_⟩
  conv => whnf
  refine ⟨⟨by omega, by omega⟩, ?_⟩
  conv => whnf
  refine ⟨int b, cellAt_row hp2 rfl, ?_⟩
  conv => whnf
  refine ⟨A, wie (by rw [← hA]; rfl) (by omega), ?_⟩
  conv => whnf
  refine ⟨⟨by omega, by omega⟩, ?_⟩
  conv => whnf
  refine ⟨int a, cellAt_row hp2 rfl, ?_⟩
  conv => whnf
  refine ⟨⟨by omega, by omega⟩, ?_⟩
  conv => whnf
  refine ⟨int c, cellAt_row hp3 rfl, ?_⟩
  conv => whnf
  refine ⟨B, wie (by rw [← hB]; rfl) (by omega), ?_⟩
  conv => whnf
  refine SeqP.go ?_
  conv => whnf
  refine ⟨⟨by omega, by omega⟩, ?_⟩
  conv => whnf
  refine ⟨int a, cellAt_row hp2 rfl, ?_⟩
  conv => whnf
  refine ⟨_, wid (by omega), ?_⟩
  conv => whnf
  refine ⟨⟨by omega, by omega⟩, ?_⟩
  conv => whnf
  refine ⟨int b, cellAt_row hp2 rfl, ?_⟩
  conv => whnf
  refine ⟨_, wid (by omega), ?_⟩
  conv => whnf
  refine ⟨C, wie (by rw [← hC]; unfold lC; rw [hA, hB]) (by omega), ?_⟩
  conv => whnf
  refine SeqP.go ?_
  conv => whnf
  refine CallP.mono (gcd_spec _ _ _ (by omega) (by omega)) ?_
  rintro r h1 ⟨rfl, rfl⟩
  have hgb : Nat.gcd A.natAbs B.natAbs ≤ 1000 := gcd_le' (by omega) (by omega)
  conv => whnf
  refine CallP.mono (gcd_spec _ _ _ (by omega) (by omega)) ?_
  rintro r h1 ⟨rfl, rfl⟩
  conv => whnf
  have hGp := G3_pos (c := C) hnz
  have hGb : G3 A B C ≤ 1000 := gcd_le' (gcd_le' (by omega) (by omega)) (by omega)
  have hGe : Nat.gcd ((Nat.gcd A.natAbs B.natAbs : Nat) : Int).natAbs C.natAbs = G3 A B C := rfl
  obtain ⟨D, hD⟩ : ∃ D : Int, D = if Flip A B then -(G3 A B C : Int) else (G3 A B C : Int) := ⟨_, rfl⟩
  have hD0 : D ≠ 0 := by rw [hD]; split <;> omega
  have q0 : A.tdiv D = lx A B C A := by rw [hD]; exact lx_ref A B C A
  have q1 : B.tdiv D = lx A B C B := by rw [hD]; exact lx_ref A B C B
  have q2 : C.tdiv D = lx A B C C := by rw [hD]; exact lx_ref A B C C
  refine SeqP.cut (α := Unit) (fun _ => [(9, int D), (6, int A), (7, int B), (8, int C), (2, ptr h.next 0), (3, ptr (h.lay (.row 22 true [int a, int b])).next 0), (4, ptr ((h.lay (.row 22 true [int a, int b])).lay (.row 22 true [int c, int d])).next 0)]) (fun _ h' => h' = (((h.lay (.row 22 true [int a, int b])).lay (.row 22 true [int c, int d])).lay (.row 23 true [int 0, int 0, int 0]))) ?_ ?_
  · conv => whnf
    refine SeqP.go ?_
    conv => whnf
    by_cases ca : A < 0
    · have hf : Flip A B := .inl ca
      refine cmpT ca ?_
      conv => whnf
      refine resP_val (v := int (-(G3 A B C : Int))) (h := (((h.lay (.row 22 true [int a, int b])).lay (.row 22 true [int c, int d])).lay (.row 23 true [int 0, int 0, int 0]))) ?_ ?_
      · conv => lhs; whnf
        exact congrArg (HRes.val · _) (neg_eq (n := (Nat.gcd ((Nat.gcd A.natAbs B.natAbs : Nat) : Int).natAbs C.natAbs : Nat)) (by omega))
      conv => whnf
      exact ⟨(), ⟨by show int _ = int _; rw [hD, if_pos hf], rfl, rfl, rfl, rfl, rfl, rfl, trivial⟩, rfl, rfl⟩
    refine cmpF ca ?_
    conv => whnf
    by_cases ca0 : A = 0
    · refine cmpT ca0 ?_
      conv => whnf
      by_cases cb : B < 0
      · have hf : Flip A B := .inr ⟨ca0, cb⟩
        refine cmpT cb ?_
        conv => whnf
        refine resP_val (v := int (-(G3 A B C : Int))) (h := (((h.lay (.row 22 true [int a, int b])).lay (.row 22 true [int c, int d])).lay (.row 23 true [int 0, int 0, int 0]))) ?_ ?_
        · conv => lhs; whnf
          exact congrArg (HRes.val · _) (neg_eq (n := (Nat.gcd ((Nat.gcd A.natAbs B.natAbs : Nat) : Int).natAbs C.natAbs : Nat)) (by omega))
        conv => whnf
        exact ⟨(), ⟨by show int _ = int _; rw [hD, if_pos hf], rfl, rfl, rfl, rfl, rfl, rfl, trivial⟩, rfl, rfl⟩
      have hf : ¬ Flip A B := by unfold Flip; omega
      refine cmpF cb ?_
      conv => whnf
      exact ⟨(), ⟨by show int _ = int _; rw [hD, if_neg hf]; rfl, rfl, rfl, rfl, rfl, rfl, rfl, trivial⟩, rfl, rfl⟩
    have hf : ¬ Flip A B := by unfold Flip; omega
    refine cmpF ca0 ?_
    conv => whnf
    exact ⟨(), ⟨by show int _ = int _; rw [hD, if_neg hf]; rfl, rfl, rfl, rfl, rfl, rfl, rfl, trivial⟩, rfl, rfl⟩
  rintro ⟨⟩ φ h1 rfl
  have t0 := lx_bd (a := A) (b := B) (c := C) (x := A) (m := 1000) (by omega)
  have t1 := lx_bd (a := A) (b := B) (c := C) (x := B) (m := 1000) (by omega)
  have t2 := lx_bd (a := A) (b := B) (c := C) (x := C) (m := 1000) (by omega)
  conv => whnf
  refine SeqP.go ?_
  conv => whnf
  refine ⟨hD0, _, wie q0 (by omega), ?_⟩
  conv => whnf
  refine ⟨hD0, _, wie q1 (by omega), ?_⟩
  conv => whnf
  refine ⟨hD0, _, wie q2 (by omega), ?_⟩
  conv => whnf
  refine ⟨rfl, _, storeAt_all rfl rfl rfl, ?_⟩
  conv => whnf
  refine ⟨?_, ?_⟩
  · repeat' (first | exact True.intro | (refine And.intro ?_ ?_ <;> (conv => whnf)))
    all_goals first
      | exact sameAt_val (h2 := _) rfl (sameV_int _)
      | exact sameAt_val (h2 := _) (show hval _ (arK .i64 .quo A D) = _ from quo_val hD0 q0 t0) (sameV_int _)
      | exact sameAt_val (h2 := _) (show hval _ (arK .i64 .quo B D) = _ from quo_val hD0 q1 t1) (sameV_int _)
      | exact sameAt_val (h2 := _) (show hval _ (arK .i64 .quo C D) = _ from quo_val hD0 q2 t2) (sameV_int _)
      | exact sameAt_val (h2 := _) rfl (sameV_three _ _ _)
  conv => whnf
  obtain ⟨H5, hH5⟩ : ∃ H5, H5 = (((h.lay (.row 22 true [int a, int b])).lay (.row 22 true [int c, int d])).lay (.row 23 true [int 0, int 0, int 0])).lay (.row 23 true [int (lx A B C A), int (lx A B C B), int (lx A B C C)]) := ⟨_, rfl⟩
  have hq10 : ((((h.lay (.row 22 true [int a, int b])).lay (.row 22 true [int c, int d])).lay (.row 23 true [int 0, int 0, int 0])).lay (.row 23 true [int (lx A B C A), int (lx A B C B), int (lx A B C C)])).at (((h.lay (.row 22 true [int a, int b])).lay (.row 22 true [int c, int d])).lay (.row 23 true [int 0, int 0, int 0])).next = some (.row 23 true [int (lx A B C A), int (lx A B C B), int (lx A B C C)]) := Hp.at_lay_self _ _
  have hq4 : ((((h.lay (.row 22 true [int a, int b])).lay (.row 22 true [int c, int d])).lay (.row 23 true [int 0, int 0, int 0])).lay (.row 23 true [int (lx A B C A), int (lx A B C B), int (lx A B C C)])).at ((h.lay (.row 22 true [int a, int b])).lay (.row 22 true [int c, int d])).next = some (.row 23 true [int 0, int 0, int 0]) := Hp.at_lay_old _ hp4
  refine SeqP.go ?_
  conv => whnf
  refine ⟨[int (lx A B C A), int (lx A B C B), int (lx A B C C)], cellsAt_all rfl, ?_⟩
  conv => whnf
  refine ⟨[int (lx A B C A), int (lx A B C B), int (lx A B C C)], cellsAt_all rfl, ?_⟩
  conv => whnf
  refine CallP.mono (rline_spec _ _ _ _ ⟨t0, t1, t2⟩ (lx_sign hnz) (lx_gcd hnz)) ?_
  rintro r h6 ⟨hr, hg6⟩
  have hk4 := hg6.at_ _ _ hq4
  have hk10 := hg6.at_ _ _ hq10
  have hgf : Grows h h6 := (hgr.then_lay _).trans hg6
  have hle : h.next ≤ ((h.lay (.row 22 true [int a, int b])).lay (.row 22 true [int c, int d])).next := ((Grows.lay _ _).then_lay _).next
  have hlt : ((h.lay (.row 22 true [int a, int b])).lay (.row 22 true [int c, int d])).next < h6.next := by
    have h7 := hg6.next
    rw [Hp.next_lay, Hp.next_lay] at h7
    omega
  obtain ⟨bb, hbb⟩ : ∃ bb, bb = decide ((lx A B C A).natAbs ≤ 20 ∧ (lx A B C B).natAbs ≤ 20 ∧ (lx A B C C).natAbs ≤ 20) := ⟨_, rfl⟩
  rw [← hbb] at hr
  subst hr
  conv => whnf
  refine ⟨rfl, _, storeAt_full hk4 rfl rfl rfl, ?_⟩
  conv => whnf
  refine ⟨?_, ?_⟩
  · repeat' (first | exact True.intro | (refine And.intro ?_ ?_ <;> (conv => whnf)))
    all_goals first
      | exact sameAt_val (h2 := ((((h.lay (.row 22 true [int a, int b])).lay (.row 22 true [int c, int d])).lay (.row 23 true [int 0, int 0, int 0])).lay (.row 23 true [int (lx A B C A), int (lx A B C B), int (lx A B C C)]))) (show hval ((((h.lay (.row 22 true [int a, int b])).lay (.row 22 true [int c, int d])).lay (.row 23 true [int 0, int 0, int 0])).lay (.row 23 true [int (lx A B C A), int (lx A B C B), int (lx A B C C)])) (aggOf (cellsAt ((((h.lay (.row 22 true [int a, int b])).lay (.row 22 true [int c, int d])).lay (.row 23 true [int 0, int 0, int 0])).lay (.row 23 true [int (lx A B C A), int (lx A B C B), int (lx A B C C)])) (((h.lay (.row 22 true [int a, int b])).lay (.row 22 true [int c, int d])).lay (.row 23 true [int 0, int 0, int 0])).next 0 3)) = _ from congrArg (fun z => hval ((((h.lay (.row 22 true [int a, int b])).lay (.row 22 true [int c, int d])).lay (.row 23 true [int 0, int 0, int 0])).lay (.row 23 true [int (lx A B C A), int (lx A B C B), int (lx A B C C)])) (aggOf z)) (cellsAt_row hq10 (by simp))) (sameV_three _ _ _)
      | exact sameAt_val (h2 := _) (show hval _ (aggOf (cellsAt _ (((h.lay (.row 22 true [int a, int b])).lay (.row 22 true [int c, int d])).lay (.row 23 true [int 0, int 0, int 0])).next 0 3)) = _ by rw [cellsAt_row hk10 (by simp)]; rfl) (sameV_three _ _ _)
  conv => whnf
  rw [e0, e1, e2, ← hbb]
  refine leave_cell2 (cs := [int (lx A B C A), int (lx A B C B), int (lx A B C C)]) (w := .bool bb) rfl rfl rfl hi hag (by rw [hs]; exact cellsAt_row (Hp.at_set_self _ hlt) (by simp)) ⟨rfl, hgf.then_set _ hle⟩
end
end Go.Proofs.Ytfiginefkfipeaa
