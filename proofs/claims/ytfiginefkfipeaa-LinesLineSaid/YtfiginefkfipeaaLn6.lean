/- Contracts of the functions that LnL comes to. -/
import Derived.Test.YtfiginefkfipeaaLn5
import Derived.Test.YtfiginefkfipeaaLnAwake
set_option maxRecDepth 100000
set_option maxHeartbeats 1000000
set_option linter.unusedVariables false
set_option linter.unusedSectionVars false
set_option linter.unusedSimpArgs false
namespace Go.Proofs.Ytfiginefkfipeaa
open Go.Rx Go.RowKit
def Flag (a b c d : Int) (j : Nat) : Prop := (a = c ∧ b = d) ∨ (1 ≤ j ∧ ¬ (a.natAbs ≤ 4 ∧ c.natAbs ≤ 4)) ∨ (2 ≤ j ∧ ¬ (b.natAbs ≤ 4 ∧ d.natAbs ≤ 4))
theorem flag_zero {a b c d : Int} : Flag a b c d 0 ↔ a = c ∧ b = d := by unfold Flag; simp
theorem flag_two {a b c d : Int} : Flag a b c d 2 ↔ Bad a b c d := by unfold Flag Bad; omega
theorem flag_keep {a b c d : Int} {j : Nat} (h : Flag a b c d j) : Flag a b c d (j + 1) := by
  rcases h with h | h | h
  · exact .inl h
  · exact .inr (.inl ⟨by omega, h.2⟩)
  · exact .inr (.inr ⟨by omega, h.2⟩)
theorem flag_bad {a b c d v w : Int} {j : Nat} (hvw : j = 0 ∧ v = a ∧ w = c ∨ j = 1 ∧ v = b ∧ w = d) (h : ¬ (v.natAbs ≤ 4 ∧ w.natAbs ≤ 4)) : Flag a b c d (j + 1) := by
  rcases hvw with ⟨rfl, rfl, rfl⟩ | ⟨rfl, rfl, rfl⟩
  · exact .inr (.inl ⟨by omega, h⟩)
  · exact .inr (.inr ⟨by omega, h⟩)
theorem flag_good {a b c d v w : Int} {j : Nat} (hvw : j = 0 ∧ v = a ∧ w = c ∨ j = 1 ∧ v = b ∧ w = d) (hn : ¬ Flag a b c d j) (h1 : v.natAbs ≤ 4) (h2 : w.natAbs ≤ 4) : ¬ Flag a b c d (j + 1) := by
  intro h
  rcases h with h | h | h
  · exact hn (.inl h)
  · rcases hvw with ⟨rfl, rfl, rfl⟩ | ⟨rfl, rfl, rfl⟩
    · exact h.2 ⟨h1, h2⟩
    · exact hn (.inr (.inl ⟨by omega, h.2⟩))
  · rcases hvw with ⟨rfl, rfl, rfl⟩ | ⟨rfl, rfl, rfl⟩
    · exact absurd h.1 (by omega)
    · exact h.2 ⟨h1, h2⟩
attribute [local irreducible] E idxN cellAt cellsAt storeAt callable helems hmoved lookIn findKey keyOk hentries Hp.at Hp.set Hp.lay arBits hupdated setAt CallP YieldP BoolOf IsWrap Rnd LoopP AppP CutP Int.tmod Int.tdiv Int.fdiv
section
variable [Unknowns]
attribute [local irreducible] SeqP ResP
structure St where
  k : Nat
  H : Hp
  a : Int
  b : Int
  c : Int
  d : Int
theorem law_spec (a b c d : Int) (h : Hp) : CallP E 3 [.agg ⟨[int a, int b]⟩, .agg ⟨[int c, int d]⟩] h (fun r _ => r = .bool true) := by
  refine enter3 (by simp) ?_
  conv => whnf
  refine SeqP.go ?_
  conv => whnf
  refine SeqP.go ?_
  conv => whnf
  refine SeqP.go ?_
  conv => whnf
  obtain ⟨P, hP⟩ : ∃ P, P = h.next := ⟨_, rfl⟩
  obtain ⟨Q, hQ⟩ : ∃ Q, Q = (h.lay (.row 22 true [int a, int b])).next := ⟨_, rfl⟩
  have hPQ : P ≠ Q := by rw [hP, hQ, Hp.next_lay]; omega
  refine loop_inv (α := St) (fun s => [(5, int s.k), (2, ptr P 0), (3, ptr Q 0)]) (fun s => s.H) (fun s => s.k ≤ 2 ∧ s.H.at P = some (.row 22 true [int s.a, int s.b]) ∧ s.H.at Q = some (.row 22 true [int s.c, int s.d]) ∧ P < s.H.next ∧ Q < s.H.next) (fun s => 2 - s.k) ⟨0, (h.lay (.row 22 true [int a, int b])).lay (.row 22 true [int c, int d]), a, b, c, d⟩ ⟨by simp, by rw [hP]; exact Hp.at_lay_old _ (Hp.at_lay_self _ _), by rw [hQ]; exact Hp.at_lay_self _ _, by rw [hP]; simp only [Hp.next_lay]; omega, by rw [hQ]; simp only [Hp.next_lay]; omega⟩ ⟨rfl, by rw [hP]; rfl, by rw [hQ]; rfl, trivial⟩ (Hp.Le.refl _) ?_
  rintro ⟨k, H, a, b, c, d⟩ φ ⟨hk, hp, hq, lP, lQ⟩
  dsimp only at hk hp hq lP lQ ⊢
  conv => whnf
  refine SeqP.go ?_
  conv => whnf
  refine SeqP.go ?_
  conv => whnf
  refine cmpB (fun hb1 => ?_) (fun hb1 => ?_)
  rotate_left
  · conv => whnf
    refine SeqP.go ?_
    conv => whnf
    refine memo6 ?_
    conv => whnf
    rfl
  have g0 : Grows H H := .refl _
  conv => whnf
  refine SeqP.go ?_
  conv => whnf
  refine SeqP.go ?_
  conv => whnf
  refine ⟨[int a, int b], cellsAt_row hp (by simp), ?_⟩
  conv => whnf
  refine ⟨[int c, int d], cellsAt_row hq (by simp), ?_⟩
  conv => whnf
  refine CallP.mono (api_spec a b c d H) ?_
  rintro r h1 ⟨⟨x, y, z, e, rfl, hbad, hgood⟩, hg1⟩
  conv => whnf
  refine ⟨rfl, _, storeAt_all rfl rfl rfl, ?_⟩
  conv => whnf
  have hg2 : Grows H (h1.lay (.row 23 true [int x, int y, int z])) := hg1.then_lay _
  have hp2 := hg2.at_ _ _ hp
  have hq2 := hg2.at_ _ _ hq
  have hl6 : (h1.lay (.row 23 true [int x, int y, int z])).at h1.next = some (.row 23 true [int x, int y, int z]) := Hp.at_lay_self _ _
  refine SeqP.go ?_
  conv => whnf
  refine ⟨[int a, int b], cellsAt_row hp2 (by simp), ?_⟩
  conv => whnf
  refine ⟨[int c, int d], cellsAt_row hq2 (by simp), ?_⟩
  conv => whnf
  refine resP_val (v := .bool (bif (a == c) then (b == d) else false)) (h := (h1.lay (.row 23 true [int x, int y, int z]))) ?_ ?_
  · show hval _ (aBin E .eql 22 _ _ (.agg ⟨[int a, int b]⟩) (.agg ⟨[int c, int d]⟩)) = _
    rw [pair_eq]
    rfl
  obtain ⟨q, hqb⟩ : ∃ q, q = (bif (a == c) then (b == d) else false) := ⟨_, rfl⟩
  have hqe : q = true ↔ a = c ∧ b = d := by
    rw [hqb]
    by_cases h3 : a = c
    · simp [h3]
    · simp [h3]
  rw [← hqb]
  conv => whnf
  refine SeqP.go ?_
  conv => whnf
  refine SeqP.go ?_
  conv => whnf
  refine loop_inv (α := Nat × Bool) (fun s => [(9, int s.1), (8, .bool s.2), (2, ptr P 0), (3, ptr Q 0), (5, int k), (6, ptr h1.next 0), (7, int e)]) (fun _ => (h1.lay (.row 23 true [int x, int y, int z]))) (fun s => s.1 ≤ 2 ∧ (s.2 = true ↔ Flag a b c d s.1)) (fun s => 2 - s.1) (0, q) ⟨by simp, by rw [hqe]; exact flag_zero.symm⟩ ⟨rfl, rfl, rfl, rfl, rfl, rfl, rfl, trivial⟩ (Hp.Le.refl _) ?_
  rintro ⟨j, q1⟩ φ ⟨hj, hq1⟩
  dsimp only at hj hq1 ⊢
  conv => whnf
  refine SeqP.go ?_
  conv => whnf
  refine SeqP.go ?_
  conv => whnf
  refine cmpB (fun hb2 => ?_) (fun hb2 => ?_)
  · have hv : ∃ v w : Int, [int a, int b][j]? = some (int v) ∧ [int c, int d][j]? = some (int w) ∧ (j = 0 ∧ v = a ∧ w = c ∨ j = 1 ∧ v = b ∧ w = d) := by
      have hj2 : j = 0 ∨ j = 1 := by omega
      rcases hj2 with rfl | rfl
      · exact ⟨a, c, rfl, rfl, .inl ⟨rfl, rfl, rfl⟩⟩
      · exact ⟨b, d, rfl, rfl, .inr ⟨rfl, rfl, rfl⟩⟩
    obtain ⟨v, w, hv, hw, hvw⟩ := hv
    have lv : cellAt (h1.lay (.row 23 true [int x, int y, int z])) P (offAt 0 (j : Int).toNat 1) = some (int v) := by
      rw [offAt_eq]
      refine cellAt_row hp2 ?_
      rw [show 0 + (j : Int).toNat * 1 = j by omega]; exact hv
    have lw : cellAt (h1.lay (.row 23 true [int x, int y, int z])) Q (offAt 0 (j : Int).toNat 1) = some (int w) := by
      rw [offAt_eq]
      refine cellAt_row hq2 ?_
      rw [show 0 + (j : Int).toNat * 1 = j by omega]; exact hw
    cases q1 with
    | true =>
      have hq1 := hq1.1 rfl
      conv => whnf
      refine SeqP.go ?_
      conv => whnf
      refine ⟨_, wid (by omega), ?_⟩
      conv => whnf
      exact Rnd.mk (j + 1, true) ⟨by show j + 1 ≤ 2; omega, iff_of_true rfl (flag_keep hq1)⟩ (by show 2 - (j + 1) < 2 - j; omega) ⟨rfl, rfl, rfl, rfl, rfl, rfl, rfl, trivial⟩ (Hp.Le.refl _) rfl
    | false =>
      have hq1 : ¬ Flag a b c d j := fun h => by simpa using hq1.2 h
      conv => whnf
      refine SeqP.go ?_
      conv => whnf
      refine ⟨⟨by omega, by omega⟩, ?_⟩
      conv => whnf
      refine ⟨int v, lv, ?_⟩
      conv => whnf
      refine cmpB (fun hc0 => ?_) (fun hc0 => ?_)
      · conv => whnf
        refine ⟨_, wid (by omega), ?_⟩
        conv => whnf
        exact Rnd.mk (j + 1, true) ⟨by show j + 1 ≤ 2; omega, iff_of_true rfl (flag_bad hvw (by omega))⟩ (by show 2 - (j + 1) < 2 - j; omega) ⟨rfl, rfl, rfl, rfl, rfl, rfl, rfl, trivial⟩ (Hp.Le.refl _) rfl
      conv => whnf
      refine ⟨⟨by omega, by omega⟩, ?_⟩
      conv => whnf
      refine ⟨int v, lv, ?_⟩
      conv => whnf
      refine cmpB (fun hc1 => ?_) (fun hc1 => ?_)
      · conv => whnf
        refine ⟨_, wid (by omega), ?_⟩
        conv => whnf
        exact Rnd.mk (j + 1, true) ⟨by show j + 1 ≤ 2; omega, iff_of_true rfl (flag_bad hvw (by omega))⟩ (by show 2 - (j + 1) < 2 - j; omega) ⟨rfl, rfl, rfl, rfl, rfl, rfl, rfl, trivial⟩ (Hp.Le.refl _) rfl
      conv => whnf
      refine ⟨⟨by omega, by omega⟩, ?_⟩
      conv => whnf
      refine ⟨int w, lw, ?_⟩
      conv => whnf
      refine cmpB (fun hc2 => ?_) (fun hc2 => ?_)
      · conv => whnf
        refine ⟨_, wid (by omega), ?_⟩
        conv => whnf
        exact Rnd.mk (j + 1, true) ⟨by show j + 1 ≤ 2; omega, iff_of_true rfl (flag_bad hvw (by omega))⟩ (by show 2 - (j + 1) < 2 - j; omega) ⟨rfl, rfl, rfl, rfl, rfl, rfl, rfl, trivial⟩ (Hp.Le.refl _) rfl
      conv => whnf
      refine ⟨⟨by omega, by omega⟩, ?_⟩
      conv => whnf
      refine ⟨int w, lw, ?_⟩
      conv => whnf
      refine cmpB (fun hc3 => ?_) (fun hc3 => ?_)
      · conv => whnf
        refine ⟨_, wid (by omega), ?_⟩
        conv => whnf
        exact Rnd.mk (j + 1, true) ⟨by show j + 1 ≤ 2; omega, iff_of_true rfl (flag_bad hvw (by omega))⟩ (by show 2 - (j + 1) < 2 - j; omega) ⟨rfl, rfl, rfl, rfl, rfl, rfl, rfl, trivial⟩ (Hp.Le.refl _) rfl
      conv => whnf
      refine ⟨_, wid (by omega), ?_⟩
      conv => whnf
      exact Rnd.mk (j + 1, false) ⟨by show j + 1 ≤ 2; omega, iff_of_false (by simp) (flag_good hvw hq1 (by omega) (by omega))⟩ (by show 2 - (j + 1) < 2 - j; omega) ⟨rfl, rfl, rfl, rfl, rfl, rfl, rfl, trivial⟩ (Hp.Le.refl _) rfl
  have hj2 : j = 2 := by omega
  subst hj2
  have hqB : q1 = true ↔ Bad a b c d := by rw [hq1]; exact flag_two
  conv => whnf
  refine SeqP.cut (α := Hp) (fun _ => [(2, ptr P 0), (3, ptr Q 0), (5, int k)]) (fun H2 h' => h' = H2 ∧ Grows H H2) ?_ ?_
  · conv => whnf
    cases q1 with
    | true =>
      have hB := hqB.1 rfl
      have hbad := hbad hB
      obtain ⟨rfl, rfl, rfl, rfl⟩ := hbad
      conv => whnf
      refine SeqP.go ?_
      conv => whnf
      refine SeqP.go ?_
      conv => whnf
      refine cmpF (by omega) ?_
      conv => whnf
      refine ⟨[int 0, int 0, int 0], cellsAt_row hl6 (by simp), ?_⟩
      conv => whnf
      refine resP_val (v := .bool false) (h := (h1.lay (.row 23 true [int 0, int 0, int 0]))) ?_ ?_
      · show hval _ (aBin E .neq 23 _ _ (.agg ⟨[int 0, int 0, int 0]⟩) (.agg ⟨[int 0, int 0, int 0]⟩)) = _
        rw [tri_same]
        rfl
      conv => whnf
      exact ⟨_, ⟨rfl, rfl, rfl, trivial⟩, ⟨rfl, hg2⟩, rfl⟩
    | false =>
      have hG : ¬ Bad a b c d := fun h => by simpa using hqB.2 h
      have hgood := hgood hG
      conv => whnf
      refine SeqP.go ?_
      conv => whnf
      refine SeqP.go ?_
      conv => whnf
      refine ⟨[int a, int b], cellsAt_row hp2 (by simp), ?_⟩
      conv => whnf
      refine ⟨[int c, int d], cellsAt_row hq2 (by simp), ?_⟩
      conv => whnf
      refine CallP.mono (ref_spec a b c d _ hG) ?_
      rintro r h3 ⟨hr, hg3⟩
      obtain ⟨bb, hbb⟩ : ∃ bb, bb = decide ((l0 a b c d).natAbs ≤ 20 ∧ (l1 a b c d).natAbs ≤ 20 ∧ (l2 a b c d).natAbs ≤ 20) := ⟨_, rfl⟩
      rw [← hbb] at hr
      subst hr
      conv => whnf
      refine ⟨rfl, _, storeAt_all rfl rfl rfl, ?_⟩
      conv => whnf
      have hg4 : Grows H (h3.lay (.row 23 true [int (l0 a b c d), int (l1 a b c d), int (l2 a b c d)])) := (hg2.trans hg3).then_lay _
      have hl6' := (hg3.then_lay (.row 23 true [int (l0 a b c d), int (l1 a b c d), int (l2 a b c d)])).at_ _ _ hl6
      have hl10 : (h3.lay (.row 23 true [int (l0 a b c d), int (l1 a b c d), int (l2 a b c d)])).at h3.next = some (.row 23 true [int (l0 a b c d), int (l1 a b c d), int (l2 a b c d)]) := Hp.at_lay_self _ _
      refine SeqP.go ?_
      cases bb with
      | true =>
        have hS : Small a b c d := by unfold Small; exact of_decide_eq_true hbb.symm
        obtain ⟨he, hx, hy, hz⟩ := hgood.1 hS
        rw [hx, hy, hz] at hl6'
        conv => whnf
        refine cmpF (by omega) ?_
        conv => whnf
        refine ⟨[int (l0 a b c d), int (l1 a b c d), int (l2 a b c d)], cellsAt_row hl6' (by simp), ?_⟩
        conv => whnf
        refine ⟨[int (l0 a b c d), int (l1 a b c d), int (l2 a b c d)], cellsAt_row hl10 (by simp), ?_⟩
        conv => whnf
        refine resP_val (v := .bool false) (h := (h3.lay (.row 23 true [int (l0 a b c d), int (l1 a b c d), int (l2 a b c d)]))) ?_ ?_
        · show hval _ (aBin E .neq 23 _ _ (.agg ⟨[int (l0 a b c d), int (l1 a b c d), int (l2 a b c d)]⟩) (.agg ⟨[int (l0 a b c d), int (l1 a b c d), int (l2 a b c d)]⟩)) = _
          rw [tri_same]
          rfl
        conv => whnf
        exact ⟨_, ⟨rfl, rfl, rfl, trivial⟩, ⟨rfl, hg4⟩, rfl⟩
      | false =>
        have hS : ¬ Small a b c d := by unfold Small; exact of_decide_eq_false hbb.symm
        obtain ⟨he, hx, hy, hz⟩ := hgood.2 hS
        rw [hx, hy, hz] at hl6'
        conv => whnf
        refine cmpF (by omega) ?_
        conv => whnf
        refine ⟨[int 0, int 0, int 0], cellsAt_row hl6' (by simp), ?_⟩
        conv => whnf
        refine resP_val (v := .bool false) (h := (h3.lay (.row 23 true [int (l0 a b c d), int (l1 a b c d), int (l2 a b c d)]))) ?_ ?_
        · show hval _ (aBin E .neq 23 _ _ (.agg ⟨[int 0, int 0, int 0]⟩) (.agg ⟨[int 0, int 0, int 0]⟩)) = _
          rw [tri_same]
          rfl
        conv => whnf
        exact ⟨_, ⟨rfl, rfl, rfl, trivial⟩, ⟨rfl, hg4⟩, rfl⟩
  rintro H2 φ H3 ⟨rfl, hgH⟩
  have hpA := hgH.at_ _ _ hp
  have hqA := hgH.at_ _ _ hq
  have lPA : P < H3.next := Nat.lt_of_lt_of_le lP hgH.next
  have lQA : Q < H3.next := Nat.lt_of_lt_of_le lQ hgH.next
  obtain ⟨ua, ua0, ua1, hua⟩ := u64_of a
  obtain ⟨ub, ub0, ub1, hub⟩ := u64_of b
  obtain ⟨uc, uc0, uc1, huc⟩ := u64_of c
  obtain ⟨ud, ud0, ud1, hud⟩ := u64_of d
  have ta := @tmod_bd ua 9 ua0 (by omega)
  have tb := @tmod_bd ub 9 ub0 (by omega)
  have tc := @tmod_bd uc 9 uc0 (by omega)
  have td := @tmod_bd ud 9 ud0 (by omega)
  conv => whnf
  refine SeqP.go ?_
  conv => whnf
  refine ⟨⟨by omega, by omega⟩, ?_⟩
  conv => whnf
  refine ⟨int a, cellAt_row hpA rfl, ?_⟩
  conv => whnf
  refine ⟨ua, hua, ?_⟩
  conv => whnf
  refine ⟨by omega, ?_⟩
  conv => whnf
  refine ⟨ua.tmod 9, wid (by omega), ?_⟩
  conv => whnf
  refine ⟨ua.tmod 9 - 4, wid (by omega), ?_⟩
  conv => whnf
  refine ⟨⟨by omega, by omega⟩, ?_⟩
  conv => whnf
  refine ⟨int b, cellAt_row hpA rfl, ?_⟩
  conv => whnf
  refine ⟨ub, hub, ?_⟩
  conv => whnf
  refine ⟨by omega, ?_⟩
  conv => whnf
  refine ⟨ub.tmod 9, wid (by omega), ?_⟩
  conv => whnf
  refine ⟨ub.tmod 9 - 4, wid (by omega), ?_⟩
  conv => whnf
  refine ⟨rfl, _, storeAt_full hpA rfl rfl rfl, ?_⟩
  conv => whnf
  have hqB' : (H3.set P (.row 22 true [int (ua.tmod 9 - 4), int (ub.tmod 9 - 4)])).at Q = some (.row 22 true [int c, int d]) := by rw [Hp.at_set_ne _ (Ne.symm hPQ)]; exact hqA
  have hpB' : (H3.set P (.row 22 true [int (ua.tmod 9 - 4), int (ub.tmod 9 - 4)])).at P = some (.row 22 true [int (ua.tmod 9 - 4), int (ub.tmod 9 - 4)]) := Hp.at_set_self _ lPA
  refine ⟨⟨by omega, by omega⟩, ?_⟩
  conv => whnf
  refine ⟨int c, cellAt_row hqB' rfl, ?_⟩
  conv => whnf
  refine ⟨uc, huc, ?_⟩
  conv => whnf
  refine ⟨by omega, ?_⟩
  conv => whnf
  refine ⟨uc.tmod 9, wid (by omega), ?_⟩
  conv => whnf
  refine ⟨uc.tmod 9 - 4, wid (by omega), ?_⟩
  conv => whnf
  refine ⟨⟨by omega, by omega⟩, ?_⟩
  conv => whnf
  refine ⟨int d, cellAt_row hqB' rfl, ?_⟩
  conv => whnf
  refine ⟨ud, hud, ?_⟩
  conv => whnf
  refine ⟨by omega, ?_⟩
  conv => whnf
  refine ⟨ud.tmod 9, wid (by omega), ?_⟩
  conv => whnf
  refine ⟨ud.tmod 9 - 4, wid (by omega), ?_⟩
  conv => whnf
  refine ⟨rfl, _, storeAt_full hqB' rfl rfl rfl, ?_⟩
  conv => whnf
  refine ⟨_, wid (by omega), ?_⟩
  conv => whnf
  refine Rnd.mk ⟨k + 1, (H3.set P (.row 22 true [int (ua.tmod 9 - 4), int (ub.tmod 9 - 4)])).set Q (.row 22 true [int (uc.tmod 9 - 4), int (ud.tmod 9 - 4)]), ua.tmod 9 - 4, ub.tmod 9 - 4, uc.tmod 9 - 4, ud.tmod 9 - 4⟩ ⟨by show k + 1 ≤ 2; omega, ?_, ?_, ?_, ?_⟩ (by show 2 - (k + 1) < 2 - k; omega) ⟨rfl, rfl, rfl, trivial⟩ (Hp.Le.refl _) rfl
  · show Hp.at _ P = _
    rw [Hp.at_set_ne _ hPQ]; exact hpB'
  · exact Hp.at_set_self _ (by rw [Hp.next_set]; exact lQA)
  · show P < Hp.next _
    rw [Hp.next_set, Hp.next_set]; exact lPA
  · show Q < Hp.next _
    rw [Hp.next_set, Hp.next_set]; exact lQA
end
end Go.Proofs.Ytfiginefkfipeaa
