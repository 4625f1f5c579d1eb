/- Contracts of the functions that LnL comes to. -/
import Derived.Test.YtfiginefkfipeaaLn2
set_option maxRecDepth 100000
set_option maxHeartbeats 1000000
set_option linter.unusedVariables false
set_option linter.unusedSectionVars false
set_option linter.unusedSimpArgs false
namespace Go.Rx
/-- A result in memory, and one beside it. -/
theorem leave_cell2 {E : Env} {φ : Frame} {h : Hp} {a b : Nat} {t : TypeId} {r o : Nat} {i : TI} {cs : List Value} {w : Value} {Q : Value → Hp → Prop} (hφ : φ a = ptr r o) (hb : φ b = w) (hw : isUndef w = false) (ht : E.ty t = some i) (ha : i.agg = true) (hc : cellsAt h r o i.size = some cs) (hq : Q (.tuple ⟨[.agg ⟨cs⟩, w]⟩) h) : finP E [.cell a t, .tmp b] ⟨φ, h, []⟩ Q := by
  have e1 : resultφ E φ h (.cell a t) = some (.agg ⟨cs⟩) := by
    unfold resultφ
    dsimp only
    rw [hφ]
    dsimp only [ptr]
    unfold hload
    rw [ht]
    dsimp only
    unfold hloadTI
    rw [ha]
    dsimp only
    rw [hc]
    rfl
  have e2 : resultφ E φ h (.tmp b) = some w := by
    unfold resultφ
    dsimp only
    rw [hb, hw]
  have e : resultsφ E φ h [.cell a t, .tmp b] = some [.agg ⟨cs⟩, w] := by
    simp only [resultsφ, e1, e2]
  unfold finP
  dsimp only
  rw [show takeMarksφ [] h = some h from rfl]
  dsimp only
  rw [e]
  exact hq
theorem ints_spot {h : Hp} {r : Nat} {e : TypeId} {x : Bool} {l : List Int} {cs : List Value} {c : Nat} (hr : h.at r = some (.row e x cs)) (hl : ∀ k, (hk : k < l.length) → cs[k]? = some (int l[k])) : Ints h (.slice (some ⟨r, 0, some 1⟩) l.length c) l :=
  ⟨_, _, rfl, fun k hk => ⟨r, 0, some 1, rfl, rfl, cellAt_row hr (hl k hk)⟩⟩
theorem ints_two {h : Hp} {r : Nat} {e : TypeId} {x : Bool} {a b : Int} (hr : h.at r = some (.row e x [int a, int b])) : Ints h (.slice (some ⟨r, 0, some 1⟩) 2 2) [a, b] :=
  ints_spot (l := [a, b]) hr fun k hk => by
    have hk3 : k = 0 ∨ k = 1 := by simp at hk; omega
    rcases hk3 with rfl | rfl <;> rfl
theorem ints_three {h : Hp} {r : Nat} {e : TypeId} {x : Bool} {a b c : Int} (hr : h.at r = some (.row e x [int a, int b, int c])) : Ints h (.slice (some ⟨r, 0, some 1⟩) 3 3) [a, b, c] :=
  ints_spot (l := [a, b, c]) hr fun k hk => by
    have hk3 : k = 0 ∨ k = 1 ∨ k = 2 := by simp at hk; omega
    rcases hk3 with rfl | rfl | rfl <;> rfl
theorem mul_bd {x y : Int} {m n k : Nat} (hx : x.natAbs ≤ m) (hy : y.natAbs ≤ n) (hk : m * n ≤ k) : (x * y).natAbs ≤ k := by
  rw [Int.natAbs_mul]
  exact Nat.le_trans (Nat.mul_le_mul hx hy) hk
end Go.Rx
namespace Go.Proofs.Ytfiginefkfipeaa
open Go.Rx Go.RowKit
def Bad (a b c d : Int) : Prop := (a = c ∧ b = d) ∨ ¬ (a.natAbs ≤ 4 ∧ b.natAbs ≤ 4 ∧ c.natAbs ≤ 4 ∧ d.natAbs ≤ 4)
def lA (a b c d : Int) : Int := d - b
def lB (a b c d : Int) : Int := a - c
def lC (a b c d : Int) : Int := lA a b c d * a + lB a b c d * b
def l0 (a b c d : Int) : Int := lx (lA a b c d) (lB a b c d) (lC a b c d) (lA a b c d)
def l1 (a b c d : Int) : Int := lx (lA a b c d) (lB a b c d) (lC a b c d) (lB a b c d)
def l2 (a b c d : Int) : Int := lx (lA a b c d) (lB a b c d) (lC a b c d) (lC a b c d)
def Small (a b c d : Int) : Prop := (l0 a b c d).natAbs ≤ 20 ∧ (l1 a b c d).natAbs ≤ 20 ∧ (l2 a b c d).natAbs ≤ 20
attribute [local irreducible] E idxN cellAt cellsAt storeAt callable helems hmoved lookIn findKey keyOk hentries Hp.at Hp.set Hp.lay arBits hupdated setAt CallP YieldP BoolOf IsWrap Rnd LoopP AppP CutP Int.tmod Int.tdiv Int.fdiv
section
variable [Unknowns]
attribute [local irreducible] SeqP finP ResP
theorem api_spec (a b c d : Int) (h : Hp) : CallP E 4 [.agg ⟨[int a, int b]⟩, .agg ⟨[int c, int d]⟩] h (fun r h' => (∃ x y z e : Int, r = .tuple ⟨[.agg ⟨[int x, int y, int z]⟩, int e]⟩ ∧ (Bad a b c d → e = 1 ∧ x = 0 ∧ y = 0 ∧ z = 0) ∧ (¬ Bad a b c d → (Small a b c d → e = 0 ∧ x = l0 a b c d ∧ y = l1 a b c d ∧ z = l2 a b c d) ∧ (¬ Small a b c d → e = 4 ∧ x = 0 ∧ y = 0 ∧ z = 0))) ∧ Grows h h') := by
  obtain ⟨i, hi, hag, hs⟩ := ty23
  refine enter4 (by simp) ?_
  conv => whnf
  refine SeqP.go ?_
  conv => whnf
  refine SeqP.go ?_
  conv => whnf
  have hp2 : (((h.lay (.row 22 true [int a, int b])).lay (.row 22 true [int c, int d])).lay (.row 23 true [int 0, int 0, int 0])).at h.next = some (.row 22 true [int a, int b]) := Hp.at_lay_old _ (Hp.at_lay_old _ (Hp.at_lay_self _ _))
  have hp3 : (((h.lay (.row 22 true [int a, int b])).lay (.row 22 true [int c, int d])).lay (.row 23 true [int 0, int 0, int 0])).at (h.lay (.row 22 true [int a, int b])).next = some (.row 22 true [int c, int d]) := Hp.at_lay_old _ (Hp.at_lay_self _ _)
  have hgr : Grows h (((h.lay (.row 22 true [int a, int b])).lay (.row 22 true [int c, int d])).lay (.row 23 true [int 0, int 0, int 0])) := ((Grows.lay _ _).then_lay _).then_lay _
  obtain ⟨H, hH⟩ : ∃ H, H = (((h.lay (.row 22 true [int a, int b])).lay (.row 22 true [int c, int d])).lay (.row 23 true [int 0, int 0, int 0])) := ⟨_, rfl⟩
  refine SeqP.cut (α := Bool) (fun x => [(21, .bool x), (2, ptr h.next 0), (3, ptr (h.lay (.row 22 true [int a, int b])).next 0), (4, ptr ((h.lay (.row 22 true [int a, int b])).lay (.row 22 true [int c, int d])).next 0)]) (fun x h' => h' = (((h.lay (.row 22 true [int a, int b])).lay (.row 22 true [int c, int d])).lay (.row 23 true [int 0, int 0, int 0])) ∧ (x = true ↔ Bad a b c d)) ?_ ?_
  · conv => whnf
    refine ⟨[int a, int b], by rw [cellsAt_row (Hp.at_lay_old _ (Hp.at_lay_old _ (Hp.at_lay_self _ _))) (by simp)]; rfl, ?_⟩
    conv => whnf
    refine ⟨[int c, int d], by rw [cellsAt_row (Hp.at_lay_old _ (Hp.at_lay_self _ _)) (by simp)]; rfl, ?_⟩
    conv => whnf
    by_cases he : a = c ∧ b = d
    · refine resP_val (v := .bool true) (h := (((h.lay (.row 22 true [int a, int b])).lay (.row 22 true [int c, int d])).lay (.row 23 true [int 0, int 0, int 0]))) ?_ ?_
      · show hval _ (aBin E .eql 22 _ _ (.agg ⟨[int a, int b]⟩) (.agg ⟨[int c, int d]⟩)) = _
        rw [pair_eq]
        obtain ⟨e1, e2⟩ := he
        rw [show (bif (a == c) then (b == d) else false) = true by simp [e1, e2]]
        rfl
      conv => whnf
      exact ⟨true, ⟨rfl, rfl, rfl, rfl, trivial⟩, ⟨rfl, iff_of_true rfl (.inl he)⟩, rfl⟩
    refine resP_val (v := .bool false) (h := (((h.lay (.row 22 true [int a, int b])).lay (.row 22 true [int c, int d])).lay (.row 23 true [int 0, int 0, int 0]))) ?_ ?_
    · show hval _ (aBin E .eql 22 _ _ (.agg ⟨[int a, int b]⟩) (.agg ⟨[int c, int d]⟩)) = _
      rw [pair_eq]
      rw [show (bif (a == c) then (b == d) else false) = false by
        by_cases e1 : a = c
        · simp [e1]; intro e2; exact he ⟨e1, e2⟩
        · simp [e1]]
      rfl
    conv => whnf
    refine resP_cutA ?_ (by omega)
    conv => whnf
    refine CallP.mono (isw_spec 4 (.slice (some ⟨h.next, 0, some 1⟩) 2 2) [a, b] _ (by omega) (ints_two hp2) (by simp)) ?_
    rintro r h1 ⟨hr, rfl⟩
    by_cases h4 : a.natAbs ≤ 4 ∧ b.natAbs ≤ 4
    rotate_left
    · have hr' : r = .bool false := by rw [hr, decide_eq_false (by simpa using h4)]
      subst hr'
      conv => whnf
      exact ⟨true, ⟨rfl, rfl, rfl, rfl, trivial⟩, ⟨rfl, iff_of_true rfl (.inr (by omega))⟩, rfl⟩
    have hr' : r = .bool true := by rw [hr, decide_eq_true (by simpa using h4)]
    subst hr'
    conv => whnf
    refine resP_cutA ?_ (by omega)
    conv => whnf
    refine CallP.mono (isw_spec 4 (.slice (some ⟨(h.lay (.row 22 true [int a, int b])).next, 0, some 1⟩) 2 2) [c, d] _ (by omega) (ints_two hp3) (by simp)) ?_
    rintro r h1 ⟨hr, rfl⟩
    by_cases h5 : c.natAbs ≤ 4 ∧ d.natAbs ≤ 4
    rotate_left
    · have hr' : r = .bool false := by rw [hr, decide_eq_false (by simpa using h5)]
      subst hr'
      conv => whnf
      exact ⟨true, ⟨rfl, rfl, rfl, rfl, trivial⟩, ⟨rfl, iff_of_true rfl (.inr (by omega))⟩, rfl⟩
    have hr' : r = .bool true := by rw [hr, decide_eq_true (by simpa using h5)]
    subst hr'
    conv => whnf
    exact ⟨false, ⟨rfl, rfl, rfl, rfl, trivial⟩, ⟨rfl, iff_of_false (by simp) (fun hb => by unfold Bad at hb; omega)⟩, rfl⟩
  rintro x φ h1 ⟨rfl, hx⟩
  cases x with
  | true =>
    have hbad := hx.1 rfl
    conv => whnf
    refine SeqP.go ?_
    conv => whnf
    refine ⟨rfl, _, storeAt_all rfl rfl rfl, ?_⟩
    conv => whnf
    refine leave_cell2 (cs := [int 0, int 0, int 0]) (w := int 1) rfl rfl rfl hi hag (by rw [hs]; exact cellsAt_all rfl) ⟨⟨0, 0, 0, 1, rfl, fun _ => ⟨rfl, rfl, rfl, rfl⟩, fun h => absurd hbad h⟩, hgr⟩
  | false =>
    have hgood : ¬ Bad a b c d := fun h => by simpa using hx.2 h
    have hg4 : a.natAbs ≤ 4 ∧ b.natAbs ≤ 4 ∧ c.natAbs ≤ 4 ∧ d.natAbs ≤ 4 := by unfold Bad at hgood; omega
    have hne : ¬ (a = c ∧ b = d) := by unfold Bad at hgood; omega
    have bA : (lA a b c d).natAbs ≤ 8 := by unfold lA; omega
    have bB : (lB a b c d).natAbs ≤ 8 := by unfold lB; omega
    have bM := mul_bd (k := 32) bA hg4.1 (by omega)
    have bN := mul_bd (k := 32) bB hg4.2.1 (by omega)
    have bC : (lC a b c d).natAbs ≤ 64 := by unfold lC; omega
    have hnz : lA a b c d ≠ 0 ∨ lB a b c d ≠ 0 := by unfold lA lB; omega
    conv => whnf
    refine SeqP.go ?_
    conv => whnf
    refine ⟨⟨by omega, by omega⟩, ?_⟩
    conv => whnf
    refine ⟨int d, cellAt_row hp3 rfl, ?_⟩
    conv => whnf
    refine ⟨⟨by omega, by omega⟩, ?_⟩
    conv => whnf
    refine ⟨int b, cellAt_row hp2 rfl, ?_⟩
    conv => whnf
    refine ⟨lA a b c d, wie rfl (by omega), ?_⟩
    conv => whnf
    refine ⟨⟨by omega, by omega⟩, ?_⟩
    conv => whnf
    refine ⟨int a, cellAt_row hp2 rfl, ?_⟩
    conv => whnf
    refine ⟨⟨by omega, by omega⟩, ?_⟩
    conv => whnf
    refine ⟨int c, cellAt_row hp3 rfl, ?_⟩
    conv => whnf
    refine ⟨lB a b c d, wie rfl (by omega), ?_⟩
    conv => whnf
    refine SeqP.go ?_
    conv => whnf
    refine ⟨⟨by omega, by omega⟩, ?_⟩
    conv => whnf
    refine ⟨int a, cellAt_row hp2 rfl, ?_⟩
    conv => whnf
    refine ⟨_, wid (by omega), ?_⟩
    conv => whnf
    refine ⟨⟨by omega, by omega⟩, ?_⟩
    conv => whnf
    refine ⟨int b, cellAt_row hp2 rfl, ?_⟩
    conv => whnf
    refine ⟨_, wid (by omega), ?_⟩
    conv => whnf
    refine ⟨lC a b c d, wie rfl (by omega), ?_⟩
    conv => whnf
    refine CallP.mono (line_spec _ _ _ _ (by omega) (by omega) (by omega) hnz) ?_
    rintro r h2 ⟨rfl, hg2⟩
    conv => whnf
    refine ⟨rfl, _, storeAt_all rfl rfl rfl, ?_⟩
    conv => whnf
    refine SeqP.go ?_
    conv => whnf
    refine SeqP.go ?_
    conv => whnf
    have hq8 : (h2.lay (.row 34 true [int (l0 a b c d), int (l1 a b c d), int (l2 a b c d)])).at h2.next = some (.row 34 true [int (l0 a b c d), int (l1 a b c d), int (l2 a b c d)]) := Hp.at_lay_self _ _
    have hc4 : (h2.lay (.row 34 true [int (l0 a b c d), int (l1 a b c d), int (l2 a b c d)])).at ((h.lay (.row 22 true [int a, int b])).lay (.row 22 true [int c, int d])).next = some (.row 23 true [int 0, int 0, int 0]) := Hp.at_lay_old _ (hg2.at_ _ _ (Hp.at_lay_self _ _))
    have hgf : Grows h (h2.lay (.row 34 true [int (l0 a b c d), int (l1 a b c d), int (l2 a b c d)])) := (hgr.trans hg2).then_lay _
    have hle : h.next ≤ ((h.lay (.row 22 true [int a, int b])).lay (.row 22 true [int c, int d])).next := ((Grows.lay _ _).then_lay _).next
    have hlt : ((h.lay (.row 22 true [int a, int b])).lay (.row 22 true [int c, int d])).next < (h2.lay (.row 34 true [int (l0 a b c d), int (l1 a b c d), int (l2 a b c d)])).next := by
      have h1 := (hg2.then_lay (.row 34 true [int (l0 a b c d), int (l1 a b c d), int (l2 a b c d)])).next
      rw [Hp.next_lay] at h1
      omega
    refine resP_cutA ?_ (by omega)
    conv => whnf
    refine CallP.mono (isw_spec 20 (.slice (some ⟨h2.next, 0, some 1⟩) 3 3) [l0 a b c d, l1 a b c d, l2 a b c d] _ (by omega) (ints_three hq8) (by simp)) ?_
    rintro r h3 ⟨hr, rfl⟩
    by_cases h4 : Small a b c d
    · have hr' : r = .bool true := by rw [hr, decide_eq_true (by unfold Small at h4; simpa using h4)]
      subst hr'
      conv => whnf
      refine SeqP.go ?_
      conv => whnf
      refine ⟨[int (l0 a b c d), int (l1 a b c d), int (l2 a b c d)], cellsAt_all rfl, ?_⟩
      conv => whnf
      refine ⟨rfl, _, storeAt_full hc4 rfl rfl rfl, ?_⟩
      conv => whnf
      refine leave_cell2 (cs := [int (l0 a b c d), int (l1 a b c d), int (l2 a b c d)]) (w := int 0) rfl rfl rfl hi hag (by rw [hs]; exact cellsAt_row (Hp.at_set_self _ hlt) (by simp)) ⟨⟨_, _, _, 0, rfl, fun h => absurd h hgood, fun _ => ⟨fun _ => ⟨rfl, rfl, rfl, rfl⟩, fun h => absurd h4 h⟩⟩, hgf.then_set _ hle⟩
    · have hr' : r = .bool false := by rw [hr, decide_eq_false (by unfold Small at h4; simpa using h4)]
      subst hr'
      conv => whnf
      refine SeqP.go ?_
      conv => whnf
      refine ⟨rfl, _, storeAt_full hc4 rfl rfl rfl, ?_⟩
      conv => whnf
      refine leave_cell2 (cs := [int 0, int 0, int 0]) (w := int 4) rfl rfl rfl hi hag (by rw [hs]; exact cellsAt_row (Hp.at_set_self _ hlt) (by simp)) ⟨⟨0, 0, 0, 4, rfl, fun h => absurd h hgood, fun _ => ⟨fun h => absurd h h4, fun _ => ⟨rfl, rfl, rfl, rfl⟩⟩⟩, hgf.then_set _ hle⟩
end
end Go.Proofs.Ytfiginefkfipeaa
