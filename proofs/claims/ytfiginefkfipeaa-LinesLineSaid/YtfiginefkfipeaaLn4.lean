/- Contracts of the functions that LnL comes to. -/
import Derived.Test.YtfiginefkfipeaaLn3
set_option maxRecDepth 100000
set_option maxHeartbeats 1000000
set_option linter.unusedVariables false
set_option linter.unusedSectionVars false
set_option linter.unusedSimpArgs false
namespace Go.Proofs.Ytfiginefkfipeaa
open Go.Rx Go.RowKit
attribute [local irreducible] E idxN cellAt cellsAt storeAt callable helems hmoved lookIn findKey keyOk hentries Hp.at Hp.set Hp.lay arBits hupdated setAt CallP YieldP BoolOf IsWrap Rnd LoopP AppP CutP Int.tmod Int.tdiv Int.fdiv
section
variable [Unknowns]
attribute [local irreducible] sameAt
theorem rline_spec (x y z : Int) (h : Hp) (hb : x.natAbs ≤ 1000 ∧ y.natAbs ≤ 1000 ∧ z.natAbs ≤ 1000) (hsg : 0 < x ∨ x = 0 ∧ 0 < y) (hg : Nat.gcd (Nat.gcd x.natAbs y.natAbs) z.natAbs = 1) : CallP E 10 [.agg ⟨[int x, int y, int z]⟩] h (fun r h' => r = .bool (decide (x.natAbs ≤ 20 ∧ y.natAbs ≤ 20 ∧ z.natAbs ≤ 20)) ∧ Grows h h') := by
  obtain ⟨i, hi, hag, hs⟩ := ty23
  have hp : (h.lay (.row 23 true [int x, int y, int z])).at h.next = some (.row 23 true [int x, int y, int z]) := Hp.at_lay_self _ _
  refine enter10 (by simp) ?_
  conv => whnf
  refine loop_inv (α := Nat) (fun k => [(3, int k), (1, ptr h.next 0)]) (fun _ => h.lay (.row 23 true [int x, int y, int z])) (fun k => k ≤ 3 ∧ (1 ≤ k → x.natAbs ≤ 20) ∧ (2 ≤ k → y.natAbs ≤ 20) ∧ (3 ≤ k → z.natAbs ≤ 20)) (fun k => 3 - k) 0 ⟨by omega, by omega, by omega, by omega⟩ ⟨rfl, rfl, trivial⟩ (Hp.Le.refl _) ?_
  rintro k φ ⟨hk, h1, h2, h3⟩
  conv => whnf
  refine cmpB (fun hb1 => ?_) (fun hb1 => ?_)
  · have hv : ∃ v : Int, [int x, int y, int z][k]? = some (int v) ∧ (k = 0 ∧ v = x ∨ k = 1 ∧ v = y ∨ k = 2 ∧ v = z) := by
      have hk3 : k = 0 ∨ k = 1 ∨ k = 2 := by omega
      rcases hk3 with rfl | rfl | rfl
      · exact ⟨x, rfl, .inl ⟨rfl, rfl⟩⟩
      · exact ⟨y, rfl, .inr (.inl ⟨rfl, rfl⟩)⟩
      · exact ⟨z, rfl, .inr (.inr ⟨rfl, rfl⟩)⟩
    obtain ⟨v, hv, hkv⟩ := hv
    have hload : cellAt (h.lay (.row 23 true [int x, int y, int z])) h.next (offAt 0 (k : Int).toNat 1) = some (int v) := by
      rw [offAt_eq]
      refine cellAt_row hp ?_
      rw [show 0 + (k : Int).toNat * 1 = k by omega]; exact hv
    conv => whnf
    refine ⟨⟨by omega, by omega⟩, ?_⟩
    conv => whnf
    refine ⟨int v, hload, ?_⟩
    conv => whnf
    refine cmpB (fun hb2 => ?_) (fun hb2 => ?_)
    · conv => whnf
      exact ⟨by rw [decide_eq_false (by omega)]; rfl, Grows.lay _ _⟩
    conv => whnf
    refine ⟨⟨by omega, by omega⟩, ?_⟩
    conv => whnf
    refine ⟨int v, hload, ?_⟩
    conv => whnf
    refine cmpB (fun hb3 => ?_) (fun hb3 => ?_)
    · conv => whnf
      exact ⟨by rw [decide_eq_false (by omega)]; rfl, Grows.lay _ _⟩
    conv => whnf
    refine ⟨_, wid (by omega), ?_⟩
    conv => whnf
    exact Rnd.mk (k + 1) ⟨by omega, by omega, by omega, by omega⟩ (by omega) ⟨rfl, rfl, trivial⟩ (Hp.Le.refl _) rfl
  have hall : x.natAbs ≤ 20 ∧ y.natAbs ≤ 20 ∧ z.natAbs ≤ 20 := ⟨h1 (by omega), h2 (by omega), h3 (by omega)⟩
  rw [decide_eq_true hall]
  conv => whnf
  have hgb : Nat.gcd x.natAbs y.natAbs ≤ 1000 := gcd_le' hb.1 hb.2.1
  rcases hsg with hx | ⟨hx, hy⟩
  · skip
    refine ⟨⟨by omega, by omega⟩, ?_⟩
    conv => whnf
    refine ⟨int x, cellAt_row hp rfl, ?_⟩
    conv => whnf
    refine cmpT (by omega) ?_
    conv => whnf
    refine ⟨⟨by omega, by omega⟩, ?_⟩
    conv => whnf
    refine ⟨int x, cellAt_row hp rfl, ?_⟩
    conv => whnf
    refine ⟨⟨by omega, by omega⟩, ?_⟩
    conv => whnf
    refine ⟨int y, cellAt_row hp rfl, ?_⟩
    conv => whnf
    refine CallP.mono (gcd_spec x y _ (by omega) (by omega)) ?_
    rintro r h4 ⟨rfl, rfl⟩
    conv => whnf
    refine ⟨⟨by omega, by omega⟩, ?_⟩
    conv => whnf
    refine ⟨int z, cellAt_row hp rfl, ?_⟩
    conv => whnf
    refine CallP.mono (gcd_spec _ z _ (by omega) (by omega)) ?_
    rintro r h5 ⟨rfl, rfl⟩
    conv => whnf
    refine cmpT (by rw [Int.natAbs_natCast]; exact congrArg Int.ofNat hg) ?_
    conv => whnf
    refine ⟨?_, ?_⟩
    rotate_left
    · conv => whnf
      exact ⟨rfl, Grows.lay _ _⟩
    repeat' (first | exact True.intro | (refine And.intro ?_ ?_ <;> (conv => whnf)))
    all_goals first
      | (refine sameAt_val (h2 := h.lay (.row 23 true [int x, int y, int z])) (show hval _ (cellAt _ h.next 2) = _ by rw [cellAt_row hp rfl]; rfl) (sameV_int _); done)
      | (refine sameAt_val (h2 := h.lay (.row 23 true [int x, int y, int z])) (show hval _ (idxAV 3 1 (ptr h.next 0) (int 2)) = _ by unfold idxAV; dsimp only [ptr]; rw [idxN_ok (n := 3) (j := 2) ⟨by omega, by omega⟩]; rfl) (by simp [sameV, ptr]); done)
  · skip
    refine ⟨⟨by omega, by omega⟩, ?_⟩
    conv => whnf
    refine ⟨int x, cellAt_row hp rfl, ?_⟩
    conv => whnf
    refine cmpF (by omega) ?_
    conv => whnf
    refine ⟨⟨by omega, by omega⟩, ?_⟩
    conv => whnf
    refine ⟨int x, cellAt_row hp rfl, ?_⟩
    conv => whnf
    refine cmpT (by omega) ?_
    conv => whnf
    refine ⟨⟨by omega, by omega⟩, ?_⟩
    conv => whnf
    refine ⟨int y, cellAt_row hp rfl, ?_⟩
    conv => whnf
    refine cmpT (by omega) ?_
    conv => whnf
    refine ⟨⟨by omega, by omega⟩, ?_⟩
    conv => whnf
    refine ⟨int x, cellAt_row hp rfl, ?_⟩
    conv => whnf
    refine ⟨⟨by omega, by omega⟩, ?_⟩
    conv => whnf
    refine ⟨int y, cellAt_row hp rfl, ?_⟩
    conv => whnf
    refine CallP.mono (gcd_spec x y _ (by omega) (by omega)) ?_
    rintro r h4 ⟨rfl, rfl⟩
    conv => whnf
    refine ⟨⟨by omega, by omega⟩, ?_⟩
    conv => whnf
    refine ⟨int z, cellAt_row hp rfl, ?_⟩
    conv => whnf
    refine CallP.mono (gcd_spec _ z _ (by omega) (by omega)) ?_
    rintro r h5 ⟨rfl, rfl⟩
    conv => whnf
    refine cmpT (by rw [Int.natAbs_natCast]; exact congrArg Int.ofNat hg) ?_
    conv => whnf
    refine ⟨?_, ?_⟩
    rotate_left
    · conv => whnf
      exact ⟨rfl, Grows.lay _ _⟩
    repeat' (first | exact True.intro | (refine And.intro ?_ ?_ <;> (conv => whnf)))
    all_goals first
      | (refine sameAt_val (h2 := h.lay (.row 23 true [int x, int y, int z])) (show hval _ (cellAt _ h.next 2) = _ by rw [cellAt_row hp rfl]; rfl) (sameV_int _); done)
      | (refine sameAt_val (h2 := h.lay (.row 23 true [int x, int y, int z])) (show hval _ (idxAV 3 1 (ptr h.next 0) (int 2)) = _ by unfold idxAV; dsimp only [ptr]; rw [idxN_ok (n := 3) (j := 2) ⟨by omega, by omega⟩]; rfl) (by simp [sameV, ptr]); done)
end
end Go.Proofs.Ytfiginefkfipeaa
