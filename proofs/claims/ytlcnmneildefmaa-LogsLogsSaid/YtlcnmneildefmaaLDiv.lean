/- Contracts of the functions that LLogs comes to. -/
import Derived.Test.YtlcnmneildefmaaLInv
set_option maxRecDepth 100000
set_option maxHeartbeats 1000000
set_option linter.unusedVariables false
set_option linter.unusedSectionVars false
set_option linter.unusedSimpArgs false
namespace Go.Proofs.Ytlcnmneildefmaa
open Go.Rx Go.RowKit
theorem sameV_meth (x y : Int) : sameV 4 (.func (.func 67) ⟨[.agg ⟨[int x, int y]⟩]⟩ ⟨[]⟩) (.func (.func 67) ⟨[.agg ⟨[int x, int y]⟩]⟩ ⟨[]⟩) = true := by
  have q : ∀ n : Int, eqI n n = true := fun n => by unfold eqI; cases n <;> simp
  simp [sameV, sameL, q]
theorem rem_val {x y : Int} {h : Hp} (hy : y ≠ 0) : hval h (arK .i64 .rem x y) = .val (int (x.tmod y)) h := by
  unfold arK
  dsimp only
  rw [if_neg hy]
  rfl
attribute [local irreducible] E idxN cellAt cellsAt storeAt callable helems hmoved lookIn findKey keyOk hentries Hp.at Hp.set Hp.lay arBits hupdated setAt CallP YieldP BoolOf IsWrap Rnd LoopP AppP CutP Int.tmod Int.tdiv Int.fdiv
structure DSt where
  o : Nat
  h : Hp
section
variable [Unknowns]
attribute [local irreducible] sameAt
theorem divide_spec (p n a out c1 c2 c3 : Nat) (hp : 2 ≤ p ∧ p ≤ 1000000) (hn : 1 ≤ n ∧ n ≤ 1000000) (ha : a < 9223372036854775808) (ho : 1 ≤ out ∧ out ≤ 1000000) (h1 : a ^ out % n = 1 % n) (h : Hp)
    (k1 : h.at c1 = some (.row 3 true [int out])) (k2 : h.at c2 = some (.row 43 true [.func (.func 67) ⟨[.agg ⟨[int n, int a]⟩]⟩ ⟨[]⟩])) (k3 : h.at c3 = some (.row 65 true [int n, int a])) (d2 : c1 ≠ c2) (d3 : c1 ≠ c3) :
    CallP E 80 [int p, ptr c1 0, ptr c2 0, ptr c3 0] h (fun r h' => ∃ out' : Nat, 1 ≤ out' ∧ out' ∣ out ∧ a ^ out' % n = 1 % n ∧ (p ∣ out' → a ^ (out' / p) % n ≠ 1 % n) ∧ h'.at c1 = some (.row 3 true [int out']) ∧ h.next ≤ h'.next ∧ ∀ r o, r ≠ c1 → h.at r = some o → h'.at r = some o) := by
  refine enter80 (by simp) ?_
  conv => whnf
  refine loop_inv (α := DSt) (fun s => [(0, int p), (1, ptr c1 0), (2, ptr c2 0), (3, ptr c3 0)]) (fun s => s.h) (fun s => 1 ≤ s.o ∧ s.o ∣ out ∧ a ^ s.o % n = 1 % n ∧ s.h.at c1 = some (.row 3 true [int s.o]) ∧ h.next ≤ s.h.next ∧ ∀ r o, r ≠ c1 → h.at r = some o → s.h.at r = some o) (fun s => s.o) ⟨out, h⟩ ⟨ho.1, Nat.dvd_refl _, h1, k1, Nat.le_refl _, fun r o _ e => e⟩ ⟨rfl, rfl, rfl, rfl, trivial⟩ (Hp.Le.refl _) ?_
  rintro ⟨o, hh⟩ φ ⟨ho1, hod, hon, ko, hnx, hkeep⟩
  dsimp only at ho1 hod hon ko hnx hkeep ⊢
  have hol := Nat.le_of_dvd (by omega) hod
  have kk2 := hkeep _ _ (Ne.symm d2) k2
  have kk3 := hkeep _ _ (Ne.symm d3) k3
  have e1 := tmod_nat o p
  have e2 := tdiv_nat o p
  have e3 := tmod_nat 1 n
  conv => whnf
  refine ⟨int o, cellAt_row ko rfl, ?_⟩
  conv => whnf
  refine ⟨by omega, ?_⟩
  conv => whnf
  by_cases hd : o % p = 0
  · refine cmpT (by show (o : Int).tmod p = 0; rw [e1, hd]; rfl) ?_
    conv => whnf
    refine ⟨_, cellAt_row kk2 rfl, ?_⟩
    conv => whnf
    refine ⟨int o, cellAt_row ko rfl, ?_⟩
    conv => whnf
    have hq : o / p ≤ o := Nat.div_le_self _ _
    obtain ⟨q, hqe⟩ : ∃ q, o / p = q := ⟨_, rfl⟩
    rw [hqe] at e2 hq
    refine ⟨by omega, (q : Int), wie e2 (by omega), ?_⟩
    conv => whnf
    refine ⟨can67, ?_⟩
    refine CallP.mono (power_spec n a q hn ha (by omega) hh) ?_
    rintro r h2 ⟨rfl, hg2⟩
    have ko2 := hg2.at_ _ _ ko
    have kk22 := hg2.at_ _ _ kk2
    have kk32 := hg2.at_ _ _ kk3
    conv => whnf
    refine ⟨int n, cellAt_row kk32 rfl, ?_⟩
    conv => whnf
    refine ⟨by omega, ?_⟩
    conv => whnf
    by_cases hw : a ^ q % n = 1 % n
    · refine cmpT (by show ((a ^ q % n : Nat) : Int) = (1 : Int).tmod n; rw [hw]; exact e3.symm) ?_
      conv => whnf
      refine ⟨?_, ?_⟩
      · repeat' (first | exact True.intro | (refine And.intro ?_ ?_ <;> (conv => whnf)))
        all_goals first
          | (exact sameAt_val (h2 := hh) (show hval hh (cellAt hh c1 0) = _ by rw [cellAt_row ko rfl]; rfl) (sameV_int _); done)
          | (exact sameAt_val (h2 := h2) (show hval h2 (cellAt h2 c1 0) = _ by rw [cellAt_row ko2 rfl]; rfl) (sameV_int _); done)
          | (exact sameAt_val (h2 := hh) (show hval hh (cellAt hh c2 0) = _ by rw [cellAt_row kk2 rfl]; rfl) (sameV_meth _ _); done)
          | (exact sameAt_val (h2 := h2) (show hval h2 (cellAt h2 c2 0) = _ by rw [cellAt_row kk22 rfl]; rfl) (sameV_meth _ _); done)
          | (exact sameAt_val (h2 := _) rfl (sameV_int _); done)
          | (exact sameAt_val (h2 := _) rfl (by simp [sameV, ptr]); done)
          | (exact sameAt_val (h2 := hh) (show hval hh (cellAt hh c3 (0 + 0)) = _ by rw [cellAt_row kk3 rfl]; rfl) (sameV_int _); done)
          | (exact sameAt_val (h2 := h2) (show hval h2 (cellAt h2 c3 (0 + 0)) = _ by rw [cellAt_row kk32 rfl]; rfl) (sameV_int _); done)
          | (exact sameAt_val (h2 := _) (show hval _ (arK .i64 .rem 1 n) = _ from rem_val (by omega)) (sameV_int _); done)
      conv => whnf
      refine ⟨int o, cellAt_row ko2 rfl, ?_⟩
      conv => whnf
      refine ⟨by omega, (q : Int), wie e2 (by omega), ?_⟩
      conv => whnf
      refine ⟨rfl, _, storeAt_row ko2 (by simp) rfl, ?_⟩
      conv => whnf
      have hq1 : o = p * q := by rw [← hqe]; exact (Nat.mul_div_cancel' (Nat.dvd_of_mod_eq_zero hd)).symm
      have hq0 : 1 ≤ q := by
        rcases Nat.eq_zero_or_pos q with e | e
        · rw [e] at hq1; omega
        · exact e
      have hlt : q < o := by rw [← hqe]; exact Nat.div_lt_self (by omega) (by omega)
      refine Rnd.mk ⟨q, _⟩ ⟨hq0, Nat.dvd_trans ⟨p, by rw [hq1, Nat.mul_comm]⟩ hod, hw, Hp.at_set_self _ (Hp.lt_of_at ko2), ?_, ?_⟩ hlt ⟨rfl, rfl, rfl, rfl, trivial⟩ (Hp.Le.refl _) rfl
      · show h.next ≤ Hp.next _
        rw [Hp.next_set]; exact Nat.le_trans hnx hg2.next
      · intro r o hr hro
        show Hp.at _ r = _
        rw [Hp.at_set_ne _ hr]; exact hg2.at_ _ _ (hkeep r o hr hro)
    · refine cmpF (fun e => hw (by
        have e : ((a ^ q % n : Nat) : Int) = (1 : Int).tmod n := e
        rw [show (1 : Int).tmod n = ((1 % n : Nat) : Int) from e3] at e
        exact Int.ofNat.inj e)) ?_
      conv => whnf
      refine ⟨?_, ?_⟩
      · repeat' (first | exact True.intro | (refine And.intro ?_ ?_ <;> (conv => whnf)))
        all_goals first
          | (exact sameAt_val (h2 := hh) (show hval hh (cellAt hh c1 0) = _ by rw [cellAt_row ko rfl]; rfl) (sameV_int _); done)
          | (exact sameAt_val (h2 := h2) (show hval h2 (cellAt h2 c1 0) = _ by rw [cellAt_row ko2 rfl]; rfl) (sameV_int _); done)
          | (exact sameAt_val (h2 := hh) (show hval hh (cellAt hh c2 0) = _ by rw [cellAt_row kk2 rfl]; rfl) (sameV_meth _ _); done)
          | (exact sameAt_val (h2 := h2) (show hval h2 (cellAt h2 c2 0) = _ by rw [cellAt_row kk22 rfl]; rfl) (sameV_meth _ _); done)
          | (exact sameAt_val (h2 := _) rfl (sameV_int _); done)
          | (exact sameAt_val (h2 := _) rfl (by simp [sameV, ptr]); done)
          | (exact sameAt_val (h2 := hh) (show hval hh (cellAt hh c3 (0 + 0)) = _ by rw [cellAt_row kk3 rfl]; rfl) (sameV_int _); done)
          | (exact sameAt_val (h2 := h2) (show hval h2 (cellAt h2 c3 (0 + 0)) = _ by rw [cellAt_row kk32 rfl]; rfl) (sameV_int _); done)
          | (exact sameAt_val (h2 := _) (show hval _ (arK .i64 .rem 1 n) = _ from rem_val (by omega)) (sameV_int _); done)
      conv => whnf
      exact ⟨o, ho1, hod, hon, fun _ => by rw [hqe]; exact hw, ko2, Nat.le_trans hnx hg2.next, fun r o hr hro => hg2.at_ _ _ (hkeep r o hr hro)⟩
  · refine cmpF (fun e => hd (by
      have e : (o : Int).tmod p = 0 := e
      rw [e1] at e
      exact Int.ofNat.inj e)) ?_
    conv => whnf
    refine ⟨?_, ?_⟩
    · repeat' (first | exact True.intro | (refine And.intro ?_ ?_ <;> (conv => whnf)))
    conv => whnf
    exact ⟨o, ho1, hod, hon, fun hdv => absurd (Nat.mod_eq_zero_of_dvd hdv) hd, ko, hnx, hkeep⟩
end
end Go.Proofs.Ytlcnmneildefmaa
