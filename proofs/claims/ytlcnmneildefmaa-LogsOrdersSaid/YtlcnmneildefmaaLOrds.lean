/- Contracts of the functions that LOrds comes to. -/
import Derived.Test.YtlcnmneildefmaaLTop
set_option maxRecDepth 100000
set_option maxHeartbeats 1000000
set_option linter.unusedVariables false
set_option linter.unusedSectionVars false
set_option linter.unusedSimpArgs false
namespace Go.Proofs.Ytlcnmneildefmaa
open Go.Rx Go.RowKit
attribute [local irreducible] E idxN cellAt cellsAt storeAt callable helems hmoved lookIn findKey keyOk hentries Hp.at Hp.set Hp.lay arBits hupdated setAt CallP YieldP BoolOf IsWrap Rnd LoopP AppP CutP Int.tmod Int.tdiv Int.fdiv
structure RSt where
  r : Nat
  k : Int
  H : Hp
structure ISt where
  i : Nat
  k : Int
  H : Hp
section
variable [Unknowns]
attribute [local irreducible] SeqP sameAt
theorem modulus_any (n M : Int) (hM : 1 ≤ M ∧ M ≤ 1000000) (h : Hp) : CallP E 36 [int n, int M] h (fun r h' => (∃ m : Nat, r = int m ∧ 1 ≤ m ∧ m ≤ 1000000) ∧ h' = h) := by
  refine enter36 (by simp) ?_
  conv => whnf
  repeat (refine SeqP.go ?_; conv => whnf)
  have hex := u64_of n
  obtain ⟨u, u0, u1, hu⟩ := hex
  have b1 := tmod_bd u0 (show (0 : Int) < M by omega)
  refine ⟨u, hu, ?_⟩
  conv => whnf
  refine ⟨M, u64_id (by omega), ?_⟩
  conv => whnf
  refine ⟨by omega, ?_⟩
  conv => whnf
  refine ⟨_, wid (by omega), ?_⟩
  conv => whnf
  have hexm : ∃ m : Nat, 1 + u.tmod M = m := ⟨(1 + u.tmod M).toNat, by omega⟩
  obtain ⟨m, hm⟩ := hexm
  refine ⟨(m : Int), wie hm (by omega), ?_⟩
  conv => whnf
  repeat (refine SeqP.go ?_; conv => whnf)
  exact ⟨⟨m, rfl, by omega, by omega⟩, rfl⟩
theorem orders_spec (n : Int) (hn : -9223372036854775808 ≤ n ∧ n < 9223372036854775808) (a : Int) (ha : -9223372036854775808 ≤ a ∧ a < 9223372036854775808) (k : Int) (hk : -9223372036854775808 ≤ k ∧ k < 9223372036854775808) : ∀ h vs, AllIs h vs [.i n, .i a, .i k] → CallP E 4 vs h (fun r _ => r = .bool true) := by
  intro h vs hvs
  match vs, hvs with
  | [_, _, _], hvs =>
  obtain ⟨rfl, rfl, rfl, -⟩ := hvs
  clear hn ha hk
  refine enter4 (by simp) ?_
  conv => whnf
  repeat (refine SeqP.go ?_; conv => whnf)
  refine loop_inv (α := RSt) (fun s => [(7, int s.r), (0, int n), (1, int a), (2, int s.k)]) (fun s => s.H) (fun s => s.r ≤ 2) (fun s => 2 - s.r) ⟨0, k, h⟩ (by simp) ⟨rfl, rfl, rfl, rfl, trivial⟩ (Hp.Le.refl _) ?_
  rintro ⟨r, k, H⟩ φ hr
  dsimp only at hr ⊢
  conv => whnf
  repeat (refine SeqP.go ?_; conv => whnf)
  refine cmpB (fun hb => ?_) (fun hb => ?_)
  rotate_left
  · conv => whnf
    repeat (refine SeqP.go ?_; conv => whnf)
    refine memo28 ?_
    conv => whnf
    repeat (refine SeqP.go ?_; conv => whnf)
    rfl
  conv => whnf
  refine SeqP.go ?_
  conv => whnf
  refine SeqP.go ?_
  conv => whnf
  refine SeqP.cut (α := Int) (fun M => [(8, int M), (7, int r), (0, int n), (1, int a), (2, int k)]) (fun M h' => h' = H ∧ 1 ≤ M ∧ M ≤ 1000000) ?_ ?_
  · conv => whnf
    repeat (refine SeqP.go ?_; conv => whnf)
    refine cmpB (fun hb2 => ?_) (fun hb2 => ?_)
    · conv => whnf
      exact ⟨400, ⟨rfl, rfl, rfl, rfl, rfl, trivial⟩, ⟨rfl, by omega, by omega⟩, rfl⟩
    · conv => whnf
      exact ⟨1000000, ⟨rfl, rfl, rfl, rfl, rfl, trivial⟩, ⟨rfl, by omega, by omega⟩, rfl⟩
  rintro M φ H1 ⟨rfl, hM⟩
  conv => whnf
  repeat (refine SeqP.go ?_; conv => whnf)
  refine CallP.mono (modulus_any n M hM H1) ?_
  rintro v h1 ⟨⟨m, rfl, hm⟩, rfl⟩
  conv => whnf
  repeat (refine SeqP.go ?_; conv => whnf)
  refine CallP.mono (unit_spec m a ⟨by omega, by omega⟩ h1) ?_
  rintro v h2 ⟨⟨u, rfl, hu⟩, rfl⟩
  obtain ⟨u, rfl⟩ : ∃ w : Nat, u = w := ⟨u.toNat, by have := hu.1; omega⟩
  have hum : u < m := by have := hu.2.1; omega
  have hc : Nat.gcd u m = 1 := by have := hu.2.2; rw [Int.toNat_natCast, Int.toNat_natCast, Nat.gcd_comm] at this; exact this
  have e3 := tmod_nat 1 m
  conv => whnf
  repeat (refine SeqP.go ?_; conv => whnf)
  refine CallP.mono (Order_spec m u hm hum hc h2) ?_
  rintro v h3 ⟨⟨o, rfl, ho1, hom, ho, hol⟩, hg3⟩
  conv => whnf
  repeat (refine SeqP.go ?_; conv => whnf)
  refine CallP.mono (Inverse_spec m u hm hum hc h3) ?_
  rintro v h4 ⟨⟨w, rfl, hwm, hw⟩, hg4⟩
  have m1 : (w : Int) * (u : Int) = ((w * u : Nat) : Int) := by rw [Int.natCast_mul]
  have b1 := mod_bound hm.2 hwm hum
  have t1 := tmod_nat (w * u) m
  conv => whnf
  repeat (refine SeqP.go ?_; conv => whnf)
  refine cmpF (by omega) ?_
  conv => whnf
  refine CallP.mono (reforder_spec m u o hm hum ⟨by omega, by omega⟩ ho hol h4) ?_
  rintro v h5 ⟨rfl, rfl⟩
  conv => whnf
  refine cmpF (by omega) ?_
  conv => whnf
  refine cmpF (by omega) ?_
  conv => whnf
  refine cmpF (by omega) ?_
  conv => whnf
  refine cmpF (by omega) ?_
  conv => whnf
  refine ⟨((w * u : Nat) : Int), wie m1 (by omega), ?_⟩
  conv => whnf
  refine ⟨by omega, ?_⟩
  conv => whnf
  refine ⟨by omega, ?_⟩
  conv => whnf
  refine cmpF (fun e => e (by show ((w * u : Nat) : Int).tmod m = (1 : Int).tmod m; rw [t1, hw]; exact e3.symm)) ?_
  conv => whnf
  refine ⟨?_, ?_⟩
  · repeat' (first | exact True.intro | (refine And.intro ?_ ?_ <;> (conv => whnf)))
    all_goals exact sameAt_val (h2 := _) rfl (sameV_int _)
  conv => whnf
  repeat (refine SeqP.go ?_; conv => whnf)
  refine loop_inv (α := ISt) (fun s => [(15, int s.i), (7, int r), (0, int n), (1, int a), (2, int s.k), (9, int m), (10, int u)]) (fun s => s.H) (fun s => s.i ≤ 2) (fun s => 2 - s.i) ⟨0, k, h5⟩ (by simp) ⟨rfl, rfl, rfl, rfl, rfl, rfl, rfl, trivial⟩ (Hp.Le.refl _) ?_
  rintro ⟨i, k, H⟩ φ hi
  dsimp only at hi ⊢
  conv => whnf
  repeat (refine SeqP.go ?_; conv => whnf)
  refine cmpB (fun hb3 => ?_) (fun hb3 => ?_)
  rotate_left
  · conv => whnf
    repeat (refine SeqP.go ?_; conv => whnf)
    refine ⟨_, wid (by omega), ?_⟩
    conv => whnf
    exact Rnd.mk ⟨r + 1, k, H⟩ (by show r + 1 ≤ 2; omega) (by show 2 - (r + 1) < 2 - r; omega) ⟨rfl, rfl, rfl, rfl, trivial⟩ (Hp.Le.refl _) rfl
  conv => whnf
  repeat (refine SeqP.go ?_; conv => whnf)
  refine CallP.mono (Power_spec m u k hm hum hc H) ?_
  rintro v h6 ⟨hres, hg6⟩
  have hexk := u64_of k
  obtain ⟨z, z0, z1, hz⟩ := hexk
  have bz := tmod_bd z0 (show (0 : Int) < 1000000001 by omega)
  rcases hres with ⟨hbad, rfl⟩ | ⟨hk0, hk1, rfl⟩
  · conv => whnf
    repeat (refine SeqP.go ?_; conv => whnf)
    by_cases hk0 : k < 0
    · refine cmpT hk0 ?_
      conv => whnf
      repeat (refine SeqP.go ?_; conv => whnf)
      refine cmpF (by omega) ?_
      conv => whnf
      refine cmpF (by omega) ?_
      conv => whnf
      repeat (refine SeqP.go ?_; conv => whnf)
      refine ⟨z, hz, ?_⟩
      conv => whnf
      refine ⟨by omega, ?_⟩
      conv => whnf
      refine ⟨z.tmod 1000000001, wid (by omega), ?_⟩
      conv => whnf
      refine ⟨_, wid (by omega), ?_⟩
      conv => whnf
      exact Rnd.mk ⟨i + 1, z.tmod 1000000001, h6⟩ (by show i + 1 ≤ 2; omega) (by show 2 - (i + 1) < 2 - i; omega) ⟨rfl, rfl, rfl, rfl, rfl, rfl, rfl, trivial⟩ (Hp.Le.refl _) rfl
    refine cmpF hk0 ?_
    conv => whnf
    refine cmpT (by omega) ?_
    conv => whnf
    repeat (refine SeqP.go ?_; conv => whnf)
    refine cmpF (by omega) ?_
    conv => whnf
    refine cmpF (by omega) ?_
    conv => whnf
    repeat (refine SeqP.go ?_; conv => whnf)
    refine ⟨z, hz, ?_⟩
    conv => whnf
    refine ⟨by omega, ?_⟩
    conv => whnf
    refine ⟨z.tmod 1000000001, wid (by omega), ?_⟩
    conv => whnf
    refine ⟨_, wid (by omega), ?_⟩
    conv => whnf
    exact Rnd.mk ⟨i + 1, z.tmod 1000000001, h6⟩ (by show i + 1 ≤ 2; omega) (by show 2 - (i + 1) < 2 - i; omega) ⟨rfl, rfl, rfl, rfl, rfl, rfl, rfl, trivial⟩ (Hp.Le.refl _) rfl
  · obtain ⟨j, rfl⟩ : ∃ j : Nat, k = j := ⟨k.toNat, by omega⟩
    rw [Int.toNat_natCast]
    conv => whnf
    repeat (refine SeqP.go ?_; conv => whnf)
    refine cmpF (by omega) ?_
    conv => whnf
    refine cmpF (by omega) ?_
    conv => whnf
    repeat (refine SeqP.go ?_; conv => whnf)
    refine cmpF (by omega) ?_
    conv => whnf
    refine CallP.mono (refpower_spec m u j hm (by omega) (by omega) h6) ?_
    rintro v h7 ⟨rfl, rfl⟩
    conv => whnf
    refine cmpF (fun e => e rfl) ?_
    conv => whnf
    repeat (refine SeqP.go ?_; conv => whnf)
    refine ⟨z, hz, ?_⟩
    conv => whnf
    refine ⟨by omega, ?_⟩
    conv => whnf
    refine ⟨z.tmod 1000000001, wid (by omega), ?_⟩
    conv => whnf
    refine ⟨_, wid (by omega), ?_⟩
    conv => whnf
    exact Rnd.mk ⟨i + 1, z.tmod 1000000001, h7⟩ (by show i + 1 ≤ 2; omega) (by show 2 - (i + 1) < 2 - i; omega) ⟨rfl, rfl, rfl, rfl, rfl, rfl, rfl, trivial⟩ (Hp.Le.refl _) rfl
end
end Go.Proofs.Ytlcnmneildefmaa
