/- Contracts of the functions that LSigns comes to. -/
import Derived.Test.YtlcnmneildefmaaLRef
set_option maxRecDepth 100000
set_option maxHeartbeats 1000000
set_option linter.unusedVariables false
set_option linter.unusedSectionVars false
set_option linter.unusedSimpArgs false
namespace Go.Proofs.Ytlcnmneildefmaa
open Go.Rx Go.RowKit
attribute [local irreducible] E idxN cellAt cellsAt storeAt callable helems hmoved lookIn findKey keyOk hentries Hp.at Hp.set Hp.lay arBits hupdated setAt CallP YieldP BoolOf IsWrap Rnd LoopP AppP CutP Int.tmod Int.tdiv Int.fdiv
section
variable [Unknowns]
attribute [local irreducible] SeqP
theorem signs_spec (a : Int) (ha : -9223372036854775808 ≤ a ∧ a < 9223372036854775808) (m : Int) (hm : -9223372036854775808 ≤ m ∧ m < 9223372036854775808) : ∀ h vs, AllIs h vs [.i a, .i m] → CallP E 10 vs h (fun r _ => r = .bool true) := by
  intro h vs hvs
  match vs, hvs with
  | [_, _], hvs =>
  obtain ⟨rfl, rfl, -⟩ := hvs
  refine enter10 (by simp) ?_
  conv => whnf
  repeat (refine SeqP.go ?_; conv => whnf)
  refine loop_inv (α := Nat × Int × Int × Hp) (fun s => [(5, int s.1), (0, int s.2.1), (1, int s.2.2.1)]) (fun s => s.2.2.2) (fun s => s.1 ≤ 3 ∧ (-9223372036854775808 ≤ s.2.2.1 ∧ s.2.2.1 < 9223372036854775808)) (fun s => 3 - s.1) (0, a, m, h) ⟨by simp, hm⟩ ⟨rfl, rfl, rfl, trivial⟩ (Hp.Le.refl _) ?_
  rintro ⟨i, a, m, h1⟩ φ ⟨hi, hm⟩
  dsimp only at hi hm ⊢
  conv => whnf
  repeat (refine SeqP.go ?_; conv => whnf)
  refine cmpB (fun hb0 => ?_) (fun hb0 => ?_)
  rotate_left
  · conv => whnf
    repeat (refine SeqP.go ?_; conv => whnf)
    refine memo28 ?_
    conv => whnf
    rfl
  conv => whnf
  refine SeqP.go ?_
  conv => whnf
  refine SeqP.go ?_
  conv => whnf
  refine CallP.mono (Sign_spec a m h1) ?_
  rintro r h2 ⟨hres, hg⟩
  rcases hres with ⟨hno, rfl⟩ | ⟨hyes, rfl⟩
  · conv => whnf
    refine SeqP.cut (α := Unit) (fun _ => [(5, int i), (0, int a), (1, int m)]) (fun _ h' => True) ?_ ?_
    · conv => whnf
      repeat (refine SeqP.go ?_; conv => whnf)
      refine cmpB (fun hc1 => ?_) (fun hc1 => ?_)
      · conv => whnf
        repeat (refine SeqP.go ?_; conv => whnf)
        refine cmpF (by omega) ?_
        conv => whnf
        refine cmpF (by omega) ?_
        conv => whnf
        exact ⟨(), ⟨rfl, rfl, rfl, trivial⟩, trivial, rfl⟩
      conv => whnf
      refine cmpB (fun hc2 => ?_) (fun hc2 => ?_)
      · conv => whnf
        repeat (refine SeqP.go ?_; conv => whnf)
        refine cmpF (by omega) ?_
        conv => whnf
        refine cmpF (by omega) ?_
        conv => whnf
        exact ⟨(), ⟨rfl, rfl, rfl, trivial⟩, trivial, rfl⟩
      have hexm : ∃ n : Nat, m = n := ⟨m.toNat, by omega⟩
      obtain ⟨n, rfl⟩ := hexm
      have t3 : (n : Int).tmod 2 = ((n % 2 : Nat) : Int) := tmod_nat n 2
      conv => whnf
      refine ⟨by omega, ?_⟩
      conv => whnf
      refine cmpB (fun odd => ?_) (fun odd => ?_)
      · conv => whnf
        repeat (refine SeqP.go ?_; conv => whnf)
        refine cmpF (by omega) ?_
        conv => whnf
        refine cmpF (by omega) ?_
        conv => whnf
        exact ⟨(), ⟨rfl, rfl, rfl, trivial⟩, trivial, rfl⟩
      conv => whnf
      refine cmpB (fun hc4 => ?_) (fun hc4 => ?_)
      · conv => whnf
        repeat (refine SeqP.go ?_; conv => whnf)
        refine cmpF (by omega) ?_
        conv => whnf
        refine cmpF (by omega) ?_
        conv => whnf
        exact ⟨(), ⟨rfl, rfl, rfl, trivial⟩, trivial, rfl⟩
      conv => whnf
      refine cmpB (fun hc5 => ?_) (fun hc5 => ?_)
      · conv => whnf
        repeat (refine SeqP.go ?_; conv => whnf)
        refine cmpF (by omega) ?_
        conv => whnf
        refine cmpF (by omega) ?_
        conv => whnf
        exact ⟨(), ⟨rfl, rfl, rfl, trivial⟩, trivial, rfl⟩
      exact absurd ⟨by omega, by omega, by rw [Int.toNat_natCast]; omega, by omega, by omega⟩ hno
    · rintro _ φ2 h3 -
      conv => whnf
      repeat (refine SeqP.go ?_; conv => whnf)
      have hex := u64_of a
      obtain ⟨u, u0, u1, hu⟩ := hex
      have hex := u64_of m
      obtain ⟨w, w0, w1, hw⟩ := hex
      have b1 := tmod_bd u0 (show (0 : Int) < 2000000001 by omega)
      have b2 := tmod_bd w0 (show (0 : Int) < 500000 by omega)
      refine ⟨u, hu, ?_⟩
      conv => whnf
      refine ⟨by omega, ?_⟩
      conv => whnf
      refine ⟨_, wid (by omega), ?_⟩
      conv => whnf
      refine ⟨_, wid (by omega), ?_⟩
      conv => whnf
      repeat (refine SeqP.go ?_; conv => whnf)
      refine ⟨w, hw, ?_⟩
      conv => whnf
      refine ⟨by omega, ?_⟩
      conv => whnf
      refine ⟨_, wid (by omega), ?_⟩
      conv => whnf
      refine ⟨_, wid (by omega), ?_⟩
      conv => whnf
      refine ⟨_, wid (by omega), ?_⟩
      conv => whnf
      repeat (refine SeqP.go ?_; conv => whnf)
      refine cmpB (fun hb1 => ?_) (fun hb1 => ?_)
      · have hexn : ∃ n : Nat, 1 + 2 * w.tmod 500000 = n := ⟨(1 + 2 * w.tmod 500000).toNat, by omega⟩
        obtain ⟨n, hn⟩ := hexn
        have e1 : (1 + 2 * w.tmod 500000).tmod 400 = ((n % 400 : Nat) : Int) := by rw [hn]; exact tmod_nat n 400
        have e2 : ((1 + 2 * w.tmod 500000).tmod 400).tdiv 2 = ((n % 400 / 2 : Nat) : Int) := by rw [e1]; exact tdiv_nat _ 2
        conv => whnf
        refine ⟨by omega, ?_⟩
        conv => whnf
        refine ⟨by omega, ((n % 400 / 2 : Nat) : Int), wie e2 (by omega), ?_⟩
        conv => whnf
        refine ⟨_, wid (by omega), ?_⟩
        conv => whnf
        refine ⟨_, wid (by omega), ?_⟩
        conv => whnf
        refine ⟨_, wid (by omega), ?_⟩
        conv => whnf
        exact Rnd.mk (i + 1, _, _, h3) ⟨by show i + 1 ≤ 3; omega, by dsimp only; omega⟩ (by show 3 - (i + 1) < 3 - i; omega) ⟨rfl, rfl, rfl, trivial⟩ (Hp.Le.refl _) rfl
      · conv => whnf
        refine ⟨_, wid (by omega), ?_⟩
        conv => whnf
        exact Rnd.mk (i + 1, _, _, h3) ⟨by show i + 1 ≤ 3; omega, by dsimp only; omega⟩ (by show 3 - (i + 1) < 3 - i; omega) ⟨rfl, rfl, rfl, trivial⟩ (Hp.Le.refl _) rfl
  · conv => whnf
    refine SeqP.cut (α := Unit) (fun _ => [(5, int i), (0, int a), (1, int m)]) (fun _ h' => True) ?_ ?_
    · conv => whnf
      repeat (refine SeqP.go ?_; conv => whnf)
      have hexm : ∃ n : Nat, m = n := ⟨m.toNat, by omega⟩
      obtain ⟨n, rfl⟩ := hexm
      rw [Int.toNat_natCast] at hyes ⊢
      have t3 : (n : Int).tmod 2 = ((n % 2 : Nat) : Int) := tmod_nat n 2
      refine cmpF (by omega) ?_
      conv => whnf
      refine cmpF (by omega) ?_
      conv => whnf
      refine ⟨by omega, ?_⟩
      conv => whnf
      refine cmpF (by omega) ?_
      conv => whnf
      refine cmpF (by omega) ?_
      conv => whnf
      refine cmpF (by omega) ?_
      conv => whnf
      repeat (refine SeqP.go ?_; conv => whnf)
      refine cmpF (by omega) ?_
      conv => whnf
      refine CallP.mono (refsign_spec a n ⟨by omega, by omega⟩ ⟨by omega, by omega⟩ (by omega) h2) ?_
      rintro r h3 ⟨rfl, hg3⟩
      conv => whnf
      refine cmpF (by omega) ?_
      conv => whnf
      exact ⟨(), ⟨rfl, rfl, rfl, trivial⟩, trivial, rfl⟩
    · rintro _ φ2 h3 -
      conv => whnf
      repeat (refine SeqP.go ?_; conv => whnf)
      have hex := u64_of a
      obtain ⟨u, u0, u1, hu⟩ := hex
      have hex := u64_of m
      obtain ⟨w, w0, w1, hw⟩ := hex
      have b1 := tmod_bd u0 (show (0 : Int) < 2000000001 by omega)
      have b2 := tmod_bd w0 (show (0 : Int) < 500000 by omega)
      refine ⟨u, hu, ?_⟩
      conv => whnf
      refine ⟨by omega, ?_⟩
      conv => whnf
      refine ⟨_, wid (by omega), ?_⟩
      conv => whnf
      refine ⟨_, wid (by omega), ?_⟩
      conv => whnf
      repeat (refine SeqP.go ?_; conv => whnf)
      refine ⟨w, hw, ?_⟩
      conv => whnf
      refine ⟨by omega, ?_⟩
      conv => whnf
      refine ⟨_, wid (by omega), ?_⟩
      conv => whnf
      refine ⟨_, wid (by omega), ?_⟩
      conv => whnf
      refine ⟨_, wid (by omega), ?_⟩
      conv => whnf
      repeat (refine SeqP.go ?_; conv => whnf)
      refine cmpB (fun hb1 => ?_) (fun hb1 => ?_)
      · have hexn : ∃ n : Nat, 1 + 2 * w.tmod 500000 = n := ⟨(1 + 2 * w.tmod 500000).toNat, by omega⟩
        obtain ⟨n, hn⟩ := hexn
        have e1 : (1 + 2 * w.tmod 500000).tmod 400 = ((n % 400 : Nat) : Int) := by rw [hn]; exact tmod_nat n 400
        have e2 : ((1 + 2 * w.tmod 500000).tmod 400).tdiv 2 = ((n % 400 / 2 : Nat) : Int) := by rw [e1]; exact tdiv_nat _ 2
        conv => whnf
        refine ⟨by omega, ?_⟩
        conv => whnf
        refine ⟨by omega, ((n % 400 / 2 : Nat) : Int), wie e2 (by omega), ?_⟩
        conv => whnf
        refine ⟨_, wid (by omega), ?_⟩
        conv => whnf
        refine ⟨_, wid (by omega), ?_⟩
        conv => whnf
        refine ⟨_, wid (by omega), ?_⟩
        conv => whnf
        exact Rnd.mk (i + 1, _, _, h3) ⟨by show i + 1 ≤ 3; omega, by dsimp only; omega⟩ (by show 3 - (i + 1) < 3 - i; omega) ⟨rfl, rfl, rfl, trivial⟩ (Hp.Le.refl _) rfl
      · conv => whnf
        refine ⟨_, wid (by omega), ?_⟩
        conv => whnf
        exact Rnd.mk (i + 1, _, _, h3) ⟨by show i + 1 ≤ 3; omega, by dsimp only; omega⟩ (by show 3 - (i + 1) < 3 - i; omega) ⟨rfl, rfl, rfl, trivial⟩ (Hp.Le.refl _) rfl
end
end Go.Proofs.Ytlcnmneildefmaa
