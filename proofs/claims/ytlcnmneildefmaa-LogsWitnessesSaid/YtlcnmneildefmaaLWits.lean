/- Contracts of the functions that LWits comes to. -/
import Derived.Test.YtlcnmneildefmaaLWit
set_option maxRecDepth 100000
set_option maxHeartbeats 1000000
set_option linter.unusedVariables false
set_option linter.unusedSectionVars false
set_option linter.unusedSimpArgs false
namespace Go.Proofs.Ytlcnmneildefmaa
open Go.Rx Go.RowKit
def Least (n a : Nat) : Prop := 2 ≤ a ∧ a < n ∧ IsWit n a ∧ ∀ x, 2 ≤ x → x < a → ¬ IsWit n x
theorem Least.uniq {n a b : Nat} (ha : Least n a) (hb : Least n b) : a = b := wit_uniq ⟨ha.1, ha.2.2⟩ ⟨hb.1, hb.2.2⟩
attribute [local irreducible] E idxN cellAt cellsAt storeAt callable helems hmoved lookIn findKey keyOk hentries Hp.at Hp.set Hp.lay arBits hupdated setAt CallP YieldP BoolOf IsWrap Rnd LoopP AppP CutP Int.tmod Int.tdiv Int.fdiv
section
variable [Unknowns]
attribute [local irreducible] SeqP
theorem modulus_spec (n : Int) (h : Hp) : CallP E 36 [int n, int 1000000] h (fun r h' => (∃ m : Nat, r = int m ∧ 1 ≤ m ∧ m ≤ 1000000) ∧ h' = h) := by
  refine enter36 (by simp) ?_
  conv => whnf
  repeat (refine SeqP.go ?_; conv => whnf)
  have hex := u64_of n
  obtain ⟨u, u0, u1, hu⟩ := hex
  have b1 := tmod_bd u0 (show (0 : Int) < 1000000 by omega)
  refine ⟨u, hu, ?_⟩
  conv => whnf
  refine ⟨1000000, u64_id (by omega), ?_⟩
  conv => whnf
  refine ⟨by omega, ?_⟩
  conv => whnf
  refine ⟨_, wid (by omega), ?_⟩
  conv => whnf
  have hexm : ∃ m : Nat, 1 + u.tmod 1000000 = m := ⟨(1 + u.tmod 1000000).toNat, by omega⟩
  obtain ⟨m, hm⟩ := hexm
  refine ⟨(m : Int), wie hm (by omega), ?_⟩
  conv => whnf
  repeat (refine SeqP.go ?_; conv => whnf)
  exact ⟨⟨m, rfl, by omega, by omega⟩, rfl⟩
def WitRes (n : Nat) (r : Value) : Prop :=
  (n < 3 ∨ n % 2 = 0) ∧ r = .tuple ⟨[int 0, .bool false, int 4]⟩ ∨ (3 ≤ n ∧ n % 2 = 1) ∧ (Whole n ∧ r = .tuple ⟨[int 0, .bool false, int 0]⟩ ∨ ¬ Whole n ∧ ∃ a, Least n a ∧ r = .tuple ⟨[int (a : Nat), .bool true, int 0]⟩)
theorem Witness_spec (n : Nat) (hn : 1 ≤ n ∧ n ≤ 1000000) (h : Hp) : CallP E 27 [int n] h (fun r h' => WitRes n r ∧ Grows h h') := by
  have t3 : (n : Int).tmod 2 = ((n % 2 : Nat) : Int) := tmod_nat n 2
  refine enter27 (by simp) ?_
  conv => whnf
  repeat (refine SeqP.go ?_; conv => whnf)
  refine CallP.mono (mod_yes53 (n := (n : Int)) ⟨by omega, by omega⟩ h) ?_
  rintro r h1 ⟨rfl, rfl⟩
  conv => whnf
  repeat (refine SeqP.go ?_; conv => whnf)
  refine cmpB (fun hb => ?_) (fun hb => ?_)
  · conv => whnf
    repeat (refine SeqP.go ?_; conv => whnf)
    exact ⟨.inl ⟨.inl (by omega), rfl⟩, .refl _⟩
  conv => whnf
  refine ⟨by omega, ?_⟩
  conv => whnf
  refine cmpB (fun hb2 => ?_) (fun hb2 => ?_)
  · conv => whnf
    repeat (refine SeqP.go ?_; conv => whnf)
    exact ⟨.inl ⟨.inr (by omega), rfl⟩, .refl _⟩
  have hn3 : 3 ≤ n ∧ n % 2 = 1 := ⟨by omega, by omega⟩
  conv => whnf
  repeat (refine SeqP.go ?_; conv => whnf)
  refine CallP.mono (isprime_spec n ⟨hn3.1, hn.2⟩ h1) ?_
  rintro r h2 ⟨⟨b, rfl, hb⟩, hg⟩
  cases b with
  | true =>
    conv => whnf
    repeat (refine SeqP.go ?_; conv => whnf)
    exact ⟨.inr ⟨hn3, .inl ⟨hb.t, rfl⟩⟩, hg⟩
  | false =>
  have hw := wit_ex hn3.1 hb.f
  obtain ⟨w, hw2, hwn, hww⟩ := hw
  conv => whnf
  repeat (refine SeqP.go ?_; conv => whnf)
  refine loop_inv (α := Nat × Hp) (fun s => [(5, int s.1), (0, int n)]) (fun s => s.2) (fun s => 2 ≤ s.1 ∧ s.1 ≤ w ∧ (∀ x, 2 ≤ x → x < s.1 → ¬ IsWit n x) ∧ Grows h1 s.2) (fun s => w - s.1) (2, h2) ⟨Nat.le_refl 2, hw2, fun x h3 h4 => absurd h4 (by show ¬ x < 2; omega), hg⟩ ⟨rfl, rfl, trivial⟩ (Hp.Le.refl _) ?_
  rintro ⟨a, h3⟩ φ ⟨ha2, haw, hno, hg3⟩
  dsimp only at ha2 haw hno hg3 ⊢
  conv => whnf
  repeat (refine SeqP.go ?_; conv => whnf)
  refine CallP.mono (wit_spec n a ⟨hn3.1, hn.2⟩ hn3.2 (by omega) h3) ?_
  rintro r h4 ⟨⟨b2, rfl, hb2⟩, hg4⟩
  cases b2 with
  | true =>
    conv => whnf
    repeat (refine SeqP.go ?_; conv => whnf)
    exact ⟨.inr ⟨hn3, .inr ⟨hb.f, a, ⟨ha2, by omega, hb2.t, hno⟩, rfl⟩⟩, hg3.trans hg4⟩
  | false =>
    have hne : a ≠ w := fun e => hb2.f (e ▸ hww)
    conv => whnf
    repeat (refine SeqP.go ?_; conv => whnf)
    refine ⟨((a + 1 : Nat) : Int), wie (by omega) (by omega), ?_⟩
    conv => whnf
    refine Rnd.mk (a + 1, h4) ⟨by show 2 ≤ a + 1; omega, by show a + 1 ≤ w; omega, ?_, hg3.trans hg4⟩ (by show w - (a + 1) < w - a; omega) ⟨rfl, rfl, trivial⟩ (Hp.Le.refl _) rfl
    intro x h5 h6
    by_cases e : x = a
    · subst e; exact hb2.f
    · exact hno x h5 (by show x < a; have : x < a + 1 := h6; omega)
end
section
variable [Unknowns]
attribute [local irreducible] SeqP ResP
theorem refWitness_spec (n : Nat) (hn : 3 ≤ n ∧ n ≤ 1000000) (hodd : n % 2 = 1) (h : Hp) : CallP E 52 [int n] h (fun r h' => ((Whole n ∧ r = int (-1)) ∨ ¬ Whole n ∧ ∃ a : Nat, Least n a ∧ r = int a) ∧ Grows h h') := by
  have hex := FL_cons (show 2 ≤ n by omega)
  obtain ⟨⟨p, t⟩, l, hF⟩ := hex
  have hb0 : BoolOf (bif ((p : Int) == n) then ((t : Int) == 1) else false) (Whole n) := by
    unfold BoolOf
    rw [show (bif ((p : Int) == n) then ((t : Int) == 1) else false) = decide (p = n ∧ t = 1) by
      by_cases h1 : p = n
      · subst h1
        by_cases h2 : t = 1
        · subst h2; simp
        · have : ¬ (t : Int) = 1 := by omega
          simp [h2, this]
      · have : ¬ (p : Int) = n := by omega
        simp [h1, this]]
    rw [decide_eq_true_iff]
    constructor
    · rintro ⟨rfl, rfl⟩
      exact ⟨l, hF⟩
    · rintro ⟨r, e⟩
      rw [hF] at e
      injection e with e1 e2
      injection e1 with e3 e4
      exact ⟨e3, e4⟩
  have hexb : ∃ b, (bif ((p : Int) == n) then ((t : Int) == 1) else false) = b := ⟨_, rfl⟩
  obtain ⟨b, eb⟩ := hexb
  rw [eb] at hb0
  refine enter52 (by simp) ?_
  conv => whnf
  repeat (refine SeqP.go ?_; conv => whnf)
  refine CallP.mono (reffactor_spec n hn.2 h) ?_
  rintro v h1 ⟨hbf, hg⟩
  have hbk := hbf.slice
  obtain ⟨av, rfl, hav⟩ := hbk
  have hlen : 0 < (FL n).length := by rw [hF]; simp
  have hx2 := hav 0 hlen
  obtain ⟨r1, e1, x1, hr1⟩ := hx2
  subst e1
  have hcells : cellsAt h1 r1 (0 * 2 + 0) 2 = some [int p, int t] := by
    rw [cellsAt_row hr1 (by rw [pairs_length]; omega), hF]
    rfl
  conv => whnf
  repeat (refine SeqP.go ?_; conv => whnf)
  refine ⟨rfl, ⟨by omega, by omega⟩, ?_⟩
  conv => whnf
  refine ⟨[int p, int t], hcells, ?_⟩
  conv => whnf
  refine resP_val (v := .bool b) (h := h1) ?_ ?_
  · show hval _ (aBin E .eql 47 _ _ (.agg ⟨[int p, int t]⟩) (.agg ⟨[int n, int 1]⟩)) = _
    rw [pair_eq, eb]
    rfl
  cases b with
  | true =>
    conv => whnf
    repeat (refine SeqP.go ?_; conv => whnf)
    exact ⟨.inl ⟨hb0.t, rfl⟩, hg⟩
  | false =>
  have hw := wit_ex hn.1 hb0.f
  obtain ⟨w, hw2, hwn, hww⟩ := hw
  conv => whnf
  repeat (refine SeqP.go ?_; conv => whnf)
  refine loop_inv (α := Nat × Hp) (fun s => [(4, int s.1), (0, int n)]) (fun s => s.2) (fun s => 2 ≤ s.1 ∧ s.1 ≤ w ∧ (∀ x, 2 ≤ x → x < s.1 → ¬ IsWit n x) ∧ Grows h s.2) (fun s => w - s.1) (2, h1) ⟨Nat.le_refl 2, hw2, fun x h3 h4 => absurd h4 (by show ¬ x < 2; omega), hg⟩ ⟨rfl, rfl, trivial⟩ (Hp.Le.refl _) ?_
  rintro ⟨a, h3⟩ φ ⟨ha2, haw, hno, hg3⟩
  dsimp only at ha2 haw hno hg3 ⊢
  conv => whnf
  repeat (refine SeqP.go ?_; conv => whnf)
  refine cmpT (by omega) ?_
  conv => whnf
  repeat (refine SeqP.go ?_; conv => whnf)
  refine CallP.mono (refwit_spec n a ⟨hn.1, hn.2⟩ hodd (by omega) h3) ?_
  rintro r h4 ⟨⟨b2, rfl, hb2⟩, hg4⟩
  cases b2 with
  | true =>
    conv => whnf
    repeat (refine SeqP.go ?_; conv => whnf)
    exact ⟨.inr ⟨hb0.f, a, ⟨ha2, by omega, hb2.t, hno⟩, rfl⟩, hg3.trans hg4⟩
  | false =>
    have hne : a ≠ w := fun e => hb2.f (e ▸ hww)
    conv => whnf
    repeat (refine SeqP.go ?_; conv => whnf)
    refine ⟨((a + 1 : Nat) : Int), wie (by omega) (by omega), ?_⟩
    conv => whnf
    refine Rnd.mk (a + 1, h4) ⟨by show 2 ≤ a + 1; omega, by show a + 1 ≤ w; omega, ?_, hg3.trans hg4⟩ (by show w - (a + 1) < w - a; omega) ⟨rfl, rfl, trivial⟩ (Hp.Le.refl _) rfl
    intro x h5 h6
    by_cases e : x = a
    · subst e; exact hb2.f
    · exact hno x h5 (by show x < a; have : x < a + 1 := h6; omega)
theorem witnesses_spec (n : Int) (hn : -9223372036854775808 ≤ n ∧ n < 9223372036854775808) : ∀ h vs, AllIs h vs [.i n] → CallP E 11 vs h (fun r _ => r = .bool true) := by
  intro h vs hvs
  match vs, hvs with
  | [_], hvs =>
  obtain ⟨rfl, -⟩ := hvs
  refine enter11 (by simp) ?_
  conv => whnf
  repeat (refine SeqP.go ?_; conv => whnf)
  refine CallP.mono (modulus_spec n h) ?_
  rintro r h1 ⟨⟨m, rfl, hm⟩, rfl⟩
  conv => whnf
  repeat (refine SeqP.go ?_; conv => whnf)
  refine loop_inv (α := Nat × Nat × Hp) (fun s => [(4, int s.1), (3, int s.2.1)]) (fun s => s.2.2) (fun s => s.1 ≤ 3 ∧ 1 ≤ s.2.1 ∧ s.2.1 ≤ 1000000) (fun s => 3 - s.1) (0, m, h1) ⟨by simp, hm⟩ ⟨rfl, rfl, trivial⟩ (Hp.Le.refl _) ?_
  rintro ⟨i, m, h2⟩ φ ⟨hi, hm⟩
  dsimp only at hi hm ⊢
  have t3 : (m : Int).tmod 2 = ((m % 2 : Nat) : Int) := tmod_nat m 2
  have d3 : (m : Int).tdiv 2 = ((m / 2 : Nat) : Int) := tdiv_nat m 2
  conv => whnf
  repeat (refine SeqP.go ?_; conv => whnf)
  refine cmpB (fun hb0 => ?_) (fun hb0 => ?_)
  rotate_left
  · conv => whnf
    repeat (refine SeqP.go ?_; conv => whnf)
    refine memo28 ?_
    conv => whnf
    rfl
  conv => whnf
  refine SeqP.go ?_
  conv => whnf
  refine SeqP.go ?_
  conv => whnf
  refine CallP.mono (Witness_spec m hm h2) ?_
  rintro r h3 ⟨hres, hg⟩
  have hexr : ∃ (x e : Int) (b : Bool), r = .tuple ⟨[int x, .bool b, int e]⟩ ∧ ((m < 3 ∨ m % 2 = 0) ∧ x = 0 ∧ b = false ∧ e = 4 ∨ (3 ≤ m ∧ m % 2 = 1) ∧ e = 0 ∧ (Whole m ∧ x = 0 ∧ b = false ∨ ¬ Whole m ∧ ∃ a : Nat, Least m a ∧ x = a ∧ b = true)) := by
    rcases hres with ⟨h4, rfl⟩ | ⟨h4, ⟨h5, rfl⟩ | ⟨h5, a, h6, rfl⟩⟩
    · exact ⟨0, 4, false, rfl, .inl ⟨h4, rfl, rfl, rfl⟩⟩
    · exact ⟨0, 0, false, rfl, .inr ⟨h4, rfl, .inl ⟨h5, rfl, rfl⟩⟩⟩
    · exact ⟨a, 0, true, rfl, .inr ⟨h4, rfl, .inr ⟨h5, a, h6, rfl, rfl⟩⟩⟩
  obtain ⟨x, e, b, rfl, hcase⟩ := hexr
  clear hres
  conv => whnf
  refine SeqP.cut (α := Unit) (fun _ => [(4, int i), (3, int m)]) (fun _ h' => True) ?_ ?_
  · conv => whnf
    repeat (refine SeqP.go ?_; conv => whnf)
    rcases hcase with ⟨h4, rfl, rfl, rfl⟩ | ⟨h4, rfl, hrest⟩
    · refine cmpB (fun hc1 => ?_) (fun hc1 => ?_)
      · conv => whnf
        repeat (refine SeqP.go ?_; conv => whnf)
        refine cmpF (by omega) ?_
        conv => whnf
        refine cmpF (by omega) ?_
        conv => whnf
        exact ⟨(), ⟨rfl, rfl, trivial⟩, trivial, rfl⟩
      conv => whnf
      refine ⟨by omega, ?_⟩
      conv => whnf
      refine cmpT (by omega) ?_
      conv => whnf
      repeat (refine SeqP.go ?_; conv => whnf)
      refine cmpF (by omega) ?_
      conv => whnf
      refine cmpF (by omega) ?_
      conv => whnf
      exact ⟨(), ⟨rfl, rfl, trivial⟩, trivial, rfl⟩
    · refine cmpF (by omega) ?_
      conv => whnf
      refine ⟨by omega, ?_⟩
      conv => whnf
      refine cmpF (by omega) ?_
      conv => whnf
      repeat (refine SeqP.go ?_; conv => whnf)
      refine CallP.mono (refWitness_spec m ⟨h4.1, hm.2⟩ h4.2 h3) ?_
      rintro r h5 ⟨hr, hg5⟩
      rcases hr with ⟨hW, rfl⟩ | ⟨hnW, a, ha, rfl⟩
      · have hr2 : x = 0 ∧ b = false := by
          rcases hrest with ⟨_, h6, h7⟩ | ⟨h6, _⟩
          · exact ⟨h6, h7⟩
          · exact absurd hW h6
        obtain ⟨rfl, rfl⟩ := hr2
        conv => whnf
        repeat (refine SeqP.go ?_; conv => whnf)
        refine cmpF (by omega) ?_
        conv => whnf
        refine cmpF (by omega) ?_
        conv => whnf
        refine resP_val (v := .bool false) (h := h5) ?_ ?_
        · show hval _ (aBin E .neq 4 _ _ (.bool false) (.bool false)) = _
          rw [bool_neq]
          rfl
        conv => whnf
        refine resP_val (v := int 0) (h := h5) ?_ ?_
        · conv => lhs; whnf
          rfl
        conv => whnf
        refine cmpF (by omega) ?_
        conv => whnf
        exact ⟨(), ⟨rfl, rfl, trivial⟩, trivial, rfl⟩
      · have hr2 : x = a ∧ b = true := by
          rcases hrest with ⟨h6, _⟩ | ⟨_, a2, h6, h7, h8⟩
          · exact absurd h6 hnW
          · exact ⟨by rw [h7, h6.uniq ha], h8⟩
        obtain ⟨rfl, rfl⟩ := hr2
        conv => whnf
        repeat (refine SeqP.go ?_; conv => whnf)
        refine cmpF (by omega) ?_
        conv => whnf
        refine cmpT (by omega) ?_
        conv => whnf
        refine resP_val (v := .bool false) (h := h5) ?_ ?_
        · show hval _ (aBin E .neq 4 _ _ (.bool true) (.bool true)) = _
          rw [bool_neq]
          rfl
        conv => whnf
        refine resP_val (v := int a) (h := h5) ?_ ?_
        · conv => lhs; whnf
          refine congrArg (fun z => HRes.val (Value.int .i64 z) h5) ?_
          split <;> omega
        conv => whnf
        refine cmpF (by omega) ?_
        conv => whnf
        exact ⟨(), ⟨rfl, rfl, trivial⟩, trivial, rfl⟩
  rintro _ φ2 h6 -
  have m2 : (3 : Int) + ((m / 2 : Nat) : Int) * 2 = ((3 + m / 2 * 2 : Nat) : Int) := by omega
  have t5 : ((3 + m / 2 * 2 : Nat) : Int).tmod 500 = (((3 + m / 2 * 2) % 500 : Nat) : Int) := tmod_nat _ 500
  conv => whnf
  repeat (refine SeqP.go ?_; conv => whnf)
  refine ⟨by omega, ((m / 2 : Nat) : Int), wie d3 (by omega), ?_⟩
  conv => whnf
  refine ⟨_, wid (by omega), ?_⟩
  conv => whnf
  refine ⟨((3 + m / 2 * 2 : Nat) : Int), wie m2 (by omega), ?_⟩
  conv => whnf
  refine SeqP.cut (α := Nat) (fun k => [(4, int i), (3, int k)]) (fun k h' => h' = h6 ∧ 1 ≤ k ∧ k ≤ 1000003) ?_ ?_
  · conv => whnf
    repeat (refine SeqP.go ?_; conv => whnf)
    refine cmpB (fun hc1 => ?_) (fun hc1 => ?_)
    · conv => whnf
      refine ⟨by omega, ?_⟩
      conv => whnf
      refine ⟨((2 * ((3 + m / 2 * 2) % 500) : Nat) : Int), wie (by omega) (by omega), ?_⟩
      conv => whnf
      refine ⟨((3 + 2 * ((3 + m / 2 * 2) % 500) : Nat) : Int), wie (by omega) (by omega), ?_⟩
      conv => whnf
      exact ⟨3 + 2 * ((3 + m / 2 * 2) % 500), ⟨rfl, rfl, trivial⟩, ⟨rfl, by omega, by omega⟩, rfl⟩
    · conv => whnf
      exact ⟨3 + m / 2 * 2, ⟨rfl, rfl, trivial⟩, ⟨rfl, by omega, by omega⟩, rfl⟩
  rintro k φ3 h7 ⟨rfl, hk1, hk2⟩
  conv => whnf
  repeat (refine SeqP.go ?_; conv => whnf)
  refine cmpB (fun hc1 => ?_) (fun hc1 => ?_)
  · conv => whnf
    refine ⟨_, wid (by omega), ?_⟩
    conv => whnf
    exact Rnd.mk (i + 1, 999999, h7) ⟨by show i + 1 ≤ 3; omega, by show 1 ≤ 999999; omega, by show 999999 ≤ 1000000; omega⟩ (by show 3 - (i + 1) < 3 - i; omega) ⟨rfl, rfl, trivial⟩ (Hp.Le.refl _) rfl
  · conv => whnf
    refine ⟨_, wid (by omega), ?_⟩
    conv => whnf
    exact Rnd.mk (i + 1, k, h7) ⟨by show i + 1 ≤ 3; omega, hk1, by show k ≤ 1000000; omega⟩ (by show 3 - (i + 1) < 3 - i; omega) ⟨rfl, rfl, trivial⟩ (Hp.Le.refl _) rfl
end
end Go.Proofs.Ytlcnmneildefmaa
