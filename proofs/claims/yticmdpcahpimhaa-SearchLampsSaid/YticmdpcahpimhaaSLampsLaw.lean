/- Contracts of the functions that Lamps comes to. -/
import Derived.Test.YticmdpcahpimhaaSLamps
import Derived.Test.YticmdpcahpimhaaSAwake
set_option maxRecDepth 100000
set_option maxHeartbeats 1000000
set_option linter.unusedVariables false
set_option linter.unusedSectionVars false
set_option linter.unusedSimpArgs false
namespace Go.Proofs.Yticmdpcahpimhaa
open Go.Rx Go.RowKit
attribute [local irreducible] E idxN cellAt cellsAt storeAt callable helems hmoved lookIn findKey keyOk hentries Hp.at Hp.set Hp.lay arBits hupdated setAt CallP YieldP BoolOf IsWrap Rnd LoopP Int.tmod Int.tdiv Int.fdiv
section
variable [Unknowns]
/-- The reference's Drop -/
theorem ref_drop_spec (c t : Nat) (hc : c + 1 ≤ 20) (ht : t + 1 ≤ 60) (n d : Int) (hn : 0 ≤ n ∧ n ≤ 1000000000000) (hd : 0 ≤ d ∧ d ≤ 1000000000000) (h : Hp) :
    CallP E 54 [int (c + 1 : Nat), int (t + 1 : Nat), int n, int d] h (fun r h' => (∃ b, BoolOf b (1 ≤ d ∧ d ≤ n ∧ d - 1 ≤ R t c ∧ n - d ≤ R t (c + 1)) ∧ r = .bool b) ∧ Grows h h') := by
  refine enter54 (by simp) ?_
  conv => whnf
  have yes : ∀ {p : Prop}, p → BoolOf true p := fun h => by unfold BoolOf; exact ⟨fun _ => h, fun _ => rfl⟩
  have no : ∀ {p : Prop}, ¬ p → BoolOf false p := fun h => by unfold BoolOf; exact ⟨fun e => (by cases e), fun hp => absurd hp h⟩
  rintro (_|_) hb
  · have hb := hb.f
    conv => whnf
    exact ⟨⟨false, no (by omega), rfl⟩, .refl _⟩
  have hb := hb.t
  conv => whnf
  rintro (_|_) hb1
  · have hb1 := hb1.f
    conv => whnf
    exact ⟨⟨false, no (by omega), rfl⟩, .refl _⟩
  have hb1 := hb1.t
  conv => whnf
  refine ⟨_, wid (by omega), ?_⟩
  conv => whnf
  refine ⟨(c : Nat), wie (by omega) (by omega), ?_⟩
  conv => whnf
  refine ⟨(t : Nat), wie (by omega) (by omega), ?_⟩
  conv => whnf
  refine CallP.mono (ref_spec c t (by omega) (by omega) _) ?_
  rintro v h' ⟨rfl, hg'⟩
  conv => whnf
  rintro (_|_) hb2
  · have hb2 := hb2.f
    conv => whnf
    exact ⟨⟨false, no (by omega), rfl⟩, hg'⟩
  have hb2 := hb2.t
  conv => whnf
  refine ⟨_, wid (by omega), ?_⟩
  conv => whnf
  refine ⟨(t : Nat), wie (by omega) (by omega), ?_⟩
  conv => whnf
  refine CallP.mono (ref_spec (c + 1) t (by omega) (by omega) _) ?_
  rintro v h'' ⟨rfl, hg''⟩
  conv => whnf
  rintro (_|_) hb3
  · have hb3 := hb3.f
    conv => whnf
    exact ⟨⟨false, no (by omega), rfl⟩, hg'.trans hg''⟩
  · have hb3 := hb3.t
    conv => whnf
    exact ⟨⟨true, yes ⟨hb, hb1, hb2, hb3⟩, rfl⟩, hg'.trans hg''⟩

section
attribute [local irreducible] SeqP
/-- The law. -/
theorem lamps_spec (hA : ∀ h, CallP E 27 [] h fun v h' => v = .bool true) (c t n : Int) (h : Hp) : CallP E 10 [int c, int t, int n] h (fun r h' => r = .bool true) := by
  refine enter10 (by simp) ?_
  conv => whnf
  repeat (refine SeqP.go ?_; conv => whnf)
  refine loop_inv (α := Nat × Hp × Int × Int × Int) (fun a => [(7, int a.1), (0, int a.2.2.1), (1, int a.2.2.2.1), (2, int a.2.2.2.2)]) (fun a => a.2.1) (fun a => a.1 ≤ 2) (fun a => 2 - a.1) (0, _, c, t, n) (by show 0 ≤ 2; omega) ⟨rfl, rfl, rfl, rfl, trivial⟩ (Hp.Le.refl _) ?_
  rintro ⟨i, h1, c, t, n⟩ φ hi
  dsimp only at hi ⊢
  conv => whnf
  repeat (refine SeqP.go ?_; conv => whnf)
  rintro (_|_) hb
  · have hb := hb.f
    conv => whnf
    repeat (refine SeqP.go ?_; conv => whnf)
    refine CallP.mono (hA _) ?_
    rintro v h2 rfl
    conv => whnf
    rfl
  have hb : (i : Int) < 2 := hb.t
  conv => whnf
  repeat (refine SeqP.go ?_; conv => whnf)
  refine CallP.mono (steps_spec c t _) ?_
  rintro v h2 ⟨s, e, rfl, good, bad, -⟩
  conv => whnf
  refine SeqP.cut (α := Unit) (fun _ => [(7, int i), (0, int c), (1, int t), (2, int n)]) (fun _ _ => True) ?_ ?_
  · conv => whnf
    repeat (refine SeqP.go ?_; conv => whnf)
    by_cases hin : 0 ≤ c ∧ c ≤ 20 ∧ 0 ≤ t ∧ t ≤ 60
    · obtain ⟨rfl, rfl⟩ := good hin
      obtain ⟨c, rfl⟩ := Int.eq_ofNat_of_zero_le hin.1
      obtain ⟨t, rfl⟩ := Int.eq_ofNat_of_zero_le hin.2.2.1
      repeat' (first | (refine cmpT (by omega) ?_; conv => whnf) | (refine cmpF (by omega) ?_; conv => whnf) | (refine cmpB (fun hb => ?_) (fun hb => ?_) <;> (conv => whnf)) | (refine SeqP.go ?_; conv => whnf))
      refine CallP.mono (ref_spec c t (by omega) (by omega) _) ?_
      rintro v h' ⟨rfl, hg'⟩
      conv => whnf
      refine cmpF (fun hne => hne rfl) ?_
      conv => whnf
      exact ⟨(), ⟨rfl, rfl, rfl, rfl, trivial⟩, trivial, rfl⟩
    · have hz := bad hin
      obtain ⟨rfl, rfl⟩ := hz
      repeat' (first | (refine cmpT (by omega) ?_; conv => whnf) | (refine cmpF (by omega) ?_; conv => whnf) | (refine cmpB (fun hb => ?_) (fun hb => ?_) <;> (conv => whnf)) | (refine SeqP.go ?_; conv => whnf))
      all_goals exact ⟨(), ⟨rfl, rfl, rfl, rfl, trivial⟩, trivial, rfl⟩
  rintro _ φ h3 -
  conv => whnf
  repeat (refine SeqP.go ?_; conv => whnf)
  refine CallP.mono (tries_spec c n _) ?_
  rintro v h4 ⟨s1, e1, rfl, bad1, good1, -⟩
  conv => whnf
  repeat (refine SeqP.go ?_; conv => whnf)
  refine CallP.mono (drop_spec c n _) ?_
  rintro v h5 ⟨s2, e2, rfl, bad2, good2, -⟩
  conv => whnf
  refine SeqP.cut (α := Unit) (fun _ => [(7, int i), (0, int c), (1, int t), (2, int n)]) (fun _ _ => True) ?_ ?_
  · conv => whnf
    repeat (refine SeqP.go ?_; conv => whnf)
    by_cases hin : 1 ≤ c ∧ c ≤ 20 ∧ 0 ≤ n ∧ n ≤ 1000000000000
    rotate_left
    · have hz := bad1 hin
      obtain ⟨rfl, rfl⟩ := hz
      have hz := bad2 (by omega)
      obtain ⟨rfl, rfl⟩ := hz
      repeat' (first | (refine cmpT (by omega) ?_; conv => whnf) | (refine cmpF (by omega) ?_; conv => whnf) | (refine cmpB (fun hb => ?_) (fun hb => ?_) <;> (conv => whnf)) | (refine SeqP.go ?_; conv => whnf))
      all_goals exact ⟨(), ⟨rfl, rfl, rfl, rfl, trivial⟩, trivial, rfl⟩
    obtain ⟨c, rfl⟩ : ∃ c' : Nat, c = ((c' + 1 : Nat) : Int) := ⟨(c - 1).toNat, by omega⟩
    repeat' (first | (refine cmpT (by omega) ?_; conv => whnf) | (refine cmpF (by omega) ?_; conv => whnf) | (refine cmpB (fun hb => ?_) (fun hb => ?_) <;> (conv => whnf)) | (refine SeqP.go ?_; conv => whnf))
    refine CallP.mono (ref_tries_spec (c + 1) (by omega) n _) ?_
    rintro v h6 ⟨hv, -⟩
    have z0 : R 0 (c + 1) = 0 := rfl
    have good1 := good1 hin
    rcases good1 with ⟨rfl, t1, rfl, l1⟩ | ⟨rfl, rfl, l1⟩
    · have l1 : Least (c + 1) n t1 := l1
      rcases hv with ⟨t2, rfl, l2⟩ | ⟨rfl, l2⟩
      rotate_left
      · have := l1.2.1
        have := l2 t1 l1.1
        omega
      have he := l1.uniq l2
      subst he
      by_cases hn : n = 0
      · have hz := bad2 (by omega)
        obtain ⟨rfl, rfl⟩ := hz
        conv => whnf
        repeat' (first | (refine cmpT (by omega) ?_; conv => whnf) | (refine cmpF (by omega) ?_; conv => whnf) | (refine cmpB (fun hb => ?_) (fun hb => ?_) <;> (conv => whnf)) | (refine SeqP.go ?_; conv => whnf))
        exact ⟨(), ⟨rfl, rfl, rfl, rfl, trivial⟩, trivial, rfl⟩
      · have good2 := good2 (by omega)
        rcases good2 with ⟨rfl, t3, hs, l3⟩ | ⟨rfl, rfl, l3⟩
        rotate_left
        · have := l1.2.1
          have := l3 t1 l1.1
          have e : ((c + 1 : Nat) : Int).toNat = c + 1 := rfl
          rw [e] at this
          omega
        have l3 : Least (c + 1) n (t3 + 1) := l3
        have e : ((c + 1 : Nat) : Int).toNat = c + 1 := rfl
        rw [e] at hs
        subst hs
        have he := l1.uniq l3
        subst he
        have a1 := l1.2.2 t3 (by omega)
        have a2 := l1.2.1
        have a3 := l1.1
        have a4 := @R_lt t3 (c + 1) (by omega)
        have a5 := @R_lt t3 c (by omega)
        have a6 : R (t3 + 1) (c + 1) = R t3 (c + 1) + R t3 c + 1 := rfl
        conv => whnf
        repeat' (first | (refine cmpT (by omega) ?_; conv => whnf) | (refine cmpF (by omega) ?_; conv => whnf) | (refine cmpB (fun hb => ?_) (fun hb => ?_) <;> (conv => whnf)) | (refine SeqP.go ?_; conv => whnf))
        refine CallP.mono (ref_drop_spec c t3 (by omega) (by omega) n (n - R t3 (c + 1)) (by omega) (by omega) _) ?_
        rintro v h7 ⟨⟨b, hb7, rfl⟩, -⟩
        cases b with
        | false => exact absurd ⟨by omega, by omega, by omega, by omega⟩ hb7.f
        | true =>
        conv => whnf
        repeat' (first | (refine cmpT (by omega) ?_; conv => whnf) | (refine cmpF (by omega) ?_; conv => whnf) | (refine cmpB (fun hb => ?_) (fun hb => ?_) <;> (conv => whnf)) | (refine SeqP.go ?_; conv => whnf))
        rotate_left
        · exact ⟨(), ⟨rfl, rfl, rfl, rfl, trivial⟩, trivial, rfl⟩
        refine ⟨_, wid (by omega), ?_⟩
        conv => whnf
        refine CallP.mono (ref_drop_spec c t3 (by omega) (by omega) n (n - R t3 (c + 1) - 1) (by omega) (by omega) _) ?_
        rintro v h8 ⟨⟨b, hb8, rfl⟩, -⟩
        cases b with
        | true => have := hb8.t; omega
        | false =>
        conv => whnf
        repeat' (first | (refine cmpT (by omega) ?_; conv => whnf) | (refine cmpF (by omega) ?_; conv => whnf) | (refine cmpB (fun hb => ?_) (fun hb => ?_) <;> (conv => whnf)) | (refine SeqP.go ?_; conv => whnf))
        exact ⟨(), ⟨rfl, rfl, rfl, rfl, trivial⟩, trivial, rfl⟩
    · rcases hv with ⟨t2, rfl, l2⟩ | ⟨rfl, l2⟩
      · have := l2.2.1
        have := l1 t2 l2.1
        have e : ((c + 1 : Nat) : Int).toNat = c + 1 := rfl
        rw [e] at this
        omega
      have hn := l2 0 (by omega)
      rw [z0] at hn
      have good2 := good2 (by omega)
      rcases good2 with ⟨rfl, t3, hs, l3⟩ | ⟨rfl, rfl, l3⟩
      · have := l3.2.1
        have := l1 (t3 + 1) l3.1
        omega
      conv => whnf
      repeat' (first | (refine cmpT (by omega) ?_; conv => whnf) | (refine cmpF (by omega) ?_; conv => whnf) | (refine cmpB (fun hb => ?_) (fun hb => ?_) <;> (conv => whnf)) | (refine SeqP.go ?_; conv => whnf))
      exact ⟨(), ⟨rfl, rfl, rfl, rfl, trivial⟩, trivial, rfl⟩
  rintro _ φ h6 -
  dsimp only
  conv => whnf
  repeat (refine SeqP.go ?_; conv => whnf)
  obtain ⟨u, u0, u1, hu⟩ := u64_of c
  refine ⟨u, hu, ?_⟩
  conv => whnf
  refine ⟨by omega, ?_⟩
  have b1 := tmod_bd u0 (show (0 : Int) < 20 by omega)
  conv => whnf
  refine ⟨_, wid (by omega), ?_⟩
  conv => whnf
  refine ⟨_, wid (by omega), ?_⟩
  conv => whnf
  repeat (refine SeqP.go ?_; conv => whnf)
  obtain ⟨u', u0', u1', hu'⟩ := u64_of t
  refine ⟨u', hu', ?_⟩
  conv => whnf
  refine ⟨by omega, ?_⟩
  have b2 := tmod_bd u0' (show (0 : Int) < 61 by omega)
  conv => whnf
  refine ⟨_, wid (by omega), ?_⟩
  conv => whnf
  repeat (refine SeqP.go ?_; conv => whnf)
  obtain ⟨u2, u02, u12, hu2⟩ := u64_of n
  refine ⟨u2, hu2, ?_⟩
  conv => whnf
  refine ⟨by omega, ?_⟩
  have b3 := tmod_bd u02 (show (0 : Int) < 1000000000001 by omega)
  conv => whnf
  refine ⟨_, wid (by omega), ?_⟩
  conv => whnf
  repeat (refine SeqP.go ?_; conv => whnf)
  refine ⟨by omega, ?_⟩
  conv => whnf
  have b4 := tmod_bd b2.1 (show (0 : Int) < 2 by omega)
  have fin : ∀ c t n : Int, ∃ a : Nat × Hp × Int × Int × Int, a = (i + 1, h6, c, t, n) := fun c t n => ⟨_, rfl⟩
  refine cmpB (fun hb => ?_) (fun hb => ?_)
  · conv => whnf
    refine ⟨by omega, ?_⟩
    conv => whnf
    refine ⟨_, wid (by omega), ?_⟩
    conv => whnf
    refine Rnd.mk (i + 1, h6, _, _, _) ?_ ?_ ⟨rfl, rfl, rfl, rfl, trivial⟩ (Hp.Le.refl _) rfl
    · show i + 1 ≤ 2; omega
    · show 2 - (i + 1) < 2 - i; omega
  · conv => whnf
    refine ⟨_, wid (by omega), ?_⟩
    conv => whnf
    refine Rnd.mk (i + 1, h6, _, _, _) ?_ ?_ ⟨rfl, rfl, rfl, rfl, trivial⟩ (Hp.Le.refl _) rfl
    · show i + 1 ≤ 2; omega
    · show 2 - (i + 1) < 2 - i; omega
end
end
theorem lamps_any (a1 a2 a3 : Int) (w : World) : Calls Try.prog 10 #[.int .i64 a1, .int .i64 a2, .int .i64 a3] w fun e w' => e = .returned (.bool true) ∧ Below w.heap.size w w' :=
  law_true (fun h => @lamps_spec (intsUnk fun _ => 0) (fun h => @memo27 (intsUnk fun _ => 0) _ _ rfl) a1 a2 a3 h) (@LRel.cons (intsUnk fun _ => 0) _ _ _ _ _ (@VRel.int (intsUnk fun _ => 0) _ _ _) (@LRel.cons (intsUnk fun _ => 0) _ _ _ _ _ (@VRel.int (intsUnk fun _ => 0) _ _ _) (@LRel.cons (intsUnk fun _ => 0) _ _ _ _ _ (@VRel.int (intsUnk fun _ => 0) _ _ _) (@LRel.nil (intsUnk fun _ => 0) _)))) w
end Go.Proofs.Yticmdpcahpimhaa
