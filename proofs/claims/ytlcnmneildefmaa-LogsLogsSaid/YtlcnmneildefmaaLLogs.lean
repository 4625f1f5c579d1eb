/- Contracts of the functions that LLogs comes to. -/
import Derived.Test.YtlcnmneildefmaaLLog2
set_option maxRecDepth 100000
set_option maxHeartbeats 1000000
set_option linter.unusedVariables false
set_option linter.unusedSectionVars false
set_option linter.unusedSimpArgs false
namespace Go.Proofs.Ytlcnmneildefmaa
open Go.Rx Go.RowKit
theorem max_run (x y : Int) : pureRun E.prog (Builtin.max_ ⟨[3, 3]⟩ 3 ⟨[int x, int y]⟩) = some (int (max x y)) := by
  conv => lhs; whnf
  refine congrArg some (congrArg (Value.int .i64) ?_)
  omega
theorem neq_bool (x y : Operand) (a b : Bool) [Unknowns] : aBin E .neq 4 x y (.bool a) (.bool b) = some (.bool (a != b)) := by
  cases a <;> cases b <;> kernel_rfl
theorem raw_bne [Unknowns] {φ : Rx.Frame} {h : Hp} {x y : Operand} {a b c : Bool} {t : TypeId} {Q : Value → Hp → Prop} (hx : evφ φ x = .bool a) (hy : evφ φ y = .bool b) (hc : (a != b) = c) (q : Q (.bool c) h) : ResP E (Rx.runT E (.raw (.binOp .neq 4 x y t) 4) φ h) Q := by
  refine resP_val (v := .bool c) (h := h) ?_ q
  show hval h (aBin E .neq 4 x y (evφ φ x) (evφ φ y)) = _
  rw [hx, hy, neq_bool, hc]
  rfl
theorem modulus_any (n M : Int) (hM : 1 ≤ M ∧ M ≤ 1000000) [Unknowns] (h : Hp) : CallP E 36 [int n, int M] h (fun r h' => (∃ m : Nat, r = int m ∧ 1 ≤ m ∧ m ≤ 1000000) ∧ h' = h) := by
  refine enter36 (by simp) ?_
  conv => whnf
  repeat (refine SeqP.go ?_; conv => whnf)
  have hex := u64_of n
  obtain ⟨u, u0, u1, hu⟩ := hex
  have b1 := tmod_bd u0 (show (0 : Int) < M by omega)
  refine ⟨u, hu, ?_⟩
  conv => whnf
  refine ⟨M, u64_id (by omega), ?_⟩
  conv => whnf
  refine ⟨by omega, ?_⟩
  conv => whnf
  refine ⟨_, wid (by omega), ?_⟩
  conv => whnf
  have hexm : ∃ m : Nat, 1 + u.tmod M = m := ⟨(1 + u.tmod M).toNat, by omega⟩
  obtain ⟨m, hm⟩ := hexm
  refine ⟨(m : Int), wie hm (by omega), ?_⟩
  conv => whnf
  repeat (refine SeqP.go ?_; conv => whnf)
  exact ⟨⟨m, rfl, by omega, by omega⟩, rfl⟩
attribute [local irreducible] E idxN cellAt cellsAt storeAt callable helems hmoved lookIn findKey keyOk hentries Hp.at Hp.set Hp.lay arBits hupdated setAt CallP YieldP BoolOf IsWrap Rnd LoopP AppP CutP Int.tmod Int.tdiv Int.fdiv
structure RSt where
  r : Nat
  H : Hp
section
variable [Unknowns]
attribute [local irreducible] SeqP ResP sameAt
theorem Log_spec (n a x : Nat) (hn : 1 ≤ n ∧ n ≤ 1000000) (ha : a < n) (hx : x < n) (hc : Nat.gcd a n = 1) (hcx : Nat.gcd x n = 1) (h : Hp) : CallP E 30 [int n, int a, int x] h (fun r h' => ((∃ k : Nat, r = .tuple ⟨[int k, .bool true, int 0]⟩ ∧ IsLog n a x k) ∨ (r = .tuple ⟨[int 0, .bool false, int 0]⟩ ∧ ∀ k, a ^ k % n ≠ x)) ∧ Grows h h') := by
  refine enter30 (by simp) ?_
  conv => whnf
  repeat (refine SeqP.go ?_; conv => whnf)
  refine CallP.mono (check_spec n a h) ?_
  rintro r h1 ⟨⟨e, rfl, hchk⟩, hg1⟩
  have he : e = 0 := hchk.2.2 (by unfold IsMod; omega) ⟨by omega, by omega, by rw [Int.toNat_natCast, Int.toNat_natCast, Nat.gcd_comm]; exact hc⟩
  subst he
  conv => whnf
  repeat (refine SeqP.go ?_; conv => whnf)
  refine cmpF (by omega) ?_
  conv => whnf
  repeat (refine SeqP.go ?_; conv => whnf)
  refine CallP.mono (check_spec n x h1) ?_
  rintro r h2 ⟨⟨e, rfl, hchk2⟩, hg2⟩
  have he : e = 0 := hchk2.2.2 (by unfold IsMod; omega) ⟨by omega, by omega, by rw [Int.toNat_natCast, Int.toNat_natCast, Nat.gcd_comm]; exact hcx⟩
  subst he
  conv => whnf
  repeat (refine SeqP.go ?_; conv => whnf)
  refine cmpF (by omega) ?_
  conv => whnf
  repeat (refine SeqP.go ?_; conv => whnf)
  refine CallP.mono (log_spec n a x hn ha hx hc h2) ?_
  rintro r h3 ⟨⟨k, rfl, hk⟩ | ⟨rfl, hk⟩, hg3⟩
  · conv => whnf
    repeat (refine SeqP.go ?_; conv => whnf)
    exact ⟨.inl ⟨k, rfl, hk⟩, (hg1.trans hg2).trans hg3⟩
  · conv => whnf
    repeat (refine SeqP.go ?_; conv => whnf)
    exact ⟨.inr ⟨rfl, hk⟩, (hg1.trans hg2).trans hg3⟩
theorem logs_spec (n : Int) (hn : -9223372036854775808 ≤ n ∧ n < 9223372036854775808) (a : Int) (ha : -9223372036854775808 ≤ a ∧ a < 9223372036854775808) (k : Int) (hk : -9223372036854775808 ≤ k ∧ k < 9223372036854775808) : ∀ h vs, AllIs h vs [.i n, .i a, .i k] → CallP E 6 vs h (fun r _ => r = .bool true) := by
  intro h vs hvs
  match vs, hvs with
  | [_, _, _], hvs =>
  obtain ⟨rfl, rfl, rfl, -⟩ := hvs
  clear hn ha
  refine enter6 (by simp) ?_
  conv => whnf
  repeat (refine SeqP.go ?_; conv => whnf)
  refine loop_inv (α := RSt) (fun s => [(7, int s.r), (0, int n), (1, int a), (2, int k)]) (fun s => s.H) (fun s => s.r ≤ 2) (fun s => 2 - s.r) ⟨0, h⟩ (by simp) ⟨rfl, rfl, rfl, rfl, trivial⟩ (Hp.Le.refl _) ?_
  rintro ⟨r, H⟩ φ hr
  dsimp only at hr ⊢
  conv => whnf
  repeat (refine SeqP.go ?_; conv => whnf)
  refine cmpB (fun hb => ?_) (fun hb => ?_)
  rotate_left
  · conv => whnf
    repeat (refine SeqP.go ?_; conv => whnf)
    refine memo28 ?_
    conv => whnf
    repeat (refine SeqP.go ?_; conv => whnf)
    rfl
  conv => whnf
  refine SeqP.go ?_
  conv => whnf
  refine SeqP.go ?_
  conv => whnf
  refine SeqP.cut (α := Int) (fun M => [(8, int M), (7, int r), (0, int n), (1, int a), (2, int k)]) (fun M h' => h' = H ∧ 1 ≤ M ∧ M ≤ 1000000) ?_ ?_
  · conv => whnf
    repeat (refine SeqP.go ?_; conv => whnf)
    refine cmpB (fun hb2 => ?_) (fun hb2 => ?_)
    · conv => whnf
      exact ⟨400, ⟨rfl, rfl, rfl, rfl, rfl, trivial⟩, ⟨rfl, by omega, by omega⟩, rfl⟩
    · conv => whnf
      exact ⟨1000000, ⟨rfl, rfl, rfl, rfl, rfl, trivial⟩, ⟨rfl, by omega, by omega⟩, rfl⟩
  rintro M φ H1 ⟨rfl, hM⟩
  conv => whnf
  repeat (refine SeqP.go ?_; conv => whnf)
  refine CallP.mono (modulus_any n M hM H1) ?_
  rintro v h1 ⟨⟨m, rfl, hm⟩, rfl⟩
  conv => whnf
  repeat (refine SeqP.go ?_; conv => whnf)
  refine CallP.mono (unit_spec m a ⟨by omega, by omega⟩ h1) ?_
  rintro v h2 ⟨⟨u, rfl, hu⟩, rfl⟩
  have hex : ∃ w : Nat, u = w := ⟨u.toNat, by have := hu.1; omega⟩
  obtain ⟨u, rfl⟩ := hex
  have hum : u < m := by have := hu.2.1; omega
  have hc : Nat.gcd u m = 1 := by have := hu.2.2; rw [Int.toNat_natCast, Int.toNat_natCast, Nat.gcd_comm] at this; exact this
  conv => whnf
  refine CallP.mono (unit_spec m k ⟨by omega, by omega⟩ h2) ?_
  rintro v h3 ⟨⟨y, rfl, hy⟩, rfl⟩
  have hex : ∃ w : Nat, y = w := ⟨y.toNat, by have := hy.1; omega⟩
  obtain ⟨y, rfl⟩ := hex
  have hym : y < m := by have := hy.2.1; omega
  have hcy : Nat.gcd y m = 1 := by have := hy.2.2; rw [Int.toNat_natCast, Int.toNat_natCast, Nat.gcd_comm] at this; exact this
  conv => whnf
  refine SeqP.cut (α := Nat) (fun z => [(9, int m), (10, int u), (11, int z), (7, int r), (0, int n), (1, int a), (2, int k)]) (fun z h' => h' = h3 ∧ z < m ∧ Nat.gcd z m = 1) ?_ ?_
  · conv => whnf
    refine SeqP.go ?_
    conv => whnf
    refine cmpB (fun hb2 => ?_) (fun hb2 => ?_)
    rotate_left
    · conv => whnf
      exact ⟨y, ⟨rfl, rfl, rfl, rfl, rfl, rfl, rfl, trivial⟩, ⟨rfl, hym, hcy⟩, rfl⟩
    conv => whnf
    refine ⟨by omega, ?_⟩
    conv => whnf
    refine cmpB (fun hb3 => ?_) (fun hb3 => ?_)
    rotate_left
    · conv => whnf
      exact ⟨y, ⟨rfl, rfl, rfl, rfl, rfl, rfl, rfl, trivial⟩, ⟨rfl, hym, hcy⟩, rfl⟩
    have hexk := u64_of k
    obtain ⟨z, z0, z1, hz⟩ := hexk
    have bz := tmod_bd z0 (show (0 : Int) < 1000 by omega)
    have hexj : ∃ j : Nat, z.tmod 1000 = j := ⟨(z.tmod 1000).toNat, by omega⟩
    obtain ⟨j, hj⟩ := hexj
    conv => whnf
    refine ⟨z, hz, ?_⟩
    conv => whnf
    refine ⟨by omega, ?_⟩
    conv => whnf
    refine ⟨(j : Int), wie hj (by omega), ?_⟩
    conv => whnf
    refine CallP.mono (refpower_spec m u j hm (by omega) (by omega) h3) ?_
    rintro v h4 ⟨rfl, rfl⟩
    conv => whnf
    exact ⟨u ^ j % m, ⟨rfl, rfl, rfl, rfl, rfl, rfl, rfl, trivial⟩, ⟨rfl, Nat.mod_lt _ (by omega), Go.Num.cop_mod (Nat.Coprime.pow_left j hc)⟩, rfl⟩
  rintro z φ H4 ⟨rfl, hzm, hcz⟩
  conv => whnf
  refine SeqP.go ?_
  conv => whnf
  refine CallP.mono (Log_spec m u z hm hum hzm hc hcz H4) ?_
  have hox := Go.Num.least_exists (P := fun j => u ^ j % m = 1 % m) (Un m) (Un m) (Nat.le_refl _) (Un_bd hm.1).1 (un_one hm.1 hc)
  obtain ⟨o, ho0, hou, ho1, hol⟩ := hox
  have hom : o ≤ m := Nat.le_trans hou (Un_bd hm.1).2
  rintro v h5 ⟨⟨t, rfl, ht⟩ | ⟨rfl, ht⟩, hg5⟩
  · have htl := ht.lt ho1 ho0
    conv => whnf
    refine SeqP.go ?_
    conv => whnf
    refine CallP.mono (reflog_spec m u z o hm hum ⟨ho0, hom⟩ ho1 hol h5) ?_
    rintro v h6 ⟨⟨t2, rfl, ht2⟩ | ⟨rfl, ht2⟩, rfl⟩
    rotate_left
    · exact absurd ht.1 (ht2 t htl)
    have := ht.uniq ht2
    subst this
    conv => whnf
    refine SeqP.go ?_
    conv => whnf
    refine cmpF (fun e => e rfl) ?_
    conv => whnf
    refine cmpT (by omega) ?_
    conv => whnf
    refine raw_bne rfl rfl rfl ?_
    conv => whnf
    refine raw_max (max_run _ _) rfl rfl ?_
    conv => whnf
    refine cmpF (by omega) ?_
    conv => whnf
    refine ⟨((r + 1 : Nat) : Int), wie (by omega) (by omega), ?_⟩
    conv => whnf
    exact Rnd.mk ⟨r + 1, h6⟩ (by show r + 1 ≤ 2; omega) (by show 2 - (r + 1) < 2 - r; omega) ⟨rfl, rfl, rfl, rfl, trivial⟩ (Hp.Le.refl _) rfl
  · conv => whnf
    refine SeqP.go ?_
    conv => whnf
    refine CallP.mono (reflog_spec m u z o hm hum ⟨ho0, hom⟩ ho1 hol h5) ?_
    rintro v h6 ⟨⟨t2, rfl, ht2⟩ | ⟨rfl, ht2⟩, rfl⟩
    · exact absurd ht2.1 (ht t2)
    conv => whnf
    refine SeqP.go ?_
    conv => whnf
    refine cmpF (fun e => e rfl) ?_
    conv => whnf
    refine cmpF (by omega) ?_
    conv => whnf
    refine raw_bne rfl rfl rfl ?_
    conv => whnf
    refine raw_max (max_run _ _) rfl rfl ?_
    conv => whnf
    refine cmpF (by omega) ?_
    conv => whnf
    refine ⟨((r + 1 : Nat) : Int), wie (by omega) (by omega), ?_⟩
    conv => whnf
    exact Rnd.mk ⟨r + 1, h6⟩ (by show r + 1 ≤ 2; omega) (by show 2 - (r + 1) < 2 - r; omega) ⟨rfl, rfl, rfl, rfl, trivial⟩ (Hp.Le.refl _) rfl
end
end Go.Proofs.Ytlcnmneildefmaa
