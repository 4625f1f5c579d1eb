/- Contracts of the functions that LLogs comes to. -/
import Derived.Test.YtlcnmneildefmaaLLog
set_option maxRecDepth 100000
set_option maxHeartbeats 1000000
set_option linter.unusedVariables false
set_option linter.unusedSectionVars false
set_option linter.unusedSimpArgs false
namespace Go.Proofs.Ytlcnmneildefmaa
open Go.Rx Go.RowKit
attribute [local irreducible] E idxN cellAt cellsAt storeAt callable helems hmoved lookIn findKey keyOk hentries Hp.at Hp.set Hp.lay arBits hupdated setAt CallP YieldP BoolOf IsWrap Rnd LoopP AppP CutP Int.tmod Int.tdiv Int.fdiv
section
variable [Unknowns]
attribute [local irreducible] SeqP ResP sameAt small
theorem log_spec (n a x : Nat) (hn : 1 ≤ n ∧ n ≤ 1000000) (ha : a < n) (hx : x < n) (hc : Nat.gcd a n = 1) (h : Hp) : CallP E 66 [.agg ⟨[int n, int a]⟩, int x] h (fun r h' => ((∃ k : Nat, r = .tuple ⟨[int k, .bool true]⟩ ∧ IsLog n a x k) ∨ (r = .tuple ⟨[int 0, .bool false]⟩ ∧ ∀ k, a ^ k % n ≠ x)) ∧ Grows h h') := by
  have hp : (h.lay (.row 65 true [int n, int a])).at h.next = some (.row 65 true [int n, int a]) := Hp.at_lay_self _ _
  have e1 := tmod_nat 1 n
  obtain ⟨i78, t78, d78⟩ := ty78
  obtain ⟨i3, t3, -, z3⟩ := ty3
  refine enter66 (by simp) ?_
  conv => whnf
  refine SeqP.go ?_
  conv => whnf
  refine SeqP.go ?_
  conv => whnf
  refine ⟨[int n, int a], cellsAt_row hp (by simp), ?_⟩
  conv => whnf
  refine CallP.mono (order_spec n a hn (by omega) hc _) ?_
  rintro r h2 ⟨⟨o, rfl, ho1, hon, ho, hol⟩, hg2⟩
  have hp2 := hg2.at_ _ _ hp
  have gg2 : Grows h h2 := (Grows.lay _ _).trans hg2
  have hn2 : h.next < h2.next := Hp.lt_of_at hp2
  conv => whnf
  refine SeqP.go ?_
  conv => whnf
  refine SeqP.cut (α := Nat) (fun m => [(7, int m), (1, int x), (2, ptr h.next 0)]) (fun m h' => h' = h2 ∧ 1 ≤ m ∧ m ≤ 1000 ∧ o ≤ m * m) ?_ ?_
  · conv => whnf
    refine loop_inv (α := Nat) (fun m => [(7, int m), (6, int o), (1, int x), (2, ptr h.next 0)]) (fun _ => h2) (fun m => 1 ≤ m ∧ m ≤ 1000) (fun m => 1000 - m) 1 (by omega) ⟨rfl, rfl, rfl, rfl, trivial⟩ (Hp.Le.refl _) ?_
    rintro m φ hm
    have m1 : (m : Int) * (m : Int) = ((m * m : Nat) : Int) := by rw [Int.natCast_mul]
    have b1 : m * m ≤ 1000 * 1000 := Nat.mul_le_mul hm.2 hm.2
    conv => whnf
    repeat (refine SeqP.go ?_; conv => whnf)
    refine ⟨((m * m : Nat) : Int), wie m1 (by omega), ?_⟩
    conv => whnf
    refine cmpB (fun hb => ?_) (fun hb => ?_)
    · conv => whnf
      repeat (refine SeqP.go ?_; conv => whnf)
      have hlt : m < 1000 := by
        rcases Nat.lt_or_ge m 1000 with h1 | h1
        · exact h1
        · have := Nat.mul_le_mul h1 h1; omega
      refine ⟨((m + 1 : Nat) : Int), wie (by omega) (by omega), ?_⟩
      conv => whnf
      exact Rnd.mk (m + 1) (by omega) (by show 1000 - (m + 1) < 1000 - m; omega) ⟨rfl, rfl, rfl, rfl, trivial⟩ (Hp.Le.refl _) rfl
    · conv => whnf
      exact ⟨m, ⟨rfl, rfl, rfl, trivial⟩, ⟨rfl, hm.1, hm.2, by omega⟩, rfl⟩
  rintro m φ H1 ⟨rfl, hm1, hm2, hmo⟩
  conv => whnf
  repeat (refine SeqP.go ?_; conv => whnf)
  refine ⟨int n, cellAt_row (Hp.at_lay_old _ hp2) rfl, ?_⟩
  conv => whnf
  refine ⟨by omega, ?_⟩
  conv => whnf
  refine SeqP.cut (α := BSt) (fun s => [(9, int (a ^ m % n : Nat)), (8, mapAt H1.next), (7, int m), (2, ptr h.next 0), (1, int x)]) (fun s h' => h' = s.H ∧ MapAt h' H1.next (fun k : Int => int k) (small n a m) s.c ∧ Grows h h' ∧ h'.at h.next = some (.row 65 true [int n, int a])) ?_ ?_
  · conv => whnf
    repeat (refine SeqP.go ?_; conv => whnf)
    refine loop_inv (α := BSt) (fun s => [(33, int s.j), (32, int m), (9, int (a ^ s.j % n : Nat)), (8, mapAt H1.next), (7, int m), (2, ptr h.next 0), (1, int x)]) (fun s => s.H) (fun s => s.j ≤ m ∧ MapAt s.H H1.next (fun k : Int => int k) (small n a s.j) s.c ∧ Grows h s.H ∧ s.H.at h.next = some (.row 65 true [int n, int a])) (fun s => m - s.j) ⟨0, H1.lay (.map [] 0), 0⟩ ⟨Nat.zero_le _, MapAt.congr (MapAt.new H1) (fun k => (small_zero n a k).symm), gg2.then_lay _, Hp.at_lay_old _ hp2⟩ ⟨rfl, rfl, ?_, rfl, rfl, rfl, rfl, trivial⟩ (Hp.Le.refl _) ?_
    · show int ((1 : Int).tmod n) = int ((a ^ 0 % n : Nat) : Int)
      rw [Nat.pow_zero]; exact congrArg int e1
    rintro ⟨j, H, c⟩ φ ⟨hj, hM, hG, hR⟩
    dsimp only at hj hM hG hR ⊢
    have b1 : a ^ j % n < n := Nat.mod_lt _ (by omega)
    have m1 : ((a ^ j % n : Nat) : Int) * (a : Int) = ((a ^ j % n * a : Nat) : Int) := by rw [Int.natCast_mul]
    have b2 := mod_bound hn.2 b1 ha
    have t1 := tmod_nat (a ^ j % n * a) n
    have p1 : a ^ j % n * a % n = a ^ (j + 1) % n := by rw [Nat.mod_mul_mod, ← Nat.pow_succ]
    conv => whnf
    repeat (refine SeqP.go ?_; conv => whnf)
    refine cmpB (fun hb => ?_) (fun hb => ?_)
    rotate_left
    · conv => whnf
      repeat (refine SeqP.go ?_; conv => whnf)
      have hjm : j = m := by omega
      have hM2 : MapAt H H1.next (fun k : Int => int k) (small n a m) c := by rw [← hjm]; exact hM
      have hv : int ((a ^ j % n : Nat) : Int) = int ((a ^ m % n : Nat) : Int) := by rw [hjm]
      exact ⟨⟨m, H, c⟩, ⟨hv, rfl, rfl, rfl, rfl, trivial⟩, ⟨rfl, hM2, hG, hR⟩, rfl⟩
    conv => whnf
    refine SeqP.go ?_
    conv => whnf
    refine SeqP.go ?_
    conv => whnf
    refine SeqP.go ?_
    conv => whnf
    refine SeqP.cut (α := BSt) (fun s => [(33, int j), (32, int m), (9, int (a ^ j % n : Nat)), (8, mapAt H1.next), (7, int m), (2, ptr h.next 0), (1, int x)]) (fun s h' => h' = s.H ∧ MapAt h' H1.next (fun k : Int => int k) (small n a (j + 1)) s.c ∧ Grows h h' ∧ h'.at h.next = some (.row 65 true [int n, int a])) ?_ ?_
    · conv => whnf
      repeat (refine SeqP.go ?_; conv => whnf)
      have hopt : small n a j ((a ^ j % n : Nat) : Int) = none ∨ ∃ v, small n a j ((a ^ j % n : Nat) : Int) = some v := by
        cases small n a j ((a ^ j % n : Nat) : Int) with
        | none => exact .inl rfl
        | some v => exact .inr ⟨v, rfl⟩
      rcases hopt with hs | ⟨v, hs⟩
      rotate_left
      · refine raw_look2_some t78 d78 t3 z3 key3 (k := ((a ^ j % n : Nat) : Int)) rfl rfl hM hs ?_
        conv => whnf
        repeat (refine SeqP.go ?_; conv => whnf)
        refine ⟨⟨j, H, c⟩, ⟨rfl, rfl, rfl, rfl, rfl, rfl, rfl, trivial⟩, ⟨rfl, MapAt.congr hM fun k => ?_, hG, hR⟩, rfl⟩
        show _ = small n a (j + 1) k
        rw [small_succ]
        cases hk : small n a j k with
        | some w => rfl
        | none =>
          dsimp only
          rw [if_neg (fun e => by subst e; rw [hs] at hk; cases hk)]
      · refine raw_look2_none t78 d78 t3 z3 key3 (k := ((a ^ j % n : Nat) : Int)) rfl rfl hM hs ?_
        conv => whnf
        repeat (refine SeqP.go ?_; conv => whnf)
        refine raw_update t78 d78 key3 (k := ((a ^ j % n : Nat) : Int)) (v := int j) rfl rfl rfl hM ?_
        intro h' hM' hK
        conv => whnf
        have hlt := gg2.next
        have hcc : ∃ c', MapAt h' H1.next (fun k : Int => int k) (small n a (j + 1)) c' := by
          refine ⟨_, MapAt.congr hM' fun k => ?_⟩
          rw [small_succ]
          by_cases ek : k = ((a ^ j % n : Nat) : Int)
          · subst ek
            rw [if_pos rfl, hs]
            dsimp only
            rw [if_pos rfl]
          · rw [if_neg ek, if_neg ek]
            cases small n a j k <;> rfl
        obtain ⟨c', hM''⟩ := hcc
        exact ⟨⟨j, h', c'⟩, ⟨rfl, rfl, rfl, rfl, rfl, rfl, rfl, trivial⟩, ⟨rfl, hM'', hK.grows hG hlt, hK.at_ _ _ (by omega) hR⟩, rfl⟩
    rintro ⟨_, H', c'⟩ φ H2 ⟨rfl, hM', hG', hR'⟩
    conv => whnf
    repeat (refine SeqP.go ?_; conv => whnf)
    refine ⟨int a, cellAt_row hR' rfl, ?_⟩
    conv => whnf
    refine ⟨((a ^ j % n * a : Nat) : Int), wie m1 (by omega), ?_⟩
    conv => whnf
    refine ⟨int n, cellAt_row hR' rfl, ?_⟩
    conv => whnf
    refine ⟨by omega, ?_⟩
    conv => whnf
    refine ⟨((j + 1 : Nat) : Int), wie (by omega) (by omega), ?_⟩
    conv => whnf
    refine Rnd.mk ⟨j + 1, H2, c'⟩ ⟨by show j + 1 ≤ m; omega, hM', hG', hR'⟩ (by show m - (j + 1) < m - j; omega) ⟨rfl, rfl, ?_, rfl, rfl, rfl, rfl, trivial⟩ (Hp.Le.refl _) rfl
    show int (((a ^ j % n * a : Nat) : Int).tmod n) = int ((a ^ (j + 1) % n : Nat) : Int)
    rw [t1, p1]
  rintro ⟨_, H, c⟩ φ H3 ⟨rfl, hM, hG, hR⟩
  have b1 : a ^ m % n < n := Nat.mod_lt _ (by omega)
  have hcm : Nat.gcd (a ^ m % n) n = 1 := Go.Num.cop_mod (Nat.Coprime.pow_left m hc)
  conv => whnf
  repeat (refine SeqP.go ?_; conv => whnf)
  refine ⟨int n, cellAt_row hR rfl, ?_⟩
  conv => whnf
  have hinv := inverse_spec n (a ^ m % n) hn (by omega) H3
  have hw := Go.Num.inverse_pow (Un_bd hn.1).1 (un_one hn.1 hcm)
  have hwl : (a ^ m % n) ^ (Un n - 1) % n < n := Nat.mod_lt _ (by omega)
  have hex : ∃ w, (a ^ m % n) ^ (Un n - 1) % n = w := ⟨_, rfl⟩
  obtain ⟨w, ew⟩ := hex
  rw [ew] at hw hwl hinv
  refine CallP.mono hinv ?_
  rintro r h4 ⟨rfl, hg4⟩
  have hR4 := hg4.at_ _ _ hR
  have hM4 := hM.ext hg4
  have gg4 := hG.trans hg4
  conv => whnf
  repeat (refine SeqP.go ?_; conv => whnf)
  refine loop_inv (α := GSt) (fun s => [(61, int s.i), (60, int m), (1, int s.x), (13, int w), (8, mapAt H1.next), (7, int m), (2, ptr h.next 0), (14, int 0), (15, .bool false)]) (fun _ => h4) (fun s => s.i ≤ m ∧ s.x < n ∧ s.x * a ^ (m * s.i) % n = x ∧ ∀ k, k < m * s.i → a ^ k % n ≠ x) (fun s => m - s.i) ⟨0, x⟩ ⟨Nat.zero_le _, hx, by show x * a ^ (m * 0) % n = x; rw [Nat.mul_zero, Nat.pow_zero, Nat.mul_one, Nat.mod_eq_of_lt hx], fun k hk => by have : m * 0 = 0 := Nat.mul_zero m; have hk : k < m * 0 := hk; omega⟩ ⟨rfl, rfl, rfl, rfl, rfl, rfl, rfl, rfl, rfl, trivial⟩ (Hp.Le.refl _) ?_
  rintro ⟨i, y⟩ φ ⟨hi, hy, hxy, hno⟩
  dsimp only at hi hy hxy hno ⊢
  have key : ∀ s, a ^ s % n = y ↔ a ^ (m * i + s) % n = x := by
    intro s
    constructor
    · intro e
      rw [← hxy, ← e, Nat.pow_add, Nat.mod_mul_mod, Nat.mul_comm]
    · intro e
      have := pow_split (y := y) (i := m * i) (s := s) hc (by rw [e, ← hxy, Nat.mul_comm])
      rw [this, Nat.mod_eq_of_lt hy]
  conv => whnf
  repeat (refine SeqP.go ?_; conv => whnf)
  refine cmpB (fun hb => ?_) (fun hb => ?_)
  rotate_left
  · conv => whnf
    repeat (refine SeqP.go ?_; conv => whnf)
    refine ⟨.inr ⟨rfl, fun k e => ?_⟩, gg4⟩
    have : i = m := by omega
    subst this
    have hlt : k % o < i * i := Nat.lt_of_lt_of_le (Nat.mod_lt k ho1) hmo
    exact hno _ hlt ((pow_wrap ho k).trans e)
  have hi' : i < m := by omega
  have mi : m * i ≤ 1000 * 1000 := Nat.mul_le_mul hm2 (by omega)
  conv => whnf
  repeat (refine SeqP.go ?_; conv => whnf)
  have hopt : small n a m (y : Int) = none ∨ ∃ v, small n a m (y : Int) = some v := by
    cases small n a m (y : Int) with
    | none => exact .inl rfl
    | some v => exact .inr ⟨v, rfl⟩
  rcases hopt with hs | ⟨v, hs⟩
  rotate_left
  · obtain ⟨t, ht1, rfl, ht2, ht3⟩ := small_some hs
    refine raw_look2_some t78 d78 t3 z3 key3 (k := (y : Int)) rfl rfl hM4 hs ?_
    have m2 : (i : Int) * (m : Int) = ((m * i : Nat) : Int) := by rw [Nat.mul_comm, Int.natCast_mul]
    conv => whnf
    repeat (refine SeqP.go ?_; conv => whnf)
    refine ⟨((m * i : Nat) : Int), wie m2 (by omega), ?_⟩
    conv => whnf
    refine ⟨((m * i + t : Nat) : Int), wie (by omega) (by omega), ?_⟩
    conv => whnf
    repeat (refine SeqP.go ?_; conv => whnf)
    refine ⟨.inl ⟨m * i + t, rfl, (key t).1 (by omega), fun j hj e => ?_⟩, gg4⟩
    rcases Nat.lt_or_ge j (m * i) with h5 | h5
    · exact hno j h5 e
    · have h6 := (key (j - m * i)).2 (by rw [show m * i + (j - m * i) = j by omega]; exact e)
      exact ht3 (j - m * i) (by omega) (congrArg Int.ofNat h6)
  · have hn1 := small_none hs
    refine raw_look2_none t78 d78 t3 z3 key3 (k := (y : Int)) rfl rfl hM4 hs ?_
    have m3 : (y : Int) * (w : Int) = ((y * w : Nat) : Int) := by rw [Int.natCast_mul]
    have b3 := mod_bound hn.2 hy hwl
    have t3' := tmod_nat (y * w) n
    conv => whnf
    repeat (refine SeqP.go ?_; conv => whnf)
    refine ⟨((y * w : Nat) : Int), wie m3 (by omega), ?_⟩
    conv => whnf
    refine ⟨int n, cellAt_row hR4 rfl, ?_⟩
    conv => whnf
    refine ⟨by omega, ?_⟩
    conv => whnf
    refine ⟨((i + 1 : Nat) : Int), wie (by omega) (by omega), ?_⟩
    conv => whnf
    refine Rnd.mk ⟨i + 1, y * w % n⟩ ⟨by show i + 1 ≤ m; omega, Nat.mod_lt _ (by omega), ?_, ?_⟩ (by show m - (i + 1) < m - i; omega) ⟨rfl, rfl, ?_, rfl, rfl, rfl, rfl, rfl, rfl, trivial⟩ (Hp.Le.refl _) rfl
    · show y * w % n * a ^ (m * (i + 1)) % n = x
      rw [Nat.mul_add, Nat.mul_one, Nat.pow_add, Nat.mod_mul_mod]
      rw [← hxy]
      rw [show y * w * (a ^ (m * i) * a ^ m) = y * a ^ (m * i) * (w * a ^ m) by simp only [Nat.mul_assoc, Nat.mul_comm, Nat.mul_left_comm]]
      rw [Nat.mul_mod, show w * a ^ m % n = 1 % n by rw [Nat.mul_mod_mod] at hw; exact hw, ← Nat.mul_mod, Nat.mul_one]
    · show ∀ k, k < m * (i + 1) → a ^ k % n ≠ x
      intro k hk e
      rw [Nat.mul_add, Nat.mul_one] at hk
      rcases Nat.lt_or_ge k (m * i) with h5 | h5
      · exact hno k h5 e
      · have h6 := (key (k - m * i)).2 (by rw [show m * i + (k - m * i) = k by omega]; exact e)
        exact hn1 (k - m * i) (by omega) (congrArg Int.ofNat h6)
    · show int (((y * w : Nat) : Int).tmod n) = int ((y * w % n : Nat) : Int)
      rw [t3']
end
end Go.Proofs.Ytlcnmneildefmaa
