/- Contracts of the functions that LWits comes to. -/
import Derived.Test.YtlcnmneildefmaaLRef
import Derived.Test.YtlcnmneildefmaaLEq
set_option maxRecDepth 100000
set_option maxHeartbeats 1000000
set_option linter.unusedVariables false
set_option linter.unusedSectionVars false
set_option linter.unusedSimpArgs false
namespace Go.Proofs.Ytlcnmneildefmaa
open Go.Rx Go.RowKit
theorem bool_ty : ∃ i, E.ty 4 = some i ∧ i.agg = false := by
  have hs : (tiOf Try.prog 4).isSome = true := by kernel_rfl
  refine ⟨(tiOf Try.prog 4).get hs, ty_get (by kernel_rfl) (Option.some_get hs).symm, ?_⟩
  kernel_rfl
theorem facs_ne : ∀ (f p n : Nat), 2 ≤ p → 1 < n → n + 3 ≤ f + p → p ≤ n + 2 → facs f p n ≠ [] := by
  intro f
  induction f with
  | zero => intro p n h1 h2 h3 h4; omega
  | succ f ih =>
    intro p n h1 h2 h3 h4
    unfold facs
    by_cases h : p * p ≤ n
    · rw [if_pos h]
      have hle : p ≤ p * p := Nat.le_mul_of_pos_left p (by omega)
      by_cases ht : (strip n p n).2 = 0
      · rw [if_pos ht]
        have so := (strip_ok n p n h1 (by omega) (Nat.le_refl _)).1
        rw [ht, Nat.pow_zero, Nat.mul_one] at so
        rw [so]
        exact ih (p + 1) n (by omega) h2 (by omega) (by omega)
      · rw [if_neg ht]; simp
    · rw [if_neg h, if_pos h2]; simp
theorem FL_cons {n : Nat} (hn : 2 ≤ n) : ∃ x l, FL n = x :: l := by
  cases h : FL n with
  | nil => exact absurd h (facs_ne (n + 1) 2 n (by omega) (by omega) (by omega) (by omega))
  | cons x l => exact ⟨x, l, rfl⟩
/-- Whether a number shows that another one is not prime. -/
def IsWit (n a : Nat) : Prop := Nat.gcd n a ≠ 1 ∨ ((a ^ ((n - 1) / 2) % n : Nat) : Int) ≠ (sgn a n + n).tmod n
/-- Whether the first factor is the number itself. -/
def Whole (n : Nat) : Prop := ∃ l, FL n = (n, 1) :: l
theorem FL_whole {n : Nat} (hn : 2 ≤ n) {t : Nat} {l : List (Nat × Nat)} (h : FL n = (n, t) :: l) : t = 1 := by
  have h1 := FL_ok (n := n) (by omega) (n, t) (by rw [h]; simp)
  have hp := h1.1
  have : ∀ (f p : Nat) (r : List (Nat × Nat)), 2 ≤ p → p ≤ n → facs f p n = (n, t) :: r → t = 1 := by
    intro f
    induction f with
    | zero => intro p r _ _ h; simp [facs] at h
    | succ f ih =>
      intro p r h2 hpn h
      unfold facs at h
      by_cases hpp : p * p ≤ n
      · rw [if_pos hpp] at h
        have hlt : p < p * p := by
          have := Nat.mul_le_mul h2 (Nat.le_refl p)
          omega
        by_cases ht : (strip n p n).2 = 0
        · rw [if_pos ht] at h
          have so := (strip_ok n p n h2 (by omega) (Nat.le_refl _)).1
          rw [ht, Nat.pow_zero, Nat.mul_one] at so
          rw [so] at h
          exact ih (p + 1) r (by omega) (by omega) h
        · rw [if_neg ht] at h
          injection h with h3 h4
          injection h3 with h5 h6
          omega
      · rw [if_neg hpp, if_pos (by omega)] at h
        injection h with h3 h4
        injection h3 with h5 h6
        exact h6.symm
  exact this (n + 1) 2 l (by omega) hn h
theorem wit_ex {n : Nat} (hn : 3 ≤ n) (hw : ¬ Whole n) : ∃ a, 2 ≤ a ∧ a < n ∧ IsWit n a := by
  obtain ⟨⟨p, t⟩, l, h⟩ := FL_cons (show 2 ≤ n by omega)
  have h1 := FL_ok (show 1 ≤ n by omega) (p, t) (by rw [h]; simp)
  have hp2 := h1.1.1
  have hdv := h1.2.1
  dsimp only at hp2 hdv
  have hle : p ≤ n := Nat.le_of_dvd (by omega) hdv
  have hne : p ≠ n := by
    intro e
    subst e
    have ht := FL_whole (by omega) h
    exact hw ⟨l, by rw [h, ht]⟩
  refine ⟨p, hp2, by omega, .inl ?_⟩
  have : Nat.gcd n p = p := Nat.gcd_eq_right hdv
  omega
theorem wit_uniq {n a b : Nat} (ha : 2 ≤ a ∧ IsWit n a ∧ ∀ x, 2 ≤ x → x < a → ¬ IsWit n x) (hb : 2 ≤ b ∧ IsWit n b ∧ ∀ x, 2 ≤ x → x < b → ¬ IsWit n x) : a = b := by
  rcases Nat.lt_trichotomy a b with h | h | h
  · exact absurd ha.2.1 (hb.2.2 a ha.1 h)
  · exact h
  · exact absurd hb.2.1 (ha.2.2 b hb.1 h)
theorem sgn_bd (a : Int) (n : Nat) : -1 ≤ sgn a n ∧ sgn a n ≤ 1 := sgnL_bd a _ 1 (by omega)
attribute [local irreducible] E idxN cellAt cellsAt storeAt callable helems hmoved lookIn findKey keyOk hentries Hp.at Hp.set Hp.lay arBits hupdated setAt CallP YieldP BoolOf IsWrap Rnd LoopP AppP CutP Int.tmod Int.tdiv Int.fdiv
section
variable [Unknowns]
attribute [local irreducible] SeqP
theorem refwit_spec (n a : Nat) (hn : 3 ≤ n ∧ n ≤ 1000000) (hodd : n % 2 = 1) (ha : a < n) (h : Hp) : CallP E 74 [int n, int a] h (fun r h' => (∃ b, r = .bool b ∧ BoolOf b (IsWit n a)) ∧ Grows h h') := by
  have hd := tdiv_nat (n - 1) 2
  have hs := sgn_bd a n
  refine enter74 (by simp) ?_
  conv => whnf
  repeat (refine SeqP.go ?_; conv => whnf)
  refine CallP.mono (refgcd_spec n a (by omega) (by omega) h) ?_
  rintro r h1 ⟨rfl, rfl⟩
  conv => whnf
  refine cmpB (fun hb => ?_) (fun hb => ?_)
  · conv => whnf
    repeat (refine SeqP.go ?_; conv => whnf)
    exact ⟨⟨true, rfl, BoolOf.yes (.inl (by omega))⟩, .refl _⟩
  conv => whnf
  refine ⟨((n - 1 : Nat) : Int), wie (by omega) (by omega), ?_⟩
  conv => whnf
  refine ⟨by omega, (((n - 1) / 2 : Nat) : Int), wie hd (by omega), ?_⟩
  conv => whnf
  refine CallP.mono (refpower_spec n a ((n - 1) / 2) ⟨by omega, by omega⟩ (by omega) (by omega) h1) ?_
  rintro r h2 ⟨rfl, rfl⟩
  conv => whnf
  refine CallP.mono (refsign_spec a n ⟨by omega, by omega⟩ ⟨by omega, by omega⟩ hodd h2) ?_
  rintro r h3 ⟨rfl, hg⟩
  conv => whnf
  refine ⟨_, wid (by omega), ?_⟩
  conv => whnf
  refine ⟨by omega, ?_⟩
  conv => whnf
  refine cmpB (fun hb2 => ?_) (fun hb2 => ?_)
  · conv => whnf
    repeat (refine SeqP.go ?_; conv => whnf)
    exact ⟨⟨true, rfl, BoolOf.yes (.inr hb2)⟩, hg⟩
  · conv => whnf
    repeat (refine SeqP.go ?_; conv => whnf)
    refine ⟨⟨false, rfl, BoolOf.no fun hw => ?_⟩, hg⟩
    rcases hw with hw | hw
    · exact hw (by omega)
    · exact hb2 hw
theorem wit_spec (n a : Nat) (hn : 3 ≤ n ∧ n ≤ 1000000) (hodd : n % 2 = 1) (ha : a < n) (h : Hp) : CallP E 64 [int n, int a] h (fun r h' => (∃ b, r = .bool b ∧ BoolOf b (IsWit n a)) ∧ Grows h h') := by
  have hd := tdiv_nat (n - 1) 2
  have hs := sgn_bd a n
  have hi : Ints (h.lay (.row 3 true [int a, int n])) (slc h.next 0 2 2) ([a, n].map fun n : Nat => (n : Int)) := by
    exact ints_of_row (l := [(a : Int), (n : Int)]) (Hp.at_lay_self _ _) (fun k hk => by
      have : k = 0 ∨ k = 1 := by simp at hk; omega
      rcases this with rfl | rfl <;> rfl)
  have hgp : 0 < Nat.gcd n a := Nat.gcd_pos_of_pos_left _ (by omega)
  refine enter64 (by simp) ?_
  conv => whnf
  repeat (refine SeqP.go ?_; conv => whnf)
  refine CallP.mono (divisor_spec _ [a, n] _ hi (by simp)) ?_
  rintro r h1 ⟨rfl, rfl⟩
  have e : ([a, n].foldl Nat.gcd 0) = Nat.gcd n a := by
    show Nat.gcd (Nat.gcd 0 a) n = _
    rw [Nat.gcd_zero_left, Nat.gcd_comm]
  rw [e]
  conv => whnf
  refine cmpB (fun hb => ?_) (fun hb => ?_)
  · conv => whnf
    repeat (refine SeqP.go ?_; conv => whnf)
    exact ⟨⟨true, rfl, BoolOf.yes (.inl (by omega))⟩, Grows.lay _ _⟩
  conv => whnf
  refine ⟨((n - 1 : Nat) : Int), wie (by omega) (by omega), ?_⟩
  conv => whnf
  refine ⟨by omega, (((n - 1) / 2 : Nat) : Int), wie hd (by omega), ?_⟩
  conv => whnf
  refine CallP.mono (power_spec n a ((n - 1) / 2) ⟨by omega, by omega⟩ (by omega) (by omega) _) ?_
  rintro r h2 ⟨rfl, hg2⟩
  conv => whnf
  refine CallP.mono (sign_spec a n ⟨by omega, by omega⟩ ⟨by omega, by omega⟩ hodd h2) ?_
  rintro r h3 ⟨rfl, hg3⟩
  have hg := ((Grows.lay h (.row 3 true [int a, int n])).trans hg2).trans hg3
  conv => whnf
  refine ⟨_, wid (by omega), ?_⟩
  conv => whnf
  refine ⟨by omega, ?_⟩
  conv => whnf
  refine cmpB (fun hb2 => ?_) (fun hb2 => ?_)
  · conv => whnf
    repeat (refine SeqP.go ?_; conv => whnf)
    exact ⟨⟨true, rfl, BoolOf.yes (.inr hb2)⟩, hg⟩
  · conv => whnf
    repeat (refine SeqP.go ?_; conv => whnf)
    refine ⟨⟨false, rfl, BoolOf.no fun hw => ?_⟩, hg⟩
    rcases hw with hw | hw
    · exact hw (by omega)
    · exact hb2 hw
end
section
variable [Unknowns]
attribute [local irreducible] rangeQ finP bodyQ endQ ResP
theorem isprime_spec (n : Nat) (hn : 3 ≤ n ∧ n ≤ 1000000) (h : Hp) : CallP E 63 [int n] h (fun r h' => (∃ b, r = .bool b ∧ BoolOf b (Whole n)) ∧ Grows h h') := by
  have hex := FL_cons (show 2 ≤ n by omega)
  obtain ⟨⟨p, t⟩, l, hF⟩ := hex
  have hb0 : BoolOf (bif ((p : Int) == n) then ((t : Int) == 1) else false) (Whole n) := by
    unfold BoolOf
    rw [show (bif ((p : Int) == n) then ((t : Int) == 1) else false) = decide (p = n ∧ t = 1) by
      by_cases h1 : p = n
      · subst h1
        by_cases h2 : t = 1
        · subst h2; simp
        · have : ¬ (t : Int) = 1 := by omega
          simp [h2, this]
      · have : ¬ (p : Int) = n := by omega
        simp [h1, this]]
    rw [decide_eq_true_iff]
    constructor
    · rintro ⟨rfl, rfl⟩
      exact ⟨l, hF⟩
    · rintro ⟨r, e⟩
      rw [hF] at e
      injection e with e1 e2
      injection e1 with e3 e4
      exact ⟨e3, e4⟩
  have hexb : ∃ b, (bif ((p : Int) == n) then ((t : Int) == 1) else false) = b := ⟨_, rfl⟩
  obtain ⟨b, eb⟩ := hexb
  rw [eb] at hb0
  have hexi := bool_ty
  obtain ⟨bi, hbi, hba⟩ := hexi
  refine enter63 (by simp) ?_
  conv => whnf
  refine ⟨int n, cellAt_congr (fun _ e => Hp.at_lay_old _ e) (cellAt_lay rfl), ?_⟩
  conv => whnf
  refine CallP.mono (factors_spec n _) ?_
  rintro r h' ⟨rfl, rfl⟩
  conv => whnf
  refine range_go2 ((FL n).map fv) (fun k hh => k = 0 ∧ hh.at h.next = some (.row 3 true [int n]) ∧ hh.at (h.next + 1) = some (.row 4 true [.bool false]) ∧ hh.at (h.next + 3) = some .noDefers ∧ Grows h hh) (fun e hh => e = .ret ∧ hh.at (h.next + 1) = some (.row 4 true [.bool b]) ∧ hh.at (h.next + 3) = some .noDefers ∧ Grows h hh) can79 ?_ rfl ?_ ?_ ?_ ?_ ?_
  · intro k hk
    rw [List.getElem_map]; rfl
  · intro I S h0 hit
    refine facs_iter n hn.2 _ _ I S _ ?_ h0 hit
    exact cellAt_row (Hp.at_lay_old _ (Hp.at_lay_old _ (Hp.at_lay_self _ _))) rfl
  · exact ⟨rfl, Hp.at_lay_old _ (Hp.at_lay_old _ (Hp.at_lay_old _ (Hp.at_lay_old _ (Hp.at_lay_self _ _)))), at_next (by simp only [Hp.next_lay]) (Hp.at_lay_old _ (Hp.at_lay_old _ (Hp.at_lay_old _ (Hp.at_lay_self _ _)))), at_next (by simp only [Hp.next_lay]) (Hp.at_lay_old _ (Hp.at_lay_self _ _)), ((((Grows.lay _ _).then_lay _).then_lay _).then_lay _).then_lay _⟩
  · intro k xs hk h1 hl hI
    obtain ⟨hk0, hIa, hIo, hId, hIg⟩ := hI
    subst hk0
    rw [hF] at hk
    obtain rfl : fv (p, t) = xs := by injection hk
    have hlt := Hp.lt_of_at hl
    have hr6 : h.next + 4 < h1.next := by simp only [Hp.next_lay] at hlt; omega
    conv => whnf
    refine ⟨rfl, _, storeAt_all rfl rfl rfl, ?_⟩
    conv => whnf
    refine bodyQ_go (Hp.at_lay_old _ hl) ?_
    intro BO hb eBO hbl hbk
    have hR6 := hbk.at_ _ _ (by simp only [Hp.next_lay]; omega) (Hp.at_lay_self h1 (.row 63 true [int p, int t]))
    have hRa := hbk.at_ _ _ (by simp only [Hp.next_lay]; omega) (Hp.at_lay_old (.row 63 true [int p, int t]) hIa)
    have hRo := hbk.at_ _ _ (by simp only [Hp.next_lay]; omega) (Hp.at_lay_old (.row 63 true [int p, int t]) hIo)
    have hRd := hbk.at_ _ _ (by simp only [Hp.next_lay]; omega) (Hp.at_lay_old (.row 63 true [int p, int t]) hId)
    have hRg := hbk.grows (hIg.then_lay (.row 63 true [int p, int t])) (by simp only [Hp.next_lay]; omega)
    conv => whnf
    refine ⟨[int p, int t], by rw [cellsAt_row hR6 (by simp)]; rfl, ?_⟩
    conv => whnf
    refine ⟨int n, cellAt_row hRa rfl, ?_⟩
    conv => whnf
    refine resP_val (v := .bool b) (h := hb) ?_ ?_
    · show hval _ (aBin E .eql 63 _ _ (.agg ⟨[int p, int t]⟩) (.agg ⟨[int n, int 1]⟩)) = _
      rw [factor_eq, eb]
      rfl
    conv => whnf
    refine ⟨rfl, _, storeAt_row (at_next (by simp only [Hp.next_lay]) hRo) (by simp) rfl, ?_⟩
    conv => whnf
    refine endQ_left (by simp) eBO (by rw [Hp.at_set_ne _ (by simp only [Hp.next_lay]; omega)]; exact hbl) ?_
    intro h9 h9l h9k
    refine .inr ⟨rfl, .ret, h9l, rfl, ?_, ?_, ?_⟩
    · refine h9k.at_ _ _ (by simp only [Hp.next_lay]; omega) ?_
      rw [Hp.next_lay]
      exact Hp.at_set_self _ (Hp.lt_of_at hRo)
    · refine h9k.at_ _ _ (by simp only [Hp.next_lay]; omega) ?_
      rw [Hp.at_set_ne _ (by simp only [Hp.next_lay]; omega)]
      exact hRd
    · exact h9k.grows (hRg.then_set _ (by simp only [Hp.next_lay]; omega)) (by simp only [Hp.next_lay]; omega)
  · intro h2 h3 hI hk3
    have := hI.1
    rw [List.length_map, hF] at this
    simp at this
  · rintro e h2 h3 ⟨rfl, ho, hd, hg⟩ hk3
    have ho3 := hk3.at_ _ _ (by simp only [Hp.next_lay]; omega) ho
    have hd3 := hk3.at_ _ _ (by simp only [Hp.next_lay]; omega) hd
    have hg3 := hk3.grows hg (by simp only [Hp.next_lay]; omega)
    conv => whnf
    refine finP_mark (at_next (by simp only [Hp.next_lay]) hd3) ?_
    refine finP_cell1 (r := h.next + 1) (o := 0) (v := .bool b) ?_ hbi hba ?_ ⟨⟨b, rfl, hb0⟩, hg3.then_set _ (by simp only [Hp.next_lay]; omega)⟩
    · show ptr0 (Hp.next (h.lay _)) = _
      rw [Hp.next_lay]; rfl
    · refine cellAt_row (e := 4) (x := true) (cs := [.bool b]) ?_ rfl
      rw [Hp.at_set_ne _ (by simp only [Hp.next_lay]; omega)]
      exact ho3
end
end Go.Proofs.Ytlcnmneildefmaa
