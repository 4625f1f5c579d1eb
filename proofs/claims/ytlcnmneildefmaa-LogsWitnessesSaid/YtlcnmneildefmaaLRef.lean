/- Contracts of the functions that LWits comes to. -/
import Derived.Test.YtlcnmneildefmaaLSign2
set_option maxRecDepth 100000
set_option maxHeartbeats 1000000
set_option linter.unusedVariables false
set_option linter.unusedSectionVars false
set_option linter.unusedSimpArgs false
namespace Go.Proofs.Ytlcnmneildefmaa
open Go.Rx Go.RowKit
attribute [local irreducible] E idxN cellAt cellsAt storeAt callable helems hmoved lookIn findKey keyOk hentries Hp.at Hp.set Hp.lay arBits hupdated setAt CallP YieldP BoolOf IsWrap Rnd LoopP AppP CutP Int.tmod Int.tdiv Int.fdiv
/-- Pairs as cells. -/
def pairs : List (Nat × Nat) → List Value
  | [] => []
  | x :: l => int x.1 :: int x.2 :: pairs l
theorem pairs_length : ∀ l : List (Nat × Nat), (pairs l).length = l.length * 2
  | [] => rfl
  | x :: l => by simp only [pairs, List.length_cons, pairs_length l]; omega
theorem pairs_append : ∀ l r : List (Nat × Nat), pairs (l ++ r) = pairs l ++ pairs r
  | [], r => rfl
  | x :: l, r => by simp only [List.cons_append, pairs, pairs_append l r]
theorem pairs_one : ∀ l : List (Nat × Nat), (pairs l).all oneCell = true
  | [] => rfl
  | x :: l => by simp only [pairs, List.all_cons, pairs_one l]; rfl
theorem pairs_get : ∀ (l : List (Nat × Nat)) (k : Nat) (h : k < l.length), (pairs l)[2 * k]? = some (int (l[k]).1) ∧ (pairs l)[2 * k + 1]? = some (int (l[k]).2)
  | x :: l, 0, h => ⟨rfl, rfl⟩
  | x :: l, k + 1, h => by
    have := pairs_get l k (by simpa using h)
    refine ⟨?_, ?_⟩
    · rw [show 2 * (k + 1) = 2 * k + 1 + 1 by omega]; exact this.1
    · rw [show 2 * (k + 1) + 1 = 2 * k + 1 + 1 + 1 by omega]; exact this.2
section
variable [Unknowns]
structure RSt where
  k : Nat
  f : Nat
  p : Nat
  left : Nat
  v : Value
  h : Hp
theorem facs_len : ∀ (f p n : Nat), (facs f p n).length ≤ f
  | 0, _, _ => by simp [facs]
  | f + 1, p, n => by
    unfold facs
    split
    · split
      · have := facs_len f (p + 1) (strip n p n).1; omega
      · have := facs_len f (p + 1) (strip n p n).1; simp; omega
    · split <;> simp
theorem reffactor_spec (n : Nat) (hn : n ≤ 1000000) (h : Hp) : CallP E 45 [int n] h (fun r h' => BuiltC h h' 47 2 r (FL n).length (pairs (FL n)) ∧ Grows h h') := by
  have hfl : (FL n).length ≤ n + 1 := facs_len _ _ _
  refine enter45 (by simp) ?_
  have lit : ∀ (h1 : Hp) (x : Nat × Nat), ElemsC (h1.lay (.row 47 true [int x.1, int x.2])) 2 (slc h1.next 0 1 1) 1 (pairs [x]) := fun h1 x => BuiltC.elems (h0 := h1) (e := 47) (pairs_one [x]) ⟨rfl, .inr ⟨h1.next, rfl, Nat.le_refl _, true, Hp.at_lay_self _ _⟩⟩
  have fin : ∀ (h1 : Hp) (v : Value), BuiltC h h1 47 2 v (FL n).length (pairs (FL n)) → ∃ a, v = .slice a (FL n).length (FL n).length := fun h1 v hb => let ⟨a, e, _⟩ := hb.slice; ⟨a, e⟩
  conv => whnf
  refine loop_inv (α := RSt) (fun s => [(3, s.v), (0, int s.left), (4, int s.p)]) (fun s => s.h) (fun s => s.k ≤ (FL n).length ∧ facs s.f s.p s.left = (FL n).drop s.k ∧ (BuiltC h s.h 47 2 s.v s.k (pairs ((FL n).take s.k)) ∧ Grows h s.h) ∧ 2 ≤ s.p ∧ s.p ≤ 1001 ∧ s.left ≤ n ∧ s.f + s.p = n + 3 ∧ s.p ≤ n + 2) (fun s => s.f) ⟨0, n + 1, 2, n, .slice none 0 0, h⟩ ⟨Nat.zero_le _, rfl, ⟨BuiltC.nil, .refl _⟩, by show 2 ≤ 2; omega, by show 2 ≤ 1001; omega, Nat.le_refl _, by show n + 1 + 2 = n + 3; omega, by show 2 ≤ n + 2; omega⟩ ⟨rfl, rfl, rfl, trivial⟩ (Hp.Le.refl _) ?_
  rintro ⟨k, f, p, left, v, h1⟩ φ ⟨hkl, hd, ⟨hb0, hg0⟩, hp2, hp3, hln, hf, hpn⟩
  dsimp only at hkl hd hb0 hg0 hp2 hp3 hln hf hpn ⊢
  have hpp : p * p ≤ 1001 * 1001 := Nat.mul_le_mul hp3 hp3
  have epp : (p : Int) * (p : Int) = ((p * p : Nat) : Int) := by rw [Int.natCast_mul]
  conv => whnf
  refine ⟨((p * p : Nat) : Int), wie epp (by omega), ?_⟩
  conv => whnf
  refine cmpB (fun hb => ?_) (fun hb => ?_)
  rotate_left
  · have hb' : ¬ p * p ≤ left := by omega
    conv => whnf
    refine cmpB (fun hb2 => ?_) (fun hb2 => ?_)
    · have hd1 : (FL n).drop k = [(left, 1)] := by
        rw [← hd]
        cases f with
        | zero => omega
        | succ f => unfold facs; rw [if_neg hb', if_pos (by omega)]
      have hdc := drop_cons hd1
      obtain ⟨hk, hx, hr⟩ := hdc
      have hk1 : k + 1 = (FL n).length := by
        have := congrArg List.length hr
        rw [List.length_drop] at this
        simp at this
        omega
      have etk : (FL n).take k ++ [(left, 1)] = FL n := by
        rw [← hd1, List.take_append_drop]
      conv => whnf
      refine AppP.cells (hb0.ext (Grows.lay _ _)) (hg0.then_lay _) (lit h1 (left, 1)) (by omega) (by omega) ?_
      intro v2 h2 hb2 hg2 _
      rw [← pairs_append, etk, hk1] at hb2
      have hfin := fin h2 v2 hb2
      obtain ⟨a2, rfl⟩ := hfin
      conv => whnf
      exact ⟨hb2, hg2⟩
    · have hd1 : (FL n).drop k = [] := by
        rw [← hd]
        cases f with
        | zero => rfl
        | succ f => unfold facs; rw [if_neg hb', if_neg (by omega)]
      have hk1 : k = (FL n).length := by
        have := List.drop_eq_nil_iff.1 hd1
        omega
      subst hk1
      rw [List.take_length] at hb0
      have hfin := fin h1 v hb0
      obtain ⟨a2, rfl⟩ := hfin
      conv => whnf
      exact ⟨hb0, hg0⟩
  have hb' : p * p ≤ left := by omega
  have hp4 : p ≤ 1000 := sq_lt (by omega)
  have hle : p ≤ p * p := Nat.le_mul_of_pos_left p (by omega)
  have hexf : ∃ f', f = f' + 1 := ⟨f - 1, by omega⟩
  obtain ⟨f, rfl⟩ := hexf
  have so := strip_ok left p left hp2 (by omega) (Nat.le_refl _)
  have hsl : (strip left p left).1 ≤ left := Nat.le_of_dvd (by omega) ⟨_, so.1.symm⟩
  unfold facs at hd
  rw [if_pos hb'] at hd
  conv => whnf
  refine loop_inv (α := Nat × Nat × Nat) (fun s => [(0, int s.2.1), (5, int s.2.2), (3, v), (4, int p)]) (fun _ => h1) (fun s => strip left p left = ((strip s.1 p s.2.1).1, (strip s.1 p s.2.1).2 + s.2.2) ∧ 1 ≤ s.2.1 ∧ s.2.1 ≤ s.1 ∧ s.2.2 + s.2.1 ≤ left) (fun s => s.1) (left, left, 0) ⟨by simp, by show 1 ≤ left; omega, Nat.le_refl _, by simp⟩ ⟨rfl, rfl, rfl, rfl, trivial⟩ (Hp.Le.refl _) ?_
  rintro ⟨g, cur, t⟩ φ2 ⟨hst, hc1, hcg, htl⟩
  dsimp only at hst hc1 hcg htl ⊢
  have em := tmod_nat cur p
  conv => whnf
  refine ⟨by omega, ?_⟩
  conv => whnf
  refine cmpB (fun hb2 => ?_) (fun hb2 => ?_)
  · have hm : cur % p = 0 := by omega
    have hexg : ∃ g', g = g' + 1 := ⟨g - 1, by omega⟩
    obtain ⟨g, rfl⟩ := hexg
    rw [strip_yes hm] at hst
    have hdv : cur / p < cur := Nat.div_lt_self hc1 (by omega)
    have hmul : p * (cur / p) = cur := Nat.mul_div_cancel' (Nat.dvd_of_mod_eq_zero hm)
    have h1d : 1 ≤ cur / p := by
      rcases Nat.eq_zero_or_pos (cur / p) with e | e
      · rw [e] at hmul; omega
      · exact e
    have ed := tdiv_nat cur p
    conv => whnf
    refine ⟨by omega, ((cur / p : Nat) : Int), wie ed (by omega), ?_⟩
    conv => whnf
    refine ⟨((t + 1 : Nat) : Int), wie (by omega) (by omega), ?_⟩
    conv => whnf
    refine Rnd.mk (g, cur / p, t + 1) ⟨?_, h1d, by show cur / p ≤ g; omega, by show t + 1 + cur / p ≤ left; omega⟩ (by show g < g + 1; omega) ⟨rfl, rfl, rfl, rfl, trivial⟩ (Hp.Le.refl _) rfl
    show strip left p left = ((strip g p (cur / p)).1, (strip g p (cur / p)).2 + (t + 1))
    rw [hst]
    simp only [Prod.mk.injEq, true_and]
    omega
  have hm : cur % p ≠ 0 := by omega
  rw [strip_no g p cur hm] at hst
  have hs1 : (strip left p left).1 = cur := by rw [hst]
  have hs2 : (strip left p left).2 = t := by rw [hst]; simp
  rw [hs1, hs2] at hd
  conv => whnf
  refine cmpB (fun hb3 => ?_) (fun hb3 => ?_)
  · rw [if_neg (by omega)] at hd
    have hd1 := hd.symm
    have hdc := drop_cons hd1
    obtain ⟨hk, hx, hr⟩ := hdc
    conv => whnf
    refine AppP.cells (hb0.ext (Grows.lay _ _)) (hg0.then_lay _) (lit h1 (p, t)) (by omega) (by omega) ?_
    intro v2 h2 hb2 hg2 _
    have htk : (FL n).take (k + 1) = (FL n).take k ++ [(p, t)] := by rw [List.take_succ_eq_append_getElem hk, hx]
    rw [← pairs_append, ← htk] at hb2
    conv => whnf
    refine ⟨((p + 1 : Nat) : Int), wie (by omega) (by omega), ?_⟩
    conv => whnf
    exact Rnd.mk (⟨k + 1, f, p + 1, cur, v2, h2⟩ : RSt) ⟨by show k + 1 ≤ _; omega, hr.symm, ⟨hb2, hg2⟩, by show 2 ≤ p + 1; omega, by show p + 1 ≤ 1001; omega, by show cur ≤ n; omega, by show f + (p + 1) = n + 3; omega, by show p + 1 ≤ n + 2; omega⟩ (by show f < f + 1; omega) ⟨rfl, rfl, rfl, trivial⟩ (Hp.Le.refl _) rfl
  · rw [if_pos (by omega)] at hd
    conv => whnf
    refine ⟨((p + 1 : Nat) : Int), wie (by omega) (by omega), ?_⟩
    conv => whnf
    exact Rnd.mk (⟨k, f, p + 1, cur, v, h1⟩ : RSt) ⟨hkl, hd, ⟨hb0, hg0⟩, by show 2 ≤ p + 1; omega, by show p + 1 ≤ 1001; omega, by show cur ≤ n; omega, by show f + (p + 1) = n + 3; omega, by show p + 1 ≤ n + 2; omega⟩ (by show f < f + 1; omega) ⟨rfl, rfl, rfl, trivial⟩ (Hp.Le.refl _) rfl
end
section
variable [Unknowns]
attribute [local irreducible] SeqP
/-- The reference's sign -/
theorem refsign_spec (a : Int) (m : Nat) (ha : -1000000000 ≤ a ∧ a ≤ 1000000000) (hm : 1 ≤ m ∧ m ≤ 1000000) (hodd : m % 2 = 1) (h : Hp) : CallP E 51 [int a, int m] h (fun r h' => r = int (sgn a m) ∧ Grows h h') := by
  refine enter51 (by simp) ?_
  conv => whnf
  repeat (refine SeqP.go ?_; conv => whnf)
  refine CallP.mono (reffactor_spec m hm.2 h) ?_
  rintro v h1 ⟨hb, hg⟩
  have hbk := hb.slice
  obtain ⟨av, rfl, hav⟩ := hbk
  have hfl : (FL m).length ≤ m + 1 := facs_len _ _ _
  conv => whnf
  repeat (refine SeqP.go ?_; conv => whnf)
  refine loop_inv (α := Nat) (fun k => [(7, int k), (6, int (sgnL a ((FL m).take k) 1)), (0, int a), (5, .slice av (FL m).length (FL m).length)]) (fun _ => h1) (fun k => k ≤ (FL m).length) (fun k => (FL m).length - k) 0 (by omega) ⟨rfl, rfl, rfl, rfl, trivial⟩ (Hp.Le.refl _) ?_
  intro k φ hk
  conv => whnf
  repeat (refine SeqP.go ?_; conv => whnf)
  refine cmpB (fun hb1 => ?_) (fun hb1 => ?_)
  rotate_left
  · have : k = (FL m).length := by omega
    subst this
    rw [List.take_length]
    conv => whnf
    repeat (refine SeqP.go ?_; conv => whnf)
    exact ⟨rfl, hg⟩
  have hkl : k < (FL m).length := by omega
  have hx := FL_ok hm.1 _ (List.getElem_mem hkl)
  have htk : sgnL a ((FL m).take (k + 1)) 1 = rep ((FL m)[k]).2 (leg a ((FL m)[k]).1) (sgnL a ((FL m).take k) 1) := by
    rw [List.take_succ_eq_append_getElem hkl, sgnL_snoc]
  have hacc := sgnL_bd a ((FL m).take k) 1 (by omega)
  have hpg := pairs_get (FL m) k hkl
  have hexx : ∃ x, (FL m)[k] = x := ⟨_, rfl⟩
  obtain ⟨⟨p, t⟩, ex⟩ := hexx
  rw [ex] at hx htk hpg
  have hexa : ∃ acc, sgnL a ((FL m).take k) 1 = acc := ⟨_, rfl⟩
  obtain ⟨acc, hacc'⟩ := hexa
  rw [hacc'] at hacc htk ⊢
  have hp2 := hx.1.1
  have hdv := hx.2.1
  have htm := hx.2.2.2
  dsimp only at hp2 hdv htm htk hpg
  have hpm : p ≤ m := Nat.le_of_dvd (by omega) hdv
  have hp3 : 3 ≤ p := by
    rcases Nat.lt_or_ge p 3 with h3 | h3
    · exfalso
      obtain rfl : p = 2 := by omega
      have := Nat.mod_eq_zero_of_dvd hdv
      omega
    · exact h3
  have hr := rest_ok a p (by omega)
  have hd := tdiv_nat (p - 1) 2
  have hx2 := hav k hkl
  obtain ⟨r1, e1, x1, hr1⟩ := hx2
  subst e1
  have c1 : cellAt h1 r1 (k * 2 + 0) = some (int p) := cellAt_row hr1 (by rw [show k * 2 + 0 = 2 * k by omega]; exact hpg.1)
  have c2 : cellAt h1 r1 (k * 2 + 0 + 1) = some (int t) := cellAt_row hr1 (by rw [show k * 2 + 0 + 1 = 2 * k + 1 by omega]; exact hpg.2)
  conv => whnf
  repeat (refine SeqP.go ?_; conv => whnf)
  refine ⟨rfl, ⟨by omega, by omega⟩, ?_⟩
  conv => whnf
  repeat (refine SeqP.go ?_; conv => whnf)
  refine ⟨⟨by omega, by omega⟩, ?_⟩
  conv => whnf
  repeat (refine SeqP.go ?_; conv => whnf)
  refine ⟨int p, ?_, ?_⟩
  · show cellAt h1 r1 (0 + (k * 2 + 0)) = _
    rw [Nat.zero_add]; exact c1
  conv => whnf
  repeat (refine SeqP.go ?_; conv => whnf)
  refine ⟨by omega, ?_⟩
  conv => whnf
  repeat (refine SeqP.go ?_; conv => whnf)
  refine ⟨_, wid (by omega), ?_⟩
  conv => whnf
  repeat (refine SeqP.go ?_; conv => whnf)
  refine ⟨by omega, ?_⟩
  conv => whnf
  refine SeqP.go ?_
  conv => whnf
  refine SeqP.cut (α := Unit) (fun _ => [(10, int (leg a p)), (8, int p), (7, int k), (6, int acc), (0, int a), (5, .slice (some ⟨r1, 0, none⟩) (FL m).length (FL m).length)]) (fun _ h' => h' = h1) ?_ ?_
  · conv => whnf
    repeat (refine SeqP.go ?_; conv => whnf)
    by_cases h0 : rest a p = 0
    · refine cmpF (by omega) ?_
      conv => whnf
      refine ⟨(), ⟨?_, rfl, rfl, rfl, rfl, rfl, trivial⟩, rfl, rfl⟩
      show int 0 = int (leg a p)
      unfold leg
      rw [if_pos h0]
    refine cmpT (by omega) ?_
    conv => whnf
    repeat (refine SeqP.go ?_; conv => whnf)
    refine ⟨((p - 1 : Nat) : Int), wie (by omega) (by omega), ?_⟩
    conv => whnf
    refine ⟨by omega, (((p - 1) / 2 : Nat) : Int), wie hd (by omega), ?_⟩
    conv => whnf
    have hpow := refpower_spec p (rest a p) ((p - 1) / 2) ⟨by omega, by omega⟩ (by omega) (by omega) h1
    rw [← hr.2.2.1] at hpow
    refine CallP.mono hpow ?_
    rintro r h2 ⟨rfl, rfl⟩
    conv => whnf
    by_cases h3 : rest a p ^ ((p - 1) / 2) % p = 1
    · refine cmpT (by rw [h3]; rfl) ?_
      conv => whnf
      refine ⟨(), ⟨?_, rfl, rfl, rfl, rfl, rfl, trivial⟩, rfl, rfl⟩
      show int 1 = int (leg a p)
      unfold leg
      rw [if_neg h0, if_pos h3]
    · refine cmpF (by omega) ?_
      conv => whnf
      refine ⟨(), ⟨?_, rfl, rfl, rfl, rfl, rfl, trivial⟩, rfl, rfl⟩
      show int (-1) = int (leg a p)
      unfold leg
      rw [if_neg h0, if_neg h3]
  rintro _ φ3 h' rfl
  have hleg := leg_bd a p
  conv => whnf
  repeat (refine SeqP.go ?_; conv => whnf)
  refine loop_inv (α := Nat × Int) (fun s => [(11, int s.1), (6, int s.2), (10, int (leg a p)), (8, int p), (7, int k), (0, int a), (5, .slice (some ⟨r1, 0, none⟩) (FL m).length (FL m).length)]) (fun _ => h') (fun s => s.1 ≤ t ∧ rep (t - s.1) (leg a p) s.2 = rep t (leg a p) acc ∧ (-1 ≤ s.2 ∧ s.2 ≤ 1)) (fun s => t - s.1) (0, acc) ⟨Nat.zero_le _, rfl, hacc⟩ ⟨rfl, rfl, rfl, rfl, rfl, rfl, rfl, trivial⟩ (Hp.Le.refl _) ?_
  rintro ⟨i, cur⟩ φ4 ⟨hi, hrep, hcur⟩
  dsimp only at hi hrep hcur ⊢
  conv => whnf
  repeat (refine SeqP.go ?_; conv => whnf)
  refine ⟨rfl, ⟨by omega, by omega⟩, ?_⟩
  conv => whnf
  refine ⟨⟨by omega, by omega⟩, ?_⟩
  conv => whnf
  refine ⟨int t, ?_, ?_⟩
  · show cellAt h' r1 (1 + (k * 2 + 0)) = _
    rw [Nat.add_comm]; exact c2
  conv => whnf
  refine cmpB (fun hb2 => ?_) (fun hb2 => ?_)
  · have hmu := mul_unit hcur hleg
    conv => whnf
    repeat (refine SeqP.go ?_; conv => whnf)
    refine ⟨_, wid (by omega), ?_⟩
    conv => whnf
    repeat (refine SeqP.go ?_; conv => whnf)
    refine ⟨_, wid (by omega), ?_⟩
    conv => whnf
    refine Rnd.mk (i + 1, cur * leg a p) ⟨by show i + 1 ≤ t; omega, ?_, hmu⟩ (by show t - (i + 1) < t - i; omega) ⟨rfl, rfl, rfl, rfl, rfl, rfl, rfl, trivial⟩ (Hp.Le.refl _) rfl
    show rep (t - (i + 1)) (leg a p) (cur * leg a p) = _
    rw [← hrep, show t - i = (t - (i + 1)) + 1 by omega]
    rfl
  · have : i = t := by omega
    subst this
    rw [Nat.sub_self] at hrep
    have hrep : cur = rep i (leg a p) acc := hrep
    conv => whnf
    repeat (refine SeqP.go ?_; conv => whnf)
    refine ⟨_, wid (by omega), ?_⟩
    conv => whnf
    refine Rnd.mk (k + 1) (by show k + 1 ≤ _; omega) (by show _ - (k + 1) < _ - k; omega) ⟨rfl, ?_, rfl, rfl, trivial⟩ (Hp.Le.refl _) rfl
    show int cur = int (sgnL a ((FL m).take (k + 1)) 1)
    rw [htk, hrep]
/-- The signs of both -/
theorem Sign_spec (a m : Int) (h : Hp) : CallP E 50 [int a, int m] h (fun r h' => ((¬ (1 ≤ m ∧ m ≤ 1000000 ∧ m.toNat % 2 = 1 ∧ -1000000000 ≤ a ∧ a ≤ 1000000000) ∧ r = .tuple ⟨[int 0, int 1]⟩) ∨ ((1 ≤ m ∧ m ≤ 1000000 ∧ m.toNat % 2 = 1 ∧ -1000000000 ≤ a ∧ a ≤ 1000000000) ∧ r = .tuple ⟨[int (sgn a m.toNat), int 0]⟩)) ∧ Grows h h') := by
  refine enter50 (by simp) ?_
  conv => whnf
  repeat (refine SeqP.go ?_; conv => whnf)
  refine cmpB (fun hb1 => ?_) (fun hb1 => ?_)
  · conv => whnf
    repeat (refine SeqP.go ?_; conv => whnf)
    exact ⟨.inl ⟨by omega, rfl⟩, .refl _⟩
  conv => whnf
  refine cmpB (fun hb2 => ?_) (fun hb2 => ?_)
  · conv => whnf
    repeat (refine SeqP.go ?_; conv => whnf)
    exact ⟨.inl ⟨by omega, rfl⟩, .refl _⟩
  have hexm : ∃ n : Nat, m = n := ⟨m.toNat, by omega⟩
  obtain ⟨n, rfl⟩ := hexm
  have t3 : (n : Int).tmod 2 = ((n % 2 : Nat) : Int) := tmod_nat n 2
  conv => whnf
  refine ⟨by omega, ?_⟩
  conv => whnf
  refine cmpB (fun hb3 => ?_) (fun hb3 => ?_)
  · conv => whnf
    repeat (refine SeqP.go ?_; conv => whnf)
    exact ⟨.inl ⟨fun h => by have := h.2.2.1; rw [Int.toNat_natCast] at this; omega, rfl⟩, .refl _⟩
  conv => whnf
  refine cmpB (fun hb4 => ?_) (fun hb4 => ?_)
  · conv => whnf
    repeat (refine SeqP.go ?_; conv => whnf)
    exact ⟨.inl ⟨by omega, rfl⟩, .refl _⟩
  conv => whnf
  refine cmpB (fun hb5 => ?_) (fun hb5 => ?_)
  · conv => whnf
    repeat (refine SeqP.go ?_; conv => whnf)
    exact ⟨.inl ⟨by omega, rfl⟩, .refl _⟩
  conv => whnf
  repeat (refine SeqP.go ?_; conv => whnf)
  refine CallP.mono (sign_spec a n ⟨by omega, by omega⟩ ⟨by omega, by omega⟩ (by omega) h) ?_
  rintro r h1 ⟨rfl, hg⟩
  conv => whnf
  refine ⟨.inr ⟨⟨by omega, by omega, by rw [Int.toNat_natCast]; omega, by omega, by omega⟩, ?_⟩, hg⟩
  rw [Int.toNat_natCast]
  rfl
end
end Go.Proofs.Ytlcnmneildefmaa
