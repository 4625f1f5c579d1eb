/- Contracts of the functions that LnL comes to. -/
import Derived.Test.YtfiginefkfipeaaCodeLnL
import Derived.Test.YtfiginefkfipeaaLnEq
import Derived.Test.YtfiginefkfipeaaWx16
set_option maxRecDepth 100000
set_option maxHeartbeats 1000000
set_option linter.unusedVariables false
set_option linter.unusedSectionVars false
set_option linter.unusedSimpArgs false
namespace Go.Proofs.Ytfiginefkfipeaa
open Go.Rx Go.RowKit
def G3 (a b c : Int) : Nat := Nat.gcd (Nat.gcd a.natAbs b.natAbs) c.natAbs
def Flip (a b : Int) : Prop := a < 0 ∨ a = 0 ∧ b < 0
instance (a b : Int) : Decidable (Flip a b) := by unfold Flip; infer_instance
def lx (a b c x : Int) : Int := (if Flip a b then -x else x).tdiv (G3 a b c)
theorem G3_pos {a b c : Int} (h : a ≠ 0 ∨ b ≠ 0) : 1 ≤ G3 a b c := by
  have : 0 < Nat.gcd a.natAbs b.natAbs := by
    rcases h with h | h
    · exact Nat.gcd_pos_of_pos_left _ (by omega)
    · exact Nat.gcd_pos_of_pos_right _ (by omega)
  exact Nat.gcd_pos_of_pos_left _ this
theorem G3_dvd (a b c : Int) : G3 a b c ∣ a.natAbs ∧ G3 a b c ∣ b.natAbs ∧ G3 a b c ∣ c.natAbs :=
  ⟨Nat.dvd_trans (Nat.gcd_dvd_left _ _) (Nat.gcd_dvd_left _ _), Nat.dvd_trans (Nat.gcd_dvd_left _ _) (Nat.gcd_dvd_right _ _), Nat.gcd_dvd_right _ _⟩
theorem lx_abs (a b c x : Int) : (lx a b c x).natAbs = x.natAbs / G3 a b c := by
  unfold lx
  rw [Int.natAbs_tdiv, Int.natAbs_natCast]
  split
  · rw [Int.natAbs_neg]; rfl
  · rfl
theorem lx_gcd {a b c : Int} (h : a ≠ 0 ∨ b ≠ 0) : Nat.gcd (Nat.gcd (lx a b c a).natAbs (lx a b c b).natAbs) (lx a b c c).natAbs = 1 := by
  have hp := G3_pos (c := c) h
  obtain ⟨d1, d2, d3⟩ := G3_dvd a b c
  rw [lx_abs, lx_abs, lx_abs, Nat.gcd_div d1 d2, Nat.gcd_div (Nat.dvd_gcd d1 d2) d3]
  exact Nat.div_self hp
theorem lx_bd {a b c x : Int} {m : Nat} (hx : x.natAbs ≤ m) : (lx a b c x).natAbs ≤ m := by
  rw [lx_abs]
  exact Nat.le_trans (Nat.div_le_self _ _) hx
theorem lx_sign {a b c : Int} (h : a ≠ 0 ∨ b ≠ 0) : 0 < lx a b c a ∨ lx a b c a = 0 ∧ 0 < lx a b c b := by
  have hp := G3_pos (c := c) h
  obtain ⟨d1, d2, d3⟩ := G3_dvd a b c
  have pos : ∀ x : Int, 0 < x → G3 a b c ∣ x.natAbs → 0 < x.tdiv (G3 a b c) := by
    intro x hx hd
    have h1 : (x.tdiv (G3 a b c)).natAbs = x.natAbs / G3 a b c := by rw [Int.natAbs_tdiv, Int.natAbs_natCast]; rfl
    have h2 : 0 < x.natAbs / G3 a b c := Nat.div_pos (Nat.le_of_dvd (by omega) hd) hp
    have h3 : 0 ≤ x.tdiv (G3 a b c) := Int.tdiv_nonneg (by omega) (by omega)
    omega
  unfold lx
  by_cases hf : Flip a b
  · rw [if_pos hf, if_pos hf]
    rcases hf with h1 | ⟨h1, h2⟩
    · exact .inl (pos _ (by omega) (by rw [Int.natAbs_neg]; exact d1))
    · refine .inr ⟨by rw [h1]; simp, pos _ (by omega) (by rw [Int.natAbs_neg]; exact d2)⟩
  · rw [if_neg hf, if_neg hf]
    unfold Flip at hf
    by_cases h1 : a = 0
    · refine .inr ⟨by rw [h1]; simp, pos _ (by omega) d2⟩
    · exact .inl (pos _ (by omega) d1)
theorem lx_ref (a b c x : Int) : x.tdiv (if Flip a b then -(G3 a b c : Int) else (G3 a b c : Int)) = lx a b c x := by
  unfold lx
  split
  · rw [Int.tdiv_neg, Int.neg_tdiv]
  · rfl

attribute [local irreducible] E idxN cellAt cellsAt storeAt callable helems hmoved lookIn findKey keyOk hentries Hp.at Hp.set Hp.lay arBits hupdated setAt CallP YieldP BoolOf IsWrap Rnd LoopP AppP CutP Int.tmod Int.tdiv Int.fdiv
section
variable [Unknowns]
attribute [local irreducible] ResP
theorem neg_eq {n : Int} (h1 : n.natAbs ≤ 1000000) : Value.int IntKind.i64 (IntKind.i64.wrap (0 - n)) = int (-n) := by
  have := @wrapI_id (-n) ⟨by omega, by omega⟩
  unfold wrapI at this
  rw [show (0 : Int) - n = -n by omega, this]
theorem max_eq (n : Int) : Value.int IntKind.i64 (if -n > n then -n else n) = int (n.natAbs : Nat) := congrArg (Value.int .i64) (by split <;> omega)
theorem tmod_nat (a b : Nat) : (a : Int).tmod (b : Int) = ((a % b : Nat) : Int) := by
  rw [Int.tmod_eq_emod_of_nonneg (by omega)]; rfl
def gcdL (l : List Int) : Nat := l.foldl (fun g x => Nat.gcd g x.natAbs) 0
theorem gcdL_take (l : List Int) (k : Nat) (hk : k < l.length) : gcdL (l.take (k + 1)) = Nat.gcd (gcdL (l.take k)) l[k].natAbs := by
  unfold gcdL
  rw [List.take_succ_eq_append_getElem hk, List.foldl_append]
  rfl
theorem gcd_le' {a b m : Nat} (ha : a ≤ m) (hb : b ≤ m) : Nat.gcd a b ≤ m := by
  rcases Nat.eq_zero_or_pos a with rfl | h
  · rw [Nat.gcd_zero_left]; exact hb
  · exact Nat.le_trans (Nat.gcd_le_left _ h) ha
theorem gcdL_bd (l : List Int) (m : Nat) (hl : ∀ x ∈ l, x.natAbs ≤ m) : gcdL l ≤ m := by
  unfold gcdL
  have : ∀ (l : List Int) (g : Nat), g ≤ m → (∀ x ∈ l, x.natAbs ≤ m) → l.foldl (fun g x => Nat.gcd g x.natAbs) g ≤ m := by
    intro l
    induction l with
    | nil => intro g hg _; exact hg
    | cons x l ih => intro g hg hx; exact ih _ (gcd_le' hg (hx x (by simp))) (fun y hy => hx y (by simp [hy]))
  exact this l 0 (by omega) hl
/-- Euclid's step by remainders of any sign. -/
theorem gcd_step (a b : Int) (hb : b ≠ 0) : Nat.gcd b.natAbs (a.tmod b).natAbs = Nat.gcd a.natAbs b.natAbs := by
  rw [Int.natAbs_tmod, Nat.gcd_comm b.natAbs, ← Nat.gcd_rec, Nat.gcd_comm]
theorem tmod_lt (a b : Int) (hb : b ≠ 0) : (a.tmod b).natAbs < b.natAbs := by
  rw [Int.natAbs_tmod]
  exact Nat.mod_lt _ (by omega)
theorem gcd_spec (a b : Int) (h : Hp) (ha : a.natAbs ≤ 1000) (hb : b.natAbs ≤ 1000) : CallP E 9 [int a, int b] h (fun r h' => r = int (Nat.gcd a.natAbs b.natAbs) ∧ h' = h) := by
  refine enter9 (by simp) ?_
  conv => whnf
  refine resP_val (v := int (-a)) (h := h) ?_ ?_
  · conv => lhs; whnf
    exact congrArg (HRes.val · h) (neg_eq (by omega))
  conv => whnf
  refine resP_val (v := int (a.natAbs : Nat)) (h := h) ?_ ?_
  · conv => lhs; whnf
    exact congrArg (HRes.val · h) (max_eq a)
  conv => whnf
  refine resP_val (v := int (-b)) (h := h) ?_ ?_
  · conv => lhs; whnf
    exact congrArg (HRes.val · h) (neg_eq (by omega))
  conv => whnf
  refine resP_val (v := int (b.natAbs : Nat)) (h := h) ?_ ?_
  · conv => lhs; whnf
    exact congrArg (HRes.val · h) (max_eq b)
  conv => whnf
  refine loop_inv (α := Nat × Nat) (fun s => [(0, int s.1), (1, int s.2)]) (fun _ => h) (fun s => s.1 ≤ 1000 ∧ s.2 ≤ 1000 ∧ Nat.gcd s.1 s.2 = Nat.gcd a.natAbs b.natAbs) (fun s => s.2) (a.natAbs, b.natAbs) ⟨ha, hb, rfl⟩ ⟨rfl, rfl, trivial⟩ (Hp.Le.refl _) ?_
  rintro ⟨x, y⟩ φ ⟨hx, hy, hg⟩
  dsimp only at hx hy hg ⊢
  conv => whnf
  refine cmpB (fun hb => ?_) (fun hb => ?_)
  · conv => whnf
    refine ⟨by omega, ?_⟩
    conv => whnf
    have hm : x % y < y := Nat.mod_lt _ (by omega)
    refine Rnd.mk (y, x % y) ⟨hy, by show x % y ≤ 1000; omega, by rw [← hg]; show Nat.gcd y (x % y) = Nat.gcd x y; rw [Nat.gcd_comm y, ← Nat.gcd_rec, Nat.gcd_comm]⟩ hm ⟨rfl, by show int _ = int _; rw [tmod_nat], trivial⟩ (Hp.Le.refl _) rfl
  · have : y = 0 := by omega
    subst this
    conv => whnf
    rw [Nat.gcd_zero_right] at hg
    exact ⟨by rw [← hg]; rfl, rfl⟩
theorem divisor_spec (v : Value) (l : List Int) (h : Hp) (hv : Ints h v l) (hl : l.length ≤ 1000) (hb : ∀ x ∈ l, x.natAbs ≤ 1000) : CallP E 32 [v] h (fun r h' => r = int (gcdL l) ∧ h' = h) := by
  obtain ⟨a, cap, rfl, hc⟩ := hv
  refine enter32 (by simp) ?_
  conv => whnf
  refine loop_inv (α := Nat × Int) (fun s => [(8, int s.1), (7, int l.length), (6, .slice a l.length cap), (3, int s.2)]) (fun _ => h) (fun s => s.1 ≤ l.length ∧ s.2.natAbs ≤ 1000 ∧ s.2.natAbs = gcdL (l.take s.1)) (fun s => l.length - s.1) (0, 0) ⟨by simp, by simp, by simp [gcdL]⟩ ⟨rfl, rfl, rfl, rfl, trivial⟩ (Hp.Le.refl _) ?_
  rintro ⟨k, o⟩ φ ⟨hk, ho, hg⟩
  dsimp only at hk ho hg ⊢
  conv => whnf
  refine cmpB (fun hb1 => ?_) (fun hb1 => ?_)
  rotate_left
  · conv => whnf
    refine resP_val (v := int (-o)) (h := h) ?_ ?_
    · conv => lhs; whnf
      exact congrArg (HRes.val · h) (neg_eq (by omega))
    conv => whnf
    refine resP_val (v := int (o.natAbs : Nat)) (h := h) ?_ ?_
    · conv => lhs; whnf
      exact congrArg (HRes.val · h) (max_eq o)
    conv => whnf
    have : k = l.length := by omega
    subst this
    rw [List.take_length] at hg
    exact ⟨by rw [hg]; rfl, rfl⟩
  have hk' : k < l.length := by omega
  obtain ⟨r, of, sp, rfl, hsp, hcell⟩ := hc k hk'
  have hlk := hb _ (List.getElem_mem hk')
  have hgt := gcdL_take l k hk'
  conv => whnf
  refine ⟨hsp, ⟨by omega, by omega⟩, ?_⟩
  conv => whnf
  refine ⟨_, hcell, ?_⟩
  conv => whnf
  refine loop_inv (α := Int × Int) (fun s => [(3, int s.1), (5, int s.2), (8, int k), (7, int l.length), (6, .slice (some ⟨r, of, sp⟩) l.length cap)]) (fun _ => h) (fun s => s.1.natAbs ≤ 1000 ∧ s.2.natAbs ≤ 1000 ∧ Nat.gcd s.1.natAbs s.2.natAbs = gcdL (l.take (k + 1))) (fun s => s.2.natAbs) (o, l[k]) ⟨ho, hlk, by rw [hgt, ← hg]⟩ ⟨rfl, rfl, rfl, rfl, rfl, trivial⟩ (Hp.Le.refl _) ?_
  rintro ⟨x, y⟩ φ ⟨hx, hy, hxy⟩
  dsimp only at hx hy hxy ⊢
  conv => whnf
  refine cmpB (fun hb2 => ?_) (fun hb2 => ?_)
  · conv => whnf
    refine ⟨by omega, ?_⟩
    conv => whnf
    have hm := tmod_lt x y (by omega)
    refine Rnd.mk (y, x.tmod y) ⟨hy, by show (x.tmod y).natAbs ≤ 1000; omega, by rw [← hxy]; exact gcd_step x y (by omega)⟩ hm ⟨rfl, rfl, rfl, rfl, rfl, trivial⟩ (Hp.Le.refl _) rfl
  · have : y = 0 := by omega
    subst this
    conv => whnf
    refine ⟨_, wid (by omega), ?_⟩
    conv => whnf
    refine Rnd.mk (k + 1, x) ⟨by show k + 1 ≤ _; omega, hx, ?_⟩ (by show l.length - (k + 1) < l.length - k; omega) ⟨rfl, rfl, rfl, rfl, trivial⟩ (Hp.Le.refl _) rfl
    show x.natAbs = gcdL (l.take (k + 1))
    rw [← hxy]; simp
theorem isw_spec (m : Nat) (v : Value) (l : List Int) (h : Hp) (hm : m ≤ 1000) (hv : Ints h v l) (hl : l.length ≤ 1000) : CallP E 7 [int m, v] h (fun r h' => r = .bool (decide (∀ x ∈ l, x.natAbs ≤ m)) ∧ h' = h) := by
  obtain ⟨a, cap, rfl, hc⟩ := hv
  refine enter7 (by simp) ?_
  conv => whnf
  refine loop_inv (α := Nat) (fun k => [(9, int k), (8, int l.length), (7, .slice a l.length cap), (0, int m)]) (fun _ => h) (fun k => k ≤ l.length ∧ ∀ j, (hj : j < k) → (hj2 : j < l.length) → l[j].natAbs ≤ m) (fun k => l.length - k) 0 ⟨by omega, fun j hj => by omega⟩ ⟨rfl, rfl, rfl, rfl, trivial⟩ (Hp.Le.refl _) ?_
  rintro k φ ⟨hk, hin⟩
  conv => whnf
  refine cmpB (fun hb => ?_) (fun hb => ?_)
  rotate_left
  · conv => whnf
    refine ⟨?_, rfl⟩
    have : (∀ x ∈ l, x.natAbs ≤ m) := by
      intro x hx
      obtain ⟨j, hj, rfl⟩ := List.getElem_of_mem hx
      exact hin j (by omega) hj
    rw [decide_eq_true this]; rfl
  have hk' : k < l.length := by omega
  obtain ⟨r, o, sp, rfl, hsp, hcell⟩ := hc k hk'
  have no : ¬ (l[k].natAbs ≤ m) → ¬ (∀ x ∈ l, x.natAbs ≤ m) := fun h1 h2 => h1 (h2 _ (List.getElem_mem hk'))
  conv => whnf
  refine ⟨hsp, ⟨by omega, by omega⟩, ?_⟩
  conv => whnf
  refine ⟨_, hcell, ?_⟩
  conv => whnf
  refine resP_val (v := int (-(m : Int))) (h := h) ?_ ?_
  · conv => lhs; whnf
    exact congrArg (HRes.val · h) (neg_eq (by omega))
  conv => whnf
  refine cmpB (fun hb1 => ?_) (fun hb1 => ?_)
  · conv => whnf
    exact ⟨by rw [decide_eq_false (no (by omega))]; rfl, rfl⟩
  conv => whnf
  refine cmpB (fun hb2 => ?_) (fun hb2 => ?_)
  · conv => whnf
    exact ⟨by rw [decide_eq_false (no (by omega))]; rfl, rfl⟩
  conv => whnf
  refine ⟨_, wid (by omega), ?_⟩
  conv => whnf
  refine Rnd.mk (k + 1) ⟨by omega, fun j hj hj2 => ?_⟩ (by omega) ⟨rfl, rfl, rfl, rfl, trivial⟩ (Hp.Le.refl _) rfl
  by_cases e : j = k
  · subst e; omega
  · exact hin j (by omega) hj2
end
end Go.Proofs.Ytfiginefkfipeaa
