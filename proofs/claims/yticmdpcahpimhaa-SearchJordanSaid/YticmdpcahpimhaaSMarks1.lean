/- Contracts of the functions that SJorZ comes to. -/
import Derived.Test.YticmdpcahpimhaaSSize
import Derived.Test.YticmdpcahpimhaaSTrees
import Derived.Test.YticmdpcahpimhaaWx24
set_option maxRecDepth 100000
set_option maxHeartbeats 1000000
set_option linter.unusedVariables false
set_option linter.unusedSectionVars false
set_option linter.unusedSimpArgs false
namespace Go.Proofs.Yticmdpcahpimhaa
open Go.Rx Go.RowKit Go.Comp
theorem sub_le {p s : Nat} (h : ∀ u, p.testBit u = true → s.testBit u = true) : p ≤ s := by
  have e : p &&& s = p := by
    refine Nat.eq_of_testBit_eq fun i => ?_
    rw [Nat.testBit_and]
    cases h1 : p.testBit i with
    | false => rfl
    | true => rw [h i h1]; rfl
  rw [← e]
  exact Nat.and_le_right
theorem parts_le {A : Rel} {s : Nat} {l : List Nat} (h : IsParts A s l) : ∀ x ∈ l, x ≤ s := by
  induction h with
  | nil => intro x hx; simp at hx
  | @cons s v p l hv hm hp hl ih =>
    intro x hx
    rcases List.mem_cons.1 hx with rfl | hx
    · exact sub_le fun u hu => ((hp u).1 hu).inSet
    · exact Nat.le_trans (ih x hx) (sub_le fun u hu => by rw [less_bit] at hu; exact (Bool.and_eq_true _ _ ▸ hu).1)
/-- Nodes of some kind, as a set. -/
def msk (f : Nat → Bool) : Nat → Nat
  | 0 => 0
  | k + 1 => if f k = true then msk f k ||| 2 ^ k else msk f k
theorem msk_lt (f : Nat → Bool) : ∀ k, msk f k < 2 ^ k
  | 0 => by simp [msk]
  | k + 1 => by
    have h := msk_lt f k
    have h2 : 2 ^ (k + 1) = 2 * 2 ^ k := by rw [Nat.pow_succ, Nat.mul_comm]
    show (if f k = true then msk f k ||| 2 ^ k else msk f k) < _
    split
    · exact Nat.or_lt_two_pow (by omega) (by omega)
    · omega
theorem msk_zero {f : Nat → Bool} : ∀ {k : Nat}, (∀ i, i < k → f i = false) → msk f k = 0
  | 0, _ => rfl
  | k + 1, h => by
    show (if f k = true then msk f k ||| 2 ^ k else msk f k) = 0
    rw [h k (by omega), if_neg (by simp), msk_zero fun i hi => h i (by omega)]
def upF (l : List Int) (v : Int) (i : Nat) : Bool := decide (l.getD i 0 ≤ v)
def saF (l : List Int) (v : Int) (i : Nat) : Bool := decide (l.getD i 0 = v)
/-- Marks are right for one mark. -/
def VOk (P : List (Int × Int)) (l : List Int) (v : Int) : Prop := ∀ L, IsParts (adj P) (msk (upF l v) l.length) L → ∀ x ∈ L, pop (x &&& msk (saF l v) l.length) ≤ 1
def AllOk (P : List (Int × Int)) (l : List Int) : Prop := ∀ x ∈ l, (0 ≤ x ∧ x ≤ 10) ∧ VOk P l x
/-- What marks of a tree are. -/
def MOk (P : List (Int × Int)) (n : Nat) (l : List Int) : Prop := l.length = n ∧ AllOk P l
theorem pop_zero : pop 0 = 0 := by decide
theorem VOk.none {P : List (Int × Int)} {l : List Int} {v : Int} (h : v ∉ l) : VOk P l v := by
  intro L _ x _
  rw [msk_zero (f := saF l v) (fun i hi => ?_), Nat.and_zero, pop_zero]
  · omega
  · unfold saF
    rw [decide_eq_false_iff_not, List.getD_eq_getElem?_getD, List.getElem?_eq_getElem hi]
    intro e
    exact h (by rw [← e]; exact List.getElem_mem hi)
theorem MOk.iff {P : List (Int × Int)} {n : Nat} {l : List Int} : MOk P n l ↔ l.length = n ∧ (∀ x ∈ l, 0 ≤ x ∧ x ≤ 10) ∧ ∀ v : Int, 0 ≤ v → v ≤ 10 → VOk P l v := by
  constructor
  · rintro ⟨h1, h2⟩
    refine ⟨h1, fun x hx => (h2 x hx).1, fun v _ _ => ?_⟩
    by_cases h : v ∈ l
    · exact (h2 v h).2
    · exact VOk.none h
  · rintro ⟨h1, h2, h3⟩
    exact ⟨h1, fun x hx => ⟨h2 x hx, h3 x (h2 x hx).1 (h2 x hx).2⟩⟩
theorem popUp_all : ∀ s, s < 1024 → ∀ i, i ≤ 10 → (s >>> i = 0 → ((List.range i).filter s.testBit).length = pop s) ∧ ((List.range i).filter s.testBit).length ≤ 10 := by decide +kernel
theorem popUp_succ (s i : Nat) : (((List.range (i + 1)).filter s.testBit).length : Int) = ((List.range i).filter s.testBit).length + ((s >>> i) % 2 : Nat) := by
  rw [List.range_succ, List.filter_append, List.length_append, List.filter_cons, List.filter_nil]
  have h := bit_mod s i
  cases e : s.testBit i with
  | true => have := h.2 e; rw [this]; simp
  | false =>
    have : ¬ (s >>> i) % 2 = 1 := fun h1 => by rw [h.1 h1] at e; cases e
    have h2 : (s >>> i) % 2 = 0 := by omega
    rw [h2]; simp
attribute [local irreducible] E idxN cellAt cellsAt storeAt callable helems hmoved lookIn findKey keyOk hentries Hp.at Hp.set Hp.lay arBits hupdated setAt CallP YieldP BoolOf IsWrap Rnd LoopP AppP CutP Int.tmod Int.tdiv Int.fdiv
section
variable [Unknowns]
attribute [local irreducible] ResP sameAt natI tv
theorem refsize_spec (s : Nat) (hs : s < 1024) (h : Hp) : CallP E 74 [int s] h (fun r h' => r = int (pop s) ∧ h' = h) := by
  refine enter74 (by simp) ?_
  conv => whnf
  repeat (refine SeqP.go ?_; conv => whnf)
  refine loop_inv (α := Nat) (fun i => [(4, int i), (3, int (((List.range i).filter s.testBit).length : Nat)), (0, int s)]) (fun _ => h) (fun i => i ≤ 10) (fun i => 10 - i) 0 (Nat.zero_le _) ⟨rfl, rfl, rfl, trivial⟩ (Hp.Le.refl _) ?_
  rintro i φ hi
  have esh := shr_nat (a := s) (k := i) (by omega)
  obtain ⟨q1, q2⟩ := popUp_all s hs i hi
  have hps := popUp_succ s i
  have hle : s >>> i ≤ s := by rw [Nat.shiftRight_eq_div_pow]; exact Nat.div_le_self _ _
  have h10 : i = 10 → s >>> i = 0 := fun e => by rw [e, Nat.shiftRight_eq_div_pow]; exact Nat.div_eq_of_lt hs
  conv => whnf
  repeat (refine SeqP.go ?_; conv => whnf)
  refine ⟨by omega, ?_⟩
  conv => whnf
  refine cmpB (fun hb => ?_) (fun hb => ?_)
  · have hb : (s : Int).fdiv (2 ^ (min (i : Int).toNat 64)) > 0 := hb
    rw [esh] at hb
    have hi2 : i < 10 := by
      rcases Nat.lt_or_ge i 10 with h1 | h1
      · exact h1
      · have := h10 (by omega); rw [this] at hb; exact absurd hb (by decide)
    conv => whnf
    repeat (refine SeqP.go ?_; conv => whnf)
    refine ⟨by omega, ?_⟩
    conv => whnf
    refine ⟨by omega, ?_⟩
    conv => whnf
    refine ⟨(((List.range (i + 1)).filter s.testBit).length : Nat), wie ?_ (by omega), ?_⟩
    · show (((List.range i).filter s.testBit).length : Int) + ((s : Int).fdiv (2 ^ (min (i : Int).toNat 64))).tmod ((2 : Nat) : Int) = _
      rw [esh, tmod_nat, hps]
    conv => whnf
    refine ⟨((i + 1 : Nat) : Int), wie (by omega) (by omega), ?_⟩
    conv => whnf
    exact Rnd.mk (i + 1) (by show i + 1 ≤ 10; omega) (by show 10 - (i + 1) < 10 - i; omega) ⟨rfl, rfl, rfl, trivial⟩ (Hp.Le.refl _) rfl
  · have hb : ¬ (s : Int).fdiv (2 ^ (min (i : Int).toNat 64)) > 0 := hb
    rw [esh] at hb
    conv => whnf
    repeat (refine SeqP.go ?_; conv => whnf)
    have hz : s >>> i = 0 := by
      clear hps q1 hle h10 esh
      generalize s >>> i = w at hb ⊢
      omega
    exact ⟨by rw [← q1 hz]; rfl, rfl⟩
end
end Go.Proofs.Yticmdpcahpimhaa
