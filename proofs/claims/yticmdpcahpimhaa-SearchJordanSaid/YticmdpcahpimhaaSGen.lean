/- Contracts of the functions that SJorZ comes to. -/
import Derived.Test.YticmdpcahpimhaaSTrees
set_option maxRecDepth 100000
set_option maxHeartbeats 1000000
set_option linter.unusedVariables false
set_option linter.unusedSectionVars false
set_option linter.unusedSimpArgs false
namespace Go.Proofs.Yticmdpcahpimhaa
open Go.Rx Go.RowKit Go.Comp
theorem pless_trans {x y z : Int × Int} (h : PLess x y) (k : PLess y z) : PLess x z := by
  unfold PLess at *
  omega
theorem up_lt {n : Int} {P : List (Int × Int)} (h : UpTo n P P.length) : ∀ (d i : Nat) (hj : i + d + 1 < P.length), PLess (P[i]'(by omega)) P[i + d + 1]
  | 0, i, hj => (h (i + 1) hj hj).2.2.2 (by omega)
  | d + 1, i, hj => by
    have h1 := up_lt h d i (by omega)
    have h2 := (h (i + (d + 1) + 1) hj hj).2.2.2 (by omega)
    exact pless_trans h1 h2
theorem sub_len : ∀ {l1 l2 : List Nat}, l1.Nodup → (∀ x ∈ l1, x ∈ l2) → l1.length ≤ l2.length
  | [], _, _, _ => Nat.zero_le _
  | x :: l1, l2, hnd, hs => by
    have h := List.nodup_cons.1 hnd
    have hx := hs x (by simp)
    have h1 := sub_len (l2 := l2.erase x) h.2 (fun y hy => by
      have hne : y ≠ x := fun e => h.1 (e ▸ hy)
      exact (List.mem_erase_of_ne hne).2 (hs y (by simp [hy])))
    rw [List.length_erase_of_mem hx] at h1
    have h2 := List.length_pos_of_mem hx
    rw [List.length_cons]
    omega
theorem len_of {P : List Nat} {n : Nat} (hnd : P.Nodup) (hm : ∀ t, t ∈ P ↔ 1 ≤ t ∧ t < n) : P.length = n - 1 := by
  have h1 := sub_len (l2 := List.range' 1 (n - 1)) hnd fun t ht => by
    have := (hm t).1 ht
    rw [List.mem_range'_1]
    omega
  have h2 := sub_len (l1 := List.range' 1 (n - 1)) (l2 := P) List.nodup_range' fun t ht => by
    rw [List.mem_range'_1] at ht
    exact (hm t).2 (by omega)
  rw [List.length_range'] at h1 h2
  omega
theorem tree_of {n : Nat} (hn : 1 ≤ n ∧ n ≤ 10) {par : Nat → Nat} (hpar : ∀ t, 1 ≤ t → t < n → par t < t) {P : List (Int × Int)} (up : UpTo n P P.length) (mem : ∀ x, x ∈ P ↔ ∃ t : Nat, 1 ≤ t ∧ t < n ∧ x = ((par t : Int), (t : Int))) : TreeP n P := by
  refine ⟨by omega, up, ?_, ?_⟩
  · have hl : (P.map fun x => x.2.toNat).length = n - 1 := by
      refine len_of ?_ fun t => ?_
      · rw [List.nodup_iff_pairwise_ne, List.pairwise_iff_getElem]
        intro i j hi hj hij e
        rw [List.length_map] at hi hj
        rw [List.getElem_map, List.getElem_map] at e
        obtain ⟨d, rfl⟩ : ∃ d, j = i + d + 1 := ⟨j - i - 1, by omega⟩
        have hlt := up_lt up d i hj
        obtain ⟨s, s1, s2, s3⟩ := (mem _).1 (List.getElem_mem hi)
        obtain ⟨t, t1, t2, t3⟩ := (mem _).1 (List.getElem_mem hj)
        rw [s3, t3] at e hlt
        have : s = t := by simpa using e
        subst this
        unfold PLess at hlt
        dsimp only at hlt
        omega
      · rw [List.mem_map]
        constructor
        · rintro ⟨x, hx, rfl⟩
          obtain ⟨t, t1, t2, rfl⟩ := (mem x).1 hx
          exact ⟨by simpa using t1, by simpa using t2⟩
        · rintro ⟨t1, t2⟩
          exact ⟨_, (mem _).2 ⟨t, t1, t2, rfl⟩, by simp⟩
    rw [List.length_map] at hl
    omega
  · have hfull : ∀ t, t < n → (2 ^ n - 1).testBit t = true := fun t ht => by rw [Nat.testBit_two_pow_sub_one]; exact decide_eq_true ht
    have hreach : ∀ m t, t ≤ m → t < n → Comp.Reach (adj P) (2 ^ n - 1) 0 t := by
      intro m
      induction m with
      | zero =>
        intro t h1 h2
        obtain rfl : t = 0 := by omega
        exact .refl (hfull 0 h2)
      | succ m ih =>
        intro t h1 h2
        by_cases h0 : t = 0
        · subst h0; exact .refl (hfull 0 h2)
        · have hp := hpar t (by omega) h2
          refine .step (ih (par t) (by omega) (by omega)) ?_ (hfull t h2)
          unfold adj
          exact .inl ((mem _).2 ⟨t, by omega, h2, rfl⟩)
    refine ⟨2 ^ n - 1, ?_⟩
    rw [Int.toNat_natCast]
    refine .cons (v := 0) (hfull 0 (by omega)) (fun u hu => absurd hu (Nat.not_lt_zero _)) (fun u => ⟨fun hu => ?_, fun hu => hu.inSet⟩) ?_
    · rw [Nat.testBit_two_pow_sub_one] at hu
      exact hreach u u (Nat.le_refl _) (of_decide_eq_true hu)
    · have : less (2 ^ n - 1) (2 ^ n - 1) = 0 := by
        refine Nat.eq_of_testBit_eq fun i => ?_
        rw [less_bit]
        cases (2 ^ n - 1).testBit i <;> simp
      rw [this]
      exact .nil
end Go.Proofs.Yticmdpcahpimhaa
