/- SearchCounts: for every integer the number of plans is the reference's, or the error is ErrArg: the law's call returns true, whatever the world. -/
import Derived.Test.YticmdpcahpimhaaAwake
import Derived.Test.YticmdpcahpimhaaPlansA
import Derived.Test.YticmdpcahpimhaaPlansB
import Derived.Test.YticmdpcahpimhaaPlansC
import Derived.Test.YticmdpcahpimhaaPlansD
import Derived.Test.YticmdpcahpimhaaPlansE
import Derived.Test.YticmdpcahpimhaaPlansF
namespace Go.Proofs.Yticmdpcahpimhaa.searchCounts
open Go.Rx Go.RowKit

theorem mixed : Try.prog.follows .mixedOrders = true := by kernel_rfl

/-- What a closed call answers. -/
theorem closed {f : FuncId} {args : List Value} {v : Value} (h : answers E0 2000 f args v = true) (hd : args.all (isData 3) = true) (w : World) : Calls Try.prog f ⟨args⟩ w fun e w' => e = .returned v ∧ Below w.heap.size w w' := by
  have := calls_ints (P := Try.prog) (fun _ => 0) [] [] (fun y hy => by simp at hy) (fun r hr => by simp at hr) mixed h w
  have e : args.map (@argVal (intsUnk fun _ => 0)) = args := by
    refine (List.map_congr_left fun a ha => ?_).trans (List.map_id _)
    have hda := List.all_eq_true.1 hd a ha
    unfold argVal
    split
    · simp [isData] at hda
    · rfl
  rw [e] at this
  exact this

theorem all_range {p : Nat → Bool} {a n k : Nat} (h : (List.range' a n).all p = true) (h1 : a ≤ k) (h2 : k < a + n) : p k = true :=
  List.all_eq_true.1 h k (List.mem_range'_1.2 ⟨h1, h2⟩)

theorem prog_any {k : Nat} (hk : k ≤ 30) : answers E0 2000 36 [.int .i64 (.ofNat k)] (plans k) = true := by
  by_cases h0 : k < 16
  · have h := all_range prog0 (k := k) (by omega) (by omega)
    exact h
  by_cases h16 : k < 20
  · have h := all_range prog16 (k := k) (by omega) (by omega)
    exact h
  by_cases h20 : k < 23
  · have h := all_range prog20 (k := k) (by omega) (by omega)
    exact h
  by_cases h23 : k < 25
  · have h := all_range prog23 (k := k) (by omega) (by omega)
    exact h
  by_cases h25 : k < 27
  · have h := all_range prog25 (k := k) (by omega) (by omega)
    exact h
  by_cases h27 : k < 28
  · have h := all_range prog27 (k := k) (by omega) (by omega)
    exact h
  by_cases h28 : k < 29
  · have h := all_range prog28 (k := k) (by omega) (by omega)
    exact h
  by_cases h29 : k < 30
  · have h := all_range prog29 (k := k) (by omega) (by omega)
    exact h
  have h := all_range prog30 (k := k) (by omega) (by omega)
  exact h

theorem ref_any {k : Nat} (hk : k ≤ 30) : answers E0 2000 37 [.int .i64 (.ofNat k)] (.int .i64 (cat k)) = true := by
  by_cases h0 : k < 16
  · have h := all_range ref0 (k := k) (by omega) (by omega)
    exact h
  by_cases h16 : k < 20
  · have h := all_range ref16 (k := k) (by omega) (by omega)
    exact h
  by_cases h20 : k < 23
  · have h := all_range ref20 (k := k) (by omega) (by omega)
    exact h
  by_cases h23 : k < 25
  · have h := all_range ref23 (k := k) (by omega) (by omega)
    exact h
  by_cases h25 : k < 27
  · have h := all_range ref25 (k := k) (by omega) (by omega)
    exact h
  by_cases h27 : k < 28
  · have h := all_range ref27 (k := k) (by omega) (by omega)
    exact h
  by_cases h28 : k < 29
  · have h := all_range ref28 (k := k) (by omega) (by omega)
    exact h
  by_cases h29 : k < 30
  · have h := all_range ref29 (k := k) (by omega) (by omega)
    exact h
  have h := all_range ref30 (k := k) (by omega) (by omega)
  exact h

noncomputable def facts (k : Nat) : List Fact1 := [(27, [], .bool true), (36, [.int .i64 (.ofNat k)], plans k), (37, [.int .i64 (.ofNat k)], .int .i64 (cat k))]

theorem facts_hold (x : Nat → Int) {k : Nat} (hk : k ≤ 30) : ∀ y ∈ facts k, @Holds1 (intsUnk x) Try.prog y := by
  intro y hy
  simp only [facts, List.mem_cons, List.mem_nil_iff, or_false] at hy
  rcases hy with rfl | rfl | rfl
  · exact fact_closed x rfl rfl (closed awake rfl)
  · exact fact_closed x rfl rfl (closed (prog_any hk) rfl)
  · exact fact_closed x rfl rfl (closed (ref_any hk) rfl)

/-- The law at a number that is in range. -/
theorem inside : ((List.range' 0 31).all fun k => answers (Env.of Try.prog (memoOf (facts k)) (binOf []) convOf) 2000 6 [.int .i64 (.ofNat k)] (.bool true)) = true := by kernel_rfl

def rowsLow (k : Nat) : List Row := [(0, .lss, .int .i64 0, .bool true), (1, .rem, .int .u64 31, .int .u64 (.ofNat k))]
def rowsHigh (k : Nat) : List Row := [(0, .lss, .int .i64 0, .bool false), (0, .gtr, .int .i64 30, .bool true), (1, .rem, .int .u64 31, .int .u64 (.ofNat k))]
theorem low : ((List.range' 0 31).all fun k => answers (Env.of Try.prog (memoOf (facts k)) (binOf (rowsLow k)) convOf) 2000 6 [unk 0] (.bool true)) = true := by kernel_rfl
theorem high : ((List.range' 0 31).all fun k => answers (Env.of Try.prog (memoOf (facts k)) (binOf (rowsHigh k)) convOf) 2000 6 [unk 0] (.bool true)) = true := by kernel_rfl

theorem rem_range (a : Int) : ∃ k : Nat, k ≤ 30 ∧ (IntKind.u64.wrap a).tmod 31 = .ofNat k := by
  have h0 : 0 ≤ IntKind.u64.wrap a := by
    unfold IntKind.wrap
    simp [IntKind.signed, IntKind.bits]
    omega
  have h1 := Int.tmod_nonneg 31 h0
  have h2 := Int.tmod_lt_of_pos (IntKind.u64.wrap a) (show (0 : Int) < 31 by omega)
  exact ⟨((IntKind.u64.wrap a).tmod 31).toNat, by omega, by simp [Int.toNat_of_nonneg h1]⟩

/-- The law, whatever the integer. -/
theorem law_any (a : Int) (w : World) : Calls Try.prog 6 #[.int .i64 a] w fun e w' => e = .returned (.bool true) ∧ Below w.heap.size w w' := by
  by_cases h1 : a < 0
  · obtain ⟨k, hk, hr⟩ := rem_range a
    exact calls_ints (fun _ => a) (facts k) (rowsLow k) (facts_hold _ hk) (fun r hr' => by
      simp only [rowsLow, List.mem_cons, List.mem_nil_iff, or_false] at hr'
      rcases hr' with rfl | rfl
      · exact ⟨row_lss (i := 0) (by simpa using h1), rfl⟩
      · exact ⟨row_rem (i := 0) (by decide) hr, rfl⟩) mixed (all_range low (Nat.zero_le _) (by omega)) w
  · by_cases h2 : 30 < a
    · obtain ⟨k, hk, hr⟩ := rem_range a
      exact calls_ints (fun _ => a) (facts k) (rowsHigh k) (facts_hold _ hk) (fun r hr' => by
        simp only [rowsHigh, List.mem_cons, List.mem_nil_iff, or_false] at hr'
        rcases hr' with rfl | rfl | rfl
        · exact ⟨row_lss (i := 0) (by simpa using h1), rfl⟩
        · exact ⟨row_gtr (i := 0) (by simpa using h2), rfl⟩
        · exact ⟨row_rem (i := 0) (by decide) hr, rfl⟩) mixed (all_range high (Nat.zero_le _) (by omega)) w
    · obtain ⟨k, rfl⟩ : ∃ k : Nat, a = .ofNat k := ⟨a.toNat, by simp; omega⟩
      have hk : k ≤ 30 := by simp at h2; omega
      exact calls_ints (fun _ => 0) (facts k) [] (facts_hold _ hk) (fun r hr' => by simp at hr') mixed (all_range inside (Nat.zero_le _) (by omega)) w

end Go.Proofs.Yticmdpcahpimhaa.searchCounts
