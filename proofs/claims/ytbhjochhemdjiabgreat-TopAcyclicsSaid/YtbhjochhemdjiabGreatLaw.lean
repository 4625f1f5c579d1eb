/- TopAcyclics: whatever the integers, the law's call returns true: they count only modulo small numbers, and the kernel runs each case. -/
import Derived.Test.YtbhjochhemdjiabGreatRunsA
import Derived.Test.YtbhjochhemdjiabGreatRunsB
import Derived.Test.YtbhjochhemdjiabGreatMem5
import Derived.Test.YtbhjochhemdjiabGreatMem7
import Derived.Test.YtbhjochhemdjiabGreatMem8
import Derived.Test.YtbhjochhemdjiabGreatMem9
namespace Go.Proofs.YtbhjochhemdjiabGreat.topAcyclics
open Go.Rx Go.RowKit

theorem mixed : Tryz.prog.follows .mixedOrders = true := by kernel_rfl

/-- What a closed call answers. -/
theorem closed {l : List Fact1} (hl : ∀ y ∈ l, @Holds1 (intsUnk fun _ => 0) Tryz.prog y) {f : FuncId} (h : answers (Env.of Tryz.prog (memoOf l) (binOf []) convOf) 2000 f [] (.bool true) = true) (w : World) : Calls Tryz.prog f ⟨[]⟩ w fun e w' => e = .returned (.bool true) ∧ Below w.heap.size w w' :=
  calls_ints (P := Tryz.prog) (fun _ => 0) l [] hl (fun r hr => by simp at hr) mixed h w

theorem fact11 (x : Nat → Int) : @Holds1 (intsUnk x) Tryz.prog (11, [], .bool true) := fact_closed x rfl rfl (closed (fun y hy => by
  simp at hy) answers11)
theorem facts_hold (x : Nat → Int) : ∀ y ∈ facts, @Holds1 (intsUnk x) Tryz.prog y := by
  intro y hy
  simp only [facts, List.mem_cons, List.mem_nil_iff, or_false] at hy
  subst hy; exact fact11 x

/-- The facts on the long calls. -/
theorem mem_hold (x : Nat → Int) : ∀ y ∈ mem, @FactHolds (intsUnk x) (Env.of Tryz.prog) Tryz.prog y ∧ y.rest.all (isData 3) = true := by
  have hno : ∀ y ∈ ([] : List MemFact), @FactHolds (intsUnk x) (Env.of Tryz.prog) Tryz.prog y ∧ y.rest.all (isData 3) = true := fun y hy => by simp at hy
  intro y hy
  simp only [mem, List.mem_cons, List.mem_nil_iff, or_false] at hy
  rcases hy with rfl | rfl | rfl | rfl
  · exact ⟨fact_mem x facts [] (facts_hold x) hno mixed factRuns5, by decide +kernel⟩
  · exact ⟨fact_mem x facts [] (facts_hold x) hno mixed factRuns7, by decide +kernel⟩
  · exact ⟨fact_mem x facts [] (facts_hold x) hno mixed factRuns8, by decide +kernel⟩
  · exact ⟨fact_mem x facts [] (facts_hold x) hno mixed factRuns9, by decide +kernel⟩

theorem runs_any (k0 : Nat) (h0 : k0 < 7) : runs k0 = true := by
  obtain rfl | rfl | rfl | rfl | rfl | rfl | rfl : k0 = 0 ∨ k0 = 1 ∨ k0 = 2 ∨ k0 = 3 ∨ k0 = 4 ∨ k0 = 5 ∨ k0 = 6 := by omega
  · exact run0
  · exact run1
  · exact run2
  · exact run3
  · exact run4
  · exact run5
  · exact run6

theorem rem_range (a : Int) {d : Nat} (hd : 0 < d) : ∃ k : Nat, k < d ∧ (IntKind.u64.wrap a).tmod (.ofNat d) = .ofNat k := by
  have h0 : 0 ≤ IntKind.u64.wrap a := by
    unfold IntKind.wrap
    simp [IntKind.signed, IntKind.bits]
    omega
  have h1 := Int.tmod_nonneg (Int.ofNat d) h0
  have h2 := Int.tmod_lt_of_pos (IntKind.u64.wrap a) (show (0 : Int) < .ofNat d by simp; omega)
  refine ⟨((IntKind.u64.wrap a).tmod (.ofNat d)).toNat, ?_, (Int.toNat_of_nonneg h1).symm⟩
  simp at h1 h2 ⊢
  omega

/-- The law, whatever the integers. -/
theorem law_any (a0 : Int) (w : World) : Calls Tryz.prog 3 #[.int .i64 a0] w fun e w' => e = .returned (.bool true) ∧ Below w.heap.size w w' := by
  obtain ⟨k0, hk0, hr0⟩ := rem_range a0 (show 0 < 7 by omega)
  exact calls_mem (fun _ => a0) facts (rows k0) mem (facts_hold _) (fun r hr => by
    simp only [rows, List.mem_cons, List.mem_nil_iff, or_false] at hr
    subst hr
    exact ⟨row_rem (i := 0) (by simp) hr0, rfl⟩) (mem_hold _) mixed (runs_any k0 hk0) w

end Go.Proofs.YtbhjochhemdjiabGreat.topAcyclics
