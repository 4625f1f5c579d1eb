/- What the layer must do whatever the input is, by the kernel's run: first what its regions are. -/
import Derived.Test.YtfiginefkfipeaaTypesC
import Derived.Test.YtfiginefkfipeaaWx10
import Derived.KernelRfl
set_option linter.unusedSectionVars false
set_option linter.unusedSimpArgs false
set_option linter.unusedVariables false
namespace Go.Proofs.Ytfiginefkfipeaa
open Go.Rx Go.RowKit
set_option maxRecDepth 100000
theorem mixed : Try.prog.follows .mixedOrders = true := by kernel_rfl
def regs : MemFact := ⟨21, [.slice (some ⟨0, 0, none⟩) 3 3], [[.int .i64 (1), .int .i64 (0), .int .i64 (0), .int .i64 (0), .int .i64 (1), .int .i64 (0), .int .i64 (1), .int .i64 (1), .int .i64 (1)]], some (9, [.string ⟨⟨[43, 43, 43]⟩⟩, .string ⟨⟨[43, 43, 45]⟩⟩, .string ⟨⟨[43, 45, 43]⟩⟩, .string ⟨⟨[43, 45, 45]⟩⟩, .string ⟨⟨[45, 43, 43]⟩⟩, .string ⟨⟨[45, 43, 45]⟩⟩, .string ⟨⟨[45, 45, 45]⟩⟩], 7, 7), []⟩
theorem regs_run : factRuns (Env.of Try.prog (memoOf []) (binOf []) convOf (memFacts [])) 2000 regs = true := by kernel_rfl
theorem regs_data : regs.rest.all (isData 3) = true := rfl
theorem regs_hold (x : Nat → Int) : @FactHolds (intsUnk x) (Env.of Try.prog) Try.prog regs := fact_mem x [] [] (fun y hy => by simp at hy) (fun y hy => by simp at hy) mixed regs_run
theorem awake : answers (Env.of Try.prog (memoOf []) (binOf []) convOf (memFacts [regs])) 3000 6 [] (.bool true) = true := by kernel_rfl
theorem regs_all (x : Nat → Int) : ∀ y ∈ [regs], @FactHolds (intsUnk x) (Env.of Try.prog) Try.prog y ∧ y.rest.all (isData 3) = true := by
  intro y hy
  rw [List.mem_singleton] at hy
  subst hy
  exact ⟨regs_hold x, regs_data⟩
theorem awake_calls (w : World) : Calls Try.prog 6 ⟨[]⟩ w fun e w' => e = .returned (.bool true) ∧ Below w.heap.size w w' := by
  have := calls_mem (P := Try.prog) (fun _ => 0) [] [] [regs] (fun y hy => by simp at hy) (fun r hr => by simp at hr) (regs_all _) mixed awake w
  exact this
theorem facts_hold (x : Nat → Int) : ∀ y ∈ facts, @Holds1 (intsUnk x) Try.prog y := by
  intro y hy
  simp only [facts, List.mem_cons, List.mem_nil_iff, or_false] at hy
  subst hy
  exact fact_closed x rfl rfl awake_calls
/-- A contract, as what the law's call comes to. -/
theorem law_true {f : FuncId} {args : List Value} (c : ∀ h, @CallP E f args h fun r _ => r = .bool true) {args' : Array Value} (hargs : @LRel (intsUnk fun _ => 0) (fun _ => none) args args'.toList) (w : World) :
    Calls Try.prog f args' w fun e w' => e = .returned (.bool true) ∧ Below w.heap.size w w' :=
  @calls_true (intsUnk fun _ => 0) E Try.prog (ok_facts _ (facts_hold _)) mixed f args [] (fun f args H v H' h => by cases h) (c _) _ w (@lent_none (intsUnk fun _ => 0) w) args' hargs
end Go.Proofs.Ytfiginefkfipeaa
