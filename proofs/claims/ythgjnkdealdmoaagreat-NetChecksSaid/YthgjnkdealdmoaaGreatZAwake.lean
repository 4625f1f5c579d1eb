/- What the layer must do whatever the input is, by the kernel's run. -/
import Derived.Test.YthgjnkdealdmoaaGreatTypesC
import Derived.Test.YthgjnkdealdmoaaGreatWx10
import Derived.KernelRfl
set_option linter.unusedSectionVars false
set_option linter.unusedSimpArgs false
set_option linter.unusedVariables false
namespace Go.Proofs.YthgjnkdealdmoaaGreat
open Go.Rx Go.RowKit
theorem mixed:Tryz.prog.follows .mixedOrders = true:=by kernel_rfl
theorem awake:answers (Env.of Tryz.prog (memoOf []) (binOf []) convOf) 4000 22 [] (.bool true) = true:=by kernel_rfl
theorem facts_hold (x:Nat→Int):∀ y ∈ facts,@Holds1 (intsUnk x) Tryz.prog y:=by
 intro y hy
 simp only [facts,List.mem_cons,List.mem_nil_iff,or_false] at hy
 subst hy
 exact fact_closed x rfl rfl (calls_closed mixed awake rfl)
theorem law_true {f:FuncId} {args:List Value} (c:∀ h,@CallP E f args h fun r _=>r = .bool true) {args':Array Value} (hargs:@LRel (intsUnk fun _=>0) (fun _=>none) args args'.toList) (w:World) :
  Calls Tryz.prog f args' w fun e w'=>e = .returned (.bool true)∧Below w.heap.size w w' :=
 @calls_true (intsUnk fun _=>0) E Tryz.prog (ok_facts _ (facts_hold _)) mixed f args [] (fun f args H v H' h=>by cases h) (c _) _ w (@lent_none (intsUnk fun _=>0) w) args' hargs
end Go.Proofs.YthgjnkdealdmoaaGreat
