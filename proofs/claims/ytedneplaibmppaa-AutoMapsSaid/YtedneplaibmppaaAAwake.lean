/- Contracts of the functions that PMAH comes to. -/
import Derived.Test.YtedneplaibmppaaTypesC
import Derived.Test.YtedneplaibmppaaWx10
import Derived.KernelRfl
set_option maxRecDepth 100000
set_option linter.unusedVariables false
set_option linter.unusedSectionVars false
set_option linter.unusedSimpArgs false
namespace Go.Proofs.Ytedneplaibmppaa
open Go.Rx Go.RowKit
theorem mixed:Try.prog.follows .mixedOrders = true:=by kernel_rfl
theorem QY (x:Nat→Int):∀ y ∈ facts,@Ql (kH x) Try.prog y:=by
 intro y hy;simp only [facts,List.not_mem_nil] at hy
end Go.Proofs.Ytedneplaibmppaa
