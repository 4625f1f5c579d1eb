/- What the layer must do whatever the input is, by the kernel's run: first what the fractions and the rows in it come to. -/
import Derived.Test.YtljbibjnidccbabTypesC
import Derived.Test.YtljbibjnidccbabWx10
import Derived.KernelRfl
set_option linter.unusedSectionVars false
set_option linter.unusedSimpArgs false
set_option linter.unusedVariables false
namespace Go.Proofs.Ytljbibjnidccbab
open Go.Rx Go.RowKit
set_option maxRecDepth 100000
theorem mixed:Try.prog.follows .mixedOrders = true:=by kernel_rfl
def low:List Fact1:=[
 (82,[.int .i64 (0),.int .i64 (1)],.agg ⟨[.int .i64 (0),.int .i64 (1)]⟩),
 (82,[.int .i64 (-1),.int .i64 (1)],.agg ⟨[.int .i64 (-1),.int .i64 (1)]⟩),
 (82,[.int .i64 (1),.int .i64 (1)],.agg ⟨[.int .i64 (1),.int .i64 (1)]⟩),
 (71,[.agg ⟨[.int .i64 (0),.int .i64 (1)]⟩,.agg ⟨[.int .i64 (0),.int .i64 (1)]⟩],.agg ⟨[.int .i64 (0),.int .i64 (1)]⟩),
 (82,[.int .i64 (0),.int .i64 (2)],.agg ⟨[.int .i64 (0),.int .i64 (1)]⟩),
 (72,[.agg ⟨[.int .i64 (0),.int .i64 (1)]⟩,.agg ⟨[.int .i64 (-1),.int .i64 (1)]⟩],.agg ⟨[.int .i64 (0),.int .i64 (1)]⟩),
 (82,[.int .i64 (0),.int .i64 (3)],.agg ⟨[.int .i64 (0),.int .i64 (1)]⟩),
 (72,[.agg ⟨[.int .i64 (0),.int .i64 (1)]⟩,.agg ⟨[.int .i64 (0),.int .i64 (1)]⟩],.agg ⟨[.int .i64 (0),.int .i64 (1)]⟩),
 (82,[.int .i64 (2),.int .i64 (1)],.agg ⟨[.int .i64 (2),.int .i64 (1)]⟩),
 (71,[.agg ⟨[.int .i64 (-1),.int .i64 (1)]⟩,.agg ⟨[.int .i64 (0),.int .i64 (1)]⟩],.agg ⟨[.int .i64 (-1),.int .i64 (1)]⟩),
 (82,[.int .i64 (1),.int .i64 (2)],.agg ⟨[.int .i64 (1),.int .i64 (2)]⟩),
 (72,[.agg ⟨[.int .i64 (1),.int .i64 (1)]⟩,.agg ⟨[.int .i64 (0),.int .i64 (1)]⟩],.agg ⟨[.int .i64 (0),.int .i64 (1)]⟩),
 (82,[.int .i64 (-1),.int .i64 (2)],.agg ⟨[.int .i64 (-1),.int .i64 (2)]⟩),
 (82,[.int .i64 (2),.int .i64 (3)],.agg ⟨[.int .i64 (2),.int .i64 (3)]⟩),
 (71,[.agg ⟨[.int .i64 (0),.int .i64 (1)]⟩,.agg ⟨[.int .i64 (-1),.int .i64 (1)]⟩],.agg ⟨[.int .i64 (-1),.int .i64 (1)]⟩),
 (72,[.agg ⟨[.int .i64 (-1),.int .i64 (1)]⟩,.agg ⟨[.int .i64 (0),.int .i64 (1)]⟩],.agg ⟨[.int .i64 (0),.int .i64 (1)]⟩),
 (82,[.int .i64 (-1),.int .i64 (3)],.agg ⟨[.int .i64 (-1),.int .i64 (3)]⟩),
 (72,[.agg ⟨[.int .i64 (0),.int .i64 (1)]⟩,.agg ⟨[.int .i64 (1),.int .i64 (1)]⟩],.agg ⟨[.int .i64 (0),.int .i64 (1)]⟩),
 (72,[.agg ⟨[.int .i64 (1),.int .i64 (1)]⟩,.agg ⟨[.int .i64 (-1),.int .i64 (1)]⟩],.agg ⟨[.int .i64 (-1),.int .i64 (1)]⟩),
 (72,[.agg ⟨[.int .i64 (0),.int .i64 (1)]⟩,.agg ⟨[.int .i64 (-1),.int .i64 (2)]⟩],.agg ⟨[.int .i64 (0),.int .i64 (1)]⟩),
 (72,[.agg ⟨[.int .i64 (1),.int .i64 (1)]⟩,.agg ⟨[.int .i64 (1),.int .i64 (1)]⟩],.agg ⟨[.int .i64 (1),.int .i64 (1)]⟩),
 (82,[.int .i64 (1),.int .i64 (3)],.agg ⟨[.int .i64 (1),.int .i64 (3)]⟩),
 (72,[.agg ⟨[.int .i64 (-1),.int .i64 (1)]⟩,.agg ⟨[.int .i64 (-1),.int .i64 (1)]⟩],.agg ⟨[.int .i64 (1),.int .i64 (1)]⟩),
 (71,[.agg ⟨[.int .i64 (0),.int .i64 (1)]⟩,.agg ⟨[.int .i64 (1),.int .i64 (1)]⟩],.agg ⟨[.int .i64 (1),.int .i64 (1)]⟩),
 (72,[.agg ⟨[.int .i64 (-1),.int .i64 (1)]⟩,.agg ⟨[.int .i64 (1),.int .i64 (1)]⟩],.agg ⟨[.int .i64 (-1),.int .i64 (1)]⟩),
 (82,[.int .i64 (-2),.int .i64 (1)],.agg ⟨[.int .i64 (-2),.int .i64 (1)]⟩),
 (72,[.agg ⟨[.int .i64 (0),.int .i64 (1)]⟩,.agg ⟨[.int .i64 (2),.int .i64 (3)]⟩],.agg ⟨[.int .i64 (0),.int .i64 (1)]⟩),
 (82,[.int .i64 (-3),.int .i64 (1)],.agg ⟨[.int .i64 (-3),.int .i64 (1)]⟩),
 (71,[.agg ⟨[.int .i64 (1),.int .i64 (1)]⟩,.agg ⟨[.int .i64 (1),.int .i64 (1)]⟩],.agg ⟨[.int .i64 (2),.int .i64 (1)]⟩),
 (72,[.agg ⟨[.int .i64 (-1),.int .i64 (2)]⟩,.agg ⟨[.int .i64 (-1),.int .i64 (1)]⟩],.agg ⟨[.int .i64 (1),.int .i64 (2)]⟩),
 (72,[.agg ⟨[.int .i64 (0),.int .i64 (1)]⟩,.agg ⟨[.int .i64 (1),.int .i64 (2)]⟩],.agg ⟨[.int .i64 (0),.int .i64 (1)]⟩),
 (71,[.agg ⟨[.int .i64 (1),.int .i64 (1)]⟩,.agg ⟨[.int .i64 (0),.int .i64 (1)]⟩],.agg ⟨[.int .i64 (1),.int .i64 (1)]⟩),
 (82,[.int .i64 (-4),.int .i64 (1)],.agg ⟨[.int .i64 (-4),.int .i64 (1)]⟩),
 (82,[.int .i64 (2),.int .i64 (2)],.agg ⟨[.int .i64 (1),.int .i64 (1)]⟩),
 (72,[.agg ⟨[.int .i64 (0),.int .i64 (1)]⟩,.agg ⟨[.int .i64 (-3),.int .i64 (2)]⟩],.agg ⟨[.int .i64 (0),.int .i64 (1)]⟩),
 (82,[.int .i64 (-2),.int .i64 (2)],.agg ⟨[.int .i64 (-1),.int .i64 (1)]⟩),
 (71,[.agg ⟨[.int .i64 (-1),.int .i64 (1)]⟩,.agg ⟨[.int .i64 (1),.int .i64 (1)]⟩],.agg ⟨[.int .i64 (0),.int .i64 (1)]⟩),
 (82,[.int .i64 (3),.int .i64 (4)],.agg ⟨[.int .i64 (3),.int .i64 (4)]⟩),
 (71,[.agg ⟨[.int .i64 (2),.int .i64 (1)]⟩,.agg ⟨[.int .i64 (0),.int .i64 (1)]⟩],.agg ⟨[.int .i64 (2),.int .i64 (1)]⟩),
 (72,[.agg ⟨[.int .i64 (-1),.int .i64 (1)]⟩,.agg ⟨[.int .i64 (1),.int .i64 (2)]⟩],.agg ⟨[.int .i64 (-1),.int .i64 (2)]⟩),
 (82,[.int .i64 (3),.int .i64 (2)],.agg ⟨[.int .i64 (3),.int .i64 (2)]⟩),
 (71,[.agg ⟨[.int .i64 (2),.int .i64 (1)]⟩,.agg ⟨[.int .i64 (-1),.int .i64 (2)]⟩],.agg ⟨[.int .i64 (3),.int .i64 (2)]⟩),
 (82,[.int .i64 (3),.int .i64 (3)],.agg ⟨[.int .i64 (1),.int .i64 (1)]⟩),
 (72,[.agg ⟨[.int .i64 (0),.int .i64 (1)]⟩,.agg ⟨[.int .i64 (-2),.int .i64 (3)]⟩],.agg ⟨[.int .i64 (0),.int .i64 (1)]⟩),
 (72,[.agg ⟨[.int .i64 (0),.int .i64 (1)]⟩,.agg ⟨[.int .i64 (-4),.int .i64 (3)]⟩],.agg ⟨[.int .i64 (0),.int .i64 (1)]⟩),
 (82,[.int .i64 (3),.int .i64 (1)],.agg ⟨[.int .i64 (3),.int .i64 (1)]⟩),
 (72,[.agg ⟨[.int .i64 (0),.int .i64 (1)]⟩,.agg ⟨[.int .i64 (1),.int .i64 (3)]⟩],.agg ⟨[.int .i64 (0),.int .i64 (1)]⟩),
 (82,[.int .i64 (-3),.int .i64 (3)],.agg ⟨[.int .i64 (-1),.int .i64 (1)]⟩),
 (82,[.int .i64 (4),.int .i64 (3)],.agg ⟨[.int .i64 (4),.int .i64 (3)]⟩),
 (82,[.int .i64 (0),.int .i64 (4)],.agg ⟨[.int .i64 (0),.int .i64 (1)]⟩),
 (72,[.agg ⟨[.int .i64 (0),.int .i64 (1)]⟩,.agg ⟨[.int .i64 (3),.int .i64 (4)]⟩],.agg ⟨[.int .i64 (0),.int .i64 (1)]⟩),
 (72,[.agg ⟨[.int .i64 (0),.int .i64 (1)]⟩,.agg ⟨[.int .i64 (-1),.int .i64 (3)]⟩],.agg ⟨[.int .i64 (0),.int .i64 (1)]⟩),
 (82,[.int .i64 (-3),.int .i64 (2)],.agg ⟨[.int .i64 (-3),.int .i64 (2)]⟩),
 (71,[.agg ⟨[.int .i64 (-1),.int .i64 (1)]⟩,.agg ⟨[.int .i64 (-1),.int .i64 (2)]⟩],.agg ⟨[.int .i64 (-3),.int .i64 (2)]⟩),
 (72,[.agg ⟨[.int .i64 (1),.int .i64 (1)]⟩,.agg ⟨[.int .i64 (-1),.int .i64 (2)]⟩],.agg ⟨[.int .i64 (-1),.int .i64 (2)]⟩),
 (71,[.agg ⟨[.int .i64 (-1),.int .i64 (2)]⟩,.agg ⟨[.int .i64 (1),.int .i64 (2)]⟩],.agg ⟨[.int .i64 (0),.int .i64 (1)]⟩),
 (72,[.agg ⟨[.int .i64 (2),.int .i64 (1)]⟩,.agg ⟨[.int .i64 (1),.int .i64 (2)]⟩],.agg ⟨[.int .i64 (1),.int .i64 (1)]⟩),
 (72,[.agg ⟨[.int .i64 (3),.int .i64 (2)]⟩,.agg ⟨[.int .i64 (2),.int .i64 (3)]⟩],.agg ⟨[.int .i64 (1),.int .i64 (1)]⟩),
 (72,[.agg ⟨[.int .i64 (-2),.int .i64 (3)]⟩,.agg ⟨[.int .i64 (-1),.int .i64 (2)]⟩],.agg ⟨[.int .i64 (1),.int .i64 (3)]⟩),
 (82,[.int .i64 (-4),.int .i64 (3)],.agg ⟨[.int .i64 (-4),.int .i64 (3)]⟩),
 (71,[.agg ⟨[.int .i64 (-1),.int .i64 (1)]⟩,.agg ⟨[.int .i64 (-1),.int .i64 (3)]⟩],.agg ⟨[.int .i64 (-4),.int .i64 (3)]⟩),
 (72,[.agg ⟨[.int .i64 (-1),.int .i64 (1)]⟩,.agg ⟨[.int .i64 (-4),.int .i64 (3)]⟩],.agg ⟨[.int .i64 (4),.int .i64 (3)]⟩),
 (71,[.agg ⟨[.int .i64 (1),.int .i64 (1)]⟩,.agg ⟨[.int .i64 (-1),.int .i64 (1)]⟩],.agg ⟨[.int .i64 (0),.int .i64 (1)]⟩),
 (72,[.agg ⟨[.int .i64 (-3),.int .i64 (2)]⟩,.agg ⟨[.int .i64 (2),.int .i64 (3)]⟩],.agg ⟨[.int .i64 (-1),.int .i64 (1)]⟩),
 (72,[.agg ⟨[.int .i64 (-1),.int .i64 (1)]⟩,.agg ⟨[.int .i64 (2),.int .i64 (3)]⟩],.agg ⟨[.int .i64 (-2),.int .i64 (3)]⟩),
 (72,[.agg ⟨[.int .i64 (-1),.int .i64 (1)]⟩,.agg ⟨[.int .i64 (-1),.int .i64 (2)]⟩],.agg ⟨[.int .i64 (1),.int .i64 (2)]⟩),
 (71,[.agg ⟨[.int .i64 (-1),.int .i64 (2)]⟩,.agg ⟨[.int .i64 (-1),.int .i64 (2)]⟩],.agg ⟨[.int .i64 (-1),.int .i64 (1)]⟩),
 (72,[.agg ⟨[.int .i64 (1),.int .i64 (1)]⟩,.agg ⟨[.int .i64 (-3),.int .i64 (2)]⟩],.agg ⟨[.int .i64 (-3),.int .i64 (2)]⟩),
 (71,[.agg ⟨[.int .i64 (-3),.int .i64 (2)]⟩,.agg ⟨[.int .i64 (3),.int .i64 (2)]⟩],.agg ⟨[.int .i64 (0),.int .i64 (1)]⟩),
 (72,[.agg ⟨[.int .i64 (-1),.int .i64 (1)]⟩,.agg ⟨[.int .i64 (-3),.int .i64 (2)]⟩],.agg ⟨[.int .i64 (3),.int .i64 (2)]⟩),
 (71,[.agg ⟨[.int .i64 (3),.int .i64 (2)]⟩,.agg ⟨[.int .i64 (-3),.int .i64 (2)]⟩],.agg ⟨[.int .i64 (0),.int .i64 (1)]⟩),
 (72,[.agg ⟨[.int .i64 (1),.int .i64 (1)]⟩,.agg ⟨[.int .i64 (-2),.int .i64 (3)]⟩],.agg ⟨[.int .i64 (-2),.int .i64 (3)]⟩),
 (71,[.agg ⟨[.int .i64 (0),.int .i64 (1)]⟩,.agg ⟨[.int .i64 (4),.int .i64 (3)]⟩],.agg ⟨[.int .i64 (4),.int .i64 (3)]⟩),
 (71,[.agg ⟨[.int .i64 (2),.int .i64 (3)]⟩,.agg ⟨[.int .i64 (0),.int .i64 (1)]⟩],.agg ⟨[.int .i64 (2),.int .i64 (3)]⟩),
 (71,[.agg ⟨[.int .i64 (4),.int .i64 (3)]⟩,.agg ⟨[.int .i64 (0),.int .i64 (1)]⟩],.agg ⟨[.int .i64 (4),.int .i64 (3)]⟩),
 (72,[.agg ⟨[.int .i64 (-1),.int .i64 (1)]⟩,.agg ⟨[.int .i64 (-2),.int .i64 (3)]⟩],.agg ⟨[.int .i64 (2),.int .i64 (3)]⟩),
 (71,[.agg ⟨[.int .i64 (1),.int .i64 (1)]⟩,.agg ⟨[.int .i64 (-2),.int .i64 (3)]⟩],.agg ⟨[.int .i64 (1),.int .i64 (3)]⟩),
 (71,[.agg ⟨[.int .i64 (1),.int .i64 (3)]⟩,.agg ⟨[.int .i64 (0),.int .i64 (1)]⟩],.agg ⟨[.int .i64 (1),.int .i64 (3)]⟩),
 (71,[.agg ⟨[.int .i64 (0),.int .i64 (1)]⟩,.agg ⟨[.int .i64 (-1),.int .i64 (2)]⟩],.agg ⟨[.int .i64 (-1),.int .i64 (2)]⟩),
 (72,[.agg ⟨[.int .i64 (-1),.int .i64 (2)]⟩,.agg ⟨[.int .i64 (0),.int .i64 (1)]⟩],.agg ⟨[.int .i64 (0),.int .i64 (1)]⟩),
 (72,[.agg ⟨[.int .i64 (-1),.int .i64 (3)]⟩,.agg ⟨[.int .i64 (-1),.int .i64 (2)]⟩],.agg ⟨[.int .i64 (1),.int .i64 (6)]⟩),
 (71,[.agg ⟨[.int .i64 (-1),.int .i64 (1)]⟩,.agg ⟨[.int .i64 (-1),.int .i64 (1)]⟩],.agg ⟨[.int .i64 (-2),.int .i64 (1)]⟩),
 (71,[.agg ⟨[.int .i64 (-2),.int .i64 (1)]⟩,.agg ⟨[.int .i64 (0),.int .i64 (1)]⟩],.agg ⟨[.int .i64 (-2),.int .i64 (1)]⟩),
 (72,[.agg ⟨[.int .i64 (-2),.int .i64 (1)]⟩,.agg ⟨[.int .i64 (1),.int .i64 (2)]⟩],.agg ⟨[.int .i64 (-1),.int .i64 (1)]⟩),
 (71,[.agg ⟨[.int .i64 (2),.int .i64 (1)]⟩,.agg ⟨[.int .i64 (-1),.int .i64 (1)]⟩],.agg ⟨[.int .i64 (1),.int .i64 (1)]⟩),
 (72,[.agg ⟨[.int .i64 (-2),.int .i64 (3)]⟩,.agg ⟨[.int .i64 (-3),.int .i64 (2)]⟩],.agg ⟨[.int .i64 (1),.int .i64 (1)]⟩),
 (71,[.agg ⟨[.int .i64 (4),.int .i64 (3)]⟩,.agg ⟨[.int .i64 (-2),.int .i64 (3)]⟩],.agg ⟨[.int .i64 (2),.int .i64 (3)]⟩),
 (71,[.agg ⟨[.int .i64 (0),.int .i64 (1)]⟩,.agg ⟨[.int .i64 (2),.int .i64 (3)]⟩],.agg ⟨[.int .i64 (2),.int .i64 (3)]⟩),
 (71,[.agg ⟨[.int .i64 (1),.int .i64 (1)]⟩,.agg ⟨[.int .i64 (-4),.int .i64 (3)]⟩],.agg ⟨[.int .i64 (-1),.int .i64 (3)]⟩),
 (71,[.agg ⟨[.int .i64 (-1),.int .i64 (3)]⟩,.agg ⟨[.int .i64 (0),.int .i64 (1)]⟩],.agg ⟨[.int .i64 (-1),.int .i64 (3)]⟩),
 (72,[.agg ⟨[.int .i64 (-1),.int .i64 (2)]⟩,.agg ⟨[.int .i64 (2),.int .i64 (3)]⟩],.agg ⟨[.int .i64 (-1),.int .i64 (3)]⟩),
 (71,[.agg ⟨[.int .i64 (0),.int .i64 (1)]⟩,.agg ⟨[.int .i64 (-1),.int .i64 (3)]⟩],.agg ⟨[.int .i64 (-1),.int .i64 (3)]⟩),
 (82,[.int .i64 (-4),.int .i64 (6)],.agg ⟨[.int .i64 (-2),.int .i64 (3)]⟩),
 (71,[.agg ⟨[.int .i64 (-1),.int .i64 (2)]⟩,.agg ⟨[.int .i64 (-1),.int .i64 (6)]⟩],.agg ⟨[.int .i64 (-2),.int .i64 (3)]⟩),
 (72,[.agg ⟨[.int .i64 (-2),.int .i64 (3)]⟩,.agg ⟨[.int .i64 (-1),.int .i64 (1)]⟩],.agg ⟨[.int .i64 (2),.int .i64 (3)]⟩),
 (71,[.agg ⟨[.int .i64 (2),.int .i64 (1)]⟩,.agg ⟨[.int .i64 (-2),.int .i64 (3)]⟩],.agg ⟨[.int .i64 (4),.int .i64 (3)]⟩),
 (72,[.agg ⟨[.int .i64 (-1),.int .i64 (3)]⟩,.agg ⟨[.int .i64 (-1),.int .i64 (1)]⟩],.agg ⟨[.int .i64 (1),.int .i64 (3)]⟩),
 (82,[.int .i64 (8),.int .i64 (6)],.agg ⟨[.int .i64 (4),.int .i64 (3)]⟩),
 (71,[.agg ⟨[.int .i64 (3),.int .i64 (2)]⟩,.agg ⟨[.int .i64 (-1),.int .i64 (6)]⟩],.agg ⟨[.int .i64 (4),.int .i64 (3)]⟩),
 (82,[.int .i64 (4),.int .i64 (4)],.agg ⟨[.int .i64 (1),.int .i64 (1)]⟩),
 (72,[.agg ⟨[.int .i64 (4),.int .i64 (3)]⟩,.agg ⟨[.int .i64 (3),.int .i64 (4)]⟩],.agg ⟨[.int .i64 (1),.int .i64 (1)]⟩),
 (82,[.int .i64 (-4),.int .i64 (4)],.agg ⟨[.int .i64 (-1),.int .i64 (1)]⟩),
 (72,[.agg ⟨[.int .i64 (-4),.int .i64 (3)]⟩,.agg ⟨[.int .i64 (3),.int .i64 (4)]⟩],.agg ⟨[.int .i64 (-1),.int .i64 (1)]⟩),
 (72,[.agg ⟨[.int .i64 (1),.int .i64 (1)]⟩,.agg ⟨[.int .i64 (-1),.int .i64 (3)]⟩],.agg ⟨[.int .i64 (-1),.int .i64 (3)]⟩),
 (71,[.agg ⟨[.int .i64 (-1),.int .i64 (3)]⟩,.agg ⟨[.int .i64 (1),.int .i64 (3)]⟩],.agg ⟨[.int .i64 (0),.int .i64 (1)]⟩),
 (72,[.agg ⟨[.int .i64 (-1),.int .i64 (1)]⟩,.agg ⟨[.int .i64 (-1),.int .i64 (3)]⟩],.agg ⟨[.int .i64 (1),.int .i64 (3)]⟩),
 (71,[.agg ⟨[.int .i64 (-2),.int .i64 (3)]⟩,.agg ⟨[.int .i64 (-1),.int .i64 (3)]⟩],.agg ⟨[.int .i64 (-1),.int .i64 (1)]⟩),
 (71,[.agg ⟨[.int .i64 (-2),.int .i64 (3)]⟩,.agg ⟨[.int .i64 (2),.int .i64 (3)]⟩],.agg ⟨[.int .i64 (0),.int .i64 (1)]⟩),
 (71,[.agg ⟨[.int .i64 (-1),.int .i64 (3)]⟩,.agg ⟨[.int .i64 (-2),.int .i64 (3)]⟩],.agg ⟨[.int .i64 (-1),.int .i64 (1)]⟩),
 (72,[.agg ⟨[.int .i64 (1),.int .i64 (1)]⟩,.agg ⟨[.int .i64 (-4),.int .i64 (3)]⟩],.agg ⟨[.int .i64 (-4),.int .i64 (3)]⟩),
 (71,[.agg ⟨[.int .i64 (-4),.int .i64 (3)]⟩,.agg ⟨[.int .i64 (4),.int .i64 (3)]⟩],.agg ⟨[.int .i64 (0),.int .i64 (1)]⟩),
 (71,[.agg ⟨[.int .i64 (4),.int .i64 (3)]⟩,.agg ⟨[.int .i64 (-4),.int .i64 (3)]⟩],.agg ⟨[.int .i64 (0),.int .i64 (1)]⟩),
 (71,[.agg ⟨[.int .i64 (2),.int .i64 (1)]⟩,.agg ⟨[.int .i64 (1),.int .i64 (1)]⟩],.agg ⟨[.int .i64 (3),.int .i64 (1)]⟩),
 (72,[.agg ⟨[.int .i64 (3),.int .i64 (1)]⟩,.agg ⟨[.int .i64 (1),.int .i64 (3)]⟩],.agg ⟨[.int .i64 (1),.int .i64 (1)]⟩)]
def mid:List Fact1:=[
 (77,[.agg ⟨[.int .i64 (2),.int .i64 (1),.int .i64 (-1),.int .i64 (1),.int .i64 (-1),.int .i64 (1),.int .i64 (0),.int .i64 (1),.int .i64 (0),.int .i64 (1),.int .i64 (0),.int .i64 (1),.int .i64 (-2),.int .i64 (1)]⟩,.agg ⟨[.int .i64 (2),.int .i64 (1)]⟩],.agg ⟨[.int .i64 (1),.int .i64 (1),.int .i64 (-1),.int .i64 (2),.int .i64 (-1),.int .i64 (2),.int .i64 (0),.int .i64 (1),.int .i64 (0),.int .i64 (1),.int .i64 (0),.int .i64 (1),.int .i64 (-1),.int .i64 (1)]⟩),
 (78,[.agg ⟨[.int .i64 (-1),.int .i64 (1),.int .i64 (2),.int .i64 (1),.int .i64 (-1),.int .i64 (1),.int .i64 (0),.int .i64 (1),.int .i64 (0),.int .i64 (1),.int .i64 (0),.int .i64 (1),.int .i64 (0),.int .i64 (1)]⟩,.agg ⟨[.int .i64 (1),.int .i64 (1),.int .i64 (-1),.int .i64 (2),.int .i64 (-1),.int .i64 (2),.int .i64 (0),.int .i64 (1),.int .i64 (0),.int .i64 (1),.int .i64 (0),.int .i64 (1),.int .i64 (-1),.int .i64 (1)]⟩,.int .i64 (0)],.agg ⟨[.int .i64 (0),.int .i64 (1),.int .i64 (3),.int .i64 (2),.int .i64 (-3),.int .i64 (2),.int .i64 (0),.int .i64 (1),.int .i64 (0),.int .i64 (1),.int .i64 (0),.int .i64 (1),.int .i64 (-1),.int .i64 (1)]⟩),
 (78,[.agg ⟨[.int .i64 (-1),.int .i64 (1),.int .i64 (-1),.int .i64 (1),.int .i64 (2),.int .i64 (1),.int .i64 (0),.int .i64 (1),.int .i64 (0),.int .i64 (1),.int .i64 (0),.int .i64 (1),.int .i64 (2),.int .i64 (1)]⟩,.agg ⟨[.int .i64 (1),.int .i64 (1),.int .i64 (-1),.int .i64 (2),.int .i64 (-1),.int .i64 (2),.int .i64 (0),.int .i64 (1),.int .i64 (0),.int .i64 (1),.int .i64 (0),.int .i64 (1),.int .i64 (-1),.int .i64 (1)]⟩,.int .i64 (0)],.agg ⟨[.int .i64 (0),.int .i64 (1),.int .i64 (-3),.int .i64 (2),.int .i64 (3),.int .i64 (2),.int .i64 (0),.int .i64 (1),.int .i64 (0),.int .i64 (1),.int .i64 (0),.int .i64 (1),.int .i64 (1),.int .i64 (1)]⟩),
 (77,[.agg ⟨[.int .i64 (0),.int .i64 (1),.int .i64 (3),.int .i64 (2),.int .i64 (-3),.int .i64 (2),.int .i64 (0),.int .i64 (1),.int .i64 (0),.int .i64 (1),.int .i64 (0),.int .i64 (1),.int .i64 (-1),.int .i64 (1)]⟩,.agg ⟨[.int .i64 (3),.int .i64 (2)]⟩],.agg ⟨[.int .i64 (0),.int .i64 (1),.int .i64 (1),.int .i64 (1),.int .i64 (-1),.int .i64 (1),.int .i64 (0),.int .i64 (1),.int .i64 (0),.int .i64 (1),.int .i64 (0),.int .i64 (1),.int .i64 (-2),.int .i64 (3)]⟩),
 (78,[.agg ⟨[.int .i64 (1),.int .i64 (1),.int .i64 (-1),.int .i64 (2),.int .i64 (-1),.int .i64 (2),.int .i64 (0),.int .i64 (1),.int .i64 (0),.int .i64 (1),.int .i64 (0),.int .i64 (1),.int .i64 (-1),.int .i64 (1)]⟩,.agg ⟨[.int .i64 (0),.int .i64 (1),.int .i64 (1),.int .i64 (1),.int .i64 (-1),.int .i64 (1),.int .i64 (0),.int .i64 (1),.int .i64 (0),.int .i64 (1),.int .i64 (0),.int .i64 (1),.int .i64 (-2),.int .i64 (3)]⟩,.int .i64 (1)],.agg ⟨[.int .i64 (1),.int .i64 (1),.int .i64 (0),.int .i64 (1),.int .i64 (-1),.int .i64 (1),.int .i64 (0),.int .i64 (1),.int .i64 (0),.int .i64 (1),.int .i64 (0),.int .i64 (1),.int .i64 (-4),.int .i64 (3)]⟩),
 (78,[.agg ⟨[.int .i64 (0),.int .i64 (1),.int .i64 (-3),.int .i64 (2),.int .i64 (3),.int .i64 (2),.int .i64 (0),.int .i64 (1),.int .i64 (0),.int .i64 (1),.int .i64 (0),.int .i64 (1),.int .i64 (1),.int .i64 (1)]⟩,.agg ⟨[.int .i64 (0),.int .i64 (1),.int .i64 (1),.int .i64 (1),.int .i64 (-1),.int .i64 (1),.int .i64 (0),.int .i64 (1),.int .i64 (0),.int .i64 (1),.int .i64 (0),.int .i64 (1),.int .i64 (-2),.int .i64 (3)]⟩,.int .i64 (1)],.agg ⟨[.int .i64 (0),.int .i64 (1),.int .i64 (0),.int .i64 (1),.int .i64 (0),.int .i64 (1),.int .i64 (0),.int .i64 (1),.int .i64 (0),.int .i64 (1),.int .i64 (0),.int .i64 (1),.int .i64 (0),.int .i64 (1)]⟩),
 (77,[.agg ⟨[.int .i64 (2),.int .i64 (1),.int .i64 (-1),.int .i64 (1),.int .i64 (0),.int .i64 (1),.int .i64 (-1),.int .i64 (1),.int .i64 (0),.int .i64 (1),.int .i64 (0),.int .i64 (1),.int .i64 (0),.int .i64 (1)]⟩,.agg ⟨[.int .i64 (2),.int .i64 (1)]⟩],.agg ⟨[.int .i64 (1),.int .i64 (1),.int .i64 (-1),.int .i64 (2),.int .i64 (0),.int .i64 (1),.int .i64 (-1),.int .i64 (2),.int .i64 (0),.int .i64 (1),.int .i64 (0),.int .i64 (1),.int .i64 (0),.int .i64 (1)]⟩),
 (78,[.agg ⟨[.int .i64 (-1),.int .i64 (1),.int .i64 (2),.int .i64 (1),.int .i64 (-1),.int .i64 (1),.int .i64 (0),.int .i64 (1),.int .i64 (0),.int .i64 (1),.int .i64 (0),.int .i64 (1),.int .i64 (0),.int .i64 (1)]⟩,.agg ⟨[.int .i64 (1),.int .i64 (1),.int .i64 (-1),.int .i64 (2),.int .i64 (0),.int .i64 (1),.int .i64 (-1),.int .i64 (2),.int .i64 (0),.int .i64 (1),.int .i64 (0),.int .i64 (1),.int .i64 (0),.int .i64 (1)]⟩,.int .i64 (0)],.agg ⟨[.int .i64 (0),.int .i64 (1),.int .i64 (3),.int .i64 (2),.int .i64 (-1),.int .i64 (1),.int .i64 (-1),.int .i64 (2),.int .i64 (0),.int .i64 (1),.int .i64 (0),.int .i64 (1),.int .i64 (0),.int .i64 (1)]⟩),
 (78,[.agg ⟨[.int .i64 (0),.int .i64 (1),.int .i64 (-1),.int .i64 (1),.int .i64 (2),.int .i64 (1),.int .i64 (-1),.int .i64 (1),.int .i64 (0),.int .i64 (1),.int .i64 (0),.int .i64 (1),.int .i64 (0),.int .i64 (1)]⟩,.agg ⟨[.int .i64 (1),.int .i64 (1),.int .i64 (-1),.int .i64 (2),.int .i64 (0),.int .i64 (1),.int .i64 (-1),.int .i64 (2),.int .i64 (0),.int .i64 (1),.int .i64 (0),.int .i64 (1),.int .i64 (0),.int .i64 (1)]⟩,.int .i64 (0)],.agg ⟨[.int .i64 (0),.int .i64 (1),.int .i64 (-1),.int .i64 (1),.int .i64 (2),.int .i64 (1),.int .i64 (-1),.int .i64 (1),.int .i64 (0),.int .i64 (1),.int .i64 (0),.int .i64 (1),.int .i64 (0),.int .i64 (1)]⟩),
 (78,[.agg ⟨[.int .i64 (-1),.int .i64 (1),.int .i64 (0),.int .i64 (1),.int .i64 (-1),.int .i64 (1),.int .i64 (2),.int .i64 (1),.int .i64 (0),.int .i64 (1),.int .i64 (0),.int .i64 (1),.int .i64 (0),.int .i64 (1)]⟩,.agg ⟨[.int .i64 (1),.int .i64 (1),.int .i64 (-1),.int .i64 (2),.int .i64 (0),.int .i64 (1),.int .i64 (-1),.int .i64 (2),.int .i64 (0),.int .i64 (1),.int .i64 (0),.int .i64 (1),.int .i64 (0),.int .i64 (1)]⟩,.int .i64 (0)],.agg ⟨[.int .i64 (0),.int .i64 (1),.int .i64 (-1),.int .i64 (2),.int .i64 (-1),.int .i64 (1),.int .i64 (3),.int .i64 (2),.int .i64 (0),.int .i64 (1),.int .i64 (0),.int .i64 (1),.int .i64 (0),.int .i64 (1)]⟩),
 (77,[.agg ⟨[.int .i64 (0),.int .i64 (1),.int .i64 (3),.int .i64 (2),.int .i64 (-1),.int .i64 (1),.int .i64 (-1),.int .i64 (2),.int .i64 (0),.int .i64 (1),.int .i64 (0),.int .i64 (1),.int .i64 (0),.int .i64 (1)]⟩,.agg ⟨[.int .i64 (3),.int .i64 (2)]⟩],.agg ⟨[.int .i64 (0),.int .i64 (1),.int .i64 (1),.int .i64 (1),.int .i64 (-2),.int .i64 (3),.int .i64 (-1),.int .i64 (3),.int .i64 (0),.int .i64 (1),.int .i64 (0),.int .i64 (1),.int .i64 (0),.int .i64 (1)]⟩),
 (78,[.agg ⟨[.int .i64 (1),.int .i64 (1),.int .i64 (-1),.int .i64 (2),.int .i64 (0),.int .i64 (1),.int .i64 (-1),.int .i64 (2),.int .i64 (0),.int .i64 (1),.int .i64 (0),.int .i64 (1),.int .i64 (0),.int .i64 (1)]⟩,.agg ⟨[.int .i64 (0),.int .i64 (1),.int .i64 (1),.int .i64 (1),.int .i64 (-2),.int .i64 (3),.int .i64 (-1),.int .i64 (3),.int .i64 (0),.int .i64 (1),.int .i64 (0),.int .i64 (1),.int .i64 (0),.int .i64 (1)]⟩,.int .i64 (1)],.agg ⟨[.int .i64 (1),.int .i64 (1),.int .i64 (0),.int .i64 (1),.int .i64 (-1),.int .i64 (3),.int .i64 (-2),.int .i64 (3),.int .i64 (0),.int .i64 (1),.int .i64 (0),.int .i64 (1),.int .i64 (0),.int .i64 (1)]⟩),
 (78,[.agg ⟨[.int .i64 (0),.int .i64 (1),.int .i64 (-1),.int .i64 (1),.int .i64 (2),.int .i64 (1),.int .i64 (-1),.int .i64 (1),.int .i64 (0),.int .i64 (1),.int .i64 (0),.int .i64 (1),.int .i64 (0),.int .i64 (1)]⟩,.agg ⟨[.int .i64 (0),.int .i64 (1),.int .i64 (1),.int .i64 (1),.int .i64 (-2),.int .i64 (3),.int .i64 (-1),.int .i64 (3),.int .i64 (0),.int .i64 (1),.int .i64 (0),.int .i64 (1),.int .i64 (0),.int .i64 (1)]⟩,.int .i64 (1)],.agg ⟨[.int .i64 (0),.int .i64 (1),.int .i64 (0),.int .i64 (1),.int .i64 (4),.int .i64 (3),.int .i64 (-4),.int .i64 (3),.int .i64 (0),.int .i64 (1),.int .i64 (0),.int .i64 (1),.int .i64 (0),.int .i64 (1)]⟩),
 (78,[.agg ⟨[.int .i64 (0),.int .i64 (1),.int .i64 (-1),.int .i64 (2),.int .i64 (-1),.int .i64 (1),.int .i64 (3),.int .i64 (2),.int .i64 (0),.int .i64 (1),.int .i64 (0),.int .i64 (1),.int .i64 (0),.int .i64 (1)]⟩,.agg ⟨[.int .i64 (0),.int .i64 (1),.int .i64 (1),.int .i64 (1),.int .i64 (-2),.int .i64 (3),.int .i64 (-1),.int .i64 (3),.int .i64 (0),.int .i64 (1),.int .i64 (0),.int .i64 (1),.int .i64 (0),.int .i64 (1)]⟩,.int .i64 (1)],.agg ⟨[.int .i64 (0),.int .i64 (1),.int .i64 (0),.int .i64 (1),.int .i64 (-4),.int .i64 (3),.int .i64 (4),.int .i64 (3),.int .i64 (0),.int .i64 (1),.int .i64 (0),.int .i64 (1),.int .i64 (0),.int .i64 (1)]⟩),
 (77,[.agg ⟨[.int .i64 (0),.int .i64 (1),.int .i64 (0),.int .i64 (1),.int .i64 (4),.int .i64 (3),.int .i64 (-4),.int .i64 (3),.int .i64 (0),.int .i64 (1),.int .i64 (0),.int .i64 (1),.int .i64 (0),.int .i64 (1)]⟩,.agg ⟨[.int .i64 (4),.int .i64 (3)]⟩],.agg ⟨[.int .i64 (0),.int .i64 (1),.int .i64 (0),.int .i64 (1),.int .i64 (1),.int .i64 (1),.int .i64 (-1),.int .i64 (1),.int .i64 (0),.int .i64 (1),.int .i64 (0),.int .i64 (1),.int .i64 (0),.int .i64 (1)]⟩),
 (78,[.agg ⟨[.int .i64 (1),.int .i64 (1),.int .i64 (0),.int .i64 (1),.int .i64 (-1),.int .i64 (3),.int .i64 (-2),.int .i64 (3),.int .i64 (0),.int .i64 (1),.int .i64 (0),.int .i64 (1),.int .i64 (0),.int .i64 (1)]⟩,.agg ⟨[.int .i64 (0),.int .i64 (1),.int .i64 (0),.int .i64 (1),.int .i64 (1),.int .i64 (1),.int .i64 (-1),.int .i64 (1),.int .i64 (0),.int .i64 (1),.int .i64 (0),.int .i64 (1),.int .i64 (0),.int .i64 (1)]⟩,.int .i64 (2)],.agg ⟨[.int .i64 (1),.int .i64 (1),.int .i64 (0),.int .i64 (1),.int .i64 (0),.int .i64 (1),.int .i64 (-1),.int .i64 (1),.int .i64 (0),.int .i64 (1),.int .i64 (0),.int .i64 (1),.int .i64 (0),.int .i64 (1)]⟩),
 (78,[.agg ⟨[.int .i64 (0),.int .i64 (1),.int .i64 (1),.int .i64 (1),.int .i64 (-2),.int .i64 (3),.int .i64 (-1),.int .i64 (3),.int .i64 (0),.int .i64 (1),.int .i64 (0),.int .i64 (1),.int .i64 (0),.int .i64 (1)]⟩,.agg ⟨[.int .i64 (0),.int .i64 (1),.int .i64 (0),.int .i64 (1),.int .i64 (1),.int .i64 (1),.int .i64 (-1),.int .i64 (1),.int .i64 (0),.int .i64 (1),.int .i64 (0),.int .i64 (1),.int .i64 (0),.int .i64 (1)]⟩,.int .i64 (2)],.agg ⟨[.int .i64 (0),.int .i64 (1),.int .i64 (1),.int .i64 (1),.int .i64 (0),.int .i64 (1),.int .i64 (-1),.int .i64 (1),.int .i64 (0),.int .i64 (1),.int .i64 (0),.int .i64 (1),.int .i64 (0),.int .i64 (1)]⟩),
 (78,[.agg ⟨[.int .i64 (0),.int .i64 (1),.int .i64 (0),.int .i64 (1),.int .i64 (-4),.int .i64 (3),.int .i64 (4),.int .i64 (3),.int .i64 (0),.int .i64 (1),.int .i64 (0),.int .i64 (1),.int .i64 (0),.int .i64 (1)]⟩,.agg ⟨[.int .i64 (0),.int .i64 (1),.int .i64 (0),.int .i64 (1),.int .i64 (1),.int .i64 (1),.int .i64 (-1),.int .i64 (1),.int .i64 (0),.int .i64 (1),.int .i64 (0),.int .i64 (1),.int .i64 (0),.int .i64 (1)]⟩,.int .i64 (2)],.agg ⟨[.int .i64 (0),.int .i64 (1),.int .i64 (0),.int .i64 (1),.int .i64 (0),.int .i64 (1),.int .i64 (0),.int .i64 (1),.int .i64 (0),.int .i64 (1),.int .i64 (0),.int .i64 (1),.int .i64 (0),.int .i64 (1)]⟩),
 (77,[.agg ⟨[.int .i64 (2),.int .i64 (1),.int .i64 (-1),.int .i64 (1),.int .i64 (-1),.int .i64 (1),.int .i64 (0),.int .i64 (1),.int .i64 (0),.int .i64 (1),.int .i64 (0),.int .i64 (1),.int .i64 (0),.int .i64 (1)]⟩,.agg ⟨[.int .i64 (2),.int .i64 (1)]⟩],.agg ⟨[.int .i64 (1),.int .i64 (1),.int .i64 (-1),.int .i64 (2),.int .i64 (-1),.int .i64 (2),.int .i64 (0),.int .i64 (1),.int .i64 (0),.int .i64 (1),.int .i64 (0),.int .i64 (1),.int .i64 (0),.int .i64 (1)]⟩),
 (78,[.agg ⟨[.int .i64 (-1),.int .i64 (1),.int .i64 (2),.int .i64 (1),.int .i64 (-1),.int .i64 (1),.int .i64 (0),.int .i64 (1),.int .i64 (0),.int .i64 (1),.int .i64 (0),.int .i64 (1),.int .i64 (0),.int .i64 (1)]⟩,.agg ⟨[.int .i64 (1),.int .i64 (1),.int .i64 (-1),.int .i64 (2),.int .i64 (-1),.int .i64 (2),.int .i64 (0),.int .i64 (1),.int .i64 (0),.int .i64 (1),.int .i64 (0),.int .i64 (1),.int .i64 (0),.int .i64 (1)]⟩,.int .i64 (0)],.agg ⟨[.int .i64 (0),.int .i64 (1),.int .i64 (3),.int .i64 (2),.int .i64 (-3),.int .i64 (2),.int .i64 (0),.int .i64 (1),.int .i64 (0),.int .i64 (1),.int .i64 (0),.int .i64 (1),.int .i64 (0),.int .i64 (1)]⟩),
 (78,[.agg ⟨[.int .i64 (-1),.int .i64 (1),.int .i64 (-1),.int .i64 (1),.int .i64 (2),.int .i64 (1),.int .i64 (0),.int .i64 (1),.int .i64 (0),.int .i64 (1),.int .i64 (0),.int .i64 (1),.int .i64 (0),.int .i64 (1)]⟩,.agg ⟨[.int .i64 (1),.int .i64 (1),.int .i64 (-1),.int .i64 (2),.int .i64 (-1),.int .i64 (2),.int .i64 (0),.int .i64 (1),.int .i64 (0),.int .i64 (1),.int .i64 (0),.int .i64 (1),.int .i64 (0),.int .i64 (1)]⟩,.int .i64 (0)],.agg ⟨[.int .i64 (0),.int .i64 (1),.int .i64 (-3),.int .i64 (2),.int .i64 (3),.int .i64 (2),.int .i64 (0),.int .i64 (1),.int .i64 (0),.int .i64 (1),.int .i64 (0),.int .i64 (1),.int .i64 (0),.int .i64 (1)]⟩),
 (77,[.agg ⟨[.int .i64 (0),.int .i64 (1),.int .i64 (3),.int .i64 (2),.int .i64 (-3),.int .i64 (2),.int .i64 (0),.int .i64 (1),.int .i64 (0),.int .i64 (1),.int .i64 (0),.int .i64 (1),.int .i64 (0),.int .i64 (1)]⟩,.agg ⟨[.int .i64 (3),.int .i64 (2)]⟩],.agg ⟨[.int .i64 (0),.int .i64 (1),.int .i64 (1),.int .i64 (1),.int .i64 (-1),.int .i64 (1),.int .i64 (0),.int .i64 (1),.int .i64 (0),.int .i64 (1),.int .i64 (0),.int .i64 (1),.int .i64 (0),.int .i64 (1)]⟩),
 (78,[.agg ⟨[.int .i64 (1),.int .i64 (1),.int .i64 (-1),.int .i64 (2),.int .i64 (-1),.int .i64 (2),.int .i64 (0),.int .i64 (1),.int .i64 (0),.int .i64 (1),.int .i64 (0),.int .i64 (1),.int .i64 (0),.int .i64 (1)]⟩,.agg ⟨[.int .i64 (0),.int .i64 (1),.int .i64 (1),.int .i64 (1),.int .i64 (-1),.int .i64 (1),.int .i64 (0),.int .i64 (1),.int .i64 (0),.int .i64 (1),.int .i64 (0),.int .i64 (1),.int .i64 (0),.int .i64 (1)]⟩,.int .i64 (1)],.agg ⟨[.int .i64 (1),.int .i64 (1),.int .i64 (0),.int .i64 (1),.int .i64 (-1),.int .i64 (1),.int .i64 (0),.int .i64 (1),.int .i64 (0),.int .i64 (1),.int .i64 (0),.int .i64 (1),.int .i64 (0),.int .i64 (1)]⟩),
 (78,[.agg ⟨[.int .i64 (0),.int .i64 (1),.int .i64 (-3),.int .i64 (2),.int .i64 (3),.int .i64 (2),.int .i64 (0),.int .i64 (1),.int .i64 (0),.int .i64 (1),.int .i64 (0),.int .i64 (1),.int .i64 (0),.int .i64 (1)]⟩,.agg ⟨[.int .i64 (0),.int .i64 (1),.int .i64 (1),.int .i64 (1),.int .i64 (-1),.int .i64 (1),.int .i64 (0),.int .i64 (1),.int .i64 (0),.int .i64 (1),.int .i64 (0),.int .i64 (1),.int .i64 (0),.int .i64 (1)]⟩,.int .i64 (1)],.agg ⟨[.int .i64 (0),.int .i64 (1),.int .i64 (0),.int .i64 (1),.int .i64 (0),.int .i64 (1),.int .i64 (0),.int .i64 (1),.int .i64 (0),.int .i64 (1),.int .i64 (0),.int .i64 (1),.int .i64 (0),.int .i64 (1)]⟩),
 (77,[.agg ⟨[.int .i64 (3),.int .i64 (1),.int .i64 (0),.int .i64 (1),.int .i64 (0),.int .i64 (1),.int .i64 (0),.int .i64 (1),.int .i64 (0),.int .i64 (1),.int .i64 (0),.int .i64 (1),.int .i64 (0),.int .i64 (1)]⟩,.agg ⟨[.int .i64 (3),.int .i64 (1)]⟩],.agg ⟨[.int .i64 (1),.int .i64 (1),.int .i64 (0),.int .i64 (1),.int .i64 (0),.int .i64 (1),.int .i64 (0),.int .i64 (1),.int .i64 (0),.int .i64 (1),.int .i64 (0),.int .i64 (1),.int .i64 (0),.int .i64 (1)]⟩)]
def top:List Fact1:=[
 (71,[.agg ⟨[.int .i64 (0),.int .i64 (1)]⟩,.agg ⟨[.int .i64 (0),.int .i64 (1)]⟩],.agg ⟨[.int .i64 (0),.int .i64 (1)]⟩),
 (72,[.agg ⟨[.int .i64 (0),.int .i64 (1)]⟩,.agg ⟨[.int .i64 (0),.int .i64 (1)]⟩],.agg ⟨[.int .i64 (0),.int .i64 (1)]⟩),
 (72,[.agg ⟨[.int .i64 (1),.int .i64 (1)]⟩,.agg ⟨[.int .i64 (0),.int .i64 (1)]⟩],.agg ⟨[.int .i64 (0),.int .i64 (1)]⟩),
 (71,[.agg ⟨[.int .i64 (-1),.int .i64 (1)]⟩,.agg ⟨[.int .i64 (0),.int .i64 (1)]⟩],.agg ⟨[.int .i64 (-1),.int .i64 (1)]⟩),
 (72,[.agg ⟨[.int .i64 (-1),.int .i64 (1)]⟩,.agg ⟨[.int .i64 (0),.int .i64 (1)]⟩],.agg ⟨[.int .i64 (0),.int .i64 (1)]⟩),
 (71,[.agg ⟨[.int .i64 (0),.int .i64 (1)]⟩,.agg ⟨[.int .i64 (-1),.int .i64 (1)]⟩],.agg ⟨[.int .i64 (-1),.int .i64 (1)]⟩),
 (72,[.agg ⟨[.int .i64 (0),.int .i64 (1)]⟩,.agg ⟨[.int .i64 (1),.int .i64 (1)]⟩],.agg ⟨[.int .i64 (0),.int .i64 (1)]⟩),
 (72,[.agg ⟨[.int .i64 (1),.int .i64 (1)]⟩,.agg ⟨[.int .i64 (1),.int .i64 (1)]⟩],.agg ⟨[.int .i64 (1),.int .i64 (1)]⟩),
 (72,[.agg ⟨[.int .i64 (0),.int .i64 (1)]⟩,.agg ⟨[.int .i64 (-1),.int .i64 (1)]⟩],.agg ⟨[.int .i64 (0),.int .i64 (1)]⟩),
 (71,[.agg ⟨[.int .i64 (0),.int .i64 (1)]⟩,.agg ⟨[.int .i64 (1),.int .i64 (1)]⟩],.agg ⟨[.int .i64 (1),.int .i64 (1)]⟩),
 (72,[.agg ⟨[.int .i64 (-1),.int .i64 (1)]⟩,.agg ⟨[.int .i64 (1),.int .i64 (1)]⟩],.agg ⟨[.int .i64 (-1),.int .i64 (1)]⟩),
 (71,[.agg ⟨[.int .i64 (1),.int .i64 (1)]⟩,.agg ⟨[.int .i64 (1),.int .i64 (1)]⟩],.agg ⟨[.int .i64 (2),.int .i64 (1)]⟩),
 (72,[.agg ⟨[.int .i64 (-1),.int .i64 (1)]⟩,.agg ⟨[.int .i64 (-1),.int .i64 (1)]⟩],.agg ⟨[.int .i64 (1),.int .i64 (1)]⟩),
 (72,[.agg ⟨[.int .i64 (1),.int .i64 (1)]⟩,.agg ⟨[.int .i64 (-1),.int .i64 (1)]⟩],.agg ⟨[.int .i64 (-1),.int .i64 (1)]⟩),
 (71,[.agg ⟨[.int .i64 (2),.int .i64 (1)]⟩,.agg ⟨[.int .i64 (0),.int .i64 (1)]⟩],.agg ⟨[.int .i64 (2),.int .i64 (1)]⟩),
 (71,[.agg ⟨[.int .i64 (1),.int .i64 (1)]⟩,.agg ⟨[.int .i64 (0),.int .i64 (1)]⟩],.agg ⟨[.int .i64 (1),.int .i64 (1)]⟩),
 (72,[.agg ⟨[.int .i64 (-1),.int .i64 (1)]⟩,.agg ⟨[.int .i64 (-4),.int .i64 (3)]⟩],.agg ⟨[.int .i64 (4),.int .i64 (3)]⟩),
 (71,[.agg ⟨[.int .i64 (0),.int .i64 (1)]⟩,.agg ⟨[.int .i64 (4),.int .i64 (3)]⟩],.agg ⟨[.int .i64 (4),.int .i64 (3)]⟩),
 (71,[.agg ⟨[.int .i64 (2),.int .i64 (3)]⟩,.agg ⟨[.int .i64 (0),.int .i64 (1)]⟩],.agg ⟨[.int .i64 (2),.int .i64 (3)]⟩),
 (71,[.agg ⟨[.int .i64 (4),.int .i64 (3)]⟩,.agg ⟨[.int .i64 (0),.int .i64 (1)]⟩],.agg ⟨[.int .i64 (4),.int .i64 (3)]⟩),
 (71,[.agg ⟨[.int .i64 (1),.int .i64 (1)]⟩,.agg ⟨[.int .i64 (-2),.int .i64 (3)]⟩],.agg ⟨[.int .i64 (1),.int .i64 (3)]⟩),
 (71,[.agg ⟨[.int .i64 (1),.int .i64 (3)]⟩,.agg ⟨[.int .i64 (0),.int .i64 (1)]⟩],.agg ⟨[.int .i64 (1),.int .i64 (3)]⟩),
 (71,[.agg ⟨[.int .i64 (-1),.int .i64 (1)]⟩,.agg ⟨[.int .i64 (-1),.int .i64 (1)]⟩],.agg ⟨[.int .i64 (-2),.int .i64 (1)]⟩),
 (71,[.agg ⟨[.int .i64 (-2),.int .i64 (1)]⟩,.agg ⟨[.int .i64 (0),.int .i64 (1)]⟩],.agg ⟨[.int .i64 (-2),.int .i64 (1)]⟩),
 (71,[.agg ⟨[.int .i64 (1),.int .i64 (1)]⟩,.agg ⟨[.int .i64 (-1),.int .i64 (1)]⟩],.agg ⟨[.int .i64 (0),.int .i64 (1)]⟩),
 (72,[.agg ⟨[.int .i64 (1),.int .i64 (1)]⟩,.agg ⟨[.int .i64 (-2),.int .i64 (3)]⟩],.agg ⟨[.int .i64 (-2),.int .i64 (3)]⟩),
 (71,[.agg ⟨[.int .i64 (4),.int .i64 (3)]⟩,.agg ⟨[.int .i64 (-2),.int .i64 (3)]⟩],.agg ⟨[.int .i64 (2),.int .i64 (3)]⟩),
 (72,[.agg ⟨[.int .i64 (0),.int .i64 (1)]⟩,.agg ⟨[.int .i64 (-2),.int .i64 (3)]⟩],.agg ⟨[.int .i64 (0),.int .i64 (1)]⟩),
 (72,[.agg ⟨[.int .i64 (0),.int .i64 (1)]⟩,.agg ⟨[.int .i64 (-4),.int .i64 (3)]⟩],.agg ⟨[.int .i64 (0),.int .i64 (1)]⟩),
 (72,[.agg ⟨[.int .i64 (-1),.int .i64 (1)]⟩,.agg ⟨[.int .i64 (-2),.int .i64 (3)]⟩],.agg ⟨[.int .i64 (2),.int .i64 (3)]⟩),
 (71,[.agg ⟨[.int .i64 (0),.int .i64 (1)]⟩,.agg ⟨[.int .i64 (2),.int .i64 (3)]⟩],.agg ⟨[.int .i64 (2),.int .i64 (3)]⟩),
 (71,[.agg ⟨[.int .i64 (1),.int .i64 (1)]⟩,.agg ⟨[.int .i64 (-4),.int .i64 (3)]⟩],.agg ⟨[.int .i64 (-1),.int .i64 (3)]⟩),
 (71,[.agg ⟨[.int .i64 (-1),.int .i64 (3)]⟩,.agg ⟨[.int .i64 (0),.int .i64 (1)]⟩],.agg ⟨[.int .i64 (-1),.int .i64 (3)]⟩),
 (71,[.agg ⟨[.int .i64 (2),.int .i64 (1)]⟩,.agg ⟨[.int .i64 (1),.int .i64 (1)]⟩],.agg ⟨[.int .i64 (3),.int .i64 (1)]⟩)]
theorem low_runs:(low.all fun y=>answers (Env.of Try.prog (memoOf []) (binOf []) convOf) 100 y.1 y.2.1 y.2.2) = true:=by kernel_rfl
theorem low_data:(low.all fun y=>y.2.1.all (isData 3) && isRes y.2.2) = true:=by kernel_rfl
theorem top_runs:(top.all fun y=>answers (Env.of Try.prog (memoOf []) (binOf []) convOf) 100 y.1 y.2.1 y.2.2) = true:=by kernel_rfl
theorem top_data:(top.all fun y=>y.2.1.all (isData 3) && isRes y.2.2) = true:=by kernel_rfl
theorem mid_runs:(mid.all fun y=>answers (Env.of Try.prog (memoOf low) (binOf []) convOf) 300 y.1 y.2.1 y.2.2) = true:=by kernel_rfl
theorem mid_data:(mid.all fun y=>y.2.1.all (isData 3) && isRes y.2.2) = true:=by kernel_rfl
theorem runs_hold {l:List Fact1} {fuel:Nat} (h1:(l.all fun y=>answers (Env.of Try.prog (memoOf []) (binOf []) convOf) fuel y.1 y.2.1 y.2.2) = true) (h2:(l.all fun y=>y.2.1.all (isData 3) && isRes y.2.2) = true) (x:Nat→Int):∀ y ∈ l,@Holds1 (intsUnk x) Try.prog y:=by
 intro y hy
 have h1:=List.all_eq_true.1 h1 _ hy
 have h2:=List.all_eq_true.1 h2 _ hy
 obtain ⟨f,a,v⟩:=y
 rw [Bool.and_eq_true] at h2
 exact fact_closed x h2.1 h2.2 (calls_closed mixed h1 h2.1)
theorem args_data {args:List Value} (hd:args.all (isData 3) = true):args.map (@argVal (intsUnk fun _=>0)) = args:=by
 refine (List.map_congr_left fun a ha=>?_).trans (List.map_id _)
 have hda:=List.all_eq_true.1 hd a ha
 unfold argVal
 split
 ·simp [isData] at hda
 ·rfl
theorem mid_hold (x:Nat→Int):∀ y ∈ mid,@Holds1 (intsUnk x) Try.prog y:=by
 intro y hy
 have h1:=List.all_eq_true.1 mid_runs _ hy
 have h2:=List.all_eq_true.1 mid_data _ hy
 obtain ⟨f,a,v⟩:=y
 rw [Bool.and_eq_true] at h2
 refine fact_closed x h2.1 h2.2 fun w=>?_
 have:=calls_ints (P:=Try.prog) (fun _=>0) low [] (runs_hold low_runs low_data _) (fun r hr=>by simp at hr) mixed h1 w
 rw [args_data h2.1] at this
 exact this
theorem all_hold (x:Nat→Int):∀ y ∈ top ++ mid,@Holds1 (intsUnk x) Try.prog y:=by
 intro y hy
 rcases List.mem_append.1 hy with h | h
 ·exact runs_hold top_runs top_data x y h
 ·exact mid_hold x y h
theorem awake:answers (Env.of Try.prog (memoOf (top ++ mid)) (binOf []) convOf) 4000 14 [] (.bool true) = true:=by kernel_rfl
theorem awake_calls (w:World):Calls Try.prog 14 ⟨[]⟩ w fun e w'=>e = .returned (.bool true)∧Below w.heap.size w w' :=
 calls_ints (P:=Try.prog) (fun _=>0) (top ++ mid) [] (all_hold _) (fun r hr=>by simp at hr) mixed awake w
theorem facts_hold (x:Nat→Int):∀ y ∈ facts,@Holds1 (intsUnk x) Try.prog y:=by
 intro y hy
 simp only [facts,List.mem_cons,List.mem_nil_iff,or_false] at hy
 subst hy
 exact fact_closed x rfl rfl awake_calls
theorem law_true {f:FuncId} {args:List Value} (c:∀ h,@CallP E f args h fun r _=>r = .bool true) {args':Array Value} (hargs:@LRel (intsUnk fun _=>0) (fun _=>none) args args'.toList) (w:World) :
  Calls Try.prog f args' w fun e w'=>e = .returned (.bool true)∧Below w.heap.size w w' :=
 @calls_true (intsUnk fun _=>0) E Try.prog (ok_facts _ (facts_hold _)) mixed f args [] (fun f args H v H' h=>by cases h) (c _) _ w (@lent_none (intsUnk fun _=>0) w) args' hargs
end Go.Proofs.Ytljbibjnidccbab
