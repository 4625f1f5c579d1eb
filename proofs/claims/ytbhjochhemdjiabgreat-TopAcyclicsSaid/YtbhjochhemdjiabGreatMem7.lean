/- The fact on function 7, by the kernel's run. -/
import Derived.Test.YtbhjochhemdjiabGreatAwake
namespace Go.Proofs.YtbhjochhemdjiabGreat.topAcyclics
open Go.Rx Go.RowKit

theorem factRuns7 : factRuns (Env.of Tryz.prog (memoOf facts) (binOf []) convOf (memFacts [])) 2000 mem7 = true := by kernel_rfl
end Go.Proofs.YtbhjochhemdjiabGreat.topAcyclics
