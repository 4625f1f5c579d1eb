/- SearchCounts: the numbers of plans that the program and the reference give for each number of gates from 0 to 30, by the kernel's run of both. -/
import Derived.Test.YticmdpcahpimhaaCats
namespace Go.Proofs.Yticmdpcahpimhaa.searchCounts
open Go.Rx
theorem prog23 : ((List.range' 23 2).all fun k => answers E0 2000 36 [.int .i64 (.ofNat k)] (plans k)) = true := by kernel_rfl
theorem prog25 : ((List.range' 25 2).all fun k => answers E0 2000 36 [.int .i64 (.ofNat k)] (plans k)) = true := by kernel_rfl
end Go.Proofs.Yticmdpcahpimhaa.searchCounts
