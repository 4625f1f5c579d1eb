/- SearchCounts: the numbers of plans that the program and the reference give for each number of gates from 0 to 30, by the kernel's run of both. -/
import Derived.Test.YticmdpcahpimhaaCats
namespace Go.Proofs.Yticmdpcahpimhaa.searchCounts
open Go.Rx
theorem ref0 : ((List.range' 0 16).all fun k => answers E0 2000 37 [.int .i64 (.ofNat k)] (.int .i64 (cat k))) = true := by kernel_rfl
theorem ref16 : ((List.range' 16 4).all fun k => answers E0 2000 37 [.int .i64 (.ofNat k)] (.int .i64 (cat k))) = true := by kernel_rfl
theorem ref20 : ((List.range' 20 3).all fun k => answers E0 2000 37 [.int .i64 (.ofNat k)] (.int .i64 (cat k))) = true := by kernel_rfl
end Go.Proofs.Yticmdpcahpimhaa.searchCounts
