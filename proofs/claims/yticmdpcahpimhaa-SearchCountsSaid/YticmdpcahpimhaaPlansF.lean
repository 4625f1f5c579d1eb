/- SearchCounts: the numbers of plans that the program and the reference give for each number of gates from 0 to 30, by the kernel's run of both. -/
import Derived.Test.YticmdpcahpimhaaCats
namespace Go.Proofs.Yticmdpcahpimhaa.searchCounts
open Go.Rx
theorem ref27 : ((List.range' 27 1).all fun k => answers E0 2000 37 [.int .i64 (.ofNat k)] (.int .i64 (cat k))) = true := by kernel_rfl
theorem ref28 : ((List.range' 28 1).all fun k => answers E0 2000 37 [.int .i64 (.ofNat k)] (.int .i64 (cat k))) = true := by kernel_rfl
theorem ref29 : ((List.range' 29 1).all fun k => answers E0 2000 37 [.int .i64 (.ofNat k)] (.int .i64 (cat k))) = true := by kernel_rfl
theorem ref30 : ((List.range' 30 1).all fun k => answers E0 2000 37 [.int .i64 (.ofNat k)] (.int .i64 (cat k))) = true := by kernel_rfl
end Go.Proofs.Yticmdpcahpimhaa.searchCounts
