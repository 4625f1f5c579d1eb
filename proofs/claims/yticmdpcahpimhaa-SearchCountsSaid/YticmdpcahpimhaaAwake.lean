/- What the layer must do whatever the input is, by the kernel's run. -/
import Derived.Test.YticmdpcahpimhaaProg
import Derived.Test.YticmdpcahpimhaaCats
import Derived.KernelRfl
namespace Go.Proofs.Yticmdpcahpimhaa.searchCounts
open Go.Rx
theorem awake : answers E0 2000 27 [] (.bool true) = true := by kernel_rfl
end Go.Proofs.Yticmdpcahpimhaa.searchCounts
