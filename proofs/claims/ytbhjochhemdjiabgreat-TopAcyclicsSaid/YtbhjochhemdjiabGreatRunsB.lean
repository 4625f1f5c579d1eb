/- TopAcyclics: some of its cases, by the kernel's run. -/
import Derived.Test.YtbhjochhemdjiabGreatAwake
namespace Go.Proofs.YtbhjochhemdjiabGreat.topAcyclics
open Go.Rx Go.RowKit

theorem run1 : runs 1 = true := by kernel_rfl
theorem run3 : runs 3 = true := by kernel_rfl
theorem run5 : runs 5 = true := by kernel_rfl
end Go.Proofs.YtbhjochhemdjiabGreat.topAcyclics
