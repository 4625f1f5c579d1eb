/- TopAcyclics: some of its cases, by the kernel's run. -/
import Derived.Test.YtbhjochhemdjiabGreatAwake
namespace Go.Proofs.YtbhjochhemdjiabGreat.topAcyclics
open Go.Rx Go.RowKit

theorem run0 : runs 0 = true := by kernel_rfl
theorem run2 : runs 2 = true := by kernel_rfl
theorem run4 : runs 4 = true := by kernel_rfl
theorem run6 : runs 6 = true := by kernel_rfl
end Go.Proofs.YtbhjochhemdjiabGreat.topAcyclics
