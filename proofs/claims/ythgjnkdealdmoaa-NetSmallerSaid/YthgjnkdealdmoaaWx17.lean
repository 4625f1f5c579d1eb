/- Contracts by what is to be shown of each step: a part of the engine. -/
import Derived.Test.YthgjnkdealdmoaaWx16
set_option linter.unusedVariables false
set_option linter.unusedSectionVars false
set_option linter.unusedSimpArgs false
namespace Go.Rx
open Go.RowKit

/-! Sets as numbers: operations on bits. -/

def less (a b:Nat):Nat:=a ^^^ (a &&& b)
end Go.Rx
