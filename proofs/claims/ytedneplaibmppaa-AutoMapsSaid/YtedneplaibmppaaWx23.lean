/- A part of the engine. -/
import Derived.Test.YtedneplaibmppaaWx22
set_option linter.unusedVariables false
set_option linter.unusedSectionVars false
set_option linter.unusedSimpArgs false
namespace Go.Rx
open Go.RowKit
noncomputable section
/-! Slices of arrays of integers, by trees. -/
def XM (h:Hp)(v:Value)(n:Nat)(l:List Int):Prop:=OL h v n l∨(v = void∧n = 0∧l = [])
theorem XM.ext {h h':Hp}{v:Value}{n:Nat}{l:List Int}(g:aA h h')(k:XM h v n l):XM h' v n l:=by
 rcases k with k | k
 ·exact .inl (k.ext g)
 ·exact .inr k
end
end Go.Rx
