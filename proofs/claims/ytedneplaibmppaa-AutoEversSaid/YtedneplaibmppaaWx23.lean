/- Contracts by what is to be shown of each step: a part of the engine. -/
import Derived.Test.YtedneplaibmppaaWx22
set_option linter.unusedVariables false
set_option linter.unusedSectionVars false
set_option linter.unusedSimpArgs false
namespace Go.Rx
open Go.RowKit
noncomputable section

/-! Slices of arrays of integers, by trees. -/
def LentV (h:Hp) (v:Value) (n:Nat) (l:List Int):Prop:=LentC h v n l∨(v = void∧n = 0∧l = [])
theorem LentV.ext {h h':Hp} {v:Value} {n:Nat} {l:List Int} (g:Grows h h') (k:LentV h v n l):LentV h' v n l:=by
 rcases k with k | k
 ·exact .inl (k.ext g)
 ·exact .inr k
end
end Go.Rx
