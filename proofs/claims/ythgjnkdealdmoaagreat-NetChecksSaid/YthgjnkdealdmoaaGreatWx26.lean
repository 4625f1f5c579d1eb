/- Contracts by what is to be shown of each step: a part of the engine. -/
import Derived.Test.YthgjnkdealdmoaaGreatWx25
set_option linter.unusedVariables false
set_option linter.unusedSectionVars false
set_option linter.unusedSimpArgs false
namespace Go.Rx
open Go.RowKit
noncomputable section

/-! Iterators that have memory of their own: what they have laid is left alone by the rounds. -/

def KE (es:List Nat) (h h':Hp):Prop:=∀ d ∈ es,∀ o,h.at d = some o→h'.at d = some o
theorem KE.trans {es:List Nat} {h h1 h2:Hp} (k:KE es h h1) (k2:KE es h1 h2):KE es h h2:=fun d hd o e=>k2 d hd o (k d hd o e)
theorem KE.mono {es es':List Nat} {h h':Hp} (k:KE es h h') (s:∀ d ∈ es',d ∈ es):KE es' h h':=fun d hd o e=>k d (s d hd) o e
section
variable {E:Env} [TyOk E]
end
end
end Go.Rx
