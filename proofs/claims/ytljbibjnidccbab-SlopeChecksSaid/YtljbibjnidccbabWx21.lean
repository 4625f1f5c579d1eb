/- Contracts by what is to be shown of each step: a part of the engine. -/
import Derived.Test.YtljbibjnidccbabWx20
set_option linter.unusedVariables false
set_option linter.unusedSectionVars false
set_option linter.unusedSimpArgs false
namespace Go.Rx
open Go.RowKit
noncomputable section

/-! Maps whose keys are data of one kind; raw operations by name. -/

section
variable {κ:Type} [DecidableEq κ] {enc:κ→Value}
abbrev Ent (κ:Type):=κ×Value×Nat
def entV (enc:κ→Value) (e:Ent κ):Entry:=(enc e.1,e.2.1,e.2.2)
def lookK (es:List (Ent κ)) (k:κ):Option Value:=(es.find? fun e=>decide (k = e.1)).map (·.2.1)
def MapAt (h:Hp) (r:Nat) (enc:κ→Value) (f:κ→Option Value) (n:Nat):Prop :=
 ∃ (es:List (Ent κ)) (c:Nat),h.at r = some (.map (es.map (entV enc)) c)∧(∀ k,lookK es k = f k)∧es.length = n
theorem MapAt.ext {h h':Hp} {r:Nat} {f:κ→Option Value} {n:Nat} (g:Grows h h') (m:MapAt h r enc f n):MapAt h' r enc f n:=by
 obtain ⟨es,c,h1,h2,h3⟩:=m
 exact ⟨es,c,g.at_ _ _ h1,h2,h3⟩
theorem MapAt.congr {h:Hp} {r:Nat} {f g:κ→Option Value} {n:Nat} (m:MapAt h r enc f n) (e:∀ k,f k = g k):MapAt h r enc g n:=by
 obtain ⟨es,c,h1,h2,h3⟩:=m
 exact ⟨es,c,h1,fun k=>(h2 k).trans (e k),h3⟩
variable {E:Env}
end

/-! Raw operations. -/
variable {E:Env}
end
end Go.Rx
