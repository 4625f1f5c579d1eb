/- Contracts by what is to be shown of each step: a part of the engine. -/
import Derived.Test.YtljbibjnidccbabWx23
set_option linter.unusedVariables false
set_option linter.unusedSectionVars false
set_option linter.unusedSimpArgs false
namespace Go.Rx
open Go.RowKit
noncomputable section

/-! Ranges over functions inside rounds. -/
section
variable {E:Env} [TyOk E]
end
section
variable {E:Env} {z:Nat} {rd:Option Nat} [TyOk E]
def RndM {α:Type} (L:α→List (Nat×Value)) (H:α→Hp) (M:α→List Nat) (P:α→Prop) (μ:α→Nat) (a:α) (φ':Frame) (h':Hp) (m':List Nat):Prop :=
 ∃ a',P a'∧μ a' < μ a∧FrEq φ' (L a')∧(H a').Le h'∧m' = M a'
theorem RndM.mk {α:Type} {L:α→List (Nat×Value)} {H:α→Hp} {M:α→List Nat} {P:α→Prop} {μ:α→Nat} {a:α} {φ':Frame} {h':Hp} {m':List Nat} (a':α) (h1:P a') (h2:μ a' < μ a) (h3:FrEq φ' (L a')) (h4:(H a').Le h') (h5:m' = M a'):RndM L H M P μ a φ' h' m':=⟨a',h1,h2,h3,h4,h5⟩
def Marks (r:Nat) (ms:List Nat) (h:Hp):Prop:=ms.Nodup∧∀ d ∈ ms,r≤d∧h.at d = some .noDefers
theorem Marks.nil (r:Nat) (h:Hp):Marks r [] h:=⟨List.nodup_nil,fun d hd=>by simp at hd⟩
theorem Marks.ext {r:Nat} {ms:List Nat} {h h':Hp} (g:Grows h h') (k:Marks r ms h):Marks r ms h':=⟨k.1,fun d hd=>⟨(k.2 d hd).1,g.at_ _ _ (k.2 d hd).2⟩⟩
end
end
end Go.Rx
