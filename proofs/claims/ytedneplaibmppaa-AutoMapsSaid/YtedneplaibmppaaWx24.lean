/- A part of the engine. -/
import Derived.Test.YtedneplaibmppaaWx23
set_option linter.unusedVariables false
set_option linter.unusedSectionVars false
set_option linter.unusedSimpArgs false
namespace Go.Rx
open Go.RowKit
noncomputable section
/-! Ranges over functions inside rounds. -/
section
variable {E:Env} [Af E]
end
section
variable {E:Env} {z:Nat} {rd:Option Nat} [Af E]
def ab6 {α:Type}(L:α→List (Nat×Value))(H:α→Hp)(M:α→List Nat)(P:α→Prop)(μ:α→Nat)(a:α)(φ':Frame)(h':Hp)(m':List Nat):Prop :=
 ∃ a',P a'∧μ a' < μ a∧LP φ' (L a')∧(H a').Le h'∧m' = M a'
theorem ab6.mk {α:Type}{L:α→List (Nat×Value)}{H:α→Hp}{M:α→List Nat}{P:α→Prop}{μ:α→Nat}{a:α}{φ':Frame}{h':Hp}{m':List Nat}(a':α)(h1:P a')(h2:μ a' < μ a)(h3:LP φ' (L a'))(h4:(H a').Le h')(h5:m' = M a'):ab6 L H M P μ a φ' h' m':=⟨a',h1,h2,h3,h4,h5⟩
theorem aC.adG {α:Type}{a b:C}{φ:Frame}{h:Hp}{m:List Nat}{Q:Pq}(L:α→List (Nat×Value))(M:α→List Nat)(P:α→Hp→Prop)
  (k1:wq E z rd a φ h m (UR Q fun φ' h' m'=>∃ x,LP φ' (L x)∧P x h'∧m' = M x))
  (k2:∀ x φ h',P x h'→wq E z rd b (OB φ (L x)) h' (M x) Q):aC z rd a b (wq E z rd a) (wq E z rd b) φ h m Q:=by
 refine aC.mk ?_;refine LZ (fun e φ' h' m' hq=>?_) k1
 cases e with
 | normal =>
  obtain ⟨x,h1,h2,rfl⟩:=hq;have:=k2 x φ' h' h2;rw [yL h1] at this;exact this
 | _=>exact hq
def Marks (r:Nat)(ms:List Nat)(h:Hp):Prop:=ms.Nodup∧∀ d ∈ ms,r≤d∧h.at d = some .dY
theorem Marks.nil (r:Nat)(h:Hp):Marks r [] h:=⟨List.nodup_nil,fun d hd=>by simp at hd⟩
theorem Marks.ext {r:Nat}{ms:List Nat}{h h':Hp}(g:aA h h')(k:Marks r ms h):Marks r ms h':=⟨k.1,fun d hd=>⟨(k.2 d hd).1,g.at_ _ _ (k.2 d hd).2⟩⟩
end
end
end Go.Rx
