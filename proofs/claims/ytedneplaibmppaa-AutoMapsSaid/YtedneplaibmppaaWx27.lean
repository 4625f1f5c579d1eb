/- A part of the engine. -/
import Derived.Test.YtedneplaibmppaaWx26
set_option linter.unusedVariables false
set_option linter.unusedSectionVars false
set_option linter.unusedSimpArgs false
namespace Go.Rx
open Go.RowKit
noncomputable section
/-! Iterators that keep where they are in a cell of their own. -/
def aao (E:Env)(l c:Nat)(L:List (List Value))(I:Nat→Hp→Prop)(S:Hp→Prop):Prop :=
 ∀ k,(hk:k < L.length)→∀ h,I k h→dx E l L[k] h fun v h'=>(v = .bool true∧I (k + 1) h'∧∀ o,h.at c = some o→h'.at c = some o)∨(v = .bool false∧S h')
section
variable {E:Env} [Af E]
theorem U3 [bC]{z:Nat}{g:FuncId}{cap:List Value}{ps:Array Tmp}{a b:C}{φ:Frame}{m0 m:List Nat}{Q:Pq}{d:Nat}{h:Hp}(c:Nat)(hc:c < h.next)(J:Hp→Prop)(L:List (List Value))(I:Nat→Hp→Prop)(S:Hp→Prop)
  (hcan:callable E g = true)(hsz:∀ k,(hk:k < L.length)→(L[k]).length = ps.size)(hps:ps.toList.all (fun p=>Nat.ble (Nat.succ p) z) = true)
  (iter:∀ (I:Nat→Hp→Prop) (S:Hp→Prop),(∀ k h h',I k h→Keeps c h h'→I k h')→(∀ k h,I k h→J h)→I 0 (h.lay (mE E φ z ps a b d))→aao E h.next c L I S→aJ E g (lQ h.next :: cap) (h.lay (mE E φ z ps a b d)) (fun _ h'=>I L.length h'∨S h'))
  (loc:∀ k h h',I k h→Keeps c h h'→I k h')(hJ:∀ k h,I k h→J h)
  (start:I 0 (h.lay (mE E φ z ps a b d)))
  (round:∀ k as,L[k]? = some as→∀ h1,h1.at h.next = some (mE E φ z ps a b d)→I k h1→wq E z (some h.next) a (Ox ps.toList as φ) h1 [] (Ta E h.next φ z ps a b d (fun v h'=>v = .bool true∧(h'.at h.next = some (mE E φ z ps a b d)∧I (k + 1) h'∧∀ o,h1.at c = some o→h'.at c = some o)∨v = .bool false∧S h')))
  (done:∀ h2 h3,I L.length h2→Keeps h.next h2 h3→Q .normal φ h3 (m ++ m0))
  (stop:∀ h2,S h2→SV φ (m ++ m0) Q h2 h.next) :
  wL E z (.func (.func g) ⟨[]⟩ ⟨cap⟩) ps a b φ m0 Q d m h:=by
 refine ⟨hcan,?_⟩;refine aJ.mono (iter (fun k h1=>h1.at h.next = some (mE E φ z ps a b d)∧I k h1) S (fun k h1 h2 hI y=>⟨y.at_ _ _ (by omega) hI.1,loc k h1 h2 hI.2 y⟩) (fun k h1 hI=>hJ k h1 hI.2) ⟨Hp.ak _ _,start⟩ ?_) ?_
 ·intro k hk h1 hI;refine dx.mono (dx.bV hI.1 (hsz k hk) hps (round k _ (List.getElem?_eq_getElem hk) h1 hI.1 hI.2)) ?_;rintro v h' (⟨e,h2,h3,h4⟩ | h2)
  ·exact .inl ⟨e,⟨h2,h3⟩,h4⟩
  ·exact .inr h2
 ·rintro v h2 (hI | hS)
  ·exact OI hI.1 (done h2 _ hI.2 (Keeps.set _ _ _))
  ·exact stop h2 hS
end
end
end Go.Rx
