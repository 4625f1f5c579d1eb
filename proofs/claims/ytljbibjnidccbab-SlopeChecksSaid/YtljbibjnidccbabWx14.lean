/- Contracts by what is to be shown of each step: a part of the engine. -/
import Derived.Test.YtljbibjnidccbabWx13
set_option linter.unusedVariables false
set_option linter.unusedSectionVars false
set_option linter.unusedSimpArgs false
namespace Go.Rx
open Go.RowKit
noncomputable section

/-! Iterators: rounds that a function calls for. -/
section
variable (E:Env)
def readyAt (φ:Frame) (z:Nat) (ps:Array Tmp) (a b:C) (d:Nat):Obj:=.loop E .ready none φ z ps a b d
def busyAt (φ:Frame) (z:Nat) (ps:Array Tmp) (a b:C) (d:Nat):Obj:=.loop E .busy none φ z ps a b d
def leftAt (e:AExit) (φ:Frame) (z:Nat) (ps:Array Tmp) (a b:C) (d:Nat):Obj:=.loop E .done (some e) φ z ps a b d
def endQ (l:Nat) (φ:Frame) (z:Nat) (ps:Array Tmp) (a b:C) (d:Nat) (Q:Value→Hp→Prop):Pq:=fun e _ h m=>h.at l = some (busyAt E φ z ps a b d)∧(match e with
 | .normal=>Q (.bool true) (h.set l (readyAt E φ z ps a b d))
 | e=>Q (.bool false) (h.set l (leftAt E e φ z ps a b d)))
def bodyQ (l:Nat) (φ:Frame) (z:Nat) (ps:Array Tmp) (a b:C) (d:Nat) (Q:Value→Hp→Prop):Pq:=fun e φ' h m=>match e with
 | .normal=>h.at l = some (readyAt E φ z ps a b d)∧wq E z (some l) b φ' (h.set l (busyAt E φ z ps a b d)) m (endQ E l φ z ps a b d Q)
 | _=>False
end
section
variable {E:Env} [TyOk E]
theorem YieldP.enterQ [Unknowns] {l:Nat} {as:List Value} {h:Hp} {Q:Value→Hp→Prop} {φ:Frame} {z:Nat} {ps:Array Tmp} {a b:C} {d:Nat} (hl:h.at l = some (readyAt E φ z ps a b d)) (hsz:as.length = ps.size)
  (hps:ps.toList.all (fun p=>Nat.ble (Nat.succ p) z) = true) (w:wq E z (some l) a (setφ ps.toList as φ) h [] (bodyQ E l φ z ps a b d Q)):YieldP E l as h Q:=by
 refine YieldP.enter hl hsz hps (wp_mono (fun e s hy=>?_) (wq_wp w))
 cases e with
 | normal =>
  obtain ⟨h1,h2⟩:=hy
  unfold bodyP
  dsimp only
  rw [h1]
  refine wp_mono (fun e s hz=>?_) (wq_wp h2)
  obtain ⟨h3,h4⟩:=hz
  unfold roundP
  rw [h3]
  cases e <;> exact h4
 | _=>exact hy.elim
end

section
variable {E:Env} [TyOk E]
structure Keeps (l:Nat) (h h2:Hp):Prop where
 next:h2.next = h.next
 at_:∀ r o,r≠l→h.at r = some o→h2.at r = some o
theorem Keeps.set (h:Hp) (l:Nat) (o:Obj):Keeps l h (h.set l o):=⟨rfl,fun r o' hne hr=>by rw [Hp.at_set_ne _ hne]; exact hr⟩
end
theorem BuiltC.slice {h0 h:Hp} {e:TypeId} {s n:Nat} {v:Value} {cs:List Value} (k:BuiltC h0 h e s v n cs):∃ a,v = .slice a n n∧∀ j,j < n→∃ r,a = some ⟨r,0,none⟩∧∃ x,h.at r = some (.row e x cs):=by
 obtain ⟨hl,⟨rfl,rfl⟩ | ⟨r,rfl,_,x,hr⟩⟩:=k
 ·exact ⟨none,rfl,fun j hj=>by omega⟩
 ·exact ⟨_,rfl,fun j hj=>⟨r,rfl,x,hr⟩⟩
end
end Go.Rx
