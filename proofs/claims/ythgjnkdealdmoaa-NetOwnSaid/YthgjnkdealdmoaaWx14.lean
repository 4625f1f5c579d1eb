/- Contracts by what is to be shown of each step: a part of the engine. -/
import Derived.Test.YthgjnkdealdmoaaWx13
set_option linter.unusedVariables false
set_option linter.unusedSectionVars false
set_option linter.unusedSimpArgs false
namespace Go.Rx
open Go.RowKit
noncomputable section

/-! Iterators: rounds that a function calls for. -/
section
variable (E:Env)
def readyAt (φ:Frame) (z:Nat) (ps:Array Tmp) (a b:C) (d:Nat):Obj:=.loop E .ready none φ z ps a b d
def busyAt (φ:Frame) (z:Nat) (ps:Array Tmp) (a b:C) (d:Nat):Obj:=.loop E .busy none φ z ps a b d
def leftAt (e:AExit) (φ:Frame) (z:Nat) (ps:Array Tmp) (a b:C) (d:Nat):Obj:=.loop E .done (some e) φ z ps a b d
def endQ (l:Nat) (φ:Frame) (z:Nat) (ps:Array Tmp) (a b:C) (d:Nat) (Q:Value→Hp→Prop):Pq:=fun e _ h m=>h.at l = some (busyAt E φ z ps a b d)∧(match e with
 | .normal=>Q (.bool true) (h.set l (readyAt E φ z ps a b d))
 | e=>Q (.bool false) (h.set l (leftAt E e φ z ps a b d)))
def bodyQ (l:Nat) (φ:Frame) (z:Nat) (ps:Array Tmp) (a b:C) (d:Nat) (Q:Value→Hp→Prop):Pq:=fun e φ' h m=>match e with
 | .normal=>h.at l = some (readyAt E φ z ps a b d)∧wq E z (some l) b φ' (h.set l (busyAt E φ z ps a b d)) m (endQ E l φ z ps a b d Q)
 | _=>False
end
section
variable {E:Env} [TyOk E]
theorem YieldP.enterQ [Unknowns] {l:Nat} {as:List Value} {h:Hp} {Q:Value→Hp→Prop} {φ:Frame} {z:Nat} {ps:Array Tmp} {a b:C} {d:Nat} (hl:h.at l = some (readyAt E φ z ps a b d)) (hsz:as.length = ps.size)
  (hps:ps.toList.all (fun p=>Nat.ble (Nat.succ p) z) = true) (w:wq E z (some l) a (setφ ps.toList as φ) h [] (bodyQ E l φ z ps a b d Q)):YieldP E l as h Q:=by
 refine YieldP.enter hl hsz hps (wp_mono (fun e s hy=>?_) (wq_wp w))
 cases e with
 | normal =>
  obtain ⟨h1,h2⟩:=hy
  unfold bodyP
  dsimp only
  rw [h1]
  refine wp_mono (fun e s hz=>?_) (wq_wp h2)
  obtain ⟨h3,h4⟩:=hz
  unfold roundP
  rw [h3]
  cases e <;> exact h4
 | _=>exact hy.elim
end

def IterP (E:Env) (l:Nat) (L:List (List Value)) (I:Nat→Hp→Prop) (S:Hp→Prop):Prop :=
 ∀ k,(hk:k < L.length)→∀ h,I k h→YieldP E l L[k] h fun v h'=>(v = .bool true∧I (k + 1) h')∨(v = .bool false∧S h')

section
variable {E:Env} [TyOk E]
theorem jumpQ_ready {φ0 φ:Frame} {m:List Nat} {Q:Pq} {h:Hp} {l z:Nat} {ps:Array Tmp} {a b:C} {d:Nat} (hl:h.at l = some (readyAt E φ z ps a b d)) (k:Q .normal φ0 (h.set l (.loop E .exhausted none φ z ps a b d)) m):jumpQ φ0 m Q h l:=by
 unfold jumpQ jumpP
 rw [hl]
 exact ⟨rfl,k⟩
structure Keeps (l:Nat) (h h2:Hp):Prop where
 next:h2.next = h.next
 at_:∀ r o,r≠l→h.at r = some o→h2.at r = some o
theorem Keeps.set (h:Hp) (l:Nat) (o:Obj):Keeps l h (h.set l o):=⟨rfl,fun r o' hne hr=>by rw [Hp.at_set_ne _ hne]; exact hr⟩
theorem Keeps.grows {l:Nat} {h0 h h2:Hp} (k:Keeps l h h2) (g:Grows h0 h) (hl:h0.next≤l):Grows h0 h2:=⟨by rw [k.next]; exact g.next,fun r o hr=>k.at_ r o (by have:=Hp.lt_of_at hr; omega) (g.at_ r o hr)⟩
theorem bodyQ_go {l:Nat} {φ φ':Frame} {z:Nat} {ps:Array Tmp} {a b:C} {d:Nat} {Q:Value→Hp→Prop} {h:Hp} {m:List Nat} (hl:h.at l = some (readyAt E φ z ps a b d))
  (k:∀ BO h2,BO = busyAt E φ z ps a b d→h2.at l = some BO→Keeps l h h2→wq E z (some l) b φ' h2 m (endQ E l φ z ps a b d Q)):bodyQ E l φ z ps a b d Q .normal φ' h m :=
 ⟨hl,k _ _ rfl (Hp.at_set_self _ (Hp.lt_of_at hl)) (Keeps.set _ _ _)⟩
theorem range_go [Unknowns] {z:Nat} {g:FuncId} {cap:List Value} {ps:Array Tmp} {a b:C} {φ:Frame} {m0 m:List Nat} {Q:Pq} {d:Nat} {h:Hp} (L:List (List Value)) (I:Nat→Hp→Prop) (S:Hp→Prop)
  (hcan:callable E g = true) (hsz:∀ k,(hk:k < L.length)→(L[k]).length = ps.size) (hps:ps.toList.all (fun p=>Nat.ble (Nat.succ p) z) = true)
  (iter:∀ (I:Nat→Hp→Prop) (S:Hp→Prop),I 0 (h.lay (readyAt E φ z ps a b d))→IterP E h.next L I S→CallP E g (yieldVal h.next :: cap) (h.lay (readyAt E φ z ps a b d)) (fun _ h'=>I L.length h'∨S h'))
  (start:I 0 (h.lay (readyAt E φ z ps a b d)))
  (round:∀ k as,L[k]? = some as→∀ h1,h1.at h.next = some (readyAt E φ z ps a b d)→I k h1→wq E z (some h.next) a (setφ ps.toList as φ) h1 [] (bodyQ E h.next φ z ps a b d (fun v h'=>v = .bool true∧(h'.at h.next = some (readyAt E φ z ps a b d)∧I (k + 1) h')∨v = .bool false∧S h')))
  (done:∀ h2 h3,I L.length h2→Keeps h.next h2 h3→Q .normal φ h3 (m ++ m0))
  (stop:∀ h2,S h2→jumpQ φ (m ++ m0) Q h2 h.next) :
  rangeQ E z (.func (.func g) ⟨[]⟩ ⟨cap⟩) ps a b φ m0 Q d m h:=by
 refine ⟨hcan,?_⟩
 refine CallP.mono (iter (fun k h1=>h1.at h.next = some (readyAt E φ z ps a b d)∧I k h1) S ⟨Hp.at_lay_self _ _,start⟩ ?_) ?_
 ·intro k hk h1 hI
  exact YieldP.enterQ hI.1 (hsz k hk) hps (round k _ (List.getElem?_eq_getElem hk) h1 hI.1 hI.2)
 ·rintro v h2 (hI | hS)
  ·exact jumpQ_ready hI.1 (done h2 _ hI.2 (Keeps.set _ _ _))
  ·exact stop h2 hS
theorem finP_one {φ:Frame} {h:Hp} {t:Nat} {v:Value} {Q:Value→Hp→Prop} (hv:φ t = v) (hu:isUndef v = false) (q:Q v h):finP E [.tmp t] ⟨φ,h,[]⟩ Q:=by
 unfold finP
 dsimp only
 rw [show takeMarksφ [] h = some h from rfl]
 dsimp only
 rw [show resultsφ E φ h [.tmp t] = some [v] from by unfold resultsφ resultφ; dsimp only; rw [hv,hu]; rfl]
 exact q
end
theorem BuiltC.slice {h0 h:Hp} {e:TypeId} {s n:Nat} {v:Value} {cs:List Value} (k:BuiltC h0 h e s v n cs):∃ a,v = .slice a n n∧∀ j,j < n→∃ r,a = some ⟨r,0,none⟩∧∃ x,h.at r = some (.row e x cs):=by
 obtain ⟨hl,⟨rfl,rfl⟩ | ⟨r,rfl,_,x,hr⟩⟩:=k
 ·exact ⟨none,rfl,fun j hj=>by omega⟩
 ·exact ⟨_,rfl,fun j hj=>⟨r,rfl,x,hr⟩⟩
end
end Go.Rx
