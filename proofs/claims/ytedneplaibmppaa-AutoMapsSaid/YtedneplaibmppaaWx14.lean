/- A part of the engine. -/
import Derived.Test.YtedneplaibmppaaWx13
set_option linter.unusedVariables false
set_option linter.unusedSectionVars false
set_option linter.unusedSimpArgs false
namespace Go.Rx
open Go.RowKit
noncomputable section
/-! Iterators: rounds that a function calls for. -/
section
variable (E:Env)
def mE (φ:Frame)(z:Nat)(ps:Array Tmp)(a b:C)(d:Nat):Obj:=.loop E .ready none φ z ps a b d
def Ma (φ:Frame)(z:Nat)(ps:Array Tmp)(a b:C)(d:Nat):Obj:=.loop E .busy none φ z ps a b d
def aa3 (e:dU)(φ:Frame)(z:Nat)(ps:Array Tmp)(a b:C)(d:Nat):Obj:=.loop E .done (some e) φ z ps a b d
def Zk (l:Nat)(φ:Frame)(z:Nat)(ps:Array Tmp)(a b:C)(d:Nat)(Q:Value→Hp→Prop):Pq:=fun e _ h m=>h.at l = some (Ma E φ z ps a b d)∧(match e with
 | .normal=>Q (.bool true) (h.set l (mE E φ z ps a b d))
 | e=>Q (.bool false) (h.set l (aa3 E e φ z ps a b d)))
def Ta (l:Nat)(φ:Frame)(z:Nat)(ps:Array Tmp)(a b:C)(d:Nat)(Q:Value→Hp→Prop):Pq:=fun e φ' h m=>match e with
 | .normal=>h.at l = some (mE E φ z ps a b d)∧wq E z (some l) b φ' (h.set l (Ma E φ z ps a b d)) m (Zk E l φ z ps a b d Q)
 | _=>False
end
section
variable {E:Env} [Af E]
theorem dx.bV [bC]{l:Nat}{as:List Value}{h:Hp}{Q:Value→Hp→Prop}{φ:Frame}{z:Nat}{ps:Array Tmp}{a b:C}{d:Nat}(hl:h.at l = some (mE E φ z ps a b d))(hsz:as.length = ps.size)
  (hps:ps.toList.all (fun p=>Nat.ble (Nat.succ p) z) = true)(w:wq E z (some l) a (Ox ps.toList as φ) h [] (Ta E l φ z ps a b d Q)):dx E l as h Q:=by
 refine dx.enter hl hsz hps (wp_mono (fun e s hy=>?_) (XF w))
 cases e with
 | normal =>
  obtain ⟨h1,h2⟩:=hy;unfold Xx;dsimp only;rw [h1];refine wp_mono (fun e s hz=>?_) (XF h2);obtain ⟨h3,h4⟩:=hz;unfold LM;rw [h3];cases e <;> exact h4
 | _=>exact hy.elim
end
section
variable {E:Env} [Af E]
theorem OI {φ0 φ:Frame}{m:List Nat}{Q:Pq}{h:Hp}{l z:Nat}{ps:Array Tmp}{a b:C}{d:Nat}(hl:h.at l = some (mE E φ z ps a b d))(k:Q .normal φ0 (h.set l (.loop E .exhausted none φ z ps a b d)) m):SV φ0 m Q h l:=by
 unfold SV EM;rw [hl];exact ⟨rfl,k⟩
structure Keeps (l:Nat) (h h2:Hp):Prop where
 next:h2.next = h.next
 at_:∀ r o,r≠l→h.at r = some o→h2.at r = some o
theorem Keeps.set (h:Hp)(l:Nat)(o:Obj):Keeps l h (h.set l o):=⟨rfl,fun r o' hne hr=>by rw [Hp.cu _ hne]; exact hr⟩
theorem Keeps.grows {l:Nat}{h0 h h2:Hp}(k:Keeps l h h2)(g:aA h0 h)(hl:h0.next≤l):aA h0 h2:=⟨by rw [k.next]; exact g.next,fun r o hr=>k.at_ r o (by have:=Hp.aU hr; omega) (g.at_ r o hr)⟩
theorem XJ {l:Nat}{φ φ':Frame}{z:Nat}{ps:Array Tmp}{a b:C}{d:Nat}{Q:Value→Hp→Prop}{h:Hp}{m:List Nat}(hl:h.at l = some (mE E φ z ps a b d))
  (k:∀ BO h2,BO = Ma E φ z ps a b d→h2.at l = some BO→Keeps l h h2→wq E z (some l) b φ' h2 m (Zk E l φ z ps a b d Q)):Ta E l φ z ps a b d Q .normal φ' h m :=
 ⟨hl,k _ _ rfl (Hp.bB _ (Hp.aU hl)) (Keeps.set _ _ _)⟩
theorem UZ {l:Nat}{φ φ':Frame}{z:Nat}{ps:Array Tmp}{a b:C}{d:Nat}{Q:Value→Hp→Prop}{h:Hp}{m:List Nat}{BO:Obj}(e:BO = Ma E φ z ps a b d)(hl:h.at l = some BO)
  (k:∀ h2,h2.at l = some (mE E φ z ps a b d)→Keeps l h h2→Q (.bool true) h2):Zk E l φ z ps a b d Q .normal φ' h m:=by
 subst e;exact ⟨hl,k _ (Hp.bB _ (Hp.aU hl)) (Keeps.set _ _ _)⟩
theorem U0 {rs:List ResultVar}{φ:Frame}{h:Hp}{d:Nat}{Q:Value→Hp→Prop}(hd:h.at d = some .dY)(k:j6 E rs ⟨φ,h.set d .dead,[]⟩ Q):j6 E rs ⟨φ,h,[d]⟩ Q:=by
 unfold j6 at k ⊢;dsimp only at k ⊢;rw [show iH [d] h = iH [] (h.set d .dead) from by
  show (match h.at d with | some .dY=>iH [] (h.set d .dead) | _=>none) = _;rw [hd]]
 exact k
theorem u7 {φ:Frame}{h:Hp}{t:Nat}{v:Value}{Q:Value→Hp→Prop}(hv:φ t = v)(hu:CF v = false)(q:Q v h):j6 E [.tmp t] ⟨φ,h,[]⟩ Q:=by
 unfold j6;dsimp only;rw [show iH [] h = some h from rfl];dsimp only;rw [show jD E φ h [.tmp t] = some [v] from by unfold jD kY; dsimp only; rw [hv,hu]; rfl];exact q
end
theorem bD.slice {h0 h:Hp}{e:TypeId}{s n:Nat}{v:Value}{cs:List Value}(k:bD h0 h e s v n cs):∃ a,v = .slice a n n∧∀ j,j < n→∃ r,a = some ⟨r,0,none⟩∧∃ x,h.at r = some (.row e x cs):=by
 obtain ⟨hl,⟨rfl,rfl⟩ | ⟨r,rfl,_,x,hr⟩⟩:=k
 ·exact ⟨none,rfl,fun j hj=>by omega⟩
 ·exact ⟨_,rfl,fun j hj=>⟨r,rfl,x,hr⟩⟩
end
end Go.Rx
