/- Contracts by what is to be shown of each step: a part of the engine. -/
import Derived.Test.YthgjnkdealdmoaaWx23
set_option linter.unusedVariables false
set_option linter.unusedSectionVars false
set_option linter.unusedSimpArgs false
namespace Go.Rx
open Go.RowKit
noncomputable section

/-! Ranges over functions inside rounds. -/
section
variable {E:Env} [TyOk E]
theorem range_goJ [Unknowns] {z:Nat} {g:FuncId} {cap:List Value} {ps:Array Tmp} {a b:C} {φ:Frame} {m0 m:List Nat} {Q:Pq} {d:Nat} {h:Hp} (J:Hp→Prop) (L:List (List Value)) (I:Nat→Hp→Prop) (S:Hp→Prop)
  (hcan:callable E g = true) (hsz:∀ k,(hk:k < L.length)→(L[k]).length = ps.size) (hps:ps.toList.all (fun p=>Nat.ble (Nat.succ p) z) = true)
  (iter:∀ (I:Nat→Hp→Prop) (S:Hp→Prop),(∀ k h,I k h→J h)→I 0 (h.lay (readyAt E φ z ps a b d))→IterP E h.next L I S→CallP E g (yieldVal h.next :: cap) (h.lay (readyAt E φ z ps a b d)) (fun _ h'=>I L.length h'∨S h'))
  (hJ:∀ k h,I k h→J h)
  (start:I 0 (h.lay (readyAt E φ z ps a b d)))
  (round:∀ k as,L[k]? = some as→∀ h1,h1.at h.next = some (readyAt E φ z ps a b d)→I k h1→wq E z (some h.next) a (setφ ps.toList as φ) h1 [] (bodyQ E h.next φ z ps a b d (fun v h'=>v = .bool true∧(h'.at h.next = some (readyAt E φ z ps a b d)∧I (k + 1) h')∨v = .bool false∧S h')))
  (done:∀ h2 h3,I L.length h2→Keeps h.next h2 h3→Q .normal φ h3 (m ++ m0))
  (stop:∀ h2,S h2→jumpQ φ (m ++ m0) Q h2 h.next) :
  rangeQ E z (.func (.func g) ⟨[]⟩ ⟨cap⟩) ps a b φ m0 Q d m h:=by
 refine ⟨hcan,?_⟩
 refine CallP.mono (iter (fun k h1=>h1.at h.next = some (readyAt E φ z ps a b d)∧I k h1) S (fun k h hI=>hJ k h hI.2) ⟨Hp.at_lay_self _ _,start⟩ ?_) ?_
 ·intro k hk h1 hI
  exact YieldP.enterQ hI.1 (hsz k hk) hps (round k _ (List.getElem?_eq_getElem hk) h1 hI.1 hI.2)
 ·rintro v h2 (hI | hS)
  ·exact jumpQ_ready hI.1 (done h2 _ hI.2 (Keeps.set _ _ _))
  ·exact stop h2 hS
end
section
variable {E:Env} {z:Nat} {rd:Option Nat} [TyOk E]
def RndM {α:Type} (L:α→List (Nat×Value)) (H:α→Hp) (M:α→List Nat) (P:α→Prop) (μ:α→Nat) (a:α) (φ':Frame) (h':Hp) (m':List Nat):Prop :=
 ∃ a',P a'∧μ a' < μ a∧FrEq φ' (L a')∧(H a').Le h'∧m' = M a'
theorem RndM.mk {α:Type} {L:α→List (Nat×Value)} {H:α→Hp} {M:α→List Nat} {P:α→Prop} {μ:α→Nat} {a:α} {φ':Frame} {h':Hp} {m':List Nat} (a':α) (h1:P a') (h2:μ a' < μ a) (h3:FrEq φ' (L a')) (h4:(H a').Le h') (h5:m' = M a'):RndM L H M P μ a φ' h' m':=⟨a',h1,h2,h3,h4,h5⟩
theorem SeqP.cutM {α:Type} {a b:C} {φ:Frame} {h:Hp} {m:List Nat} {Q:Pq} (L:α→List (Nat×Value)) (M:α→List Nat) (P:α→Hp→Prop)
  (k1:wq E z rd a φ h m (seqQ Q fun φ' h' m'=>∃ x,FrEq φ' (L x)∧P x h'∧m' = M x))
  (k2:∀ x φ h',P x h'→wq E z rd b (upds φ (L x)) h' (M x) Q):SeqP z rd a b (wq E z rd a) (wq E z rd b) φ h m Q:=by
 refine SeqP.mk ?_
 refine wq_mono (fun e φ' h' m' hq=>?_) k1
 cases e with
 | normal =>
  obtain ⟨x,h1,h2,rfl⟩:=hq
  have:=k2 x φ' h' h2
  rw [upds_eta h1] at this
  exact this
 | _=>exact hq
def Marks (r:Nat) (ms:List Nat) (h:Hp):Prop:=ms.Nodup∧∀ d ∈ ms,r≤d∧h.at d = some .noDefers
theorem Marks.nil (r:Nat) (h:Hp):Marks r [] h:=⟨List.nodup_nil,fun d hd=>by simp at hd⟩
theorem Marks.ext {r:Nat} {ms:List Nat} {h h':Hp} (g:Grows h h') (k:Marks r ms h):Marks r ms h':=⟨k.1,fun d hd=>⟨(k.2 d hd).1,g.at_ _ _ (k.2 d hd).2⟩⟩
theorem finP_marks {rs:List ResultVar} {φ:Frame} {r:Nat} {Q:Value→Hp→Prop}:∀ {ms:List Nat} {h:Hp},Marks r ms h→(∀ h',h'.next = h.next→(∀ k o,k < r→h.at k = some o→h'.at k = some o)→(∀ k o,k ∉ ms→h.at k = some o→h'.at k = some o)→finP E rs ⟨φ,h',[]⟩ Q)→finP E rs ⟨φ,h,ms⟩ Q
 | [],h,_,k=>k h rfl (fun _ _ _ e=>e) (fun _ _ _ e=>e)
 | d :: ms,h,hm,k=>by
  have hd:=(hm.2 d (by simp))
  have hnd:=List.nodup_cons.1 hm.1
  have hm':Marks r ms (h.set d .dead):=⟨hnd.2,fun e he=>⟨(hm.2 e (by simp [he])).1,by rw [Hp.at_set_ne _ (fun x:e = d=>hnd.1 (by rw [← x]; exact he))]; exact (hm.2 e (by simp [he])).2⟩⟩
  have step:=finP_marks (rs:=rs) (φ:=φ) (Q:=Q) hm' (fun h' e1 e2 e3=>k h' e1 (fun j o hj ho=>e2 j o hj (by rw [Hp.at_set_ne _ (by omega)]; exact ho)) (fun j o hj ho=>e3 j o (fun x=>hj (by simp [x])) (by rw [Hp.at_set_ne _ (fun x=>hj (by simp [x]))]; exact ho)))
  unfold finP at step ⊢
  dsimp only at step ⊢
  rw [show takeMarksφ (d :: ms) h = takeMarksφ ms (h.set d .dead) from by
   show (match h.at d with | some .noDefers=>takeMarksφ ms (h.set d .dead) | _=>none) = _
   rw [hd.2]]
  exact step
end
end
end Go.Rx
