/- Contracts by what is to be shown of each step: a part of the engine. -/
import Derived.Test.YtedneplaibmppaaWx9
set_option linter.unusedVariables false
set_option linter.unusedSectionVars false
namespace Go.Rx
open Go.RowKit
noncomputable section

/-! From a contract to calls in a world. -/

def q8 (objs:List (List Value)):Hp:=⟨objs.length,fun r=>(objs[r]?).map .pI⟩

theorem YN (objs:List (List Value)):HR (yw objs) (q8 objs) where
 next:=rfl
 at_:=by
  intro r o h
  unfold Hp.at q8 at h
  dsimp only at h
  split at h
  ·cases hl:objs[r]? with
   | none=>rw [hl] at h; cases h
   | some l =>
    rw [hl] at h
    cases h
    refine ⟨.pI l.length (T.ofList T.empty 0 l),?_,?_⟩
    ·rw [@pX (ko fun _=>0),hl]; rfl
    refine (⟨rfl,fun k hk=>?_⟩:l.length = l.length∧∀ k,k < l.length→(T.ofList T.empty 0 l).get k = l[k]?)
    rw [T.fQ]
    simp only [Nat.zero_le,true_and,Nat.zero_add,hk,if_true,Nat.sub_zero]
  ·cases h

theorem Ug [bE] (w:World):sV [] (fun _=>none) w:=⟨fun r i h=>(by cases h),fun r i h=>(by cases h),fun r i l h=>(by cases h)⟩

theorem Qr [bE] {E:Env} {P:Program} (hE:Ok E P) (hm:P.follows .mixedOrders = true) {f:FuncId} {args:List Value} {objs:List (List Value)} (hM:OkM E P)
  (c:aJ E f args (q8 objs) fun r _=>r = .bool true) {π:Places} {w:World} (hl:sV objs π w) {args':Array Value} (hargs:bY π args args'.toList) :
  Calls P f args' w fun e w'=>e = .returned (.bool true)∧Below w.heap.size w w':=by
 obtain ⟨k,v,H',h',he,-,rfl⟩:=c _ (YN objs)
 refine (PL hE hM hm he hl hargs).mono fun e w' hc=>?_
 obtain ⟨v',π',rfl,_,_,hv,hg⟩:=hc
 cases hv
 exact ⟨rfl,hg.below⟩

theorem WV (x:Nat→Int) {P:Program} {facts:List Ng} (hf:∀ y ∈ facts,@PK (ko x) P y):@Ok (ko x) (Env.of P (Ba facts) (RG []) KT) P :=
 @Ok.of (ko x) P _ _ _ (@RH (ko x) P facts hf) (@Z9 (ko x) P [] (fun r hr=>by simp at hr)) (YC x) _

end
end Go.Rx
