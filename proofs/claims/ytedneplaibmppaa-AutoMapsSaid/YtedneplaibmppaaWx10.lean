/- A part of the engine. -/
import Derived.Test.YtedneplaibmppaaWx9
set_option linter.unusedVariables false
set_option linter.unusedSectionVars false
namespace Go.Rx
open Go.RowKit
noncomputable section
/-! From a contract to calls in a world. -/
def rE (objs:List (List Value)):Hp:=⟨objs.length,fun r=>(objs[r]?).map .qb⟩
theorem Zg (objs:List (List Value)):HR (yE objs) (rE objs) where
 next:=rfl
 at_:=by
  intro r o h;unfold Hp.at rE at h;dsimp only at h;split at h
  ·cases hl:objs[r]? with
   | none=>rw [hl] at h; cases h
   | some l =>
    rw [hl] at h;cases h
    refine ⟨.qb l.length (T.ofList T.empty 0 l),?_,?_⟩
    ·rw [@qw (kH fun _=>0),hl]; rfl
    refine (⟨rfl,fun k hk=>?_⟩:l.length = l.length∧∀ k,k < l.length→(T.ofList T.empty 0 l).get k = l[k]?);rw [T.fT];simp only [Nat.zero_le,true_and,Nat.zero_add,hk,if_true,Nat.sub_zero]
  ·cases h
theorem UY [bC](w:World):tT [] (fun _=>none) w:=⟨fun r i h=>(by cases h),fun r i h=>(by cases h),fun r i l h=>(by cases h)⟩
theorem QV [bC]{E:Env}{P:Program}(hE:Ok E P)(hm:P.follows .mixedOrders = true){f:FuncId}{args:List Value}{objs:List (List Value)}(hM:OkM E P)
  (c:aJ E f args (rE objs) fun r _=>r = .bool true){π:Places}{w:World}(hl:tT objs π w){args':Array Value}(hargs:bZ π args args'.toList) :
  Calls P f args' w fun e w'=>e = .returned (.bool true)∧Below w.heap.size w w':=by
 obtain ⟨k,v,H',h',he,-,rfl⟩:=c _ (Zg objs);refine (Qm hE hM hm he hl hargs).mono fun e w' hc=>?_;obtain ⟨v',π',rfl,_,_,hv,hg⟩:=hc;cases hv
 exact ⟨rfl,hg.below⟩
theorem XH (x:Nat→Int){P:Program}{facts:List NS}(hf:∀ y ∈ facts,@Ql (kH x) P y):@Ok (kH x) (Env.of P (AZ facts) (Sy []) La) P :=
 @Ok.of (kH x) P _ _ _ (@Sz (kH x) P facts hf) (@aaI (kH x) P [] (fun r hr=>by simp at hr)) (Y5 x) _
end
end Go.Rx
