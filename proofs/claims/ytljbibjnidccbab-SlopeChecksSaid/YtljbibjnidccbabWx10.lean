/- Contracts by what is to be shown of each step: a part of the engine. -/
import Derived.Test.YtljbibjnidccbabWx9
set_option linter.unusedVariables false
set_option linter.unusedSectionVars false
namespace Go.Rx
open Go.RowKit
noncomputable section

/-! From a contract to calls in a world. -/

def lentHp (objs:List (List Value)):Hp:=⟨objs.length,fun r=>(objs[r]?).map .lent⟩

theorem hr_lent (objs:List (List Value)):HR (lentHeap objs) (lentHp objs) where
 next:=rfl
 at_:=by
  intro r o h
  unfold Hp.at lentHp at h
  dsimp only at h
  split at h
  ·cases hl:objs[r]? with
   | none=>rw [hl] at h; cases h
   | some l =>
    rw [hl] at h
    cases h
    refine ⟨.lent l.length (T.ofList T.empty 0 l),?_,?_⟩
    ·rw [@lentHeap_get (intsUnk fun _=>0),hl]; rfl
    refine (⟨rfl,fun k hk=>?_⟩:l.length = l.length∧∀ k,k < l.length→(T.ofList T.empty 0 l).get k = l[k]?)
    rw [T.get_ofList]
    simp only [Nat.zero_le,true_and,Nat.zero_add,hk,if_true,Nat.sub_zero]
  ·cases h

theorem lent_none [Unknowns] (w:World):LentAt [] (fun _=>none) w:=⟨fun r i h=>(by cases h),fun r i h=>(by cases h),fun r i l h=>(by cases h)⟩

theorem calls_true [Unknowns] {E:Env} {P:Program} (hE:Ok E P) (hm:P.follows .mixedOrders = true) {f:FuncId} {args:List Value} {objs:List (List Value)} (hM:OkM E P)
  (c:CallP E f args (lentHp objs) fun r _=>r = .bool true) {π:Places} {w:World} (hl:LentAt objs π w) {args':Array Value} (hargs:LRel π args args'.toList) :
  Calls P f args' w fun e w'=>e = .returned (.bool true)∧Below w.heap.size w w':=by
 obtain ⟨k,v,H',h',he,-,rfl⟩:=c _ (hr_lent objs)
 refine (calls_lent hE hM hm he hl hargs).mono fun e w' hc=>?_
 obtain ⟨v',π',rfl,_,_,hv,hg⟩:=hc
 cases hv
 exact ⟨rfl,hg.below⟩

theorem ok_facts (x:Nat→Int) {P:Program} {facts:List Fact1} (hf:∀ y ∈ facts,@Holds1 (intsUnk x) P y):@Ok (intsUnk x) (Env.of P (memoOf facts) (binOf []) convOf) P :=
 @Ok.of (intsUnk x) P _ _ _ (@memo_ok (intsUnk x) P facts hf) (@bin_ok (intsUnk x) P [] (fun r hr=>by simp at hr)) (conv_ok x) _

theorem calls_closed {P:Program} (hm:P.follows .mixedOrders = true) {fuel:Nat} {f:FuncId} {args:List Value} {v:Value} (h:answers (Env.of P (memoOf []) (binOf []) convOf) fuel f args v = true) (hd:args.all (isData 3) = true) (w:World):Calls P f ⟨args⟩ w fun e w'=>e = .returned v∧Below w.heap.size w w':=by
 have:=calls_ints (P:=P) (fun _=>0) [] [] (fun y hy=>by simp at hy) (fun r hr=>by simp at hr) hm h w
 have e:args.map (@argVal (intsUnk fun _=>0)) = args:=by
  refine (List.map_congr_left fun a ha=>?_).trans (List.map_id _)
  have hda:=List.all_eq_true.1 hd a ha
  unfold argVal
  split
  ·simp [isData] at hda
  ·rfl
 rw [e] at this
 exact this
end
end Go.Rx
