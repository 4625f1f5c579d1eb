/- Contracts by what is to be shown of each step: a part of the engine. -/
import Derived.Test.YtljbibjnidccbabWx5
set_option linter.unusedVariables false
set_option linter.unusedSectionVars false
set_option linter.unusedSimpArgs false
namespace Go.Rx
noncomputable section

theorem env_fn {P:Program} {memo:FuncId→List Value→Option Value} {bin:BinOp→Value→Value→Option Value} {conv:TypeDesc→Value→Option Value} {mem:FuncId→List Value→Heap→Option (Value×Heap)} {f:FuncId} {fn:Func} (h:P.funcs[f]? = some fn) :
  (Env.of P memo bin conv mem).fn.get f = some fn:=by
 unfold Env.of
 simp only [T.get_ofList,T.get_empty,Nat.zero_le,true_and,Nat.zero_add,Nat.sub_zero]
 have hlt:f < P.funcs.size:=(Array.getElem?_eq_some_iff.1 h).1
 rw [if_pos (by simpa using hlt),Array.getElem?_toList]
 exact h

theorem env_ty {P:Program} {memo:FuncId→List Value→Option Value} {bin:BinOp→Value→Value→Option Value} {conv:TypeDesc→Value→Option Value} {mem:FuncId→List Value→Heap→Option (Value×Heap)} {t:TypeId} {i:TI} (h:Nat.blt t P.types.size = true) (hi:tiOf P t = some i) :
  (Env.of P memo bin conv mem).ty t = some i:=by
 have h:t < P.types.size:=Nat.le_of_ble_eq_true h
 unfold Env.ty Env.of
 simp only [T.get_ofList,T.get_empty,Nat.zero_le,true_and,Nat.zero_add,Nat.sub_zero,List.length_map,List.length_range]
 rw [if_pos h]
 simp [h,hi]

theorem env_tyok {P:Program} {memo:FuncId→List Value→Option Value} {bin:BinOp→Value→Value→Option Value} {conv:TypeDesc→Value→Option Value} {mem:FuncId→List Value→Heap→Option (Value×Heap)}:TyOk (Env.of P memo bin conv mem) where
 ty:=by
  intro t i h
  unfold Env.ty Env.of at h
  simp only [T.get_ofList,T.get_empty,Nat.zero_le,true_and,Nat.zero_add,Nat.sub_zero] at h
  have key:tiOf P t = some i:=by
   split at h
   ·rename_i r hr
    split at hr
    ·rw [List.getElem?_map] at hr
     cases hl:(List.range P.types.size)[t]? with
     | none=>simp [hl] at hr
     | some u =>
      have:u = t:=by
       have:=List.getElem?_eq_some_iff.1 hl
       obtain ⟨hlt,hu⟩:=this
       simp at hu; exact hu.symm
      subst this
      simp [hl] at hr
      subst hr
      exact h
    ·cases hr
   ·cases h
  obtain ⟨info,h1,_⟩:=@tiOf_some ⟨fun _=>.nilFunc,fun _ _ h=>by cases h⟩ P t i key
  exact h1

/-! For use. -/

theorem callable_of {P:Program} {memo:FuncId→List Value→Option Value} {bin:BinOp→Value→Value→Option Value} {conv:TypeDesc→Value→Option Value} {mem:FuncId→List Value→Heap→Option (Value×Heap)} {f:FuncId} {fn:Func} (h:P.funcs[f]? = some fn)
  (hb : fn.body.isSome = true) (hn : (fn.name == "runtime.NumGoroutine") = false) : callable (Env.of P memo bin conv mem) f = true := by
 unfold callable callFunc
 rw [env_fn h]
 dsimp only
 unfold callFn
 cases hb':fn.body with
 | none=>rw [hb'] at hb; cases hb
 | some b=>dsimp only; rw [hn]

def upds (φ:Frame):List (Nat×Value)→Frame
 | []=>φ
 | (d,v) :: l=>upd (upds φ l) d v
def FrEq (φ:Frame):List (Nat×Value)→Prop
 | []=>True
 | (d,v) :: l=>φ d = v∧FrEq φ l
theorem upd_eta {φ:Frame} {d:Nat} {v:Value} (h:φ d = v):upd φ d v = φ:=by
 funext t; unfold upd; split
 ·rename_i e; rw [e,h]
 ·rfl
theorem upds_eta {φ:Frame}:∀ {l:List (Nat×Value)},FrEq φ l→upds φ l = φ
 | [],_=>rfl
 | (d,v) :: l,h=>by
  show upd (upds φ l) d v = φ
  rw [upds_eta h.2]; exact upd_eta h.1

end
end Go.Rx
