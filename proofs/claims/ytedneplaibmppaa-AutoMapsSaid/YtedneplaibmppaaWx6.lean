/- A part of the engine. -/
import Derived.Test.YtedneplaibmppaaWx5
set_option linter.unusedVariables false
set_option linter.unusedSectionVars false
set_option linter.unusedSimpArgs false
namespace Go.Rx
noncomputable section
theorem Xz {P:Program}{memo:FuncId→List Value→Option Value}{bin:BinOp→Value→Value→Option Value}{conv:TypeDesc→Value→Option Value}{mem:FuncId→List Value→Heap→Option (Value×Heap)}{f:FuncId}{fn:Func}(h:P.funcs[f]? = some fn) :
  (Env.of P memo bin conv mem).fn.get f = some fn:=by
 unfold Env.of;simp only [T.fT,T.mV,Nat.zero_le,true_and,Nat.zero_add,Nat.sub_zero];have hlt:f < P.funcs.size:=(Array.getElem?_eq_some_iff.1 h).1;rw [if_pos (by simpa using hlt),Array.getElem?_toList];exact h
theorem aaV {P:Program}{memo:FuncId→List Value→Option Value}{bin:BinOp→Value→Value→Option Value}{conv:TypeDesc→Value→Option Value}{mem:FuncId→List Value→Heap→Option (Value×Heap)}{t:TypeId}{i:TI}(h:Nat.blt t P.types.size = true)(hi:jL P t = some i) :
  (Env.of P memo bin conv mem).ty t = some i:=by
 have h:t < P.types.size:=Nat.le_of_ble_eq_true h;unfold Env.ty Env.of;simp only [T.fT,T.mV,Nat.zero_le,true_and,Nat.zero_add,Nat.sub_zero,List.length_map,List.length_range];rw [if_pos h];simp [h,hi]
theorem XA {P:Program}{memo:FuncId→List Value→Option Value}{bin:BinOp→Value→Value→Option Value}{conv:TypeDesc→Value→Option Value}{mem:FuncId→List Value→Heap→Option (Value×Heap)}:Af (Env.of P memo bin conv mem) where
 ty:=by
  intro t i h;unfold Env.ty Env.of at h;simp only [T.fT,T.mV,Nat.zero_le,true_and,Nat.zero_add,Nat.sub_zero] at h;have key:jL P t = some i:=by
   split at h
   ·rename_i r hr;split at hr
    ·rw [List.getElem?_map] at hr
     cases hl:(List.range P.types.size)[t]? with
     | none=>simp [hl] at hr
     | some u =>
      have:u = t:=by
       have:=List.getElem?_eq_some_iff.1 hl;obtain ⟨hlt,hu⟩:=this;simp at hu; exact hu.symm
      subst this;simp [hl] at hr;subst hr;exact h
    ·cases hr
   ·cases h
  obtain ⟨info,h1,_⟩:=@JI ⟨fun _=>.nilFunc,fun _ _ h=>by cases h⟩ P t i key;exact h1
/-! For use. -/
theorem OA {P:Program}{memo:FuncId→List Value→Option Value}{bin:BinOp→Value→Value→Option Value}{conv:TypeDesc→Value→Option Value}{mem:FuncId→List Value→Heap→Option (Value×Heap)}{f:FuncId}{fn:Func}(h:P.funcs[f]? = some fn)
  (hb : fn.body.isSome = true) (hn : (fn.name == "runtime.NumGoroutine") = false) : callable (Env.of P memo bin conv mem) f = true := by
 unfold callable callFunc;rw [Xz h];dsimp only;unfold F7
 cases hb':fn.body with
 | none=>rw [hb'] at hb; cases hb
 | some b=>dsimp only; rw [hn]
def OB (φ:Frame):List (Nat×Value)→Frame
 | []=>φ
 | (d,v) :: l=>upd (OB φ l) d v
def LP (φ:Frame):List (Nat×Value)→Prop
 | []=>True
 | (d,v) :: l=>φ d = v∧LP φ l
theorem Zd {φ:Frame}{d:Nat}{v:Value}(h:φ d = v):upd φ d v = φ:=by
 funext t; unfold upd; split
 ·rename_i e; rw [e,h]
 ·rfl
theorem yL {φ:Frame}:∀ {l:List (Nat×Value)},LP φ l→OB φ l = φ
 | [],_=>rfl
 | (d,v) :: l,h=>by
  show upd (OB φ l) d v = φ;rw [yL h.2]; exact Zd h.1
end
end Go.Rx
