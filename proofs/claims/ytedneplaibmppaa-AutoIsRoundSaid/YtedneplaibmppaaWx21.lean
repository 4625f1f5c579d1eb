/- Contracts by what is to be shown of each step: a part of the engine. -/
import Derived.Test.YtedneplaibmppaaWx20
set_option linter.unusedVariables false
set_option linter.unusedSectionVars false
set_option linter.unusedSimpArgs false
namespace Go.Rx
open Go.RowKit
noncomputable section

/-! Maps whose keys are data of one kind; raw operations by name. -/

structure KeyTy (E:Env) (kt:TypeId) {κ:Type} [DecidableEq κ] (enc:κ→Value):Prop where
 ok:∀ k,eD E kt (enc k) = true
 eq:∀ k k',Ak E.prog kt (enc k) (enc k') = some (decide (k = k'))
 bits:∀ k,Instr.sameBits 10000 (enc k) (enc k) = true

section
variable {κ:Type} [DecidableEq κ] {enc:κ→Value}
abbrev Ent (κ:Type):=κ×Value×Nat
def yN (enc:κ→Value) (e:Ent κ):Entry:=(enc e.1,e.2.1,e.2.2)
def sH (es:List (Ent κ)) (k:κ):Option Value:=(es.find? fun e=>decide (k = e.1)).map (·.2.1)
def MapAt (h:Hp) (r:Nat) (enc:κ→Value) (f:κ→Option Value) (n:Nat):Prop :=
 ∃ (es:List (Ent κ)) (c:Nat),h.at r = some (.map (es.map (yN enc)) c)∧(∀ k,sH es k = f k)∧es.length = n
theorem MapAt.ext {h h':Hp} {r:Nat} {f:κ→Option Value} {n:Nat} (g:aC h h') (m:MapAt h r enc f n):MapAt h' r enc f n:=by
 obtain ⟨es,c,h1,h2,h3⟩:=m
 exact ⟨es,c,g.at_ _ _ h1,h2,h3⟩
theorem MapAt.congr {h:Hp} {r:Nat} {f g:κ→Option Value} {n:Nat} (m:MapAt h r enc f n) (e:∀ k,f k = g k):MapAt h r enc g n:=by
 obtain ⟨es,c,h1,h2,h3⟩:=m
 exact ⟨es,c,h1,fun k=>(h2 k).trans (e k),h3⟩
theorem MapAt.R7 {h h':Hp} {r:Nat} {f:κ→Option Value} {n:Nat} (g:∀ o,h.at r = some o→h'.at r = some o) (m:MapAt h r enc f n):MapAt h' r enc f n:=by
 obtain ⟨es,c,h1,h2,h3⟩:=m
 exact ⟨es,c,g _ h1,h2,h3⟩
theorem MapAt.new (h:Hp):MapAt (h.lay (.map [] 0)) h.next enc (fun _=>none) 0:=⟨[],0,Hp.aA _ _,fun _=>rfl,rfl⟩

def sI (k:κ):List (Ent κ)→Nat→Option (Nat×Ent κ)
 | [],_=>none
 | e :: es,i=>if k = e.1 then some (i,e) else sI k es (i + 1)
theorem oW {E:Env} {kt:TypeId} (K:KeyTy E kt enc) (k:κ):∀ (es:List (Ent κ)) (i:Nat),findKey E.prog kt (enc k) (es.map (yN enc)) i = some ((sI k es i).map fun x=>(x.1,yN enc x.2))
 | [],i=>rfl
 | e :: es,i=>by
  show (match Ak E.prog kt (enc k) (enc e.1) with | some true=>some (some (i,yN enc e)) | some false=>findKey E.prog kt (enc k) (es.map (yN enc)) (Nat.succ i) | none=>none) = _
  rw [K.eq]
  unfold sI
  by_cases h:k = e.1
  ·rw [if_pos h,decide_eq_true h]; rfl
  ·rw [if_neg h,decide_eq_false h]
   exact oW K k es (i + 1)
theorem Bn (k:κ):∀ (es:List (Ent κ)) (i:Nat),(sI k es i).map (·.2.2.1) = sH es k
 | [],i=>rfl
 | e :: es,i=>by
  unfold sI sH
  rw [List.find?_cons]
  by_cases h:k = e.1
  ·rw [if_pos h,decide_eq_true h]; rfl
  ·rw [if_neg h,decide_eq_false h]; exact Bn k es (i + 1)
def LQ:List (Ent κ)→Nat→Ent κ→List (Ent κ)
 | [],_,_=>[]
 | _ :: l,0,x=>x :: l
 | y :: l,i + 1,x=>y :: LQ l i x
theorem J4:∀ (es:List (Ent κ)) (i:Nat) (x:Ent κ),setAt (es.map (yN enc)) i (yN enc x) = (LQ es i x).map (yN enc)
 | [],_,_=>rfl
 | _ :: _,0,_=>rfl
 | y :: l,i + 1,x=>by
  show yN enc y :: setAt (l.map (yN enc)) i (yN enc x) = yN enc y :: (LQ l i x).map (yN enc)
  rw [J4]
theorem EF:∀ (es:List (Ent κ)) (i:Nat) (x:Ent κ),(LQ es i x).length = es.length
 | [],_,_=>rfl
 | _ :: _,0,_=>rfl
 | y :: l,i + 1,x=>by show (LQ l i x).length + 1 = l.length + 1; rw [EF]
theorem Ic {k:κ}:∀ {es:List (Ent κ)} {i j:Nat} {e:Ent κ},sI k es i = some (j,e)→i≤j∧e.1 = k
 | [],i,j,e,h=>by cases h
 | x :: es,i,j,e,h=>by
  unfold sI at h
  by_cases hk:k = x.1
  ·rw [if_pos hk] at h; cases h; exact ⟨Nat.le_refl _,hk.symm⟩
  ·rw [if_neg hk] at h
   have:=Ic h
   exact ⟨by omega,this.2⟩
theorem J5 {k:κ} {v:Value} {b:Nat}:∀ {es:List (Ent κ)} {i j:Nat} {e:Ent κ},sI k es i = some (j,e)→∀ k',sH (LQ es (j - i) (k,v,b)) k' = if k' = k then some v else sH es k'
 | [],i,j,e,h,k'=>by cases h
 | x :: es,i,j,e,h,k'=>by
  unfold sI at h
  by_cases hk:k = x.1
  ·rw [if_pos hk] at h
   cases h
   rw [Nat.sub_self]
   unfold LQ sH
   rw [List.find?_cons,List.find?_cons]
   dsimp only
   by_cases h2:k' = k
   ·rw [decide_eq_true h2,if_pos h2]; rfl
   ·rw [decide_eq_false h2,if_neg h2,decide_eq_false (by rw [← hk]; exact h2)]
  ·rw [if_neg hk] at h
   have h3:=(Ic h).1
   rw [show j - i = (j - (i + 1)) + 1 by omega]
   have ih:=J5 (v:=v) (b:=b) h k'
   unfold LQ sH
   unfold sH at ih
   rw [List.find?_cons,List.find?_cons]
   by_cases h2:k' = x.1
   ·rw [decide_eq_true h2,if_neg (by rw [h2]; exact fun e=>hk e.symm)]
   ·rw [decide_eq_false h2]; exact ih
theorem Oc {es:List (Ent κ)} {k:κ} {v:Value} {c:Nat} (h:sH es k = none) (k':κ):sH (es ++ [(k,v,c)]) k' = if k' = k then some v else sH es k':=by
 unfold sH at h ⊢
 rw [List.find?_append]
 cases hf:es.find? (fun e=>decide (k' = e.1)) with
 | some e =>
  by_cases h2:k' = k
  ·subst h2; rw [hf] at h; cases h
  ·rw [if_neg h2]; rfl
 | none =>
  by_cases h2:k' = k
  ·subst h2
   rw [if_pos rfl]
   simp
  ·rw [if_neg h2]
   simp [h2]
theorem DZ {es:List (Ent κ)} {k:κ} {i:Nat} (h:sI k es i = none):sH es k = none:=by rw [← Bn k es i,h]; rfl
theorem D5 {es:List (Ent κ)} {k:κ} {i j:Nat} {e:Ent κ} (h:sI k es i = some (j,e)):sH es k = some e.2.1:=by rw [← Bn k es i,h]; rfl

variable {E:Env}
theorem Ie {h:Hp} {r:Nat} {es:List Entry} {c:Nat} (hr:h.at r = some (.map es c)):Bc h (bK r) = some (es,c):=by
 show bT h r = _
 unfold bT
 rw [hr]
theorem EG {t kt et:TypeId} {ti ei:TI} (ht:E.ty t = some ti) (hd:ti.desc = .map kt et) (he:E.ty et = some ei) {z:Value} (hz:ei.zero = some z) (K:KeyTy E kt enc) {φ:Frame} {h:Hp} {ty:TypeId} {x j:Operand} {r:Nat} {k:κ} {f:κ→Option Value} {n:Nat}
  (hx:bI φ x = bK r) (hj:bI φ j = enc k) (hm:MapAt h r enc f n) {Q:Value→Hp→Prop} (q:Q (.tuple ⟨[(f k).getD z,.bool (f k).isSome]⟩) h):Bj E (.raw (.lookup t x j true) ty) φ h Q:=by
 obtain ⟨es,c,h1,h2,h3⟩:=hm
 refine Bj.mk (lV (v:=.tuple ⟨[(f k).getD z,.bool (f k).isSome]⟩) (h:=h) ?_ q)
 show hval h (vX E h t (bI φ x) (bI φ j) true) = _
 rw [hx,hj]
 unfold vX
 rw [ht]
 dsimp only
 rw [hd]
 dsimp only
 rw [Ie h1]
 unfold dP
 rw [K.ok]
 dsimp only
 rw [he]
 dsimp only
 rw [oW K]
 unfold BI
 rw [← h2 k]
 cases hf:sI k es 0 with
 | none=>rw [DZ hf]; dsimp only [Option.map]; rw [hz]; rfl
 | some x=>obtain ⟨i,e⟩:=x; rw [D5 hf]; rfl
theorem EH {t kt et:TypeId} {ti ei:TI} (ht:E.ty t = some ti) (hd:ti.desc = .map kt et) (he:E.ty et = some ei) {z:Value} (hz:ei.zero = some z) (K:KeyTy E kt enc) {φ:Frame} {h:Hp} {ty:TypeId} {x j:Operand} {r:Nat} {k:κ} {f:κ→Option Value} {n:Nat}
  (hx:bI φ x = bK r) (hj:bI φ j = enc k) (hm:MapAt h r enc f n) {Q:Value→Hp→Prop} (q:Q ((f k).getD z) h):Bj E (.raw (.lookup t x j false) ty) φ h Q:=by
 obtain ⟨es,c,h1,h2,h3⟩:=hm
 refine Bj.mk (lV (v:=(f k).getD z) (h:=h) ?_ q)
 show hval h (vX E h t (bI φ x) (bI φ j) false) = _
 rw [hx,hj]
 unfold vX
 rw [ht]
 dsimp only
 rw [hd]
 dsimp only
 rw [Ie h1]
 unfold dP
 rw [K.ok]
 dsimp only
 rw [he]
 dsimp only
 rw [oW K]
 unfold BI
 rw [← h2 k]
 cases hf:sI k es 0 with
 | none=>rw [DZ hf]; dsimp only [Option.map]; rw [hz]; rfl
 | some x=>obtain ⟨i,e⟩:=x; rw [D5 hf]; rfl
theorem gY {t kt et:TypeId} {ti ei:TI} (ht:E.ty t = some ti) (hd:ti.desc = .map kt et) (he:E.ty et = some ei) {z:Value} (hz:ei.zero = some z) (K:KeyTy E kt enc) {φ:Frame} {h:Hp} {ty:TypeId} {x j:Operand} {r:Nat} {k:κ} {v:Value} {f:κ→Option Value} {n:Nat}
  (hx:bI φ x = bK r) (hj:bI φ j = enc k) (hm:MapAt h r enc f n) (hf:f k = some v) {Q:Value→Hp→Prop} (q:Q (.tuple ⟨[v,.bool true]⟩) h):Bj E (.raw (.lookup t x j true) ty) φ h Q :=
 EG ht hd he hz K hx hj hm (by rw [hf]; exact q)
theorem gZ {t kt et:TypeId} {ti ei:TI} (ht:E.ty t = some ti) (hd:ti.desc = .map kt et) (he:E.ty et = some ei) {z:Value} (hz:ei.zero = some z) (K:KeyTy E kt enc) {φ:Frame} {h:Hp} {ty:TypeId} {x j:Operand} {r:Nat} {k:κ} {f:κ→Option Value} {n:Nat}
  (hx:bI φ x = bK r) (hj:bI φ j = enc k) (hm:MapAt h r enc f n) (hf:f k = none) {Q:Value→Hp→Prop} (q:Q (.tuple ⟨[z,.bool false]⟩) h):Bj E (.raw (.lookup t x j true) ty) φ h Q :=
 EG ht hd he hz K hx hj hm (by rw [hf]; exact q)
theorem iD {t kt et:TypeId} {ti:TI} (ht:E.ty t = some ti) (hd:ti.desc = .map kt et) (K:KeyTy E kt enc) {φ:Frame} {h:Hp} {ty:TypeId} {x j y:Operand} {r:Nat} {k:κ} {v:Value} {f:κ→Option Value} {n:Nat}
  (hx:bI φ x = bK r) (hj:bI φ j = enc k) (hy:bI φ y = v) (hm:MapAt h r enc f n) {Q:Value→Hp→Prop}
  (q:∀ h',MapAt h' r enc (fun k'=>if k' = k then some v else f k') (if (f k).isSome then n else n + 1)→Keeps r h h'→Q undef h'):Bj E (.raw (.mapUpdate t x j y) ty) φ h Q:=by
 obtain ⟨es,c,h1,h2,h3⟩:=hm
 have hlt:=Hp.aU h1
 cases hf:sI k es 0 with
 | none =>
  have hn:=DZ hf
  refine Bj.mk (lV (v:=undef) (h:=h.set r (.map (es.map (yN enc) ++ [(enc k,v,c)]) (Nat.succ c))) ?_ (q _ ⟨es ++ [(k,v,c)],Nat.succ c,?_,?_,?_⟩ (Keeps.set _ _ _)))
  ·show hmem (rV E h t (bI φ x) (bI φ j) (bI φ y)) = _
   rw [hx,hj,hy]
   unfold rV
   rw [ht]
   dsimp only
   rw [hd]
   dsimp only [bK]
   unfold bT
   rw [h1]
   dsimp only
   unfold uD
   rw [K.ok]
   dsimp only
   rw [oW K,hf]
   rfl
  ·rw [Hp.bH _ hlt,List.map_append]; rfl
  ·intro k'
   rw [Oc hn,h2]
  ·rw [← h2 k,hn,List.length_append,h3]; rfl
 | some p =>
  obtain ⟨i,e⟩:=p
  have hs:=D5 hf
  have he:=(Ic hf).2
  refine Bj.mk (lV (v:=undef) (h:=h.set r (.map (setAt (es.map (yN enc)) i (enc k,v,e.2.2)) c)) ?_ (q _ ⟨LQ es i (k,v,e.2.2),c,?_,?_,?_⟩ (Keeps.set _ _ _)))
  ·show hmem (rV E h t (bI φ x) (bI φ j) (bI φ y)) = _
   rw [hx,hj,hy]
   unfold rV
   rw [ht]
   dsimp only
   rw [hd]
   dsimp only [bK]
   unfold bT
   rw [h1]
   dsimp only
   unfold uD
   rw [K.ok]
   dsimp only
   rw [oW K,hf]
   unfold dw
   dsimp only [Option.map,yN]
   rw [he,K.bits]
   rfl
  ·rw [Hp.bH _ hlt]
   exact congrArg (fun l=>some (Obj.map l c)) (J4 es i (k,v,e.2.2))
  ·intro k'
   show _ = if k' = k then some v else f k'
   rw [← h2 k']
   exact J5 (i:=0) hf k'
  ·rw [← h2 k,hs,EF,h3]; rfl
theorem Bo {t kt et:TypeId} {ti:TI} (ht:E.ty t = some ti) (hd:ti.desc = .map kt et) {φ:Frame} {h:Hp} {ty:TypeId} {x:Operand} {r:Nat} {f:κ→Option Value} {n:Nat}
  (hx:bI φ x = bK r) (hm:MapAt h r enc f n) {Q:Value→Hp→Prop} (q:Q (int n) h):Bj E (.raw (.call ⟨.builtin .len,⟨[x]⟩,⟨[t]⟩⟩) ty) φ h Q:=by
 obtain ⟨es,c,h1,h2,h3⟩:=hm
 refine Bj.mk (lV (v:=int n) (h:=h) ?_ q)
 show hval h (match E.ty t with | none=>none | some i=>Bd E h (bI φ x) i) = _
 rw [ht,hx]
 dsimp only
 unfold Bd
 rw [hd]
 dsimp only
 rw [Ie h1]
 show hval h (some (int ((es.map (yN enc)).length:Nat))) = _
 rw [List.length_map,h3]
 rfl
end

theorem YU (m n:Int):eqI m n = decide (m = n):=by
 unfold eqI
 have q:∀ a b:Nat,Nat.beq a b = decide (a = b):=by
  intro a b
  by_cases h:a = b
  ·subst h; simp
  ·rw [decide_eq_false h]
   cases e:Nat.beq a b with
   | false=>rfl
   | true=>exact absurd (Nat.eq_of_beq_eq_true e) h
 cases m <;> cases n <;> dsimp only
 ·rw [q]; congr 1; exact propext ⟨fun h=>by subst h; rfl,fun h=>by injection h⟩
 ·simp
 ·simp
 ·rw [q]; congr 1; exact propext ⟨fun h=>by subst h; rfl,fun h=>by injection h⟩
theorem aax {E:Env} {kt:TypeId} {i:TI} (hk:E.ty kt = some i) (hi:Mw i.desc = true):KeyTy E kt (fun n:Int=>int n) where
 ok:=fun k=>by show (match E.ty kt with | some i=>Mw i.desc | none=>false) = true; rw [hk]; exact hi
 eq:=fun k k'=>congrArg some (YU k k')
 bits:=fun k=>by unfold Instr.sameBits; simp
/-! Raw operations. -/
variable {E:Env}
end
end Go.Rx
