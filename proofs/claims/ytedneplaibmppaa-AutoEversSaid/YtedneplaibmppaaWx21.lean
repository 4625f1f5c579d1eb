/- Contracts by what is to be shown of each step: a part of the engine. -/
import Derived.Test.YtedneplaibmppaaWx20
set_option linter.unusedVariables false
set_option linter.unusedSectionVars false
set_option linter.unusedSimpArgs false
namespace Go.Rx
open Go.RowKit
noncomputable section

/-! Maps whose keys are data of one kind; raw operations by name. -/

structure KeyTy (E:Env) (kt:TypeId) {κ:Type} [DecidableEq κ] (enc:κ→Value):Prop where
 ok:∀ k,keyOk E kt (enc k) = true
 eq:∀ k k',keyEq E.prog kt (enc k) (enc k') = some (decide (k = k'))
 bits:∀ k,Instr.sameBits 10000 (enc k) (enc k) = true

section
variable {κ:Type} [DecidableEq κ] {enc:κ→Value}
abbrev Ent (κ:Type):=κ×Value×Nat
def entV (enc:κ→Value) (e:Ent κ):Entry:=(enc e.1,e.2.1,e.2.2)
def lookK (es:List (Ent κ)) (k:κ):Option Value:=(es.find? fun e=>decide (k = e.1)).map (·.2.1)
def MapAt (h:Hp) (r:Nat) (enc:κ→Value) (f:κ→Option Value) (n:Nat):Prop :=
 ∃ (es:List (Ent κ)) (c:Nat),h.at r = some (.map (es.map (entV enc)) c)∧(∀ k,lookK es k = f k)∧es.length = n
theorem MapAt.ext {h h':Hp} {r:Nat} {f:κ→Option Value} {n:Nat} (g:Grows h h') (m:MapAt h r enc f n):MapAt h' r enc f n:=by
 obtain ⟨es,c,h1,h2,h3⟩:=m
 exact ⟨es,c,g.at_ _ _ h1,h2,h3⟩
theorem MapAt.congr {h:Hp} {r:Nat} {f g:κ→Option Value} {n:Nat} (m:MapAt h r enc f n) (e:∀ k,f k = g k):MapAt h r enc g n:=by
 obtain ⟨es,c,h1,h2,h3⟩:=m
 exact ⟨es,c,h1,fun k=>(h2 k).trans (e k),h3⟩
theorem MapAt.of_at {h h':Hp} {r:Nat} {f:κ→Option Value} {n:Nat} (g:∀ o,h.at r = some o→h'.at r = some o) (m:MapAt h r enc f n):MapAt h' r enc f n:=by
 obtain ⟨es,c,h1,h2,h3⟩:=m
 exact ⟨es,c,g _ h1,h2,h3⟩
theorem MapAt.new (h:Hp):MapAt (h.lay (.map [] 0)) h.next enc (fun _=>none) 0:=⟨[],0,Hp.at_lay_self _ _,fun _=>rfl,rfl⟩

def findK (k:κ):List (Ent κ)→Nat→Option (Nat×Ent κ)
 | [],_=>none
 | e :: es,i=>if k = e.1 then some (i,e) else findK k es (i + 1)
theorem findKey_map {E:Env} {kt:TypeId} (K:KeyTy E kt enc) (k:κ):∀ (es:List (Ent κ)) (i:Nat),findKey E.prog kt (enc k) (es.map (entV enc)) i = some ((findK k es i).map fun x=>(x.1,entV enc x.2))
 | [],i=>rfl
 | e :: es,i=>by
  show (match keyEq E.prog kt (enc k) (enc e.1) with | some true=>some (some (i,entV enc e)) | some false=>findKey E.prog kt (enc k) (es.map (entV enc)) (Nat.succ i) | none=>none) = _
  rw [K.eq]
  unfold findK
  by_cases h:k = e.1
  ·rw [if_pos h,decide_eq_true h]; rfl
  ·rw [if_neg h,decide_eq_false h]
   exact findKey_map K k es (i + 1)
theorem findK_look (k:κ):∀ (es:List (Ent κ)) (i:Nat),(findK k es i).map (·.2.2.1) = lookK es k
 | [],i=>rfl
 | e :: es,i=>by
  unfold findK lookK
  rw [List.find?_cons]
  by_cases h:k = e.1
  ·rw [if_pos h,decide_eq_true h]; rfl
  ·rw [if_neg h,decide_eq_false h]; exact findK_look k es (i + 1)
def setK:List (Ent κ)→Nat→Ent κ→List (Ent κ)
 | [],_,_=>[]
 | _ :: l,0,x=>x :: l
 | y :: l,i + 1,x=>y :: setK l i x
theorem setAt_map:∀ (es:List (Ent κ)) (i:Nat) (x:Ent κ),setAt (es.map (entV enc)) i (entV enc x) = (setK es i x).map (entV enc)
 | [],_,_=>rfl
 | _ :: _,0,_=>rfl
 | y :: l,i + 1,x=>by
  show entV enc y :: setAt (l.map (entV enc)) i (entV enc x) = entV enc y :: (setK l i x).map (entV enc)
  rw [setAt_map]
theorem setK_length:∀ (es:List (Ent κ)) (i:Nat) (x:Ent κ),(setK es i x).length = es.length
 | [],_,_=>rfl
 | _ :: _,0,_=>rfl
 | y :: l,i + 1,x=>by show (setK l i x).length + 1 = l.length + 1; rw [setK_length]
theorem findK_ge {k:κ}:∀ {es:List (Ent κ)} {i j:Nat} {e:Ent κ},findK k es i = some (j,e)→i≤j∧e.1 = k
 | [],i,j,e,h=>by cases h
 | x :: es,i,j,e,h=>by
  unfold findK at h
  by_cases hk:k = x.1
  ·rw [if_pos hk] at h; cases h; exact ⟨Nat.le_refl _,hk.symm⟩
  ·rw [if_neg hk] at h
   have:=findK_ge h
   exact ⟨by omega,this.2⟩
theorem look_setK {k:κ} {v:Value} {b:Nat}:∀ {es:List (Ent κ)} {i j:Nat} {e:Ent κ},findK k es i = some (j,e)→∀ k',lookK (setK es (j - i) (k,v,b)) k' = if k' = k then some v else lookK es k'
 | [],i,j,e,h,k'=>by cases h
 | x :: es,i,j,e,h,k'=>by
  unfold findK at h
  by_cases hk:k = x.1
  ·rw [if_pos hk] at h
   cases h
   rw [Nat.sub_self]
   unfold setK lookK
   rw [List.find?_cons,List.find?_cons]
   dsimp only
   by_cases h2:k' = k
   ·rw [decide_eq_true h2,if_pos h2]; rfl
   ·rw [decide_eq_false h2,if_neg h2,decide_eq_false (by rw [← hk]; exact h2)]
  ·rw [if_neg hk] at h
   have h3:=(findK_ge h).1
   rw [show j - i = (j - (i + 1)) + 1 by omega]
   have ih:=look_setK (v:=v) (b:=b) h k'
   unfold setK lookK
   unfold lookK at ih
   rw [List.find?_cons,List.find?_cons]
   by_cases h2:k' = x.1
   ·rw [decide_eq_true h2,if_neg (by rw [h2]; exact fun e=>hk e.symm)]
   ·rw [decide_eq_false h2]; exact ih
theorem look_append {es:List (Ent κ)} {k:κ} {v:Value} {c:Nat} (h:lookK es k = none) (k':κ):lookK (es ++ [(k,v,c)]) k' = if k' = k then some v else lookK es k':=by
 unfold lookK at h ⊢
 rw [List.find?_append]
 cases hf:es.find? (fun e=>decide (k' = e.1)) with
 | some e =>
  by_cases h2:k' = k
  ·subst h2; rw [hf] at h; cases h
  ·rw [if_neg h2]; rfl
 | none =>
  by_cases h2:k' = k
  ·subst h2
   rw [if_pos rfl]
   simp
  ·rw [if_neg h2]
   simp [h2]
theorem find_none {es:List (Ent κ)} {k:κ} {i:Nat} (h:findK k es i = none):lookK es k = none:=by rw [← findK_look k es i,h]; rfl
theorem find_some {es:List (Ent κ)} {k:κ} {i j:Nat} {e:Ent κ} (h:findK k es i = some (j,e)):lookK es k = some e.2.1:=by rw [← findK_look k es i,h]; rfl

variable {E:Env}
theorem mapOf_at {h:Hp} {r:Nat} {es:List Entry} {c:Nat} (hr:h.at r = some (.map es c)):hmapOf h (mapAt r) = some (es,c):=by
 show hentries h r = _
 unfold hentries
 rw [hr]
theorem raw_lookup2 {t kt et:TypeId} {ti ei:TI} (ht:E.ty t = some ti) (hd:ti.desc = .map kt et) (he:E.ty et = some ei) {z:Value} (hz:ei.zero = some z) (K:KeyTy E kt enc) {φ:Frame} {h:Hp} {ty:TypeId} {x j:Operand} {r:Nat} {k:κ} {f:κ→Option Value} {n:Nat}
  (hx:evφ φ x = mapAt r) (hj:evφ φ j = enc k) (hm:MapAt h r enc f n) {Q:Value→Hp→Prop} (q:Q (.tuple ⟨[(f k).getD z,.bool (f k).isSome]⟩) h):MapP E (.raw (.lookup t x j true) ty) φ h Q:=by
 obtain ⟨es,c,h1,h2,h3⟩:=hm
 refine MapP.mk (resP_val (v:=.tuple ⟨[(f k).getD z,.bool (f k).isSome]⟩) (h:=h) ?_ q)
 show hval h (hlookup E h t (evφ φ x) (evφ φ j) true) = _
 rw [hx,hj]
 unfold hlookup
 rw [ht]
 dsimp only
 rw [hd]
 dsimp only
 rw [mapOf_at h1]
 unfold lookIn
 rw [K.ok]
 dsimp only
 rw [he]
 dsimp only
 rw [findKey_map K]
 unfold lookedUp
 rw [← h2 k]
 cases hf:findK k es 0 with
 | none=>rw [find_none hf]; dsimp only [Option.map]; rw [hz]; rfl
 | some x=>obtain ⟨i,e⟩:=x; rw [find_some hf]; rfl
theorem raw_lookup1 {t kt et:TypeId} {ti ei:TI} (ht:E.ty t = some ti) (hd:ti.desc = .map kt et) (he:E.ty et = some ei) {z:Value} (hz:ei.zero = some z) (K:KeyTy E kt enc) {φ:Frame} {h:Hp} {ty:TypeId} {x j:Operand} {r:Nat} {k:κ} {f:κ→Option Value} {n:Nat}
  (hx:evφ φ x = mapAt r) (hj:evφ φ j = enc k) (hm:MapAt h r enc f n) {Q:Value→Hp→Prop} (q:Q ((f k).getD z) h):MapP E (.raw (.lookup t x j false) ty) φ h Q:=by
 obtain ⟨es,c,h1,h2,h3⟩:=hm
 refine MapP.mk (resP_val (v:=(f k).getD z) (h:=h) ?_ q)
 show hval h (hlookup E h t (evφ φ x) (evφ φ j) false) = _
 rw [hx,hj]
 unfold hlookup
 rw [ht]
 dsimp only
 rw [hd]
 dsimp only
 rw [mapOf_at h1]
 unfold lookIn
 rw [K.ok]
 dsimp only
 rw [he]
 dsimp only
 rw [findKey_map K]
 unfold lookedUp
 rw [← h2 k]
 cases hf:findK k es 0 with
 | none=>rw [find_none hf]; dsimp only [Option.map]; rw [hz]; rfl
 | some x=>obtain ⟨i,e⟩:=x; rw [find_some hf]; rfl
theorem raw_look2_some {t kt et:TypeId} {ti ei:TI} (ht:E.ty t = some ti) (hd:ti.desc = .map kt et) (he:E.ty et = some ei) {z:Value} (hz:ei.zero = some z) (K:KeyTy E kt enc) {φ:Frame} {h:Hp} {ty:TypeId} {x j:Operand} {r:Nat} {k:κ} {v:Value} {f:κ→Option Value} {n:Nat}
  (hx:evφ φ x = mapAt r) (hj:evφ φ j = enc k) (hm:MapAt h r enc f n) (hf:f k = some v) {Q:Value→Hp→Prop} (q:Q (.tuple ⟨[v,.bool true]⟩) h):MapP E (.raw (.lookup t x j true) ty) φ h Q :=
 raw_lookup2 ht hd he hz K hx hj hm (by rw [hf]; exact q)
theorem raw_look2_none {t kt et:TypeId} {ti ei:TI} (ht:E.ty t = some ti) (hd:ti.desc = .map kt et) (he:E.ty et = some ei) {z:Value} (hz:ei.zero = some z) (K:KeyTy E kt enc) {φ:Frame} {h:Hp} {ty:TypeId} {x j:Operand} {r:Nat} {k:κ} {f:κ→Option Value} {n:Nat}
  (hx:evφ φ x = mapAt r) (hj:evφ φ j = enc k) (hm:MapAt h r enc f n) (hf:f k = none) {Q:Value→Hp→Prop} (q:Q (.tuple ⟨[z,.bool false]⟩) h):MapP E (.raw (.lookup t x j true) ty) φ h Q :=
 raw_lookup2 ht hd he hz K hx hj hm (by rw [hf]; exact q)
theorem raw_update {t kt et:TypeId} {ti:TI} (ht:E.ty t = some ti) (hd:ti.desc = .map kt et) (K:KeyTy E kt enc) {φ:Frame} {h:Hp} {ty:TypeId} {x j y:Operand} {r:Nat} {k:κ} {v:Value} {f:κ→Option Value} {n:Nat}
  (hx:evφ φ x = mapAt r) (hj:evφ φ j = enc k) (hy:evφ φ y = v) (hm:MapAt h r enc f n) {Q:Value→Hp→Prop}
  (q:∀ h',MapAt h' r enc (fun k'=>if k' = k then some v else f k') (if (f k).isSome then n else n + 1)→Keeps r h h'→Q undef h'):MapP E (.raw (.mapUpdate t x j y) ty) φ h Q:=by
 obtain ⟨es,c,h1,h2,h3⟩:=hm
 have hlt:=Hp.lt_of_at h1
 cases hf:findK k es 0 with
 | none =>
  have hn:=find_none hf
  refine MapP.mk (resP_val (v:=undef) (h:=h.set r (.map (es.map (entV enc) ++ [(enc k,v,c)]) (Nat.succ c))) ?_ (q _ ⟨es ++ [(k,v,c)],Nat.succ c,?_,?_,?_⟩ (Keeps.set _ _ _)))
  ·show hmem (hupdate E h t (evφ φ x) (evφ φ j) (evφ φ y)) = _
   rw [hx,hj,hy]
   unfold hupdate
   rw [ht]
   dsimp only
   rw [hd]
   dsimp only [mapAt]
   unfold hentries
   rw [h1]
   dsimp only
   unfold hupdateAt
   rw [K.ok]
   dsimp only
   rw [findKey_map K,hf]
   rfl
  ·rw [Hp.at_set_self _ hlt,List.map_append]; rfl
  ·intro k'
   rw [look_append hn,h2]
  ·rw [← h2 k,hn,List.length_append,h3]; rfl
 | some p =>
  obtain ⟨i,e⟩:=p
  have hs:=find_some hf
  have he:=(findK_ge hf).2
  refine MapP.mk (resP_val (v:=undef) (h:=h.set r (.map (setAt (es.map (entV enc)) i (enc k,v,e.2.2)) c)) ?_ (q _ ⟨setK es i (k,v,e.2.2),c,?_,?_,?_⟩ (Keeps.set _ _ _)))
  ·show hmem (hupdate E h t (evφ φ x) (evφ φ j) (evφ φ y)) = _
   rw [hx,hj,hy]
   unfold hupdate
   rw [ht]
   dsimp only
   rw [hd]
   dsimp only [mapAt]
   unfold hentries
   rw [h1]
   dsimp only
   unfold hupdateAt
   rw [K.ok]
   dsimp only
   rw [findKey_map K,hf]
   unfold hupdated
   dsimp only [Option.map,entV]
   rw [he,K.bits]
   rfl
  ·rw [Hp.at_set_self _ hlt]
   exact congrArg (fun l=>some (Obj.map l c)) (setAt_map es i (k,v,e.2.2))
  ·intro k'
   show _ = if k' = k then some v else f k'
   rw [← h2 k']
   exact look_setK (i:=0) hf k'
  ·rw [← h2 k,hs,setK_length,h3]; rfl
theorem raw_lenmap {t kt et:TypeId} {ti:TI} (ht:E.ty t = some ti) (hd:ti.desc = .map kt et) {φ:Frame} {h:Hp} {ty:TypeId} {x:Operand} {r:Nat} {f:κ→Option Value} {n:Nat}
  (hx:evφ φ x = mapAt r) (hm:MapAt h r enc f n) {Q:Value→Hp→Prop} (q:Q (int n) h):MapP E (.raw (.call ⟨.builtin .len,⟨[x]⟩,⟨[t]⟩⟩) ty) φ h Q:=by
 obtain ⟨es,c,h1,h2,h3⟩:=hm
 refine MapP.mk (resP_val (v:=int n) (h:=h) ?_ q)
 show hval h (match E.ty t with | none=>none | some i=>hlenTI E h (evφ φ x) i) = _
 rw [ht,hx]
 dsimp only
 unfold hlenTI
 rw [hd]
 dsimp only
 rw [mapOf_at h1]
 show hval h (some (int ((es.map (entV enc)).length:Nat))) = _
 rw [List.length_map,h3]
 rfl
end

theorem eqI_iff (m n:Int):eqI m n = decide (m = n):=by
 unfold eqI
 have q:∀ a b:Nat,Nat.beq a b = decide (a = b):=by
  intro a b
  by_cases h:a = b
  ·subst h; simp
  ·rw [decide_eq_false h]
   cases e:Nat.beq a b with
   | false=>rfl
   | true=>exact absurd (Nat.eq_of_beq_eq_true e) h
 cases m <;> cases n <;> dsimp only
 ·rw [q]; congr 1; exact propext ⟨fun h=>by subst h; rfl,fun h=>by injection h⟩
 ·simp
 ·simp
 ·rw [q]; congr 1; exact propext ⟨fun h=>by subst h; rfl,fun h=>by injection h⟩
theorem keyInt {E:Env} {kt:TypeId} {i:TI} (hk:E.ty kt = some i) (hi:isI64 i.desc = true):KeyTy E kt (fun n:Int=>int n) where
 ok:=fun k=>by show (match E.ty kt with | some i=>isI64 i.desc | none=>false) = true; rw [hk]; exact hi
 eq:=fun k k'=>congrArg some (eqI_iff k k')
 bits:=fun k=>by unfold Instr.sameBits; simp
/-! Raw operations. -/
variable {E:Env}
end
end Go.Rx
