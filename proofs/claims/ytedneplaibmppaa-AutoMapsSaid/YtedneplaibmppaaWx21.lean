/- A part of the engine. -/
import Derived.Test.YtedneplaibmppaaWx20
set_option linter.unusedVariables false
set_option linter.unusedSectionVars false
set_option linter.unusedSimpArgs false
namespace Go.Rx
open Go.RowKit
noncomputable section
/-! Maps whose keys are data of one kind; raw operations by name. -/
structure KeyTy (E:Env) (kt:TypeId) {κ:Type} [DecidableEq κ] (enc:κ→Value):Prop where
 ok:∀ k,dZ E kt (enc k) = true
 eq:∀ k k',Ah E.prog kt (enc k) (enc k') = some (decide (k = k'))
 bits:∀ k,Instr.sameBits 10000 (enc k) (enc k) = true
section
variable {κ:Type} [DecidableEq κ] {enc:κ→Value}
abbrev Ent (κ:Type):=κ×Value×Nat
def yP (enc:κ→Value)(e:Ent κ):Entry:=(enc e.1,e.2.1,e.2.2)
def sW (es:List (Ent κ))(k:κ):Option Value:=(es.find? fun e=>decide (k = e.1)).map (·.2.1)
def MapAt (h:Hp)(r:Nat)(enc:κ→Value)(f:κ→Option Value)(n:Nat):Prop :=
 ∃ (es:List (Ent κ)) (c:Nat),h.at r = some (.map (es.map (yP enc)) c)∧(∀ k,sW es k = f k)∧es.length = n
theorem MapAt.ext {h h':Hp}{r:Nat}{f:κ→Option Value}{n:Nat}(g:aA h h')(m:MapAt h r enc f n):MapAt h' r enc f n:=by
 obtain ⟨es,c,h1,h2,h3⟩:=m;exact ⟨es,c,g.at_ _ _ h1,h2,h3⟩
theorem MapAt.congr {h:Hp}{r:Nat}{f g:κ→Option Value}{n:Nat}(m:MapAt h r enc f n)(e:∀ k,f k = g k):MapAt h r enc g n:=by
 obtain ⟨es,c,h1,h2,h3⟩:=m;exact ⟨es,c,h1,fun k=>(h2 k).trans (e k),h3⟩
theorem MapAt.Tc {h h':Hp}{r:Nat}{f:κ→Option Value}{n:Nat}(g:∀ o,h.at r = some o→h'.at r = some o)(m:MapAt h r enc f n):MapAt h' r enc f n:=by
 obtain ⟨es,c,h1,h2,h3⟩:=m;exact ⟨es,c,g _ h1,h2,h3⟩
theorem MapAt.new (h:Hp):MapAt (h.lay (.map [] 0)) h.next enc (fun _=>none) 0:=⟨[],0,Hp.ak _ _,fun _=>rfl,rfl⟩
def sZ (k:κ):List (Ent κ)→Nat→Option (Nat×Ent κ)
 | [],_=>none
 | e :: es,i=>if k = e.1 then some (i,e) else sZ k es (i + 1)
theorem pY {E:Env}{kt:TypeId}(K:KeyTy E kt enc)(k:κ):∀ (es:List (Ent κ)) (i:Nat),findKey E.prog kt (enc k) (es.map (yP enc)) i = some ((sZ k es i).map fun x=>(x.1,yP enc x.2))
 | [],i=>rfl
 | e :: es,i=>by
  show (match Ah E.prog kt (enc k) (enc e.1) with | some true=>some (some (i,yP enc e)) | some false=>findKey E.prog kt (enc k) (es.map (yP enc)) (Nat.succ i) | none=>none) = _;rw [K.eq];unfold sZ;by_cases h:k = e.1
  ·rw [if_pos h,decide_eq_true h]; rfl
  ·rw [if_neg h,decide_eq_false h];exact pY K k es (i + 1)
theorem Bj (k:κ):∀ (es:List (Ent κ)) (i:Nat),(sZ k es i).map (·.2.2.1) = sW es k
 | [],i=>rfl
 | e :: es,i=>by
  unfold sZ sW;rw [List.find?_cons];by_cases h:k = e.1
  ·rw [if_pos h,decide_eq_true h]; rfl
  ·rw [if_neg h,decide_eq_false h]; exact Bj k es (i + 1)
def Md:List (Ent κ)→Nat→Ent κ→List (Ent κ)
 | [],_,_=>[]
 | _ :: l,0,x=>x :: l
 | y :: l,i + 1,x=>y :: Md l i x
theorem J8:∀ (es:List (Ent κ)) (i:Nat) (x:Ent κ),setAt (es.map (yP enc)) i (yP enc x) = (Md es i x).map (yP enc)
 | [],_,_=>rfl
 | _ :: _,0,_=>rfl
 | y :: l,i + 1,x=>by
  show yP enc y :: setAt (l.map (yP enc)) i (yP enc x) = yP enc y :: (Md l i x).map (yP enc);rw [J8]
theorem ES:∀ (es:List (Ent κ)) (i:Nat) (x:Ent κ),(Md es i x).length = es.length
 | [],_,_=>rfl
 | _ :: _,0,_=>rfl
 | y :: l,i + 1,x=>by show (Md l i x).length + 1 = l.length + 1; rw [ES]
theorem Ie {k:κ}:∀ {es:List (Ent κ)} {i j:Nat} {e:Ent κ},sZ k es i = some (j,e)→i≤j∧e.1 = k
 | [],i,j,e,h=>by cases h
 | x :: es,i,j,e,h=>by
  unfold sZ at h;by_cases hk:k = x.1
  ·rw [if_pos hk] at h; cases h; exact ⟨Nat.le_refl _,hk.symm⟩
  ·rw [if_neg hk] at h;have:=Ie h;exact ⟨by omega,this.2⟩
theorem J9 {k:κ}{v:Value}{b:Nat}:∀ {es:List (Ent κ)} {i j:Nat} {e:Ent κ},sZ k es i = some (j,e)→∀ k',sW (Md es (j - i) (k,v,b)) k' = if k' = k then some v else sW es k'
 | [],i,j,e,h,k'=>by cases h
 | x :: es,i,j,e,h,k'=>by
  unfold sZ at h;by_cases hk:k = x.1
  ·rw [if_pos hk] at h;cases h
   rw [Nat.sub_self];unfold Md sW;rw [List.find?_cons,List.find?_cons];dsimp only;by_cases h2:k' = k
   ·rw [decide_eq_true h2,if_pos h2]; rfl
   ·rw [decide_eq_false h2,if_neg h2,decide_eq_false (by rw [← hk]; exact h2)]
  ·rw [if_neg hk] at h;have h3:=(Ie h).1;rw [show j - i = (j - (i + 1)) + 1 by omega];have ih:=J9 (v:=v) (b:=b) h k';unfold Md sW;unfold sW at ih;rw [List.find?_cons,List.find?_cons];by_cases h2:k' = x.1
   ·rw [decide_eq_true h2,if_neg (by rw [h2]; exact fun e=>hk e.symm)]
   ·rw [decide_eq_false h2]; exact ih
theorem OO {es:List (Ent κ)}{k:κ}{v:Value}{c:Nat}(h:sW es k = none)(k':κ):sW (es ++ [(k,v,c)]) k' = if k' = k then some v else sW es k':=by
 unfold sW at h ⊢;rw [List.find?_append]
 cases hf:es.find? (fun e=>decide (k' = e.1)) with
 | some e =>
  by_cases h2:k' = k
  ·subst h2; rw [hf] at h; cases h
  ·rw [if_neg h2]; rfl
 | none =>
  by_cases h2:k' = k
  ·subst h2;rw [if_pos rfl];simp
  ·rw [if_neg h2];simp [h2]
theorem Ed {es:List (Ent κ)}{k:κ}{i:Nat}(h:sZ k es i = none):sW es k = none:=by rw [← Bj k es i,h]; rfl
theorem Ee {es:List (Ent κ)}{k:κ}{i j:Nat}{e:Ent κ}(h:sZ k es i = some (j,e)):sW es k = some e.2.1:=by rw [← Bj k es i,h]; rfl
variable {E:Env}
theorem Ig {h:Hp}{r:Nat}{es:List Entry}{c:Nat}(hr:h.at r = some (.map es c)):A9 h (bL r) = some (es,c):=by
 show bP h r = _;unfold bP;rw [hr]
theorem ET {t kt et:TypeId}{ti ei:TI}(ht:E.ty t = some ti)(hd:ti.desc = .map kt et)(he:E.ty et = some ei){z:Value}(hz:ei.zero = some z)(K:KeyTy E kt enc){φ:Frame}{h:Hp}{ty:TypeId}{x j:Operand}{r:Nat}{k:κ}{f:κ→Option Value}{n:Nat}
  (hx:bI φ x = bL r)(hj:bI φ j = enc k)(hm:MapAt h r enc f n){Q:Value→Hp→Prop}(q:Q (.tuple ⟨[(f k).getD z,.bool (f k).isSome]⟩) h):Bf E (.raw (.lookup t x j true) ty) φ h Q:=by
 obtain ⟨es,c,h1,h2,h3⟩:=hm;refine Bf.mk (pX (v:=.tuple ⟨[(f k).getD z,.bool (f k).isSome]⟩) (h:=h) ?_ q);show hval h (wF E h t (bI φ x) (bI φ j) true) = _;rw [hx,hj];unfold wF;rw [ht];dsimp only;rw [hd];dsimp only;rw [Ig h1];unfold dO;rw [K.ok];dsimp only;rw [he];dsimp only;rw [pY K];unfold BD;rw [← h2 k]
 cases hf:sZ k es 0 with
 | none=>rw [Ed hf]; dsimp only [Option.map]; rw [hz]; rfl
 | some x=>obtain ⟨i,e⟩:=x; rw [Ee hf]; rfl
theorem EU {t kt et:TypeId}{ti ei:TI}(ht:E.ty t = some ti)(hd:ti.desc = .map kt et)(he:E.ty et = some ei){z:Value}(hz:ei.zero = some z)(K:KeyTy E kt enc){φ:Frame}{h:Hp}{ty:TypeId}{x j:Operand}{r:Nat}{k:κ}{f:κ→Option Value}{n:Nat}
  (hx:bI φ x = bL r)(hj:bI φ j = enc k)(hm:MapAt h r enc f n){Q:Value→Hp→Prop}(q:Q ((f k).getD z) h):Bf E (.raw (.lookup t x j false) ty) φ h Q:=by
 obtain ⟨es,c,h1,h2,h3⟩:=hm;refine Bf.mk (pX (v:=(f k).getD z) (h:=h) ?_ q);show hval h (wF E h t (bI φ x) (bI φ j) false) = _;rw [hx,hj];unfold wF;rw [ht];dsimp only;rw [hd];dsimp only;rw [Ig h1];unfold dO;rw [K.ok];dsimp only;rw [he];dsimp only;rw [pY K];unfold BD;rw [← h2 k]
 cases hf:sZ k es 0 with
 | none=>rw [Ed hf]; dsimp only [Option.map]; rw [hz]; rfl
 | some x=>obtain ⟨i,e⟩:=x; rw [Ee hf]; rfl
theorem gy {t kt et:TypeId}{ti ei:TI}(ht:E.ty t = some ti)(hd:ti.desc = .map kt et)(he:E.ty et = some ei){z:Value}(hz:ei.zero = some z)(K:KeyTy E kt enc){φ:Frame}{h:Hp}{ty:TypeId}{x j:Operand}{r:Nat}{k:κ}{v:Value}{f:κ→Option Value}{n:Nat}
  (hx:bI φ x = bL r)(hj:bI φ j = enc k)(hm:MapAt h r enc f n)(hf:f k = some v){Q:Value→Hp→Prop}(q:Q (.tuple ⟨[v,.bool true]⟩) h):Bf E (.raw (.lookup t x j true) ty) φ h Q :=
 ET ht hd he hz K hx hj hm (by rw [hf]; exact q)
theorem gI {t kt et:TypeId}{ti ei:TI}(ht:E.ty t = some ti)(hd:ti.desc = .map kt et)(he:E.ty et = some ei){z:Value}(hz:ei.zero = some z)(K:KeyTy E kt enc){φ:Frame}{h:Hp}{ty:TypeId}{x j:Operand}{r:Nat}{k:κ}{f:κ→Option Value}{n:Nat}
  (hx:bI φ x = bL r)(hj:bI φ j = enc k)(hm:MapAt h r enc f n)(hf:f k = none){Q:Value→Hp→Prop}(q:Q (.tuple ⟨[z,.bool false]⟩) h):Bf E (.raw (.lookup t x j true) ty) φ h Q :=
 ET ht hd he hz K hx hj hm (by rw [hf]; exact q)
theorem iO {t kt et:TypeId}{ti:TI}(ht:E.ty t = some ti)(hd:ti.desc = .map kt et)(K:KeyTy E kt enc){φ:Frame}{h:Hp}{ty:TypeId}{x j y:Operand}{r:Nat}{k:κ}{v:Value}{f:κ→Option Value}{n:Nat}
  (hx:bI φ x = bL r)(hj:bI φ j = enc k)(hy:bI φ y = v)(hm:MapAt h r enc f n){Q:Value→Hp→Prop}
  (q:∀ h',MapAt h' r enc (fun k'=>if k' = k then some v else f k') (if (f k).isSome then n else n + 1)→Keeps r h h'→Q undef h'):Bf E (.raw (.mapUpdate t x j y) ty) φ h Q:=by
 obtain ⟨es,c,h1,h2,h3⟩:=hm;have hlt:=Hp.aU h1
 cases hf:sZ k es 0 with
 | none =>
  have hn:=Ed hf;refine Bf.mk (pX (v:=undef) (h:=h.set r (.map (es.map (yP enc) ++ [(enc k,v,c)]) (Nat.succ c))) ?_ (q _ ⟨es ++ [(k,v,c)],Nat.succ c,?_,?_,?_⟩ (Keeps.set _ _ _)))
  ·show hmem (sK E h t (bI φ x) (bI φ j) (bI φ y)) = _;rw [hx,hj,hy];unfold sK;rw [ht];dsimp only;rw [hd];dsimp only [bL];unfold bP;rw [h1];dsimp only;unfold uQ;rw [K.ok];dsimp only;rw [pY K,hf];rfl
  ·rw [Hp.bB _ hlt,List.map_append]; rfl
  ·intro k';rw [OO hn,h2]
  ·rw [← h2 k,hn,List.length_append,h3]; rfl
 | some p =>
  obtain ⟨i,e⟩:=p;have hs:=Ee hf;have he:=(Ie hf).2;refine Bf.mk (pX (v:=undef) (h:=h.set r (.map (setAt (es.map (yP enc)) i (enc k,v,e.2.2)) c)) ?_ (q _ ⟨Md es i (k,v,e.2.2),c,?_,?_,?_⟩ (Keeps.set _ _ _)))
  ·show hmem (sK E h t (bI φ x) (bI φ j) (bI φ y)) = _;rw [hx,hj,hy];unfold sK;rw [ht];dsimp only;rw [hd];dsimp only [bL];unfold bP;rw [h1];dsimp only;unfold uQ;rw [K.ok];dsimp only;rw [pY K,hf];unfold cO;dsimp only [Option.map,yP];rw [he,K.bits];rfl
  ·rw [Hp.bB _ hlt];exact congrArg (fun l=>some (Obj.map l c)) (J8 es i (k,v,e.2.2))
  ·intro k';show _ = if k' = k then some v else f k'
   rw [← h2 k'];exact J9 (i:=0) hf k'
  ·rw [← h2 k,hs,ES,h3]; rfl
theorem Bl {t kt et:TypeId}{ti:TI}(ht:E.ty t = some ti)(hd:ti.desc = .map kt et){φ:Frame}{h:Hp}{ty:TypeId}{x:Operand}{r:Nat}{f:κ→Option Value}{n:Nat}
  (hx:bI φ x = bL r)(hm:MapAt h r enc f n){Q:Value→Hp→Prop}(q:Q (int n) h):Bf E (.raw (.call ⟨.builtin .len,⟨[x]⟩,⟨[t]⟩⟩) ty) φ h Q:=by
 obtain ⟨es,c,h1,h2,h3⟩:=hm;refine Bf.mk (pX (v:=int n) (h:=h) ?_ q);show hval h (match E.ty t with | none=>none | some i=>Ba E h (bI φ x) i) = _;rw [ht,hx];dsimp only;unfold Ba;rw [hd];dsimp only;rw [Ig h1];show hval h (some (int ((es.map (yP enc)).length:Nat))) = _;rw [List.length_map,h3];rfl
end
theorem Zl (m n:Int):eqI m n = decide (m = n):=by
 unfold eqI;have q:∀ a b:Nat,Nat.beq a b = decide (a = b):=by
  intro a b;by_cases h:a = b
  ·subst h; simp
  ·rw [decide_eq_false h]
   cases e:Nat.beq a b with
   | false=>rfl
   | true=>exact absurd (Nat.eq_of_beq_eq_true e) h
 cases m <;> cases n <;> dsimp only
 ·rw [q]; congr 1; exact propext ⟨fun h=>by subst h; rfl,fun h=>by injection h⟩
 ·simp
 ·simp
 ·rw [q]; congr 1; exact propext ⟨fun h=>by subst h; rfl,fun h=>by injection h⟩
theorem aa4 {E:Env}{kt:TypeId}{i:TI}(hk:E.ty kt = some i)(hi:M7 i.desc = true):KeyTy E kt (fun n:Int=>int n) where
 ok:=fun k=>by show (match E.ty kt with | some i=>M7 i.desc | none=>false) = true; rw [hk]; exact hi
 eq:=fun k k'=>congrArg some (Zl k k')
 bits:=fun k=>by unfold Instr.sameBits; simp
/-! Raw operations. -/
variable {E:Env}
end
end Go.Rx
