/- A part of the engine. -/
import Derived.Test.YtedneplaibmppaaRx3
set_option linter.unusedVariables false
set_option linter.unusedSectionVars false
set_option linter.unusedSimpArgs false
namespace Go.Rx
theorem jU {β:Type}(v:Value)(k:Value→β):force v k = k v:=@force_eq ⟨fun _=>.nilFunc,fun _ _ h=>by cases h⟩ β v k
def SLe (f g:Self):Prop:=∀ c s r,f c s = some r→g c s = some r
section
variable {E:Env} {f g:Self}
theorem NV (h:SLe f g){b:Code}{x y:Option (dU×St)}(hx:∀ r,x = some r→y = some r){r}(hr:xR f b x = some r):xR g b y = some r:=by
 cases x with
 | none=>simp [xR] at hr
 | some p =>
  rw [hx _ rfl];obtain ⟨e,s⟩:=p;cases e <;> simp only [xR] at hr ⊢ <;> first | exact h _ _ _ hr | exact hr
theorem WI {fn:Func}{x y:Option (dU×St)}(hx:∀ r,x = some r→y = some r){r}(hr:leave E fn x = some r):leave E fn y = some r:=by
 cases x with
 | none=>simp [leave] at hr
 | some p=>rw [hx _ rfl]; exact hr
theorem Lb (h:SLe f g){args:List Value}{H:Heap}{fn:Func}{body:Option Code}{r}(hr:qJ E f args H fn body = some r):qJ E g args H fn body = some r:=by
 cases body with
 | none=>exact hr
 | some b =>
  simp only [qJ] at hr ⊢;split at hr
  ·exact WI (h _ _) hr
  ·cases hr
theorem Qn (h:SLe f g){args:List Value}{H:Heap}{fn:Option Func}{r}(hr:zC E f args H fn = some r):zC E g args H fn = some r:=by
 cases fn with
 | none=>exact hr
 | some fn=>exact Lb h hr
theorem GQ (h:SLe f g){fn:FuncId}{args:List Value}{H:Heap}{r}(hr:enter E f fn args H = some r):enter E g fn args H = some r:=by
 unfold enter Fu at hr ⊢;split at hr
 ·exact hr
 ·split at hr
  ·exact hr
  ·exact Qn h hr
theorem Jp {l:Nat}{x y:Option (dU×St)}(hx:∀ r,x = some r→y = some r){r}(hr:qR l x = some r):qR l y = some r:=by
 cases x with
 | none=>simp [qR] at hr
 | some p=>rw [hx _ rfl]; exact hr
theorem Qo (h:SLe f g){l:Nat}{s:St}{b:Code}{x:Option gV}{r}(hr:zD f l s b x = some r):zD g l s b x = some r:=by
 unfold zD at hr ⊢;split at hr
 ·exact Jp (h _ _) hr
 ·cases hr
theorem Lc (h:SLe f g){l:Nat}{b:Code}{x y:Option (dU×St)}(hx:∀ r,x = some r→y = some r){r}(hr:qK f l b x = some r):qK g l b y = some r:=by
 unfold qK at hr;split at hr
 ·rw [hx _ rfl]; exact Qo h hr
 ·cases hr
theorem Qp (h:SLe f g){l:Nat}{args:List Value}{H:Heap}{x:Option gV}{r}(hr:zF f l args H x = some r):zF g l args H x = some r:=by
 unfold zF at hr ⊢;split at hr
 ·split at hr
  ·exact Lc h (h _ _) hr
  ·cases hr
 ·cases hr
theorem NW (h:SLe f g){l:Nat}{args:List Value}{H:Heap}{r}(hr:yielding f l args H = some r):yielding g l args H = some r:=Qp h hr
theorem uO (h:SLe f g){x:dN}{r}(hr:mI E f x = some r):mI E g x = some r:=by
 cases x with
 | val v H=>exact hr
 | call fn args H=>exact GQ h hr
 | yield l args H=>exact NW h hr
 | fail=>exact hr
theorem SA (h:SLe f g){o:Oper}{s:St}{r}(hr:KO E f o s = some r):KO E g o s = some r:=by
 cases s; exact uO h hr
theorem Cm (h:SLe f g){ops:Array Oper}:∀ {l:List Oper} {s:St} {r},wY E f ops l s = some r→wY E g ops l s = some r
 | [],s,r,hr=>hr
 | o :: l,s,r,hr=>by
  simp only [wY] at hr ⊢;split at hr
  ·unfold BX at hr ⊢;split at hr
   ·rename_i v H hv;rw [SA h hv];rw [jU] at hr;dsimp only;rw [jU];exact Cm h hr
   ·cases hr
  ·exact Cm h hr
theorem GR {s:St}{d:Option Tmp}{k:Nat}{turns:Bool}{go go':St→Nat→Option Trace}(hgo:∀ s k t,go s k = some t→go' s k = some t){x y:Option (Value×Heap)}(hx:∀ r,x = some r→y = some r){t}
  (ht:noted s d k turns go x = some t):noted s d k turns go' y = some t:=by
 cases x with
 | none=>simp [noted] at ht
 | some p =>
  rw [hx _ rfl];obtain ⟨v,H⟩:=p;simp only [noted,jU] at ht ⊢
  cases turns with
  | true =>
   simp only [Gg,cons] at ht ⊢
   cases hg:go (s.done d v H) (Nat.succ k) with
   | none=>rw [hg] at ht; cases ht
   | some t'=>rw [hg] at ht; rw [hgo _ _ _ hg]; exact ht
  | false =>
   simp only [cons] at ht ⊢
   cases hg:go (s.keep d v) k with
   | none=>rw [hg] at ht; cases ht
   | some t'=>rw [hg] at ht; rw [hgo _ _ _ hg]; exact ht
theorem pJ (h:SLe f g){ah:Bool}{ops:Array Oper}:∀ {l:List Oper} {as:List (Option Nat)} {s:St} {k:Nat} {t},trace E f ah ops l as s k = some t→trace E g ah ops l as s k = some t
 | [],as,s,k,t,ht=>ht
 | o :: l,as,s,k,t,ht=>by
  simp only [trace] at ht ⊢;have hgo:∀ s k t,trace E f ah ops l as.tail s k = some t→trace E g ah ops l as.tail s k = some t:=fun s k t=>pJ h;split at ht
  ·unfold nC at ht ⊢;split at ht
   ·split at ht
    ·exact GR hgo (fun r hr=>hr) ht
    ·cases ht
   ·split at ht
    ·exact GR hgo (fun r hr=>hr) ht
    ·exact GR hgo (fun r hr=>SA h hr) ht
  ·unfold cons at ht ⊢
   cases hg:trace E f ah ops l as.tail (s.keep o.dst undef) k with
   | none=>rw [hg] at ht; cases ht
   | some t'=>rw [hg] at ht; rw [hgo _ _ _ hg]; exact ht
theorem A8 (h:SLe f g){ah:Bool}{ops:Array Oper}{s:St}{a:List (Option Nat)×Heap}{r}(hr:kr E f ah ops s a = some r):kr E g ah ops s a = some r:=by
 obtain ⟨as,H⟩:=a;simp only [kr] at hr ⊢
 cases ht:trace E f ah ops ops.toList as (s.AB fun _=>H) 0 with
 | none=>rw [ht] at hr; cases hr
 | some t=>rw [ht] at hr; rw [pJ h ht]; exact hr
theorem Ut (h:SLe f g){ops:Array Oper}{s:St}{r}(hr:ow E f ops s = some r):ow E g ops s = some r:=by
 unfold ow at hr ⊢;split at hr
 ·cases s; exact A8 h hr
 ·split at hr
  ·split at hr
   ·exact A8 h hr
   unfold VW at hr ⊢
   cases ht:trace E f false ops ops.toList [] s 0 with
   | none=>rw [ht] at hr; cases hr
   | some t=>rw [ht] at hr; rw [pJ h ht]; exact A8 h hr
  ·cases hr
theorem Uu (h:SLe f g){x:dN}{r}(hr:called E f x = some r):called E g x = some r:=by
 cases x with
 | call fn args H=>exact GQ h hr
 | _=>exact hr
theorem JX (h:SLe f g){s:St}{x:Option (Option Code×Heap)}{r}(hr:AO f s x = some r):AO g s x = some r:=by
 unfold AO at hr ⊢;split at hr
 ·cases hr
 ·exact hr
 ·exact h _ _ _ hr
theorem Qq (h:SLe f g){x:Value}{ps:Array Tmp}{a b:Code}{s:St}{y:Option (Nat×List Nat×Heap)}{r}(hr:rangeAt E f x ps a b s y = some r):rangeAt E g x ps a b s y = some r:=by
 unfold rangeAt at hr ⊢;split at hr
 ·cases hr
 ·unfold vY at hr ⊢;split at hr
  ·cases hr
  ·rename_i hc;rw [Uu h hc];exact JX h hr
theorem Y6 (h:SLe f g):SLe (step E f) (step E g):=by
 intro c s r hr;cases c <;> simp only [step] at hr ⊢ <;> first | exact hr | skip
 ·unfold Ng at hr ⊢;split at hr
  ·exact Ut h hr
  ·exact Cm h hr
 ·exact NV h (h _ _) hr
 ·unfold DK at hr ⊢;split at hr
  ·exact h _ _ _ hr
  ·exact h _ _ _ hr
  ·cases hr
 ·unfold vX at hr ⊢;split at hr
  ·rename_i hs; rw [h _ _ _ hs]; exact hr
  ·rename_i hne;rw [h _ _ _ hr];split
   ·rename_i heq;cases heq
    exact absurd hr (hne _ _)
   ·rfl
 ·exact NV h (h _ _) hr
 ·exact Qq h hr
 ·unfold zG at hr ⊢;split at hr
  ·cases hr
  ·rename_i hne;rw [h _ _ _ hr];split
   ·rename_i heq;cases heq
    exact absurd hr (hne _ _)
   ·rfl
theorem SB (E:Env):∀ k,SLe (ev E k) (ev E (k + 1))
 | 0=>fun c s r hr=>by cases hr
 | k + 1=>Y6 (SB E k)
theorem SLe.trans {f g h:Self}(a:SLe f g)(b:SLe g h):SLe f h:=fun c s r hr=>b _ _ _ (a _ _ _ hr)
theorem nJ (E:Env){k m:Nat}(h:k≤m):SLe (ev E k) (ev E m):=by
 induction h with
 | refl=>exact fun _ _ _ h=>h
 | step _ ih=>exact ih.trans (SB E _)
end
end Go.Rx
