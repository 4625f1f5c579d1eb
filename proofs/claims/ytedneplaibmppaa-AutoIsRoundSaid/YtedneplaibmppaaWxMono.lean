/- Contracts by what is to be shown of each step: a part of the engine. -/
import Derived.Test.YtedneplaibmppaaRx3
set_option linter.unusedVariables false
set_option linter.unusedSectionVars false
set_option linter.unusedSimpArgs false
namespace Go.Rx

theorem jR {β:Type} (v:Value) (k:Value→β):force v k = k v:=@force_eq ⟨fun _=>.nilFunc,fun _ _ h=>by cases h⟩ β v k

def SLe (f g:Self):Prop:=∀ c s r,f c s = some r→g c s = some r

section
variable {E:Env} {f g:Self}

theorem Nj (h:SLe f g) {b:Code} {x y:Option (dS×St)} (hx:∀ r,x = some r→y = some r) {r} (hr:xK f b x = some r):xK g b y = some r:=by
 cases x with
 | none=>simp [xK] at hr
 | some p =>
  rw [hx _ rfl]
  obtain ⟨e,s⟩:=p
  cases e <;> simp only [xK] at hr ⊢ <;> first | exact h _ _ _ hr | exact hr

theorem VN {fn:Func} {x y:Option (dS×St)} (hx:∀ r,x = some r→y = some r) {r} (hr:leave E fn x = some r):leave E fn y = some r:=by
 cases x with
 | none=>simp [leave] at hr
 | some p=>rw [hx _ rfl]; exact hr

theorem KU (h:SLe f g) {args:List Value} {H:Heap} {fn:Func} {body:Option Code} {r} (hr:qo E f args H fn body = some r):qo E g args H fn body = some r:=by
 cases body with
 | none=>exact hr
 | some b =>
  simp only [qo] at hr ⊢
  split at hr
  ·exact VN (h _ _) hr
  ·cases hr

theorem PN (h:SLe f g) {args:List Value} {H:Heap} {fn:Option Func} {r} (hr:zG E f args H fn = some r):zG E g args H fn = some r:=by
 cases fn with
 | none=>exact hr
 | some fn=>exact KU h hr

theorem GK (h:SLe f g) {fn:FuncId} {args:List Value} {H:Heap} {r} (hr:enter E f fn args H = some r):enter E g fn args H = some r:=by
 unfold enter Fg at hr ⊢
 split at hr
 ·exact hr
 ·split at hr
  ·exact hr
  ·exact PN h hr

theorem Jk {l:Nat} {x y:Option (dS×St)} (hx:∀ r,x = some r→y = some r) {r} (hr:qH l x = some r):qH l y = some r:=by
 cases x with
 | none=>simp [qH] at hr
 | some p=>rw [hx _ rfl]; exact hr

theorem PO (h:SLe f g) {l:Nat} {s:St} {b:Code} {x:Option gP} {r} (hr:zH f l s b x = some r):zH g l s b x = some r:=by
 unfold zH at hr ⊢
 split at hr
 ·exact Jk (h _ _) hr
 ·cases hr

theorem KW (h:SLe f g) {l:Nat} {b:Code} {x y:Option (dS×St)} (hx:∀ r,x = some r→y = some r) {r} (hr:qp f l b x = some r):qp g l b y = some r:=by
 unfold qp at hr
 split at hr
 ·rw [hx _ rfl]; exact PO h hr
 ·cases hr

theorem PS (h:SLe f g) {l:Nat} {args:List Value} {H:Heap} {x:Option gP} {r} (hr:zI f l args H x = some r):zI g l args H x = some r:=by
 unfold zI at hr ⊢
 split at hr
 ·split at hr
  ·exact KW h (h _ _) hr
  ·cases hr
 ·cases hr

theorem Nl (h:SLe f g) {l:Nat} {args:List Value} {H:Heap} {r} (hr:yielding f l args H = some r):yielding g l args H = some r:=PS h hr

theorem uw (h:SLe f g) {x:dL} {r} (hr:mD E f x = some r):mD E g x = some r:=by
 cases x with
 | val v H=>exact hr
 | call fn args H=>exact GK h hr
 | yield l args H=>exact Nl h hr
 | fail=>exact hr

theorem RI (h:SLe f g) {o:Oper} {s:St} {r} (hr:KG E f o s = some r):KG E g o s = some r:=by
 cases s; exact uw h hr

theorem Cr (h:SLe f g) {ops:Array Oper}:∀ {l:List Oper} {s:St} {r},wU E f ops l s = some r→wU E g ops l s = some r
 | [],s,r,hr=>hr
 | o :: l,s,r,hr=>by
  simp only [wU] at hr ⊢
  split at hr
  ·unfold Cc at hr ⊢
   split at hr
   ·rename_i v H hv
    rw [RI h hv]
    rw [jR] at hr
    dsimp only
    rw [jR]
    exact Cr h hr
   ·cases hr
  ·exact Cr h hr

theorem GL {s:St} {d:Option Tmp} {k:Nat} {turns:Bool} {go go':St→Nat→Option Trace} (hgo:∀ s k t,go s k = some t→go' s k = some t) {x y:Option (Value×Heap)} (hx:∀ r,x = some r→y = some r) {t}
  (ht:noted s d k turns go x = some t):noted s d k turns go' y = some t:=by
 cases x with
 | none=>simp [noted] at ht
 | some p =>
  rw [hx _ rfl]
  obtain ⟨v,H⟩:=p
  simp only [noted,jR] at ht ⊢
  cases turns with
  | true =>
   simp only [Gc,cons] at ht ⊢
   cases hg:go (s.done d v H) (Nat.succ k) with
   | none=>rw [hg] at ht; cases ht
   | some t'=>rw [hg] at ht; rw [hgo _ _ _ hg]; exact ht
  | false =>
   simp only [cons] at ht ⊢
   cases hg:go (s.keep d v) k with
   | none=>rw [hg] at ht; cases ht
   | some t'=>rw [hg] at ht; rw [hgo _ _ _ hg]; exact ht

theorem oL (h:SLe f g) {ah:Bool} {ops:Array Oper}:∀ {l:List Oper} {as:List (Option Nat)} {s:St} {k:Nat} {t},trace E f ah ops l as s k = some t→trace E g ah ops l as s k = some t
 | [],as,s,k,t,ht=>ht
 | o :: l,as,s,k,t,ht=>by
  simp only [trace] at ht ⊢
  have hgo:∀ s k t,trace E f ah ops l as.tail s k = some t→trace E g ah ops l as.tail s k = some t:=fun s k t=>oL h
  split at ht
  ·unfold mY at ht ⊢
   split at ht
   ·split at ht
    ·exact GL hgo (fun r hr=>hr) ht
    ·cases ht
   ·split at ht
    ·exact GL hgo (fun r hr=>hr) ht
    ·exact GL hgo (fun r hr=>RI h hr) ht
  ·unfold cons at ht ⊢
   cases hg:trace E f ah ops l as.tail (s.keep o.dst undef) k with
   | none=>rw [hg] at ht; cases ht
   | some t'=>rw [hg] at ht; rw [hgo _ _ _ hg]; exact ht

theorem Bb (h:SLe f g) {ah:Bool} {ops:Array Oper} {s:St} {a:List (Option Nat)×Heap} {r} (hr:j6 E f ah ops s a = some r):j6 E g ah ops s a = some r:=by
 obtain ⟨as,H⟩:=a
 simp only [j6] at hr ⊢
 cases ht:trace E f ah ops ops.toList as (s.AO fun _=>H) 0 with
 | none=>rw [ht] at hr; cases hr
 | some t=>rw [ht] at hr; rw [oL h ht]; exact hr

theorem TD (h:SLe f g) {ops:Array Oper} {s:St} {r} (hr:nT E f ops s = some r):nT E g ops s = some r:=by
 unfold nT at hr ⊢
 split at hr
 ·cases s; exact Bb h hr
 ·split at hr
  ·split at hr
   ·exact Bb h hr
   unfold Vd at hr ⊢
   cases ht:trace E f false ops ops.toList [] s 0 with
   | none=>rw [ht] at hr; cases hr
   | some t=>rw [ht] at hr; rw [oL h ht]; exact Bb h hr
  ·cases hr

theorem TF (h:SLe f g) {x:dL} {r} (hr:called E f x = some r):called E g x = some r:=by
 cases x with
 | call fn args H=>exact GK h hr
 | _=>exact hr

theorem JR (h:SLe f g) {s:St} {x:Option (Option Code×Heap)} {r} (hr:AU f s x = some r):AU g s x = some r:=by
 unfold AU at hr ⊢
 split at hr
 ·cases hr
 ·exact hr
 ·exact h _ _ _ hr

theorem PU (h:SLe f g) {x:Value} {ps:Array Tmp} {a b:Code} {s:St} {y:Option (Nat×List Nat×Heap)} {r} (hr:rangeAt E f x ps a b s y = some r):rangeAt E g x ps a b s y = some r:=by
 unfold rangeAt at hr ⊢
 split at hr
 ·cases hr
 ·unfold vL at hr ⊢
  split at hr
  ·cases hr
  ·rename_i hc
   rw [TF h hc]
   exact JR h hr

theorem YD (h:SLe f g):SLe (step E f) (step E g):=by
 intro c s r hr
 cases c <;> simp only [step] at hr ⊢ <;> first | exact hr | skip
 ·unfold MG at hr ⊢
  split at hr
  ·exact TD h hr
  ·exact Cr h hr
 ·exact Nj h (h _ _) hr
 ·unfold Du at hr ⊢
  split at hr
  ·exact h _ _ _ hr
  ·exact h _ _ _ hr
  ·cases hr
 ·unfold vK at hr ⊢
  split at hr
  ·rename_i hs; rw [h _ _ _ hs]; exact hr
  ·rename_i hne
   rw [h _ _ _ hr]
   split
   ·rename_i heq
    cases heq
    exact absurd hr (hne _ _)
   ·rfl
 ·exact Nj h (h _ _) hr
 ·exact PU h hr
 ·unfold zJ at hr ⊢
  split at hr
  ·cases hr
  ·rename_i hne
   rw [h _ _ _ hr]
   split
   ·rename_i heq
    cases heq
    exact absurd hr (hne _ _)
   ·rfl

theorem RJ (E:Env):∀ k,SLe (ev E k) (ev E (k + 1))
 | 0=>fun c s r hr=>by cases hr
 | k + 1=>YD (RJ E k)

theorem SLe.trans {f g h:Self} (a:SLe f g) (b:SLe g h):SLe f h:=fun c s r hr=>b _ _ _ (a _ _ _ hr)

theorem nk (E:Env) {k m:Nat} (h:k≤m):SLe (ev E k) (ev E m):=by
 induction h with
 | refl=>exact fun _ _ _ h=>h
 | step _ ih=>exact ih.trans (RJ E _)
end
end Go.Rx
