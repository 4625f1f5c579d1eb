/- Contracts by what is to be shown of each step: a part of the engine. -/
import Derived.Test.YtljbibjnidccbabRx3
set_option linter.unusedVariables false
set_option linter.unusedSectionVars false
set_option linter.unusedSimpArgs false
namespace Go.Rx

theorem force_id {β:Type} (v:Value) (k:Value→β):force v k = k v:=@force_eq ⟨fun _=>.nilFunc,fun _ _ h=>by cases h⟩ β v k

def SLe (f g:Self):Prop:=∀ c s r,f c s = some r→g c s = some r

section
variable {E:Env} {f g:Self}

theorem evSeq_le (h:SLe f g) {b:Code} {x y:Option (AExit×St)} (hx:∀ r,x = some r→y = some r) {r} (hr:evSeq f b x = some r):evSeq g b y = some r:=by
 cases x with
 | none=>simp [evSeq] at hr
 | some p =>
  rw [hx _ rfl]
  obtain ⟨e,s⟩:=p
  cases e <;> simp only [evSeq] at hr ⊢ <;> first | exact h _ _ _ hr | exact hr

theorem leave_le {fn:Func} {x y:Option (AExit×St)} (hx:∀ r,x = some r→y = some r) {r} (hr:leave E fn x = some r):leave E fn y = some r:=by
 cases x with
 | none=>simp [leave] at hr
 | some p=>rw [hx _ rfl]; exact hr

theorem enterBody_le (h:SLe f g) {args:List Value} {H:Heap} {fn:Func} {body:Option Code} {r} (hr:enterBody E f args H fn body = some r):enterBody E g args H fn body = some r:=by
 cases body with
 | none=>exact hr
 | some b =>
  simp only [enterBody] at hr ⊢
  split at hr
  ·exact leave_le (h _ _) hr
  ·cases hr

theorem enterFn_le (h:SLe f g) {args:List Value} {H:Heap} {fn:Option Func} {r} (hr:enterFn E f args H fn = some r):enterFn E g args H fn = some r:=by
 cases fn with
 | none=>exact hr
 | some fn=>exact enterBody_le h hr

theorem enter_le (h:SLe f g) {fn:FuncId} {args:List Value} {H:Heap} {r} (hr:enter E f fn args H = some r):enter E g fn args H = some r:=by
 unfold enter enterOr at hr ⊢
 split at hr
 ·exact hr
 ·split at hr
  ·exact hr
  ·exact enterFn_le h hr

theorem afterRound_le {l:Nat} {x y:Option (AExit×St)} (hx:∀ r,x = some r→y = some r) {r} (hr:afterRound l x = some r):afterRound l y = some r:=by
 cases x with
 | none=>simp [afterRound] at hr
 | some p=>rw [hx _ rfl]; exact hr

theorem runBody_le (h:SLe f g) {l:Nat} {s:St} {b:Code} {x:Option AObj} {r} (hr:runBody f l s b x = some r):runBody g l s b x = some r:=by
 unfold runBody at hr ⊢
 split at hr
 ·exact afterRound_le (h _ _) hr
 ·cases hr

theorem roundBody_le (h:SLe f g) {l:Nat} {b:Code} {x y:Option (AExit×St)} (hx:∀ r,x = some r→y = some r) {r} (hr:roundBody f l b x = some r):roundBody g l b y = some r:=by
 unfold roundBody at hr
 split at hr
 ·rw [hx _ rfl]; exact runBody_le h hr
 ·cases hr

theorem yieldTo_le (h:SLe f g) {l:Nat} {args:List Value} {H:Heap} {x:Option AObj} {r} (hr:yieldTo f l args H x = some r):yieldTo g l args H x = some r:=by
 unfold yieldTo at hr ⊢
 split at hr
 ·split at hr
  ·exact roundBody_le h (h _ _) hr
  ·cases hr
 ·cases hr

theorem yielding_le (h:SLe f g) {l:Nat} {args:List Value} {H:Heap} {r} (hr:yielding f l args H = some r):yielding g l args H = some r:=yieldTo_le h hr

theorem doCall_le (h:SLe f g) {x:ARes} {r} (hr:doCall E f x = some r):doCall E g x = some r:=by
 cases x with
 | val v H=>exact hr
 | call fn args H=>exact enter_le h hr
 | yield l args H=>exact yielding_le h hr
 | fail=>exact hr

theorem evOp_le (h:SLe f g) {o:Oper} {s:St} {r} (hr:evOp E f o s = some r):evOp E g o s = some r:=by
 cases s; exact doCall_le h hr

theorem evOps_le (h:SLe f g) {ops:Array Oper}:∀ {l:List Oper} {s:St} {r},evOps E f ops l s = some r→evOps E g ops l s = some r
 | [],s,r,hr=>hr
 | o :: l,s,r,hr=>by
  simp only [evOps] at hr ⊢
  split at hr
  ·unfold afterOp at hr ⊢
   split at hr
   ·rename_i v H hv
    rw [evOp_le h hv]
    rw [force_id] at hr
    dsimp only
    rw [force_id]
    exact evOps_le h hr
   ·cases hr
  ·exact evOps_le h hr

theorem noted_le {s:St} {d:Option Tmp} {k:Nat} {turns:Bool} {go go':St→Nat→Option Trace} (hgo:∀ s k t,go s k = some t→go' s k = some t) {x y:Option (Value×Heap)} (hx:∀ r,x = some r→y = some r) {t}
  (ht:noted s d k turns go x = some t):noted s d k turns go' y = some t:=by
 cases x with
 | none=>simp [noted] at ht
 | some p =>
  rw [hx _ rfl]
  obtain ⟨v,H⟩:=p
  simp only [noted,force_id] at ht ⊢
  cases turns with
  | true =>
   simp only [consHeap,cons] at ht ⊢
   cases hg:go (s.done d v H) (Nat.succ k) with
   | none=>rw [hg] at ht; cases ht
   | some t'=>rw [hg] at ht; rw [hgo _ _ _ hg]; exact ht
  | false =>
   simp only [cons] at ht ⊢
   cases hg:go (s.keep d v) k with
   | none=>rw [hg] at ht; cases ht
   | some t'=>rw [hg] at ht; rw [hgo _ _ _ hg]; exact ht

theorem trace_le (h:SLe f g) {ah:Bool} {ops:Array Oper}:∀ {l:List Oper} {as:List (Option Nat)} {s:St} {k:Nat} {t},trace E f ah ops l as s k = some t→trace E g ah ops l as s k = some t
 | [],as,s,k,t,ht=>ht
 | o :: l,as,s,k,t,ht=>by
  simp only [trace] at ht ⊢
  have hgo:∀ s k t,trace E f ah ops l as.tail s k = some t→trace E g ah ops l as.tail s k = some t:=fun s k t=>trace_le h
  split at ht
  ·unfold traceOp at ht ⊢
   split at ht
   ·split at ht
    ·exact noted_le hgo (fun r hr=>hr) ht
    ·cases ht
   ·split at ht
    ·exact noted_le hgo (fun r hr=>hr) ht
    ·exact noted_le hgo (fun r hr=>evOp_le h hr) ht
  ·unfold cons at ht ⊢
   cases hg:trace E f ah ops l as.tail (s.keep o.dst undef) k with
   | none=>rw [hg] at ht; cases ht
   | some t'=>rw [hg] at ht; rw [hgo _ _ _ hg]; exact ht

theorem evAhead_le (h:SLe f g) {ah:Bool} {ops:Array Oper} {s:St} {a:List (Option Nat)×Heap} {r} (hr:evAhead E f ah ops s a = some r):evAhead E g ah ops s a = some r:=by
 obtain ⟨as,H⟩:=a
 simp only [evAhead] at hr ⊢
 cases ht:trace E f ah ops ops.toList as (s.onHeap fun _=>H) 0 with
 | none=>rw [ht] at hr; cases hr
 | some t=>rw [ht] at hr; rw [trace_le h ht]; exact hr

theorem evDraw_le (h:SLe f g) {ops:Array Oper} {s:St} {r} (hr:evDraw E f ops s = some r):evDraw E g ops s = some r:=by
 unfold evDraw at hr ⊢
 split at hr
 ·cases s; exact evAhead_le h hr
 ·split at hr
  ·split at hr
   ·exact evAhead_le h hr
   unfold evDry at hr ⊢
   cases ht:trace E f false ops ops.toList [] s 0 with
   | none=>rw [ht] at hr; cases hr
   | some t=>rw [ht] at hr; rw [trace_le h ht]; exact evAhead_le h hr
  ·cases hr

theorem called_le (h:SLe f g) {x:ARes} {r} (hr:called E f x = some r):called E g x = some r:=by
 cases x with
 | call fn args H=>exact enter_le h hr
 | _=>exact hr

theorem jumped_le (h:SLe f g) {s:St} {x:Option (Option Code×Heap)} {r} (hr:jumped f s x = some r):jumped g s x = some r:=by
 unfold jumped at hr ⊢
 split at hr
 ·cases hr
 ·exact hr
 ·exact h _ _ _ hr

theorem rangeAt_le (h:SLe f g) {x:Value} {ps:Array Tmp} {a b:Code} {s:St} {y:Option (Nat×List Nat×Heap)} {r} (hr:rangeAt E f x ps a b s y = some r):rangeAt E g x ps a b s y = some r:=by
 unfold rangeAt at hr ⊢
 split at hr
 ·cases hr
 ·unfold rangedOver at hr ⊢
  split at hr
  ·cases hr
  ·rename_i hc
   rw [called_le h hc]
   exact jumped_le h hr

theorem step_le (h:SLe f g):SLe (step E f) (step E g):=by
 intro c s r hr
 cases c <;> simp only [step] at hr ⊢ <;> first | exact hr | skip
 ·unfold evRegion at hr ⊢
  split at hr
  ·exact evDraw_le h hr
  ·exact evOps_le h hr
 ·exact evSeq_le h (h _ _) hr
 ·unfold evCond at hr ⊢
  split at hr
  ·exact h _ _ _ hr
  ·exact h _ _ _ hr
  ·cases hr
 ·unfold evBlock at hr ⊢
  split at hr
  ·rename_i hs; rw [h _ _ _ hs]; exact hr
  ·rename_i hne
   rw [h _ _ _ hr]
   split
   ·rename_i heq
    cases heq
    exact absurd hr (hne _ _)
   ·rfl
 ·exact evSeq_le h (h _ _) hr
 ·exact rangeAt_le h hr
 ·unfold evScope at hr ⊢
  split at hr
  ·cases hr
  ·rename_i hne
   rw [h _ _ _ hr]
   split
   ·rename_i heq
    cases heq
    exact absurd hr (hne _ _)
   ·rfl

theorem ev_succ (E:Env):∀ k,SLe (ev E k) (ev E (k + 1))
 | 0=>fun c s r hr=>by cases hr
 | k + 1=>step_le (ev_succ E k)

theorem SLe.trans {f g h:Self} (a:SLe f g) (b:SLe g h):SLe f h:=fun c s r hr=>b _ _ _ (a _ _ _ hr)

theorem ev_le (E:Env) {k m:Nat} (h:k≤m):SLe (ev E k) (ev E m):=by
 induction h with
 | refl=>exact fun _ _ _ h=>h
 | step _ ih=>exact ih.trans (ev_succ E _)
end
end Go.Rx
