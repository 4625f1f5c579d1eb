/- Contracts by what is to be shown of each step: a part of the engine. -/
import Derived.Test.YtljbibjnidccbabWx4
set_option linter.unusedVariables false
set_option linter.unusedSectionVars false
set_option linter.unusedSimpArgs false
namespace Go.Rx
noncomputable section

def frameOf (as:List Value):Frame:=fun t=>(as[t]?).getD undef

theorem FR.start (as:List Value):FR (T.ofList T.empty 0 as) (frameOf as):=by
 intro t
 rw [T.get_ofList]
 unfold frameOf
 by_cases h:t < as.length
 ·simp [h,orUndef]
 ·have:as[t]? = none:=by rw [List.getElem?_eq_none_iff]; omega
  simp [h,this,T.get_empty,orUndef]

def isUndef:Value→Bool
 | .tuple a=>a.size == 0
 | _=>false

theorem get_of_def {ρ:T Value} {φ:Frame} (hf:FR ρ φ) {t:Nat} (h:isUndef (φ t) = false):ρ.get t = some (φ t):=by
 have:=hf t
 cases hg:ρ.get t with
 | none=>rw [hg] at this; rw [← this] at h; simp [orUndef,isUndef,undef] at h
 | some v=>rw [hg] at this; rw [← this]; rfl

section
variable (E:Env)
def takeMarksφ:List Nat→Hp→Option Hp
 | [],h=>some h
 | d :: ds,h=>match h.at d with
  | some .noDefers=>takeMarksφ ds (h.set d .dead)
  | _=>none
def resultφ (φ:Frame) (h:Hp):ResultVar→Option Value
 | .tmp t=>match isUndef (φ t) with
  | false=>some (φ t)
  | true=>none
 | .cell a t=>match φ a with
  | .pointer (some ⟨r,o,none⟩)=>hload E h t r o
  | _=>none
def resultsφ (φ:Frame) (h:Hp):List ResultVar→Option (List Value)
 | []=>some []
 | r :: rs=>match resultφ E φ h r with
  | none=>none
  | some v=>match resultsφ φ h rs with
   | none=>none
   | some vs=>some (v :: vs)
def tupledφ:List Value→Value
 | [v]=>v
 | vs=>.tuple ⟨vs⟩
def finP (rs:List ResultVar) (s:Sx) (Q:Value→Hp→Prop):Prop:=match takeMarksφ s.m s.h with
 | some h=>match resultsφ E s.φ h rs with
  | some vs=>Q (tupledφ vs) h
  | none=>False
 | none=>False
def leaveP (rs:List ResultVar) (Q:Value→Hp→Prop):Pst:=fun e s=>match e with
 | .normal=>finP E rs s Q
 | .ret=>finP E rs s Q
 | _=>False

def setφ:List Tmp→List Value→Frame→Frame
 | p :: ps,v :: vs,φ=>setφ ps vs (upd φ p v)
 | _,_,φ=>φ
def roundP (l:Nat) (Q:Value→Hp→Prop):Pst:=fun e s=>match s.h.at l with
 | some (.loop E _ _ φ z ps a b d)=>match e with
  | .normal=>Q (.bool true) (s.h.set l (.loop E .ready none φ z ps a b d))
  | e=>Q (.bool false) (s.h.set l (.loop E .done (some e) φ z ps a b d))
 | _=>False
def bodyP (z l:Nat) (cb:C) (Q:Value→Hp→Prop):Pst:=fun e s=>match e with
 | .normal=>match s.h.at l with
  | some (.loop E' .ready p φ z' ps a b d)=>wp E z (some l) cb ⟨s.φ,s.h.set l (.loop E' .busy p φ z' ps a b d),s.m⟩ (roundP l Q)
  | _=>False
 | _=>False
end

section
variable {E:Env} [TyOk E]

theorem takeMarksφ_ok:∀ {ds:List Nat} {H:Heap} {h h':Hp},HR H h→takeMarksφ ds h = some h'→∃ H',takeMarks ds H = some H'∧HR H' h'
 | [],H,h,h',a,e=>by cases e; exact ⟨H,rfl,a⟩
 | d :: ds,H,h,h',a,e=>by
  unfold takeMarksφ at e
  split at e
  ·rename_i hd
   obtain ⟨ob,h1,h2⟩:=a.at_ _ _ hd
   cases ob <;> simp only [ORep] at h2
   obtain ⟨H',e1,a1⟩:=takeMarksφ_ok (a.set d (ob:=.dead) (o:=.dead) trivial) e
   refine ⟨H',?_,a1⟩
   unfold takeMarks
   rw [h1]
   exact e1
  ·cases e

theorem resultφ_ok {H:Heap} {h:Hp} (a:HR H h) {ρ:T Value} {φ:Frame} (hf:FR ρ φ) {r:ResultVar} {v:Value} (e:resultφ E φ h r = some v):resultOf E ρ H r = some v:=by
 cases r with
 | tmp t =>
  unfold resultφ at e
  dsimp only at e
  split at e
  ·rename_i hu
   cases e
   exact get_of_def hf hu
  ·cases e
 | cell c t =>
  unfold resultφ at e
  dsimp only at e
  split at e
  ·rename_i r o hp
   have hg:=get_of_def hf (t:=c) (by rw [hp]; rfl)
   unfold resultOf
   dsimp only
   rw [hg,hp]
   exact hload_ok a e
  ·cases e

theorem resultsφ_ok {H:Heap} {h:Hp} (a:HR H h) {ρ:T Value} {φ:Frame} (hf:FR ρ φ):∀ {rs:List ResultVar} {vs:List Value},resultsφ E φ h rs = some vs→resultsIn E ρ H rs = some vs
 | [],vs,e=>e
 | r :: rs,vs,e=>by
  unfold resultsφ at e
  unfold resultsIn
  cases hr:resultφ E φ h r with
  | none=>rw [hr] at e; cases e
  | some v =>
   rw [hr] at e
   rw [resultφ_ok a hf hr]
   dsimp only at e ⊢
   cases hs:resultsφ E φ h rs with
   | none=>rw [hs] at e; cases e
   | some vs'=>rw [hs] at e; rw [resultsφ_ok a hf hs]; exact e

theorem fin_ok {H:Heap} {h:Hp} (a:HR H h) {ρ:T Value} {φ:Frame} (hf:FR ρ φ) {fn:Func} {z:Nat} {rd:Option Nat} {m:List Nat} {Q:Value→Hp→Prop} (q:finP E fn.results.toList ⟨φ,h,m⟩ Q) :
  ∃ v H' h',resultsOf E fn ⟨ρ,z,H,rd,m⟩ = some (v,H')∧HR H' h'∧Q v h':=by
 unfold finP at q
 split at q
 ·rename_i h1 hm
  obtain ⟨H1,e1,a1⟩:=takeMarksφ_ok a hm
  split at q
  ·rename_i vs hvs
   have e2:=resultsφ_ok (E:=E) a1 hf hvs
   refine ⟨tupledφ vs,H1,h1,?_,a1,q⟩
   unfold resultsOf resultsAt
   dsimp only at e1 ⊢
   rw [e1]
   dsimp only
   rw [e2]
   cases vs with
   | nil=>rfl
   | cons v vs=>cases vs <;> rfl
  ·exact q.elim
 ·exact q.elim

theorem CallP.mono {f:FuncId} {as:List Value} {h:Hp} {Q Q':Value→Hp→Prop} (w:CallP E f as h Q) (k:∀ v h,Q v h→Q' v h):CallP E f as h Q' :=
 fun H a=>let ⟨n,v,H',h',e,a',q⟩:=w H a; ⟨n,v,H',h',e,a',k _ _ q⟩
theorem YieldP.mono {l:Nat} {as:List Value} {h:Hp} {Q Q':Value→Hp→Prop} (w:YieldP E l as h Q) (k:∀ v h,Q v h→Q' v h):YieldP E l as h Q' :=
 fun H a=>let ⟨n,v,H',h',e,a',q⟩:=w H a; ⟨n,v,H',h',e,a',k _ _ q⟩
theorem CallP.weak {f:FuncId} {as:List Value} {h h':Hp} (l:h'.Le h) {Q:Value→Hp→Prop} (w:CallP E f as h' Q):CallP E f as h Q:=fun H a=>w H (a.weak l)
theorem YieldP.weak {f:Nat} {as:List Value} {h h':Hp} (l:h'.Le h) {Q:Value→Hp→Prop} (w:YieldP E f as h' Q):YieldP E f as h Q:=fun H a=>w H (a.weak l)

theorem CallP.memo {f:FuncId} {as:List Value} {h:Hp} {Q:Value→Hp→Prop} {v:Value} (e:E.memo f as = some v) (q:Q v h):CallP E f as h Q :=
 fun H a=>⟨0,v,H,h,by unfold enter; rw [e],a,q⟩

theorem CallP.enter [Unknowns] {f:FuncId} {fn:Func} {code:Code} {c:C} {z:Nat} {rs:List ResultVar} (hfn:E.fn.get f = some fn) (hb:fn.body = some code) (hz:fn.ntmps = z) (hrs:fn.results.toList = rs) (hc:comp E z code = some c)
  {as:List Value} (hm:E.memo f as = none) (hM:∀ H,E.memoM f as H = none) (hl:as.length≤z) {h:Hp} {Q:Value→Hp→Prop} (w:wp E z none c ⟨frameOf as,h,[]⟩ (leaveP E rs Q)):CallP E f as h Q:=fun H a=>by
 subst hz hrs
 obtain ⟨k,e,s',e1,z1,r1,φ',h',f1,a1,q1⟩:=wp_ok hc w _ H (FR.start as) a
 have main:finP E fn.results.toList ⟨φ',h',s'.marks⟩ Q∧(e = .normal∨e = .ret):=by
  unfold leaveP at q1
  cases e with
  | normal=>exact ⟨q1,Or.inl rfl⟩
  | ret=>exact ⟨q1,Or.inr rfl⟩
  | exit id=>exact q1.elim
  | goto l=>exact q1.elim
 obtain ⟨v,H',h'',e2,a2,q2⟩:=fin_ok (E:=E) (fn:=fn) (z:=s'.size) (rd:=s'.round) a1 f1 main.1
 refine ⟨k,v,H',h'',?_,a2,q2⟩
 unfold Rx.enter
 rw [hm]
 unfold enterOr
 rw [hM]
 unfold enterFn
 rw [hfn]
 unfold enterBody
 dsimp only
 rw [hb]
 dsimp only
 rw [show Nat.ble as.length fn.ntmps = true from by rw [Nat.ble_eq]; exact hl]
 dsimp only
 have e1':ev E k code ⟨T.ofList T.empty 0 as,fn.ntmps,H,none,[]⟩ = some (e,s'):=e1
 rw [e1']
 rcases main.2 with rfl | rfl <;> exact e2

theorem setφ_ok {z:Nat}:∀ {ps:List Tmp} {vs:List Value} {ρ:T Value} {φ:Frame},ps.all (fun p=>Nat.ble (Nat.succ p) z) = true→FR ρ φ→FR (setParams z ps vs ρ) (setφ ps vs φ)
 | [],vs,ρ,φ,_,hf=>by cases vs <;> exact hf
 | p :: ps,[],ρ,φ,_,hf=>hf
 | p :: ps,v :: vs,ρ,φ,hp,hf=>by
  rw [List.all_cons,Bool.and_eq_true] at hp
  exact setφ_ok (ps:=ps) (vs:=vs) hp.2 (putDst_in (d:=some p) hp.1 hf v)

theorem round_ok {l:Nat} {e:AExit} {s:St} {φ:Frame} {h:Hp} (hf:FR s.tmps φ) (a:HR s.heap h) {m:List Nat} {Q:Value→Hp→Prop} (q:roundP l Q e ⟨φ,h,m⟩):∃ v H' h',endRound l s e = some (v,H')∧HR H' h'∧Q v h':=by
 unfold roundP at q
 dsimp only at q
 split at q
 ·rename_i E0 st p φ' z ps ca cb d hl
  obtain ⟨ob,h1,h2⟩:=a.at_ _ _ hl
  cases ob <;> simp only [ORep] at h2
  rename_i st0 p0 tm0 z0 ps0 a0 b0 d0
  obtain ⟨rfl,hp,hft,rfl,rfl,hca,hcb,rfl⟩:=h2
  have hset:∀ (st:LoopState) (p:Option AExit),HR (s.heap.set l (.loop st (exitCode p) tm0 z0 ps0 a0 b0 d0)) (h.set l (.loop E0 st p φ' z0 ps0 ca cb d0)):=fun st p=>a.set l ⟨rfl,rfl,hft,rfl,rfl,hca,hcb,rfl⟩
  cases e with
  | normal =>
   refine ⟨.bool true,_,_,?_,hset .ready none,q⟩
   unfold endRound Heap.setLoop setLoopObj
   dsimp only
   rw [h1]; rfl
  | ret =>
   refine ⟨.bool false,_,_,?_,hset .done (some .ret),q⟩
   unfold endRound Heap.setLoop setLoopObj
   dsimp only
   rw [h1]; rfl
  | exit id =>
   refine ⟨.bool false,_,_,?_,hset .done (some (.exit id)),q⟩
   unfold endRound Heap.setLoop setLoopObj
   dsimp only
   rw [h1]; rfl
  | goto id =>
   refine ⟨.bool false,_,_,?_,hset .done (some (.goto id)),q⟩
   unfold endRound Heap.setLoop setLoopObj
   dsimp only
   rw [h1]; rfl
 ·exact q.elim

theorem YieldP.enter [Unknowns] {l:Nat} {as:List Value} {h:Hp} {Q:Value→Hp→Prop} {st:LoopState} {p:Option AExit} {φ:Frame} {z:Nat} {ps:Array Tmp} {ca cb:C} {d:Nat} (hl:h.at l = some (.loop E st p φ z ps ca cb d)) (hsz:as.length = ps.size)
  (hps:ps.toList.all (fun p=>Nat.ble (Nat.succ p) z) = true) (w:wp E z (some l) ca ⟨setφ ps.toList as φ,h,[]⟩ (bodyP E z l cb Q)):YieldP E l as h Q:=fun H a=>by
 obtain ⟨ob,h1,h2⟩:=a.at_ _ _ hl
 cases ob <;> simp only [ORep] at h2
 rename_i st0 p0 tm0 z0 ps0 a0 b0 d0
 obtain ⟨rfl,hp,hft,rfl,rfl,hca,hcb,rfl⟩:=h2
 obtain ⟨k1,e,s1,e1,z1,r1,φ1,h1',f1,a1,q1⟩:=wp_ok hca w _ H (setφ_ok hps hft) a
 cases e with
 | normal =>
  unfold bodyP at q1
  dsimp only at q1
  split at q1
  ·rename_i E2 p2 φ2 z2 ps2 ca2 cb2 d2 hl2
   obtain ⟨ob,g1,g2⟩:=a1.at_ _ _ hl2
   cases ob <;> simp only [ORep] at g2
   rename_i st3 p3 tm3 z3 ps3 a3 b3 d3
   obtain ⟨rfl,hp3,hft3,rfl,rfl,hca3,hcb3,rfl⟩:=g2
   have hset:HR (s1.heap.set l (.loop .busy p3 tm3 z3 ps3 a3 b3 d3)) (h1'.set l (.loop E2 .busy p2 φ2 z3 ps3 ca2 cb2 d3)):=a1.set l ⟨rfl,hp3,hft3,rfl,rfl,hca3,hcb3,rfl⟩
   obtain ⟨k2,e2,s2,e3,z4,r4,φ4,h4,f4,a4,q4⟩:=wp_ok (rd:=some l) hcb q1 s1.tmps _ f1 hset
   obtain ⟨v,H',h'',e5,a5,q5⟩:=round_ok f4 a4 q4
   refine ⟨max k1 k2,v,H',h'',?_,a5,q5⟩
   unfold yielding
   rw [h1]
   unfold yieldTo
   dsimp only
   rw [show Nat.beq as.length ps0.size = true from by rw [hsz]; exact Nat.beq_refl _]
   dsimp only
   have e1':=ev_le E (Nat.le_max_left k1 k2) _ _ _ e1
   rw [e1']
   unfold roundBody
   dsimp only
   rw [g1]
   unfold runBody
   dsimp only
   have e3':=ev_le E (Nat.le_max_right k1 k2) _ _ _ e3
   have hs1:s1.onHeap (fun h=>h.set l (.loop .busy p3 tm3 z3 ps3 a3 b3 d3)) = ⟨s1.tmps,z0,s1.heap.set l (.loop .busy p3 tm3 z3 ps3 a3 b3 d3),some l,s1.marks⟩:=by
    cases s1; dsimp only at z1 r1; subst z1 r1; rfl
   rw [hs1,e3']
   exact e5
  ·exact q1.elim
 | ret=>exact q1.elim
 | exit id=>exact q1.elim
 | goto id=>exact q1.elim

end
end
end Go.Rx
