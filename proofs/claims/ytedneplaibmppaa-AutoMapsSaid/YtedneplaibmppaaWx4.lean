/- A part of the engine. -/
import Derived.Test.YtedneplaibmppaaWx3b
set_option linter.unusedVariables false
set_option linter.unusedSectionVars false
set_option linter.unusedSimpArgs false
namespace Go.Rx
noncomputable section
/-! What code leads to. -/
structure Sx where
 φ:Frame
 h:Hp
 m:List Nat
abbrev Pst:=dU→Sx→Prop
section
variable (E:Env)
def aJ (f:FuncId)(as:List Value)(h:Hp)(Q:Value→Hp→Prop):Prop :=
 ∀ H,HR H h→∃ k v H' h',enter E (ev E k) f as H = some (v,H')∧HR H' h'∧Q v h'
def dx (l:Nat)(as:List Value)(h:Hp)(Q:Value→Hp→Prop):Prop :=
 ∀ H,HR H h→∃ k v H' h',yielding (ev E k) l as H = some (v,H')∧HR H' h'∧Q v h'
def kV (r:fV)(Q:Value→Hp→Prop):Prop:=match r with
 | .val v h=>Q v h
 | .call f as h=>aJ E f as h Q
 | .yield l as h=>dx E l as h Q
 | .fail=>False
def QI (v:Value)(want:Bool):Bool:=match v with
 | .bool b=>b == want
 | _=>false
def gok (φ:Frame)(g:Option (Nat×Bool)):Bool:=match g with
 | none=>true
 | some (d,want)=>QI (φ d) want
def put (φ:Frame)(d:Option Nat)(v:Value):Frame:=match d with
 | some d=>upd φ d v
 | none=>φ
def wpOps:List G→Frame→Hp→(Frame→Hp→Prop)→Prop
 | [],φ,h,Q=>Q φ h
 | g :: l,φ,h,Q=>match gok φ g.g with
  | true=>kV E (runT E g.op φ h) fun v h'=>wpOps l (put φ g.d v) h' Q
  | false=>wpOps l (put φ g.d undef) h Q
structure Nt where
 φ:Frame
 v:Value
 done:Bool
def q9 (turns:Bool)(h:Hp)(hs:List Hp):List Hp:=match turns with
 | true=>h :: hs
 | false=>hs
def DrP (turns:Bool)(r:fV)(Q:Value→Hp→Prop):Prop:=match turns with
 | true=>kV E r Q
 | false=>match r with
  | .val v h=>Q v h
  | _=>False
def iV:List G→List Dr→Frame→Hp→(List Nt→List Hp→Frame→Hp→Prop)→Prop
 | [],_,φ,h,K=>K [] [] φ h
 | g :: l,[],φ,h,K=>False
 | g :: l,d :: ds,φ,h,K=>match gok φ g.g with
  | true=>DrP E d.turns (runT E g.op φ h) fun v h'=>iV l ds (put φ g.d v) h' fun ns hs=>K (⟨φ,v,true⟩ :: ns) (q9 d.turns h' hs)
  | false=>iV l ds (put φ g.d undef) h fun ns hs=>K (⟨φ,undef,false⟩ :: ns) hs
def bW:List Bool→List Nt→Nat
 | b :: bs,n :: ns=>match n.done && b with
  | true=>Nat.succ (bW bs ns)
  | false=>bW bs ns
 | _,_=>0
def sameAt (g:G)(n:Nt)(h:Hp):Prop:=match runT E g.op n.φ h with
 | .val v _=>v = n.v∧fD 4 n.v n.v = true
 | _=>False
def Xh (g:G)(n:Nt):List Hp→Prop
 | []=>True
 | h :: hs=>sameAt E g n h∧Xh g n hs
def QJ (g:G)(d:Dr)(n:Nt)(ns:List Nt)(hs:List Hp):Prop:=match n.done && d.chk with
 | true=>Xh E g n ((hs.drop (bW d.before ns)).take (Nat.succ (bW d.DY ns - bW d.before ns)))
 | false=>True
def uS (ns:List Nt)(hs:List Hp):List G→List Dr→List Nt→Prop
 | g :: gs,d :: ds,n :: ms=>QJ E g d n ns hs∧uS ns hs gs ds ms
 | _,_,_=>True
/-! Regions that lay ahead: what is laid is named before anything is carried out. -/
def LD (op:TOp)(b:Nat)(K:Value→Prop):Prop:=match op with
 | .alloc _ _=>K (xC b)
 | .iC=>K (bL b)
 | _=>False
def aaQ (op:TOp)(h:Hp):Hp:=match op with
 | .alloc e cells=>h.lay (.row e true cells)
 | .iC=>h.lay (.map [] 0)
 | _=>h
def Ao:List G→List Bool→Hp→Hp
 | g :: l,b :: bs,h=>match b with
  | true=>Ao l bs (aaQ g.op h)
  | false=>Ao l bs h
 | _,_,h=>h
def jq:List G→List Dr→List Bool→Nat→Frame→Hp→(List Nt→List Hp→Frame→Hp→Prop)→Prop
 | [],_,_,_,φ,h,K=>K [] [] φ h
 | g :: l,ds,bs,n,φ,h,K=>match ds,bs with
  | d :: ds,b :: bs=>match b with
   | true=>LD g.op n fun v=>jq l ds bs (Nat.succ n) (put φ g.d v) h fun ns hs=>K (⟨φ,v,true⟩ :: ns) hs
   | false=>match gok φ g.g with
    | true=>DrP E d.turns (runT E g.op φ h) fun v h'=>jq l ds bs n (put φ g.d v) h' fun ns hs=>K (⟨φ,v,true⟩ :: ns) (q9 d.turns h' hs)
    | false=>jq l ds bs n (put φ g.d undef) h fun ns hs=>K (⟨φ,undef,false⟩ :: ns) hs
  | _,_=>False
def QK (op:TOp)(v:Value)(h:Hp):Prop:=match op with
 | .alloc e cells=>∃ r,v = xC r∧h.at r = some (.row e true cells)∧Ca cells cells = true
 | .iC=>∃ r,v = bL r∧h.at r = some (.map [] 0)
 | _=>False
def LG (op:TOp)(v:Value):List Hp→Prop
 | []=>True
 | h :: hs=>QK op v h∧LG op v hs
def Xi (g:G)(d:Dr)(b:Bool)(n:Nt)(ns:List Nt)(hs:List Hp):Prop:=match b with
 | true=>LG g.op n.v ((hs.drop (bW d.before ns)).take (Nat.succ (bW d.DY ns - bW d.before ns)))
 | false=>QJ E g d n ns hs
def D6 (ns:List Nt)(hs:List Hp):List G→List Dr→List Bool→List Nt→Prop
 | g :: gs,d :: ds,b :: bs,n :: ms=>Xi E g d b n ns hs∧D6 ns hs gs ds bs ms
 | _,_,_,_=>True
/-! Regions that lay ahead what needs to be known: a first run tells what is laid; then all is laid, and carried out. -/
def mZ (op:TOp)(φ:Frame)(K:(Nat→Value)→TypeId→List Value→Prop):Prop:=match op with
 | .alloc e cells=>K xC e cells
 | .box e x=>match cellsOf (bI φ x) with
  | some cells=>K xC e cells
  | none=>False
 | .fP e n z ps=>match qh φ z ps with
  | some cells=>K (fun r=>slc r 0 n n) e cells
  | none=>False
 | .make e z bytes l c=>match bI φ l with
  | .int _ m=>match bI φ c with
   | .int _ n=>(0≤m∧m≤n∧n≤100000∧(bytes:Int) * n≤1073741824)∧K (fun r=>slc r 0 m.toNat n.toNat) e (times z n.toNat)
   | _=>False
  | _=>False
 | _=>False
theorem oF {op:TOp}{φ:Frame}{K K':(Nat→Value)→TypeId→List Value→Prop}(k:∀ f e c,K f e c→K' f e c)(w:mZ op φ K):mZ op φ K':=by
 cases op <;> first | exact w.elim | exact k _ _ _ w | skip
 ·rename_i e x;unfold mZ at w ⊢;dsimp only at w ⊢
  cases h:cellsOf (bI φ x) with
  | none=>rw [h] at w; exact w.elim
  | some cs=>rw [h] at w; exact k _ _ _ w
 ·rename_i e n z ps;unfold mZ at w ⊢;dsimp only at w ⊢
  cases h:qh φ z ps with
  | none=>rw [h] at w; exact w.elim
  | some cs=>rw [h] at w; exact k _ _ _ w
 ·rename_i e z bytes l c;unfold mZ at w ⊢;dsimp only at w ⊢;cases h:bI φ l <;> rw [h] at w <;> dsimp only at w ⊢ <;> first | exact w.elim | skip
  cases h2:bI φ c <;> rw [h2] at w <;> dsimp only at w ⊢ <;> first | exact w.elim | skip
  exact ⟨w.1,k _ _ _ w.2⟩
def j5:List G→List Bool→List Nt→Hp→(List (Option Nat)→Hp→Prop)→Prop
 | g :: l,b :: bs,n :: ns,h,K=>match b with
  | true=>match n.done with
   | true=>mZ g.op n.φ fun _ e cells=>j5 l bs ns (h.lay (.row e true cells)) fun as h'=>K (some h.next :: as) h'
   | false=>j5 l bs ns h fun as h'=>K (none :: as) h'
  | false=>j5 l bs ns h fun as h'=>K (none :: as) h'
 | _,_,_,h,K=>K [] h
abbrev Ld:=Option (Nat×TypeId×List Value)
def kW:List G→List Dr→List Bool→List (Option Nat)→Frame→Hp→(List Nt→List Ld→List Hp→Frame→Hp→Prop)→Prop
 | [],_,_,_,φ,h,K=>K [] [] [] φ h
 | g :: l,ds,bs,as,φ,h,K=>match ds,bs with
  | d :: ds,b :: bs=>match gok φ g.g with
   | true=>match b with
    | true=>match as with
     | a :: as=>match a with
      | some r=>mZ g.op φ fun f e cells=>kW l ds bs as (put φ g.d (f r)) h fun ns os hs=>K (⟨φ,f r,true⟩ :: ns) (some (r,e,cells) :: os) hs
      | none=>False
     | []=>False
    | false=>match as with
     | a :: as=>match a with
      | some _=>False
      | none=>DrP E d.turns (runT E g.op φ h) fun v h'=>kW l ds bs as (put φ g.d v) h' fun ns os hs=>K (⟨φ,v,true⟩ :: ns) (none :: os) (q9 d.turns h' hs)
     | []=>False
   | false=>kW l ds bs as.tail (put φ g.d undef) h fun ns os hs=>K (⟨φ,undef,false⟩ :: ns) (none :: os) hs
  | _,_=>False
def QL (r:Nat)(e:TypeId)(cells:List Value):List Hp→Prop
 | []=>True
 | h :: hs=>h.at r = some (.row e true cells)∧QL r e cells hs
def Xj (g:G)(d:Dr)(x:Ld)(n:Nt)(ns:List Nt)(hs:List Hp):Prop:=match x with
 | some (r,e,cells)=>(fD 4 n.v n.v = true∧Ca cells cells = true)∧QL r e cells ((hs.drop (bW d.before ns)).take (Nat.succ (bW d.DY ns - bW d.before ns)))
 | none=>QJ E g d n ns hs
def D7 (ns:List Nt)(hs:List Hp):List G→List Dr→List Ld→List Nt→Prop
 | g :: gs,d :: ds,x :: os,n :: ms=>Xj E g d x n ns hs∧D7 ns hs gs ds os ms
 | _,_,_,_=>True
def SK (v:Value)(A B:Prop):Prop:=match v with
 | .bool b=>(b = true→A)∧(b = false→B)
 | _=>False
def Zb (Q:Pst)(K:Sx→Prop):Pst:=fun e s=>match e with
 | .normal=>K s
 | e=>Q e s
def LH (id:Nat)(Q:Pst):Pst:=fun e s=>match e with
 | .exit id'=>match Nat.beq id' id with
  | true=>Q .normal s
  | false=>Q (.exit id') s
 | e=>Q e s
def aaR (Q:Pst):Pst:=fun e s=>match e with
 | .goto _=>False
 | e=>Q e s
def uT (h:Hp)(rd:Option Nat):Option (Nat×List Nat×Hp):=match rd with
 | some l=>match h.at l with
  | some (.loop _ _ _ _ _ _ _ _ d)=>some (d,[],h)
  | _=>none
 | none=>some (h.next,[h.next],h.lay .dY)
def EM (φ:Frame)(m:List Nat)(Q:Pst)(h:Hp)(l:Nat):Prop:=match h.at l with
 | some (.loop E st p φ' z ps a b d)=>Fy st = true∧(match p with
  | none=>Q .normal ⟨φ,h.set l (.loop E .exhausted p φ' z ps a b d),m⟩
  | some e=>Q e ⟨φ,h.set l (.loop E .exhausted p φ' z ps a b d),m⟩)
 | _=>False
def D8 (z:Nat)(f:Value)(ps:Array Tmp)(a b:C)(s:Sx)(Q:Pst)(x:Option (Nat×List Nat×Hp)):Prop:=match x with
 | some (d,m,h)=>match f with
  | .func fn first captured=>match fn with
   | .func g=>callable E g = true∧aJ E g (first.toList ++ [lQ h.next] ++ captured.toList) (h.lay (.loop E .ready none s.φ z ps a b d)) fun _ h2=>EM s.φ (m ++ s.m) Q h2 h.next
   | _=>False
  | _=>False
 | none=>False
def wp (z:Nat)(rd:Option Nat):C→Sx→Pst→Prop
 | .skip,s,Q=>Q .normal s
 | .ret,s,Q=>Q .ret s
 | .exit id,s,Q=>Q (.exit id) s
 | .goto l,s,Q=>Q (.goto l) s
 | .ops l,s,Q=>wpOps E l s.φ s.h fun φ h=>Q .normal ⟨φ,h,s.m⟩
 | .draw l ds,s,Q=>iV E l ds s.φ s.h fun ns hs φ h=>uS E ns (s.h :: hs) l ds ns∧Q .normal ⟨φ,h,s.m⟩
 | .seq a b,s,Q=>wp z rd a s (Zb Q fun s'=>wp z rd b s' Q)
 | .cond x a b,s,Q=>SK (bI s.φ x) (wp z rd a s Q) (wp z rd b s Q)
 | .block id b,s,Q=>wp z rd b s (LH id Q)
 | .scope b,s,Q=>wp z rd b s (aaR Q)
 | .loop b,s,Q=>∃ (I:Nat→Sx→Prop) (n:Nat) (h0:Hp),h0.Le s.h∧I n ⟨s.φ,h0,s.m⟩∧∀ n s,I n s→wp z rd b s (Zb Q fun s'=>∃ m h,m < n∧h.Le s'.h∧I m ⟨s'.φ,h,s'.m⟩)
 | .range f ps a b,s,Q=>D8 E z (bI s.φ f) ps a b s Q (uT s.h rd)
 | .ahead l ds ls,s,Q=>jq E l ds ls s.h.next s.φ (Ao l ls s.h) fun ns hs φ h=>D6 E ns (Ao l ls s.h :: hs) l ds ls ns∧Q .normal ⟨φ,h,s.m⟩
 | .dry l df ds ls,s,Q=>iV E l df s.φ s.h fun n1 _ _ _=>j5 l ls n1 s.h fun as h0=>kW E l ds ls as s.φ h0 fun ns os hs φ h=>D7 E ns (h0 :: hs) l ds os ns∧Q .normal ⟨φ,h,s.m⟩
def Wp (z:Nat)(rd:Option Nat)(c:Code)(s:Sx)(Q:Pst):Prop :=
 ∀ ρ H,FR ρ s.φ→HR H s.h→∃ k e s',ev E k c ⟨ρ,z,H,rd,s.m⟩ = some (e,s')∧s'.size = z∧s'.round = rd∧∃ φ' h',FR s'.tmps φ'∧HR s'.heap h'∧Q e ⟨φ',h',s'.marks⟩
end
def SL (h:Hp)(e:TypeId)(z:List Value)(bytes:Nat)(l c:Value)(K:Value→Hp→Prop):Prop:=match l with
 | .int _ m=>match c with
  | .int _ n=>(0≤m∧m≤n∧n≤100000∧(bytes:Int) * n≤1073741824)∧K (slc h.next 0 m.toNat n.toNat) (h.lay (.row e true (times z n.toNat)))
  | _=>False
 | _=>False
section
variable {E:Env}
theorem Ot {m:Nat}{k:IntKind}{n:Int}(h0:0≤n)(h1:n≤(m:Int)):asNat m (.int k n) = some n.toNat:=by
 obtain ⟨j,rfl⟩:=Int.eq_ofNat_of_zero_le h0;show vP m (Int.ofNat j) = _;unfold vP;dsimp only;rw [show Nat.ble j m = true from by rw [Nat.ble_eq]; omega];rfl
theorem Ou {h:Hp}{e:TypeId}{z:List Value}{bytes:Nat}{l c:Value}{K:Value→Hp→Prop}(w:SL h e z bytes l c K):kV E (D5 h e z bytes (asNat 100000 l) (asNat 100000 c)) K:=by
 unfold SL at w;cases l <;> dsimp only at w <;> first | exact w.elim | skip
 cases c <;> dsimp only at w <;> first | exact w.elim | skip
 obtain ⟨⟨h1,h2,h3,h4⟩,w⟩:=w;rw [Ot h1 (by omega),Ot (by omega) (by omega)];unfold D5;dsimp only;rename_i k1 m k2 n;obtain ⟨n',rfl⟩:=Int.eq_ofNat_of_zero_le (show 0≤n by omega);have e1:(Nat.ble m.toNat (n':Int).toNat && Nat.ble (Nat.mul bytes (n':Int).toNat) 1073741824) = true:=by
  rw [Bool.and_eq_true,Nat.ble_eq,Nat.ble_eq];have e2:(n':Int).toNat = n':=rfl;have e3:Nat.mul bytes n' = bytes * n':=rfl;rw [e2,e3];refine ⟨by omega,?_⟩;have h5:((bytes * n':Nat):Int)≤1073741824:=by rw [Int.natCast_mul]; exact h4
  omega
 rw [e1];exact w
end
section
variable {E:Env} {z:Nat} {rd:Option Nat}
class Af (E:Env):Prop where
 ty:∀ t i,E.ty t = some i→E.prog.underlying t = some i.desc
theorem Cw [Af E]{H:Heap}{h:Hp}{ρ:T Value}{φ:Frame}(hf:FR ρ φ)(a:HR H h)(op:Op)(ty:TypeId):Fits (aop op E ρ H ty) (runT E (lU (typ E op) op ty) φ h):=(SI Af.ty op ty).fits (WV hf a op ty)
variable [Af E]
theorem iA {ρ:T Value}{d:Option Tmp}(hd:SC z d = true){φ:Frame}(hf:FR ρ φ)(v:Value):FR (putDst ρ z d v) (put φ d v):=by
 cases d with
 | none=>exact hf
 | some d =>
  unfold SC at hd;unfold putDst;dsimp only at hd ⊢;rw [hd];exact hf.put d v
theorem LJ {ops:Array Oper}{ρ:T Value}{φ:Frame}(hf:FR ρ φ){g:Option (Nat×Bool)}{g':Option (Nat×Bool)}(h:gslot ops g = some g'):nA ops ρ g = gok φ g':=by
 unfold gslot at h;split at h
 ·cases h; rfl
 ·rename_i j want;split at h
  ·rename_i d hd;cases h
   unfold nA DI gok;dsimp only;rw [hd];dsimp only;have:=hf d;unfold P7 QI
   cases hg:ρ.get d with
   | none=>rw [hg] at this; simp only [lD] at this; rw [← this]; rfl
   | some v=>rw [hg] at this; simp only [lD] at this; rw [← this]; cases v <;> rfl
  ·cases h
theorem FN {r:dN}{x:fV}(hx:Fits r x){Q:Value→Hp→Prop}(h:kV E x Q):∃ k v H' h',mI E (ev E k) r = some (v,H')∧HR H' h'∧Q v h':=by
 cases x with
 | val v h0 =>
  obtain ⟨H,rfl,a⟩:=hx;exact ⟨0,v,H,h0,rfl,a,h⟩
 | call f as h0 =>
  obtain ⟨H,rfl,a⟩:=hx;exact h H a
 | yield l as h0 =>
  obtain ⟨H,rfl,a⟩:=hx;exact h H a
 | fail=>exact h.elim
theorem lV {ops:Array Oper}{o:Oper}{g:G}(h:gOf E z ops o = some g):SC z o.dst = true∧∃ q,gslot ops o.guard = some q∧g = ⟨o.dst,lU (typ E o.op) o.op o.type,q⟩:=by
 unfold gOf at h;split at h
 ·rename_i hd;split at h
  ·rename_i q hq; cases h; exact ⟨hd,q,hq,rfl⟩
  ·cases h
 ·cases h
theorem jC {ops:Array Oper}{o:Oper}{l:List Oper}{gs:List G}(h:tV E z ops (o :: l) = some gs):∃ g gs',gOf E z ops o = some g∧tV E z ops l = some gs'∧gs = g :: gs':=by
 unfold tV at h;split at h
 ·rename_i g hg;split at h
  ·rename_i gs' hgs; cases h; exact ⟨g,gs',hg,hgs,rfl⟩
  ·cases h
 ·cases h
theorem Hu {ops:Array Oper}:∀ {l:List Oper} {gs:List G} {φ:Frame} {h:Hp} {Q:Frame→Hp→Prop} {ρ:T Value} {H:Heap} {m:List Nat},tV E z ops l = some gs→FR ρ φ→HR H h→wpOps E gs φ h Q →
  ∃ k ρ' H' φ' h',wY E (ev E k) ops l ⟨ρ,z,H,rd,m⟩ = some (.normal,⟨ρ',z,H',rd,m⟩)∧FR ρ' φ'∧HR H' h'∧Q φ' h'
 | [],gs,φ,h,Q,ρ,H,m,hg,hf,ha,hw=>by
  cases hg
  exact ⟨0,ρ,H,φ,h,rfl,hf,ha,hw⟩
 | o :: l,gs,φ,h,Q,ρ,H,m,hg,hf,ha,hw=>by
  obtain ⟨g,gs',h1,h2,rfl⟩:=jC hg;obtain ⟨hd,q,hq,rfl⟩:=lV h1;have hgd:=LJ hf hq;simp only [wpOps] at hw
  cases hb:gok φ q with
  | true =>
   rw [hb] at hw;obtain ⟨k1,v,H1,h1',e1,a1,hw1⟩:=FN (Cw hf ha o.op o.type) hw;obtain ⟨k2,ρ',H',φ',h',e2,f2,a2,q2⟩:=Hu (m:=m) h2 (iA hd hf v) a1 hw1;refine ⟨max k1 k2,ρ',H',φ',h',?_,f2,a2,q2⟩;simp only [wY];rw [hgd,hb];have e1':=uO (nJ E (Nat.le_max_left k1 k2)) e1;have e2':=Cm (nJ E (Nat.le_max_right k1 k2)) e2;show BX _ o.dst _ (mI E (ev E (max k1 k2)) (aop o.op E ρ H o.type)) = _;rw [e1'];simp only [BX,jU];exact e2'
  | false =>
   rw [hb] at hw;obtain ⟨k2,ρ',H',φ',h',e2,f2,a2,q2⟩:=Hu (m:=m) h2 (iA hd hf undef) ha hw;refine ⟨k2,ρ',H',φ',h',?_,f2,a2,q2⟩;simp only [wY];rw [hgd,hb];exact e2
theorem lJ {x:fV}{Q Q':Value→Hp→Prop}(k:∀ v h,Q v h→Q' v h)(h:kV E x Q):kV E x Q':=by
 cases x with
 | val v h0=>exact k _ _ h
 | call f as h0=>exact fun H a=>let ⟨n,v,H',h',e,a',q⟩:=h H a; ⟨n,v,H',h',e,a',k _ _ q⟩
 | yield l as h0=>exact fun H a=>let ⟨n,v,H',h',e,a',q⟩:=h H a; ⟨n,v,H',h',e,a',k _ _ q⟩
 | fail=>exact h
theorem ru {t:Bool}{x:fV}{Q Q':Value→Hp→Prop}(k:∀ v h,Q v h→Q' v h)(h:DrP E t x Q):DrP E t x Q':=by
 cases t with
 | true=>exact lJ k h
 | false=>cases x <;> first | exact k _ _ h | exact h
theorem kX:∀ {gs:List G} {ds:List Dr} {φ:Frame} {h:Hp} {K K':List Nt→List Hp→Frame→Hp→Prop},(∀ ns hs φ h,K ns hs φ h→K' ns hs φ h)→iV E gs ds φ h K→iV E gs ds φ h K'
 | [],ds,φ,h,K,K',k,hw=>by unfold iV at hw ⊢; exact k _ _ _ _ hw
 | g :: l,[],φ,h,K,K',k,hw=>by unfold iV at hw; exact hw.elim
 | g :: l,d :: ds,φ,h,K,K',k,hw=>by
  unfold iV at hw ⊢
  cases hb:gok φ g.g with
  | true =>
   rw [hb] at hw;exact ru (fun v h' hy=>kX (fun ns hs φ h hz=>k _ _ _ _ hz) hy) hw
  | false =>
   rw [hb] at hw;exact kX (fun ns hs φ h hz=>k _ _ _ _ hz) hw
theorem D9 {op:TOp}{b:Nat}{K K':Value→Prop}(k:∀ v,K v→K' v)(h:LD op b K):LD op b K':=by
 unfold LD at h ⊢;cases op <;> first | exact k _ h | exact h
theorem qx:∀ {gs:List G} {ds:List Dr} {ls:List Bool} {n:Nat} {φ:Frame} {h:Hp} {K K':List Nt→List Hp→Frame→Hp→Prop},(∀ ns hs φ h,K ns hs φ h→K' ns hs φ h)→jq E gs ds ls n φ h K→jq E gs ds ls n φ h K'
 | [],ds,ls,n,φ,h,K,K',k,hw=>by unfold jq at hw ⊢; exact k _ _ _ _ hw
 | g :: l,[],ls,n,φ,h,K,K',k,hw=>by unfold jq at hw; exact hw.elim
 | g :: l,d :: ds,[],n,φ,h,K,K',k,hw=>by unfold jq at hw; exact hw.elim
 | g :: l,d :: ds,b :: bs,n,φ,h,K,K',k,hw=>by
  unfold jq at hw ⊢
  cases b with
  | true=>exact D9 (fun v hy=>qx (fun ns hs φ h hz=>k _ _ _ _ hz) hy) hw
  | false =>
   dsimp only at hw ⊢
   cases hb:gok φ g.g with
   | true =>
    rw [hb] at hw;exact ru (fun v h' hy=>qx (fun ns hs φ h hz=>k _ _ _ _ hz) hy) hw
   | false =>
    rw [hb] at hw;exact qx (fun ns hs φ h hz=>k _ _ _ _ hz) hw
inductive lW {α β:Type} (R:α→β→Prop):List α→List β→Prop
 | nil:lW R [] []
 | cons {a b as bs} (h:R a b) (t:lW R as bs):lW R (a :: as) (b :: bs)
theorem lW.drop {α β:Type}{R:α→β→Prop}{as:List α}{bs:List β}(h:lW R as bs):∀ n,lW R (as.drop n) (bs.drop n):=by
 induction h with
 | nil=>intro n; simp; exact .nil
 | cons h t ih=>intro n; cases n with
  | zero=>exact .cons h t
  | succ n=>simpa using ih n
theorem lW.take {α β:Type}{R:α→β→Prop}{as:List α}{bs:List β}(h:lW R as bs):∀ n,lW R (as.take n) (bs.take n):=by
 induction h with
 | nil=>intro n; simp; exact .nil
 | cons h t ih=>intro n; cases n with
  | zero=>simp; exact .nil
  | succ n=>simpa using .cons h (ih n)
def NR (n:Note)(x:Nt):Prop:=FR n.tmps x.φ∧n.val = x.v∧n.done = x.done
section
variable [bC]
theorem uU {ops:Array Oper}{ms:List Nat}:∀ {l:List Oper} {gs:List G} {i:Nat} {φ:Frame} {h:Hp} {K:List Nt→List Hp→Frame→Hp→Prop} {ρ:T Value} {H:Heap} {m:List Nat} {n:Nat},tV E z ops l = some gs→FR ρ φ→HR H h →
  iV E gs (jB ops ms i l) φ h K →
  ∃ k t ρ' H' φ' h' ns hs,trace E (ev E k) false ops l [] ⟨ρ,z,H,rd,m⟩ n = some t∧t.last = ⟨ρ',z,H',rd,m⟩∧FR ρ' φ'∧HR H' h'∧K ns hs φ' h'∧lW NR t.notes ns∧lW HR t.heaps hs
 | [],gs,i,φ,h,K,ρ,H,m,n,hg,hf,ha,hw=>by
  cases hg
  exact ⟨0,⟨[],[],⟨ρ,z,H,rd,m⟩⟩,ρ,H,φ,h,[],[],rfl,rfl,hf,ha,hw,.nil,.nil⟩
 | o :: l,gs,i,φ,h,K,ρ,H,m,n,hg,hf,ha,hw=>by
  obtain ⟨g,gs',h1,h2,rfl⟩:=jC hg;obtain ⟨hd,q,hq,rfl⟩:=lV h1;have hgd:=LJ hf hq;simp only [iV,jB] at hw
  cases hb:gok φ q with
  | true =>
   rw [hb] at hw;dsimp only at hw;rw [show (Lm ops ms i o).turns = chained false o from by rw [FE]] at hw
   cases hr:fJ o.op with
   | true =>
    have hch:chained false o = false:=by simp [chained,hr]
    rw [hch] at hw;unfold DrP at hw;dsimp only at hw;have hfit:=Cw (E:=E) hf ha o.op o.type;split at hw
    ·rename_i v h' hrun;rw [hrun] at hfit;obtain ⟨H1,e1,a1⟩:=hfit;have hH:=wB hr e1;subst hH;obtain ⟨k,t,ρ',H',φ',h'',ns,hs,t1,t2,t3,t4,t5,t6,t7⟩:=uU (m:=m) (n:=n) h2 (iA hd hf v) a1 hw;refine ⟨k,⟨⟨ρ,v,n,true⟩ :: t.notes,t.heaps,t.last⟩,ρ',H',φ',h'',_,_,?_,t2,t3,t4,t5,.cons ⟨hf,rfl,rfl⟩ t6,t7⟩;simp only [trace];rw [hgd,hb];dsimp only;unfold nC;simp only [Bool.false_and,hr];show noted _ o.dst n false _ (sH (aop o.op E ρ H1 o.type)) = _;rw [e1];simp only [sH,noted,jU];have t1':trace E (ev E k) false ops l ([]:List (Option Nat)).tail (St.keep ⟨ρ,z,H1,rd,m⟩ o.dst v) n = some t:=t1;rw [t1'];rfl
    ·exact hw.elim
   | false =>
    have hch:chained false o = true:=by simp [chained,hr]
    rw [hch] at hw;unfold DrP at hw;dsimp only at hw;obtain ⟨k1,v,H1,h1',e1,a1,hw1⟩:=FN (Cw hf ha o.op o.type) hw;obtain ⟨k2,t,ρ',H',φ',h'',ns,hs,t1,t2,t3,t4,t5,t6,t7⟩:=uU (m:=m) (n:=Nat.succ n) h2 (iA hd hf v) a1 hw1;refine ⟨max k1 k2,⟨⟨ρ,v,n,true⟩ :: t.notes,H1 :: t.heaps,t.last⟩,ρ',H',φ',h'',_,_,?_,t2,t3,t4,t5,.cons ⟨hf,rfl,rfl⟩ t6,.cons a1 t7⟩;simp only [trace];rw [hgd,hb];dsimp only;unfold nC;simp only [Bool.false_and,hr];have e1':=uO (nJ E (Nat.le_max_left k1 k2)) e1;have t1':=pJ (nJ E (Nat.le_max_right k1 k2)) t1;show noted _ o.dst n true _ (mI E (ev E (max k1 k2)) (aop o.op E ρ H o.type)) = _;rw [e1'];simp only [noted,jU];have Xk:trace E (ev E (max k1 k2)) false ops l ([]:List (Option Nat)).tail (St.done ⟨ρ,z,H,rd,m⟩ o.dst v H1) (Nat.succ n) = some t:=t1';rw [Xk];rfl
  | false =>
   rw [hb] at hw;obtain ⟨k2,t,ρ',H',φ',h'',ns,hs,t1,t2,t3,t4,t5,t6,t7⟩:=uU (m:=m) (n:=n) h2 (iA hd hf undef) ha hw;refine ⟨k2,⟨⟨ρ,undef,n,false⟩ :: t.notes,t.heaps,t.last⟩,ρ',H',φ',h'',_,_,?_,t2,t3,t4,t5,.cons ⟨hf,rfl,rfl⟩ t6,t7⟩;simp only [trace];rw [hgd,hb];dsimp only;have t1':trace E (ev E k2) false ops l ([]:List (Option Nat)).tail (St.keep ⟨ρ,z,H,rd,m⟩ o.dst undef) n = some t:=t1;rw [t1'];rfl
end
theorem Cy {ms:List Nat}{i:Nat}:∀ {l:List Oper} {j:Nat} {notes:List Note} {ns:List Nt},lW NR notes ns→fE false ms i j l notes = bW (kU ms i j l) ns
 | [],j,notes,ns,h=>by cases h <;> rfl
 | o :: l,j,_,_,.nil=>by simp only [kU,iY]; rfl
 | o :: l,j,_,_,.cons (a:=n) (b:=x) h t=>by
  simp only [fE,kU,bW];rw [iY];simp only [bW];rw [Cy t,h.2.2,Bool.and_assoc];rfl
theorem J4 {ms:List Nat}{i:Nat}:∀ {l:List Oper} {j:Nat} {notes:List Note} {ns:List Nt},lW NR notes ns→d9 false ms i j l notes = bW (gN ms i j l) ns
 | [],j,notes,ns,h=>by cases h <;> rfl
 | o :: l,j,_,_,.nil=>by simp only [gN,iY]; rfl
 | o :: l,j,_,_,.cons (a:=n) (b:=x) h t=>by
  simp only [d9,gN,bW];rw [iY];simp only [bW];rw [J4 t,h.2.2,Bool.and_assoc];rfl
theorem sO {o:Oper}{g:G}(hop:g.op = lU (typ E o.op) o.op o.type){n:Note}{x:Nt}(hn:NR n x):∀ {Hs:List Heap} {hs:List Hp},lW HR Hs hs→Xh E g x hs→jS E o none n Hs = true
 | _,_,.nil,_=>rfl
 | _,_,.cons (a:=H) (b:=h) a t,w=>by
  obtain ⟨w1,w2⟩:=w;simp only [jS,sO hop hn t w2,Bool.and_true];unfold kS;dsimp only;unfold sameAt at w1;have hf:=Cw (E:=E) hn.1 a o.op o.type;rw [hop] at w1;split at w1
  ·rename_i v h' hr;rw [hr] at hf;obtain ⟨H',e,_⟩:=hf;rw [e];unfold Fx;dsimp only;rw [hn.2.1,w1.1];exact w1.2
  ·exact w1.elim
theorem tX {o:Oper}{n:Note}{l:List Heap}(h:jS E o none n l = true):jN E o none n false l = true:=by
 unfold jN;dsimp only
 cases l with
 | nil=>rfl
 | cons a l=>cases l with
  | nil=>rfl
  | cons b l=>exact h
theorem rz {o:Oper}{n:Note}{l:List Heap}(h:l.length≤1):jN E o none n false l = true:=by
 unfold jN;dsimp only
 cases l with
 | nil=>rfl
 | cons a l=>cases l with
  | nil=>rfl
  | cons b l=>simp at h
theorem Cz {ops:Array Oper}{ms:List Nat}{notes:List Note}{ns:List Nt}{Hs:List Heap}{hs:List Hp}(hN:lW NR notes ns)(hH:lW HR Hs hs):∀ {l:List Oper} {gs:List G} {i:Nat} {nl:List Note} {xl:List Nt},tV E z ops l = some gs →
  lW NR nl xl→uS E ns hs gs (jB ops ms i l) xl→fG E false ops ms notes Hs i l [] nl = true
 | [],gs,i,nl,xl,hg,hx,hw=>by unfold fG; rfl
 | o :: l,gs,i,_,_,hg,.nil,hw=>by unfold fG; rfl
 | o :: l,gs,i,_,_,hg,.cons (a:=n) (b:=x) (as:=nl) (bs:=xl) hn ht,hw=>by
  obtain ⟨g,gs',h1,h2,rfl⟩:=jC hg;obtain ⟨hd,q,hq,rfl⟩:=lV h1;simp only [uS,jB] at hw;obtain ⟨w1,w2⟩:=hw;simp only [fG];have hrec:fG E false ops ms notes Hs (Nat.succ i) l ([]:List (Option Nat)).tail nl = true:=Cz hN hH h2 ht w2;rw [hrec,Bool.and_true];unfold qX;split
  ·rfl
  ·rename_i hdone;rw [Bool.and_eq_true] at hdone;have hwin:=(hH.drop (bW (kU ms i 0 ops.toList) ns)).take (Nat.succ (bW (gN ms i 0 ops.toList) ns - bW (kU ms i 0 ops.toList) ns));rw [Cy hN,J4 hN];show jN E o none n (false && lays o.op) _ = true;rw [Bool.false_and];unfold QJ at w1
   cases yH:(Lm ops ms i o).chk with
   | true =>
    rw [yH,← hn.2.2,hdone.1,FE] at w1;exact tX (sO (g:=⟨o.dst,lU (typ E o.op) o.op o.type,q⟩) rfl hn hwin w1)
   | false =>
    rw [FE] at yH;dsimp only at yH;rw [hdone.2,Bool.true_and] at yH;have heq:kU ms i 0 ops.toList = gN ms i 0 ops.toList:=by simpa using yH
    rw [heq];refine rz ?_;have hz:Nat.sub (bW (gN ms i 0 ops.toList) ns) (bW (gN ms i 0 ops.toList) ns) = 0:=Nat.sub_self _;rw [hz,List.length_take];omega
theorem pq {ms:List Nat}{i:Nat}:∀ {l:List Oper} {j:Nat} {notes:List Note} {ns:List Nt},lW NR notes ns→fE true ms i j l notes = bW (iy ms i j l) ns
 | [],j,notes,ns,h=>by cases h <;> rfl
 | o :: l,j,_,_,.nil=>by simp only [iy,iY]; rfl
 | o :: l,j,_,_,.cons (a:=n) (b:=x) h t=>by
  simp only [fE,iy,bW];rw [iY];simp only [bW];rw [pq t,h.2.2,Bool.and_assoc];rfl
theorem wJ {ms:List Nat}{i:Nat}:∀ {l:List Oper} {j:Nat} {notes:List Note} {ns:List Nt},lW NR notes ns→d9 true ms i j l notes = bW (dR ms i j l) ns
 | [],j,notes,ns,h=>by cases h <;> rfl
 | o :: l,j,_,_,.nil=>by simp only [dR,iY]; rfl
 | o :: l,j,_,_,.cons (a:=n) (b:=x) h t=>by
  simp only [d9,dR,bW];rw [iY];simp only [bW];rw [wJ t,h.2.2,Bool.and_assoc];rfl
/-! Regions that lay ahead: what they come to. -/
section
variable [bC]
def iZ:Nat→List Bool→List (Option Nat)
 | _,[]=>[]
 | n,b :: bs=>match b with
  | true=>some n :: iZ (Nat.succ n) bs
  | false=>none :: iZ n bs
theorem Bc {o:Oper}(hc:JG o.op = true)(hk:WM (lU (typ E o.op) o.op o.type) = true) :
  ∃ f ob,(∀ ρ,jw E ρ o.op = some (f,ob))∧(∀ (b:Nat) (K:Value→Prop),LD (lU (typ E o.op) o.op o.type) b K→K (f b))∧(∀ H h,HR H h→HR ⟨Nat.succ H.next,H.objs.put H.next ob⟩ (aaQ (lU (typ E o.op) o.op o.type) h))∧(∀ h:Hp,(aaQ (lU (typ E o.op) o.op o.type) h).next = Nat.succ h.next) ∧
   ∀ n (x:Note) H h,x.val = f n→HR H h→QK (lU (typ E o.op) o.op o.type) (f n) h→vW x n (some (f,ob)) H = true:=by
 obtain ⟨aeN,oop,aeF,aeO,adw,adx⟩:=o;dsimp only at hc hk ⊢;cases oop <;> first | (cases hc; done) | skip
 ·rename_i t;simp only [typ] at hk ⊢
  cases hz:zeroOf (E.ty t) with
  | none=>rw [hz] at hk; cases hk
  | some z =>
   rw [hz] at hk;dsimp only at hk ⊢
   cases hcs:cellsOf z with
   | none=>rw [hcs] at hk; cases hk
   | some cs =>
    rw [hcs] at hk;refine ⟨xC,rowOf t cs true,fun ρ=>?_,fun b K hK=>hK,fun H h ha=>ha.lay (lI.rowOf _ _ _),fun h=>rfl,fun n x H h hx ha hl=>?_⟩
    ·show allocated t (zeroOf (E.ty t)) = _;rw [hz];show boxed t (cellsOf z) = _;rw [hcs];rfl
    ·obtain ⟨r,er,hat,hsame⟩:=hl;have hr:r = n:=by unfold xC at er; injection er with er; injection er with er; injection er with er; exact er.symm
     subst hr;obtain ⟨ob,h1,h2⟩:=ha.at_ _ _ hat;unfold vW;dsimp only;rw [hx,h1,Bool.and_eq_true];refine ⟨by unfold xC; show decide _ = true; simp,?_⟩;cases ob <;> simp only [lI] at h2
     rename_i e' n' x' cs';obtain ⟨rfl,rfl,hln,hcells⟩:=h2;unfold rowOf vV;dsimp only;have hrd:(T.ofList T.empty 0 cs).read 0 cs.length = some cs:=by
      have key:∀ (l pre:List Value),(T.ofList T.empty 0 (pre ++ l)).read pre.length l.length = some l:=by
       intro l
       induction l with
       | nil=>intro pre; rfl
       | cons y l ih =>
        intro pre;have hg:(T.ofList T.empty 0 (pre ++ y :: l)).get pre.length = some y:=by
         rw [T.fT,if_pos ⟨Nat.zero_le _,by simp⟩];simp
        have h3:=ih (pre ++ [y]);rw [List.append_assoc,List.singleton_append,List.length_append,List.length_singleton] at h3;show (T.ofList T.empty 0 (pre ++ y :: l)).read pre.length (l.length + 1) = _;simp only [T.read];rw [hg];dsimp only;rw [h3]
      exact key cs []
     have ady:cs'.read 0 cs.length = some cs:=by
      have key:∀ (m k:Nat),k + m = cs.length→cs'.read k m = some (cs.drop k):=by
       intro m
       induction m with
       | zero=>intro k hk; rw [List.drop_eq_nil_of_le (by omega)]; rfl
       | succ m ih =>
        intro k hk;have hg:cs'.get k = some cs[k]:=by rw [hcells k (by omega),List.getElem?_eq_getElem (by omega)]
        simp only [T.read];rw [hg];dsimp only;rw [ih (k + 1) (by omega),List.drop_eq_getElem_cons (by omega:k < cs.length)]
      exact key cs.length 0 (by omega)
     unfold uI;rw [hrd,ady];dsimp only;rw [hsame];simp [hln]
 ·rename_i t r
  cases r with
  | some _=>cases hc
  | none =>
   refine ⟨bL,.map [] 0,fun ρ=>rfl,fun b K hK=>hK,fun H h ha=>ha.lay (ob:=.map [] 0) (o:=.map [] 0) ⟨rfl,rfl⟩,fun h=>rfl,fun n x H h hx ha hl=>?_⟩;obtain ⟨r,er,hat⟩:=hl;have hr:r = n:=by unfold bL at er; injection er with er; injection er with er; exact er.symm
   subst hr;obtain ⟨ob,h1,h2⟩:=ha.at_ _ _ hat;unfold vW;dsimp only;rw [hx,h1,Bool.and_eq_true];refine ⟨by unfold bL; show decide _ = true; simp,?_⟩;cases ob <;> simp only [lI] at h2
   obtain ⟨rfl,rfl⟩:=h2;rfl
def LK (E:Env):List Oper→List (Option Nat)→List Note→Prop
 | o :: l,a :: as,n :: ns=>(∀ r f ob,a = some r→(∀ ρ,jw E ρ o.op = some (f,ob))→n.val = f r)∧LK E l as ns
 | _,_,_=>True
theorem Ea {ops:Array Oper}{t:T Value}:∀ {l:List Oper} {gs:List G} {H:Heap} {h:Hp} {m:Nat},tV E z ops l = some gs→gQ l = true→Am gs (eX l) = true→HR H h→m = h.next →
  ∃ H',layAll E l (oq t l) H = (iZ m (eX l),H')∧HR H' (Ao gs (eX l) h)
 | [],gs,H,h,m,hg,hc,ht,ha,hm=>by
  cases hg
  exact ⟨H,rfl,ha⟩
 | o :: l,gs,H,h,m,hg,hc,ht,ha,hm=>by
  obtain ⟨g,gs',h1,h2,rfl⟩:=jC hg;obtain ⟨hd,q,hq,rfl⟩:=lV h1;unfold gQ at hc;unfold eX at ht ⊢;rw [iY] at ht ⊢;unfold Am at ht;unfold Ao iZ oq layAll;dsimp only at ht ⊢
  cases hl:lays o.op with
  | true =>
   rw [hl] at hc ht;dsimp only at hc ht ⊢;rw [Bool.and_eq_true,Bool.and_eq_true] at hc;rw [Bool.and_eq_true] at ht;obtain ⟨f,ob,e1,e2,e3,e4,-⟩:=Bc hc.1.1 ht.1;obtain ⟨H',q1,q2⟩:=Ea (t:=t) h2 hc.2 ht.2 (e3 H h ha) (m:=Nat.succ m) (by rw [e4,hm]);refine ⟨H',?_,q2⟩;rw [e1];show BZ H.next (layAll E l (oq t l) ⟨Nat.succ H.next,H.objs.put H.next ob⟩) = _;rw [q1,ha.next,← hm];rfl
  | false =>
   rw [hl] at hc ht;dsimp only at hc ht ⊢;obtain ⟨H',q1,q2⟩:=Ea (t:=t) h2 hc ht ha hm;exact ⟨H',by rw [q1]; rfl,q2⟩
theorem rA {ops:Array Oper}{ms:List Nat}:∀ {l:List Oper} {gs:List G} {i:Nat} {b:Nat} {φ:Frame} {h:Hp} {K:List Nt→List Hp→Frame→Hp→Prop} {ρ:T Value} {H:Heap} {m:List Nat} {n:Nat},tV E z ops l = some gs→gQ l = true→Am gs (eX l) = true→FR ρ φ→HR H h →
  jq E gs (mK ops ms i l) (eX l) b φ h K →
  ∃ k t ρ' H' φ' h' ns hs,trace E (ev E k) true ops l (iZ b (eX l)) ⟨ρ,z,H,rd,m⟩ n = some t∧t.last = ⟨ρ',z,H',rd,m⟩∧FR ρ' φ'∧HR H' h'∧K ns hs φ' h'∧lW NR t.notes ns∧lW HR t.heaps hs∧LK E l (iZ b (eX l)) t.notes
 | [],gs,i,b,φ,h,K,ρ,H,m,n,hg,hc,ht,hf,ha,hw=>by
  cases hg
  exact ⟨0,⟨[],[],⟨ρ,z,H,rd,m⟩⟩,ρ,H,φ,h,[],[],rfl,rfl,hf,ha,hw,.nil,.nil,trivial⟩
 | o :: l,gs,i,b,φ,h,K,ρ,H,m,n,hg,hc,ht,hf,ha,hw=>by
  obtain ⟨g,gs',h1,h2,rfl⟩:=jC hg;obtain ⟨hd,q,hq,rfl⟩:=lV h1;have hgd:=LJ hf hq;unfold gQ at hc;unfold eX at ht hw ⊢;rw [iY] at ht hw ⊢;unfold Am at ht;unfold iZ;simp only [mK] at hw;unfold jq at hw;dsimp only at ht hw ⊢
  cases hl:lays o.op with
  | true =>
   rw [hl] at hc ht hw;dsimp only at hc ht hw ⊢;rw [Bool.and_eq_true,Bool.and_eq_true] at hc;rw [Bool.and_eq_true] at ht;obtain ⟨f,ob,e1,e2,e3,e4,-⟩:=Bc hc.1.1 ht.1;have hw:=e2 _ _ hw;have hng:nA ops ρ o.guard = true:=by
    have:=hc.1.2;unfold Sj at this
    cases hgu:o.guard with
    | none=>rfl
    | some _=>rw [hgu] at this; cases this
   obtain ⟨k,t,ρ',H',φ',h'',ns,hs,t1,t2,t3,t4,t5,t6,t7,t8⟩:=rA (m:=m) (n:=n) h2 hc.2 ht.2 (iA hd hf (f b)) ha hw;refine ⟨k,⟨⟨ρ,f b,n,true⟩ :: t.notes,t.heaps,t.last⟩,ρ',H',φ',h'',_,_,?_,t2,t3,t4,t5,.cons ⟨hf,rfl,rfl⟩ t6,t7,⟨fun r f' ob' er e'=>?_,t8⟩⟩;rotate_left
   ·cases er; have:=(e1 ρ).symm.trans (e' ρ); cases this; rfl
   simp only [trace];rw [hng];dsimp only;unfold nC;simp only [Bool.true_and,hl,qW];show noted _ o.dst n false _ (uG H (newAt b (jw E ρ o.op))) = _;rw [e1];simp only [newAt,uG,noted,jU];have t1':trace E (ev E k) true ops l (iZ (Nat.succ b) (eX l)) (St.keep ⟨ρ,z,H,rd,m⟩ o.dst (f b)) n = some t:=t1;rw [List.tail_cons,t1'];rfl
  | false =>
   rw [hl] at hc ht hw;dsimp only at hc ht hw ⊢
   cases hb:gok φ q with
   | true =>
    rw [hb] at hw;dsimp only at hw;rw [show (G5 ops ms i o).turns = chained true o from by rw [pO]] at hw
    cases hr:fJ o.op with
    | true =>
     have hch:chained true o = false:=by simp [chained,hr]
     rw [hch] at hw;unfold DrP at hw;dsimp only at hw;have hfit:=Cw (E:=E) hf ha o.op o.type;split at hw
     ·rename_i v h' hrun;rw [hrun] at hfit;obtain ⟨H1,e1,a1⟩:=hfit;have hH:=wB hr e1;subst hH;obtain ⟨k,t,ρ',H',φ',h'',ns,hs,t1,t2,t3,t4,t5,t6,t7,t8⟩:=rA (m:=m) (n:=n) h2 hc ht (iA hd hf v) a1 hw;refine ⟨k,⟨⟨ρ,v,n,true⟩ :: t.notes,t.heaps,t.last⟩,ρ',H',φ',h'',_,_,?_,t2,t3,t4,t5,.cons ⟨hf,rfl,rfl⟩ t6,t7,⟨fun r f' ob' er e'=>(by cases er),t8⟩⟩;simp only [trace];rw [hgd,hb];dsimp only;unfold nC;simp only [hl,Bool.and_false,hr];show noted _ o.dst n false _ (sH (aop o.op E ρ H1 o.type)) = _;rw [e1];simp only [sH,noted,jU];have t1':trace E (ev E k) true ops l (iZ b (eX l)) (St.keep ⟨ρ,z,H1,rd,m⟩ o.dst v) n = some t:=t1;rw [List.tail_cons,t1'];rfl
     ·exact hw.elim
    | false =>
     have hch:chained true o = true:=by simp [chained,hr,hl]
     rw [hch] at hw;unfold DrP at hw;dsimp only at hw;obtain ⟨k1,v,H1,h1',e1,a1,hw1⟩:=FN (Cw hf ha o.op o.type) hw;obtain ⟨k2,t,ρ',H',φ',h'',ns,hs,t1,t2,t3,t4,t5,t6,t7,t8⟩:=rA (m:=m) (n:=Nat.succ n) h2 hc ht (iA hd hf v) a1 hw1;refine ⟨max k1 k2,⟨⟨ρ,v,n,true⟩ :: t.notes,H1 :: t.heaps,t.last⟩,ρ',H',φ',h'',_,_,?_,t2,t3,t4,t5,.cons ⟨hf,rfl,rfl⟩ t6,.cons a1 t7,⟨fun r f' ob' er e'=>(by cases er),t8⟩⟩;simp only [trace];rw [hgd,hb];dsimp only;unfold nC;simp only [hl,Bool.and_false,hr];have e1':=uO (nJ E (Nat.le_max_left k1 k2)) e1;have t1':=pJ (nJ E (Nat.le_max_right k1 k2)) t1;show noted _ o.dst n true _ (mI E (ev E (max k1 k2)) (aop o.op E ρ H o.type)) = _;rw [e1'];simp only [noted,jU];have Xk:trace E (ev E (max k1 k2)) true ops l (iZ b (eX l)) (St.done ⟨ρ,z,H,rd,m⟩ o.dst v H1) (Nat.succ n) = some t:=t1';rw [List.tail_cons,Xk];rfl
   | false =>
    rw [hb] at hw;obtain ⟨k2,t,ρ',H',φ',h'',ns,hs,t1,t2,t3,t4,t5,t6,t7,t8⟩:=rA (m:=m) (n:=n) h2 hc ht (iA hd hf undef) ha hw;refine ⟨k2,⟨⟨ρ,undef,n,false⟩ :: t.notes,t.heaps,t.last⟩,ρ',H',φ',h'',_,_,?_,t2,t3,t4,t5,.cons ⟨hf,rfl,rfl⟩ t6,t7,⟨fun r f' ob' er e'=>(by cases er),t8⟩⟩;simp only [trace];rw [hgd,hb];dsimp only;have t1':trace E (ev E k2) true ops l (iZ b (eX l)) (St.keep ⟨ρ,z,H,rd,m⟩ o.dst undef) n = some t:=t1;rw [List.tail_cons,t1'];rfl
theorem Aq {o:Oper}{f:Nat→Value}{ob:gV}(e1:∀ ρ,jw E ρ o.op = some (f,ob)){r:Nat}{n:Note}(hv:n.val = f r)
  (hl:∀ (x:Note) H h,x.val = f r→HR H h→QK (lU (typ E o.op) o.op o.type) (f r) h→vW x r (some (f,ob)) H = true):∀ {Hs:List Heap} {hs:List Hp},lW HR Hs hs→LG (lU (typ E o.op) o.op o.type) (f r) hs→jS E o (some r) n Hs = true
 | _,_,.nil,_=>rfl
 | _,_,.cons (a:=H) (b:=h) a t,w=>by
  obtain ⟨w1,w2⟩:=w;simp only [jS,Aq e1 hv hl t w2,Bool.and_true];unfold kS;dsimp only;rw [e1];exact hl n H h hv a w1
theorem tY {ops:Array Oper}{ms:List Nat}{notes:List Note}{ns:List Nt}{Hs:List Heap}{hs:List Hp}(hN:lW NR notes ns)(hH:lW HR Hs hs):∀ {l:List Oper} {gs:List G} {i b:Nat} {nl:List Note} {xl:List Nt},tV E z ops l = some gs→gQ l = true→Am gs (eX l) = true →
  lW NR nl xl→LK E l (iZ b (eX l)) nl→D6 E ns hs gs (mK ops ms i l) (eX l) xl→fG E true ops ms notes Hs i l (iZ b (eX l)) nl = true
 | [],gs,i,b,nl,xl,hg,hc,ht,hx,hv,hw=>by unfold fG; rfl
 | o :: l,gs,i,b,_,_,hg,hc,ht,.nil,hv,hw=>by unfold fG; rfl
 | o :: l,gs,i,b,_,_,hg,hc,ht,.cons (a:=n) (b:=x) (as:=nl) (bs:=xl) hn hnt,hv,hw=>by
  obtain ⟨g,gs',h1,h2,rfl⟩:=jC hg;obtain ⟨hd,q,hq,rfl⟩:=lV h1;unfold gQ at hc;unfold eX at ht hv hw ⊢;rw [iY] at ht hv hw ⊢;unfold Am at ht;unfold iZ at hv ⊢;simp only [D6,mK] at hw;obtain ⟨w1,w2⟩:=hw;simp only [fG];have hwin:=(hH.drop (bW (iy ms i 0 ops.toList) ns)).take (Nat.succ (bW (dR ms i 0 ops.toList) ns - bW (iy ms i 0 ops.toList) ns))
  cases hl:lays o.op with
  | true =>
   rw [hl] at hc ht hv w1;dsimp only at hc ht hv w1 ⊢;rw [Bool.and_eq_true,Bool.and_eq_true] at hc;rw [Bool.and_eq_true] at ht;obtain ⟨hv1,hv2⟩:=hv;rw [List.tail_cons,tY hN hH h2 hc.2 ht.2 hnt hv2 w2,Bool.and_true];obtain ⟨f,ob,e1,e2,e3,e4,e5⟩:=Bc hc.1.1 ht.1;have hval:=hv1 b f ob rfl e1;unfold qX;split
   ·rfl
   ·rw [pq hN,wJ hN];unfold jN;simp only [Bool.true_and,hl,qW];unfold Xi at w1;dsimp only at w1;rw [← hn.2.1,hval,pO] at w1;exact Aq e1 hval (fun x H h hx ha hy=>e5 b x H h hx ha hy) hwin w1
  | false =>
   rw [hl] at hc ht hv w1;dsimp only at hc ht hv w1 ⊢;rw [List.tail_cons,tY hN hH h2 hc ht hnt hv.2 w2,Bool.and_true];unfold qX;split
   ·rfl
   ·rename_i hdone;rw [Bool.and_eq_true] at hdone;rw [pq hN,wJ hN];simp only [Bool.true_and,hl,qW];unfold Xi QJ at w1;dsimp only at w1
    cases yH:(G5 ops ms i o).chk with
    | true =>
     rw [yH,← hn.2.2,hdone.1,pO] at w1;exact tX (sO (g:=⟨o.dst,lU (typ E o.op) o.op o.type,q⟩) rfl hn hwin w1)
    | false =>
     rw [pO] at yH;dsimp only at yH;rw [hdone.2,Bool.true_and] at yH;have heq:iy ms i 0 ops.toList = dR ms i 0 ops.toList:=by simpa using yH
     rw [heq];refine rz ?_;have hz:Nat.sub (bW (dR ms i 0 ops.toList) ns) (bW (dR ms i 0 ops.toList) ns) = 0:=Nat.sub_self _;rw [hz,List.length_take];omega
theorem Xl {ops:Array Oper}{gs:List G}(hd0:qV false ops = false)(hd:qV true ops = true)(hc:gQ ops.toList = true)(hg:tV E z ops ops.toList = some gs)(ht:Am gs (eX ops.toList) = true){φ:Frame}{h:Hp}{Q:Frame→Hp→Prop}{ρ:T Value}{H:Heap}{m:List Nat}(hf:FR ρ φ)(ha:HR H h)
  (hw:jq E gs (mK ops (cK ops) 0 ops.toList) (eX ops.toList) h.next φ (Ao gs (eX ops.toList) h) fun ns hs φ' h'=>D6 E ns (Ao gs (eX ops.toList) h :: hs) gs (mK ops (cK ops) 0 ops.toList) (eX ops.toList) ns∧Q φ' h') :
  ∃ k ρ' H' φ' h',ow E (ev E k) ops ⟨ρ,z,H,rd,m⟩ = some (.normal,⟨ρ',z,H',rd,m⟩)∧FR ρ' φ'∧HR H' h'∧Q φ' h':=by
 obtain ⟨H0,l1,l2⟩:=Ea (ops:=ops) (t:=ρ) hg hc ht ha rfl;obtain ⟨k,t,ρ',H',φ',h',ns,hs,t1,t2,t3,t4,⟨t5,t5'⟩,t6,t7,t8⟩:=rA (rd:=rd) (m:=m) (n:=0) hg hc ht hf l2 hw;refine ⟨k,ρ',H',φ',h',?_,t3,t4,t5'⟩;unfold ow;rw [hd0,hd,hc];show kr E (ev E k) true ops ⟨ρ,z,H,rd,m⟩ (layAll E ops.toList (oq ρ ops.toList) H) = _;rw [l1];unfold kr;dsimp only;show settled E true ops (iZ h.next (eX ops.toList)) H0 (trace E (ev E k) true ops ops.toList (iZ h.next (eX ops.toList)) ⟨ρ,z,H0,rd,m⟩ 0) = _;rw [t1];unfold settled;dsimp only;have hst:stable E true ops (iZ h.next (eX ops.toList)) H0 t = true:=by
  unfold stable;dsimp only;exact tY t6 (.cons l2 t7) hg hc ht t6 t8 t5
 rw [hst];dsimp only;rw [t2]
end
section
theorem Xm {op:TOp}{φ:Frame}{K:(Nat→Value)→TypeId→List Value→Prop}(w:mZ op φ K):∃ f e cells,K f e cells∧∀ h,runT E op φ h = .val (f h.next) (h.lay (.row e true cells)):=by
 cases op <;> first | exact w.elim | skip
 ·exact ⟨_,_,_,w,fun h=>rfl⟩
 ·rename_i e x;unfold mZ at w;dsimp only at w
  cases h:cellsOf (bI φ x) with
  | none=>rw [h] at w; exact w.elim
  | some cs =>
   rw [h] at w;exact ⟨_,_,_,w,fun h2=>by show Od h2 e (cellsOf (bI φ x)) = _; rw [h]; rfl⟩
 ·rename_i e n z ps;unfold mZ at w;dsimp only at w
  cases h:qh φ z ps with
  | none=>rw [h] at w; exact w.elim
  | some cs =>
   rw [h] at w;exact ⟨_,_,_,w,fun h2=>by show QG h2 e n (qh φ z ps) = _; rw [h]; rfl⟩
 ·rename_i e z bytes l c;unfold mZ at w;dsimp only at w;cases h:bI φ l <;> rw [h] at w <;> dsimp only at w <;> first | exact w.elim | skip
  cases h2:bI φ c <;> rw [h2] at w <;> dsimp only at w <;> first | exact w.elim | skip
  rename_i k1 m k2 n;refine ⟨_,_,_,w.2,fun hh=>?_⟩;have:=Ou (E:=E) (h:=hh) (e:=e) (z:=z) (bytes:=bytes) (l:=.int k1 m) (c:=.int k2 n) (K:=fun v h'=>v = slc hh.next 0 m.toNat n.toNat∧h' = hh.lay (.row e true (times z n.toNat))) ⟨w.1,rfl,rfl⟩;show D5 hh e z bytes (asNat 100000 (bI φ l)) (asNat 100000 (bI φ c)) = _;rw [h,h2];have hcall:∀ r,kV E r (fun v h'=>v = slc hh.next 0 m.toNat n.toNat∧h' = hh.lay (.row e true (times z n.toNat)))→(∀ f as h,r≠.call f as h)→(∀ f as h,r≠.yield f as h)→r = .val (slc hh.next 0 m.toNat n.toNat) (hh.lay (.row e true (times z n.toNat))):=by
   intro r hr n1 n2
   cases r with
   | val v h'=>obtain ⟨rfl,rfl⟩:=hr; rfl
   | call f as h=>exact absurd rfl (n1 _ _ _)
   | yield f as h=>exact absurd rfl (n2 _ _ _)
   | fail=>exact hr.elim
  refine hcall _ this (fun f as h=>?_) (fun f as h=>?_)
  all_goals
   unfold D5
   repeat' split
   all_goals intro x; cases x
theorem Xn {op:Op}(hl:lays op = true)(ρ:T Value)(H:Heap)(ty:TypeId):aop op E ρ H ty = jf (jw E ρ op) H:=by
 cases op <;> first | (cases hl; done) | rfl
def Ov (n:Nat):Hp:=⟨n,fun _=>none⟩
theorem Xo (n r:Nat):(Ov n).at r = none:=by
 unfold Hp.at Ov;dsimp only;split <;> rfl
theorem HR.bare (n:Nat):HR ⟨n,T.empty⟩ (Ov n):=⟨rfl,fun r o e=>by rw [Xo] at e; cases e⟩
theorem SN {o:Oper}{ρ:T Value}{φ:Frame}(hf:FR ρ φ)(hl:lays o.op = true){K:(Nat→Value)→TypeId→List Value→Prop}(w:mZ (lU (typ E o.op) o.op o.type) φ K) :
  ∃ f ob fn e cells,jw E ρ o.op = some (f,ob)∧(∀ r,f r = fn r)∧lI ob (.row e true cells)∧K fn e cells:=by
 obtain ⟨fn,e,cells,hK,hrun⟩:=Xm (E:=E) w;have key:∀ r,∃ H1,jf (jw E ρ o.op) ⟨r,T.empty⟩ = .val (fn r) H1∧HR H1 ((Ov r).lay (.row e true cells)):=by
  intro r;have hft:=Cw (E:=E) hf (HR.bare r) o.op o.type;rw [hrun,Xn hl] at hft;exact hft
 cases hlo:jw E ρ o.op with
 | none =>
  obtain ⟨H1,h1,-⟩:=key 0;rw [hlo] at h1;cases h1
 | some x =>
  obtain ⟨f,ob⟩:=x;rw [hlo] at key;have key2:∀ r,f r = fn r∧HR ⟨Nat.succ r,(T.empty:T gV).put r ob⟩ ((Ov r).lay (.row e true cells)):=by
   intro r;obtain ⟨H1,h1,h2⟩:=key r;unfold jf laid at h1;dsimp only at h1;rw [pU] at h1;injection h1 with e1 e2;subst e2;exact ⟨e1,h2⟩
  refine ⟨f,ob,fn,e,cells,rfl,fun r=>(key2 r).1,?_,hK⟩;obtain ⟨a,h1,h2⟩:=(key2 0).2.at_ 0 (.row e true cells) (Hp.ak _ _);have h1':((T.empty:T gV).put 0 ob).get 0 = some a:=h1;rw [T.get_put,if_pos rfl] at h1';cases h1'
  exact h2
theorem zS {ops:Array Oper}:∀ {l:List Oper} {gs:List G} {notes:List Note} {ns:List Nt} {H:Heap} {h:Hp} {K:List (Option Nat)→Hp→Prop},tV E z ops l = some gs→lW NR notes ns→HR H h→j5 gs (eX l) ns h K →
  ∃ as H' h',layAll E l notes H = (as,H')∧HR H' h'∧K as h'
 | [],gs,notes,ns,H,h,K,hg,hn,ha,hw=>by
  cases hg
  exact ⟨[],H,h,by unfold layAll; rfl,ha,hw⟩
 | o :: l,gs,_,_,H,h,K,hg,.nil,ha,hw=>by
  obtain ⟨g,gs',h1,h2,rfl⟩:=jC hg;refine ⟨[],H,h,by unfold layAll; rfl,ha,?_⟩;unfold eX at hw;rw [iY] at hw;exact hw
 | o :: l,gs,_,_,H,h,K,hg,.cons (a:=n) (b:=x) hn ht,ha,hw=>by
  obtain ⟨g,gs',h1,h2,rfl⟩:=jC hg;obtain ⟨hd,q,hq,rfl⟩:=lV h1;unfold eX at hw;rw [iY] at hw;unfold j5 at hw;unfold layAll
  cases hl:lays o.op with
  | true =>
   rw [hl] at hw;dsimp only at hw
   cases hd2:x.done with
   | true =>
    rw [hd2] at hw;dsimp only at hw;obtain ⟨f,ob,fn,e,cells,e1,e2,e3,hK⟩:=SN (E:=E) hn.1 hl hw;obtain ⟨as,H',h',q1,q2,q3⟩:=zS h2 ht (ha.lay e3) hK;refine ⟨_,H',h',?_,q2,q3⟩;rw [hn.2.2,hd2];show P9 o (jw E n.tmps o.op) (layAll E l _) H = _;rw [e1];show BZ H.next (layAll E l _ ⟨Nat.succ H.next,H.objs.put H.next ob⟩) = _;rw [q1,ha.next];rfl
   | false =>
    rw [hd2] at hw;dsimp only at hw;obtain ⟨as,H',h',q1,q2,q3⟩:=zS h2 ht ha hw;refine ⟨_,H',h',?_,q2,q3⟩;rw [hn.2.2,hd2];show uH (layAll E l _ H) = _;rw [q1];rfl
  | false =>
   rw [hl] at hw;dsimp only at hw;obtain ⟨as,H',h',q1,q2,q3⟩:=zS h2 ht ha hw;refine ⟨_,H',h',?_,q2,q3⟩;rw [Bool.and_false];show uH (layAll E l _ H) = _;rw [q1];rfl
def QM (E:Env):List Oper→List (Option Nat)→List Ld→List Note→Prop
 | [],_,[],[]=>True
 | o :: l,as,x :: os,n :: ns=>(match x with
  | some (r,e,cells)=>qW as = some r∧lays o.op = true∧∃ f ob,jw E n.tmps o.op = some (f,ob)∧n.val = f r∧lI ob (.row e true cells)
  | none=>n.done = false∨lays o.op = false∧qW as = none)∧QM E l as.tail os ns
 | _,_,_,_=>False
variable [bC]
theorem uV {ops:Array Oper}{ms:List Nat}:∀ {l:List Oper} {gs:List G} {i:Nat} {as:List (Option Nat)} {φ:Frame} {h:Hp} {K:List Nt→List Ld→List Hp→Frame→Hp→Prop} {ρ:T Value} {H:Heap} {m:List Nat} {n:Nat},tV E z ops l = some gs→FR ρ φ→HR H h →
  kW E gs (mK ops ms i l) (eX l) as φ h K →
  ∃ k t ρ' H' φ' h' ns os hs,trace E (ev E k) true ops l as ⟨ρ,z,H,rd,m⟩ n = some t∧t.last = ⟨ρ',z,H',rd,m⟩∧FR ρ' φ'∧HR H' h'∧K ns os hs φ' h'∧lW NR t.notes ns∧lW HR t.heaps hs∧QM E l as os t.notes
 | [],gs,i,as,φ,h,K,ρ,H,m,n,hg,hf,ha,hw=>by
  cases hg
  unfold kW at hw;exact ⟨0,⟨[],[],⟨ρ,z,H,rd,m⟩⟩,ρ,H,φ,h,[],[],[],rfl,rfl,hf,ha,hw,.nil,.nil,trivial⟩
 | o :: l,gs,i,as,φ,h,K,ρ,H,m,n,hg,hf,ha,hw=>by
  obtain ⟨g,gs',h1,h2,rfl⟩:=jC hg;obtain ⟨hd,q,hq,rfl⟩:=lV h1;have hgd:=LJ hf hq;unfold eX at hw;rw [iY] at hw;simp only [mK] at hw;unfold kW at hw;dsimp only at hw
  cases hb:gok φ q with
  | true =>
   rw [hb] at hw;dsimp only at hw
   cases hl:lays o.op with
   | true =>
    rw [hl] at hw;dsimp only at hw
    match as,hw with
    | some r :: as,hw =>
     dsimp only at hw;obtain ⟨f,ob,fn,e,cells,e1,e2,e3,hK⟩:=SN (E:=E) hf hl hw;rw [← e2 r] at hK;obtain ⟨k,t,ρ',H',φ',h'',ns,os,hs,t1,t2,t3,t4,t5,t6,t7,t8⟩:=uV (m:=m) (n:=n) h2 (iA hd hf (f r)) ha hK;refine ⟨k,⟨⟨ρ,f r,n,true⟩ :: t.notes,t.heaps,t.last⟩,ρ',H',φ',h'',_,_,_,?_,t2,t3,t4,t5,.cons ⟨hf,rfl,rfl⟩ t6,t7,⟨⟨rfl,hl,f,ob,e1,rfl,e3⟩,t8⟩⟩;simp only [trace];rw [hgd,hb];dsimp only;unfold nC;simp only [Bool.true_and,hl,qW];show noted _ o.dst n false _ (uG H (newAt r (jw E ρ o.op))) = _;rw [e1];simp only [newAt,uG,noted,jU];have t1':trace E (ev E k) true ops l as (St.keep ⟨ρ,z,H,rd,m⟩ o.dst (f r)) n = some t:=t1;rw [List.tail_cons,t1'];rfl
   | false =>
    rw [hl] at hw;dsimp only at hw
    match as,hw with
    | none :: as,hw =>
     dsimp only at hw;rw [show (G5 ops ms i o).turns = chained true o from by rw [pO]] at hw
     cases hr:fJ o.op with
     | true =>
      have hch:chained true o = false:=by simp [chained,hr]
      rw [hch] at hw;unfold DrP at hw;dsimp only at hw;have hfit:=Cw (E:=E) hf ha o.op o.type;split at hw
      ·rename_i v h' hrun;rw [hrun] at hfit;obtain ⟨H1,e1,a1⟩:=hfit;have hH:=wB hr e1;subst hH;obtain ⟨k,t,ρ',H',φ',h'',ns,os,hs,t1,t2,t3,t4,t5,t6,t7,t8⟩:=uV (m:=m) (n:=n) h2 (iA hd hf v) a1 hw;refine ⟨k,⟨⟨ρ,v,n,true⟩ :: t.notes,t.heaps,t.last⟩,ρ',H',φ',h'',_,_,_,?_,t2,t3,t4,t5,.cons ⟨hf,rfl,rfl⟩ t6,t7,⟨.inr ⟨hl,rfl⟩,t8⟩⟩;simp only [trace];rw [hgd,hb];dsimp only;unfold nC;simp only [hl,Bool.and_false,hr];show noted _ o.dst n false _ (sH (aop o.op E ρ H1 o.type)) = _;rw [e1];simp only [sH,noted,jU];have t1':trace E (ev E k) true ops l as (St.keep ⟨ρ,z,H1,rd,m⟩ o.dst v) n = some t:=t1;rw [List.tail_cons,t1'];rfl
      ·exact hw.elim
     | false =>
      have hch:chained true o = true:=by simp [chained,hr,hl]
      rw [hch] at hw;unfold DrP at hw;dsimp only at hw;obtain ⟨k1,v,H1,h1',e1,a1,hw1⟩:=FN (Cw hf ha o.op o.type) hw;obtain ⟨k2,t,ρ',H',φ',h'',ns,os,hs,t1,t2,t3,t4,t5,t6,t7,t8⟩:=uV (m:=m) (n:=Nat.succ n) h2 (iA hd hf v) a1 hw1;refine ⟨max k1 k2,⟨⟨ρ,v,n,true⟩ :: t.notes,H1 :: t.heaps,t.last⟩,ρ',H',φ',h'',_,_,_,?_,t2,t3,t4,t5,.cons ⟨hf,rfl,rfl⟩ t6,.cons a1 t7,⟨.inr ⟨hl,rfl⟩,t8⟩⟩;simp only [trace];rw [hgd,hb];dsimp only;unfold nC;simp only [hl,Bool.and_false,hr];have e1':=uO (nJ E (Nat.le_max_left k1 k2)) e1;have t1':=pJ (nJ E (Nat.le_max_right k1 k2)) t1;show noted _ o.dst n true _ (mI E (ev E (max k1 k2)) (aop o.op E ρ H o.type)) = _;rw [e1'];simp only [noted,jU];have Xk:trace E (ev E (max k1 k2)) true ops l as (St.done ⟨ρ,z,H,rd,m⟩ o.dst v H1) (Nat.succ n) = some t:=t1';rw [List.tail_cons,Xk];rfl
  | false =>
   rw [hb] at hw;dsimp only at hw;obtain ⟨k2,t,ρ',H',φ',h'',ns,os,hs,t1,t2,t3,t4,t5,t6,t7,t8⟩:=uV (m:=m) (n:=n) h2 (iA hd hf undef) ha hw;refine ⟨k2,⟨⟨ρ,undef,n,false⟩ :: t.notes,t.heaps,t.last⟩,ρ',H',φ',h'',_,_,_,?_,t2,t3,t4,t5,.cons ⟨hf,rfl,rfl⟩ t6,t7,⟨.inl rfl,t8⟩⟩;simp only [trace];rw [hgd,hb];dsimp only;have t1':trace E (ev E k2) true ops l as.tail (St.keep ⟨ρ,z,H,rd,m⟩ o.dst undef) n = some t:=t1;rw [t1'];rfl
theorem J5 {n:Nat}{e e':TypeId}{x x':Bool}{cs:T Value}{l:List Value}(h:lI (.row e n x cs) (.row e' x' l)):cs.read 0 n = some l:=by
 obtain ⟨-,-,hn,hc⟩:=h;have key:∀ (m k:Nat),k + m = n→cs.read k m = some (l.drop k):=by
  intro m
  induction m with
  | zero=>intro k hk; rw [List.drop_eq_nil_of_le (by omega)]; rfl
  | succ m ih =>
   intro k hk;have hg:cs.get k = some (l[k]'(by omega)):=by rw [hc k (by omega),List.getElem?_eq_getElem (by omega)]
   simp only [T.read];rw [hg];dsimp only;rw [ih (k + 1) (by omega),List.drop_eq_getElem_cons (by omega:k < l.length)]
 exact key n 0 (by omega)
theorem Xp {n:Note}{f:Nat→Value}{ob:gV}{r:Nat}{e:TypeId}{cells:List Value}(hv:n.val = f r)(hs:fD 4 n.val n.val = true)(hc:Ca cells cells = true)(ho:lI ob (.row e true cells)){H:Heap}{h:Hp}(a:HR H h)(hr:h.at r = some (.row e true cells)):vW n r (some (f,ob)) H = true:=by
 obtain ⟨ob2,h1,h2⟩:=a.at_ _ _ hr;unfold vW;dsimp only;rw [← hv,hs,h1,Bool.true_and];cases ob <;> first | (exact (show False from ho).elim) | skip
 cases ob2 <;> first | (exact (show False from h2).elim) | skip
 have q1:=J5 ho;have q2:=J5 h2;obtain ⟨rfl,rfl,p3,-⟩:=ho;obtain ⟨rfl,rfl,p4,-⟩:=h2;subst p3;subst p4;unfold vV uI;dsimp only;rw [q1,q2];dsimp only;rw [hc];simp
theorem CB {o:Oper}{n:Note}{f:Nat→Value}{ob:gV}{r:Nat}{e:TypeId}{cells:List Value}(e1:jw E n.tmps o.op = some (f,ob))(hv:n.val = f r)(hs:fD 4 n.val n.val = true)(hc:Ca cells cells = true)(ho:lI ob (.row e true cells)):∀ {Hs:List Heap} {hs:List Hp},lW HR Hs hs→QL r e cells hs→jS E o (some r) n Hs = true
 | _,_,.nil,_=>rfl
 | _,_,.cons (a:=H) (b:=h) a t,w=>by
  obtain ⟨w1,w2⟩:=w;simp only [jS,CB e1 hv hs hc ho t w2,Bool.and_true];unfold kS;dsimp only;rw [e1];exact Xp hv hs hc ho a w1
theorem Ar {ops:Array Oper}{ms:List Nat}{notes:List Note}{ns:List Nt}{Hs:List Heap}{hs:List Hp}(hN:lW NR notes ns)(hH:lW HR Hs hs):∀ {l:List Oper} {gs:List G} {i:Nat} {as:List (Option Nat)} {os:List Ld} {nl:List Note} {xl:List Nt},tV E z ops l = some gs →
  lW NR nl xl→QM E l as os nl→D7 E ns hs gs (mK ops ms i l) os xl→fG E true ops ms notes Hs i l as nl = true
 | [],gs,i,as,os,nl,xl,hg,hx,hv,hw=>by unfold fG; rfl
 | o :: l,gs,i,as,os,_,_,hg,.nil,hv,hw=>by unfold fG; rfl
 | o :: l,gs,i,as,[],_,_,hg,.cons _ _,hv,hw=>by exact hv.elim
 | o :: l,gs,i,as,x :: os,_,_,hg,.cons (a:=n) (b:=y) (as:=nl) (bs:=xl) hn hnt,hv,hw=>by
  obtain ⟨g,gs',h1,h2,rfl⟩:=jC hg;obtain ⟨hd,q,hq,rfl⟩:=lV h1;simp only [D7,mK] at hw;obtain ⟨w1,w2⟩:=hw;obtain ⟨hv1,hv2⟩:=hv;simp only [fG];have hwin:=(hH.drop (bW (iy ms i 0 ops.toList) ns)).take (Nat.succ (bW (dR ms i 0 ops.toList) ns - bW (iy ms i 0 ops.toList) ns));rw [Ar hN hH h2 hnt hv2 w2,Bool.and_true];unfold qX;split
  ·rfl
  ·rename_i hdone;rw [Bool.and_eq_true] at hdone;rw [pq hN,wJ hN]
   match x,hv1,w1 with
   | some (r,e,cells),hv1,w1 =>
    obtain ⟨ha,hl,f,ob,e1,e2,e3⟩:=hv1;unfold Xj at w1;dsimp only at w1;obtain ⟨⟨s1,s2⟩,s3⟩:=w1;unfold jN;simp only [Bool.true_and,hl];rw [ha];rw [pO] at s3;exact CB e1 e2 (by rw [hn.2.1]; exact s1) s2 e3 hwin s3
   | none,hv1,w1 =>
    rcases hv1 with hv1 | ⟨hl,ha⟩
    ·rw [hv1] at hdone; cases hdone.1
    unfold Xj QJ at w1;dsimp only at w1;simp only [Bool.true_and,hl];rw [ha]
    cases yH:(G5 ops ms i o).chk with
    | true =>
     rw [yH,← hn.2.2,hdone.1,pO] at w1;exact tX (sO (g:=⟨o.dst,lU (typ E o.op) o.op o.type,q⟩) rfl hn hwin w1)
    | false =>
     rw [pO] at yH;dsimp only at yH;rw [hdone.2,Bool.true_and] at yH;have heq:iy ms i 0 ops.toList = dR ms i 0 ops.toList:=by simpa using yH
     rw [heq];refine rz ?_;have hz:Nat.sub (bW (dR ms i 0 ops.toList) ns) (bW (dR ms i 0 ops.toList) ns) = 0:=Nat.sub_self _;rw [hz,List.length_take];omega
theorem aaS {ops:Array Oper}{gs:List G}(hd0:qV false ops = false)(hd:qV true ops = true)(hc:gQ ops.toList = false)(hg:tV E z ops ops.toList = some gs){φ:Frame}{h:Hp}{Q:Frame→Hp→Prop}{ρ:T Value}{H:Heap}{m:List Nat}(hf:FR ρ φ)(ha:HR H h)
  (hw:iV E gs (jB ops (cK ops) 0 ops.toList) φ h fun ns1 _ _ _=>j5 gs (eX ops.toList) ns1 h fun as h0=>kW E gs (mK ops (cK ops) 0 ops.toList) (eX ops.toList) as φ h0 fun ns os hs φ' h'=>D7 E ns (h0 :: hs) gs (mK ops (cK ops) 0 ops.toList) os ns∧Q φ' h') :
  ∃ k ρ' H' φ' h',ow E (ev E k) ops ⟨ρ,z,H,rd,m⟩ = some (.normal,⟨ρ',z,H',rd,m⟩)∧FR ρ' φ'∧HR H' h'∧Q φ' h':=by
 obtain ⟨k1,t1,-,-,-,-,ns1,hs1,q1,-,-,-,q2,q3,-⟩:=uU (rd:=rd) (m:=m) (n:=0) hg hf ha hw;obtain ⟨as,H0,h0,l1,l2,q4⟩:=zS hg q3 ha q2;obtain ⟨k2,t,ρ',H',φ',h',ns,os,hs,t1',t2,t3,t4,⟨t5,t5'⟩,t6,t7,t8⟩:=uV (rd:=rd) (m:=m) (n:=0) hg hf l2 q4;refine ⟨max k1 k2,ρ',H',φ',h',?_,t3,t4,t5'⟩;have r1:=pJ (nJ E (Nat.le_max_left k1 k2)) q1;have r2:=pJ (nJ E (Nat.le_max_right k1 k2)) t1';unfold ow;rw [hd0,hd,hc];dsimp only;rw [r1];show kr E (ev E (max k1 k2)) true ops ⟨ρ,z,H,rd,m⟩ (layAll E ops.toList t1.notes H) = _;rw [l1];unfold kr;dsimp only;show settled E true ops as H0 (trace E (ev E (max k1 k2)) true ops ops.toList as ⟨ρ,z,H0,rd,m⟩ 0) = _;rw [r2];unfold settled;dsimp only;have hst:stable E true ops as H0 t = true:=by
  unfold stable;dsimp only;exact Ar t6 (.cons l2 t7) hg t6 t8 t5
 rw [hst];dsimp only;rw [t2]
end
def VF (r:dN):Prop:=match r with
 | .val _ _=>True
 | .fail=>True
 | _=>False
def UL (r:fV):Prop:=match r with
 | .val _ _=>True
 | .fail=>True
 | _=>False
theorem VF.lift {r:dN}(h:VF r)(m:Hp):UL (Rx.lift r m):=by cases r <;> first | trivial | exact h.elim
theorem yI (H:Heap)(v:Option Value):VF (lM H v):=by cases v <;> trivial
theorem sP (h:Hp)(v:Option Value):UL (hval h v):=by cases v <;> trivial
theorem Xq (H:Heap)(v:Value)(r:Unit→Option Value):VF (wX H v r):=by unfold wX; split <;> first | exact yI _ _ | trivial
theorem UM (H:Heap)(v:List Value)(r:Unit→Option Value):VF (nk H v r):=by unfold nk; split <;> first | exact yI _ _ | trivial
theorem aaT (H:Heap)(v:Value):VF (iB H v):=by unfold iB; repeat' (first | trivial | split)
theorem Xr (ps:List (Nat×Value))(i:TI)(H:Heap):VF (qc E H ps i):=by unfold qc zw Ey; repeat' (first | trivial | split)
theorem Xt (v:Value)(lo hi mx:Option Value)(i:TI)(H:Heap):VF (fI E H v lo hi mx i):=by unfold fI sD oh xI mH F9 kQ nW mH oP xH; repeat' (first | trivial | split)
theorem EN (size r o:Nat)(b:Option (Nat×Nat×Nat))(H:Heap):VF (kQ H size r o b):=by unfold kQ; repeat' (first | trivial | split)
theorem Hw (size r o:Nat)(n:Bool)(b:Option (Nat×Nat×Nat))(H:Heap):VF (nW H size r o n b):=by unfold nW mH oP xH; repeat' (first | trivial | split)
theorem Xu {op:Op}(hr:fJ op = true)(ty:TypeId)(φ:Frame)(h:Hp):UL (fQ E op ty φ h):=by
 cases op with
 | move x=>trivial
 | assign x=>trivial
 | pick c a b=>simp only [fQ]; split <;> trivial
 | build t ps=>simp only [fQ,hbuild]; split <;> first | exact (Xr _ _ _).lift _ | trivial
 | load t a=>simp only [fQ,DZ]; split <;> first | exact sP _ _ | trivial
 | nilCheck x=>exact (aaT _ _).lift _
 | binOp op t x y yt=>exact sP _ _
 | unOp op t x=>exact (Xq _ _ _).lift _
 | convert s d x=>simp only [fQ,pR,q8]; repeat' (first | exact sP _ _ | trivial | split)
 | sliceToArrayPointer t x=>simp only [fQ]; refine VF.lift ?_ _; unfold jv toArray; repeat' (first | trivial | split)
 | makeInterface t x=>simp only [fQ]; refine VF.lift ?_ _; unfold oO; repeat' (first | trivial | split)
 | makeFunc f a b=>simp only [fQ]; refine VF.lift ?_ _; unfold funcOf; repeat' (first | trivial | split)
 | slice t x lo hi mx =>
  simp only [fQ];split
  ·unfold He
   repeat' (first | exact (Xt _ _ _ _ _ _).lift _ | trivial | split)
   unfold nK
   repeat' (first | exact (EN _ _ _ _ _).lift _ | exact (Hw _ _ _ _ _ _).lift _ | trivial | split)
  ·trivial
 | fieldAddr t x f=>simp only [fQ]; refine VF.lift ?_ _; unfold iL uE; repeat' (first | trivial | split)
 | field t x f=>simp only [fQ]; refine VF.lift ?_ _; unfold qd partOf; repeat' (first | exact yI _ _ | trivial | split)
 | indexAddr t x j=>simp only [fQ]; refine VF.lift ?_ _; unfold gM qo; repeat' (first | trivial | split)
 | index t x j=>simp only [fQ]; refine VF.lift ?_ _; unfold lF elemOf DF; repeat' (first | exact yI _ _ | trivial | split)
 | lookup t x j ok=>exact sP _ _
 | extract x i=>simp only [fQ]; refine VF.lift ?_ _; unfold extracted; repeat' (first | exact yI _ _ | trivial | split)
 | call c =>
  obtain ⟨callee,args,ts⟩:=c
  cases callee with
  | builtin b=>cases b <;> first | exact sP _ _ | exact (UM _ _ _).lift _ | cases hr
  | value f=>cases hr
  | invoke r m=>cases hr
 | _=>cases hr
theorem yJ {ops:Array Oper}{ms:List Nat}:∀ {l:List Oper} {gs:List G} {i:Nat} {φ:Frame} {h:Hp} {Q:Frame→Hp→Prop},tV E z ops l = some gs→(jB ops ms i l).any Dr.chk = false→wpOps E gs φ h Q →
  iV E gs (jB ops ms i l) φ h fun ns hs φ' h'=>(∀ N M,uS E N M gs (jB ops ms i l) ns)∧Q φ' h'
 | [],gs,i,φ,h,Q,hg,hc,hw=>by
  cases hg
  exact ⟨fun N M=>trivial,hw⟩
 | o :: l,gs,i,φ,h,Q,hg,hc,hw=>by
  obtain ⟨g,gs',h1,h2,rfl⟩:=jC hg;obtain ⟨hd,q,hq,rfl⟩:=lV h1;simp only [jB,List.any_cons,Bool.or_eq_false_iff] at hc;obtain ⟨hc1,hc2⟩:=hc;simp only [iV,jB];simp only [wpOps] at hw;have hok:∀ (N:List Nt) (M:List Hp) (x:Nt) (xs:List Nt),uS E N M gs' (jB ops ms (Nat.succ i) l) xs→uS E N M (⟨o.dst,lU (typ E o.op) o.op o.type,q⟩ :: gs') (Lm ops ms i o :: jB ops ms (Nat.succ i) l) (x :: xs):=by
   intro N M x xs hx;refine ⟨?_,hx⟩;unfold QJ;rw [hc1,Bool.and_false];trivial
  have lift:∀ {φ:Frame} {h:Hp} (f:List Nt→List Nt) (g:List Hp→List Hp),(∀ ns,∃ x,f ns = x :: ns)→iV E gs' (jB ops ms (Nat.succ i) l) φ h (fun ns hs φ' h'=>(∀ N M,uS E N M gs' (jB ops ms (Nat.succ i) l) ns)∧Q φ' h') →
    iV E gs' (jB ops ms (Nat.succ i) l) φ h fun ns hs φ' h'=>(∀ N M,uS E N M (⟨o.dst,lU (typ E o.op) o.op o.type,q⟩ :: gs') (Lm ops ms i o :: jB ops ms (Nat.succ i) l) (f ns))∧Q φ' h':=by
   intro φ h f g hf hx;refine kX (fun ns hs φ' h' hy=>⟨fun N M=>?_,hy.2⟩) hx;obtain ⟨x,e⟩:=hf ns;rw [e];exact hok N M x ns (hy.1 N M)
  cases hb:gok φ q with
  | true =>
   rw [hb] at hw;dsimp only at hw ⊢;have hstep:∀ (turns:Bool) (x:fV),(turns = false→UL x)→kV E x (fun v h'=>wpOps E gs' (put φ o.dst v) h' Q) →
     DrP E turns x fun v h'=>iV E gs' (jB ops ms (Nat.succ i) l) (put φ o.dst v) h' fun ns hs φ' h''=>(∀ N M,uS E N M (⟨o.dst,lU (typ E o.op) o.op o.type,q⟩ :: gs') (Lm ops ms i o :: jB ops ms (Nat.succ i) l) (⟨φ,v,true⟩ :: ns))∧Q φ' h'':=by
    intro turns x hx hres;have main:kV E x fun v h'=>iV E gs' (jB ops ms (Nat.succ i) l) (put φ o.dst v) h' fun ns hs φ' h''=>(∀ N M,uS E N M (⟨o.dst,lU (typ E o.op) o.op o.type,q⟩ :: gs') (Lm ops ms i o :: jB ops ms (Nat.succ i) l) (⟨φ,v,true⟩ :: ns))∧Q φ' h'' :=
     lJ (fun v h' hy=>lift (fun ns=>⟨φ,v,true⟩ :: ns) (fun hs=>hs) (fun ns=>⟨_,rfl⟩) (yJ h2 hc2 hy)) hres
    cases turns with
    | true=>exact main
    | false =>
     have hx:=hx rfl
     cases x with
     | val v h'=>exact main
     | fail=>exact main
     | call _ _ _=>exact hx.elim
     | yield _ _ _=>exact hx.elim
   refine hstep _ _ (fun ht=>?_) hw;rw [FE] at ht;have ht:chained false o = false:=ht;have hv:fJ o.op = true→UL (runT E (lU (typ E o.op) o.op o.type) φ h):=fun hr=>by
    have h2:=Xu (E:=E) hr o.type φ h;rcases SI (E:=E) (φ:=φ) (h:=h) Af.ty o.op o.type with e | e
    ·rw [e]; trivial
    ·rw [e]; exact h2
   refine hv ?_
   cases hr:fJ o.op with
   | true=>rfl
   | false=>simp [chained,hr] at ht
  | false =>
   rw [hb] at hw;exact lift (fun ns=>⟨φ,undef,false⟩ :: ns) (fun hs=>hs) (fun ns=>⟨_,rfl⟩) (yJ h2 hc2 hw)
theorem SQ [bC]{ops:Array Oper}{gs:List G}(hd:qV false ops = true)(hg:tV E z ops ops.toList = some gs){φ:Frame}{h:Hp}{Q:Frame→Hp→Prop}{ρ:T Value}{H:Heap}{m:List Nat}(hf:FR ρ φ)(ha:HR H h)
  (hw:iV E gs (jB ops (cK ops) 0 ops.toList) φ h fun ns hs φ' h'=>uS E ns (h :: hs) gs (jB ops (cK ops) 0 ops.toList) ns∧Q φ' h') :
  ∃ k ρ' H' φ' h',ow E (ev E k) ops ⟨ρ,z,H,rd,m⟩ = some (.normal,⟨ρ',z,H',rd,m⟩)∧FR ρ' φ'∧HR H' h'∧Q φ' h':=by
 obtain ⟨k,t,ρ',H',φ',h',ns,hs,t1,t2,t3,t4,⟨t5,t5'⟩,t6,t7⟩:=uU (rd:=rd) (m:=m) (n:=0) hg hf ha hw;refine ⟨k,ρ',H',φ',h',?_,t3,t4,t5'⟩;unfold ow;rw [hd];show kr E (ev E k) false ops ⟨ρ,z,H,rd,m⟩ ([],H) = _;unfold kr;dsimp only;show settled E false ops [] H (trace E (ev E k) false ops ops.toList [] ⟨ρ,z,H,rd,m⟩ 0) = _;rw [t1];unfold settled;dsimp only;have hst:stable E false ops [] H t = true:=by
  unfold stable;dsimp only;unfold AJ;split
  ·rfl
  ·rename_i H0 Hs hHs;rw [← hHs];exact Cz t6 (.cons ha t7) hg t6 t5
 rw [hst];dsimp only;rw [t2]
end
section
variable [bC] {E:Env} {z:Nat} {rd:Option Nat} [Af E]
theorem Wp.mono {c:Code}{s:Sx}{Q Q':Pst}(h:Wp E z rd c s Q)(k:∀ e s,Q e s→Q' e s):Wp E z rd c s Q':=fun ρ H hf ha=>by
 obtain ⟨n,e,s',e1,e2,e3,φ',h',f,a,q⟩:=h ρ H hf ha;exact ⟨n,e,s',e1,e2,e3,φ',h',f,a,k _ _ q⟩
theorem Wp.seq {a b:Code}{s:Sx}{Q:Pst}{K:Sx→Prop}(h:Wp E z rd a s (Zb Q K))(hb:∀ s,K s→Wp E z rd b s Q):Wp E z rd (.seq a b) s Q:=fun ρ H hf ha=>by
 obtain ⟨k1,e,s1,e1,z1,r1,φ1,h1,f1,a1,q1⟩:=h ρ H hf ha;have push:∀ (k2:Nat) (x),xR (ev E (max k1 k2)) b (ev E (max k1 k2) a ⟨ρ,z,H,rd,s.m⟩) = some x→ev E (max k1 k2 + 1) (.seq a b) ⟨ρ,z,H,rd,s.m⟩ = some x:=fun _ _ h=>h
 cases e with
 | normal =>
  obtain ⟨t1,z1',H1,rd1,m1⟩:=s1;dsimp only at z1 r1 f1 a1 q1;subst z1 r1;obtain ⟨k2,e,s2,e2,z2,r2,φ2,h2,f2,a2,q2⟩:=hb _ q1 t1 H1 f1 a1;refine ⟨max k1 k2 + 1,e,s2,push k2 _ ?_,z2,r2,φ2,h2,f2,a2,q2⟩;rw [nJ E (Nat.le_max_left k1 k2) _ _ _ e1];exact nJ E (Nat.le_max_right k1 k2) _ _ _ e2
 | ret =>
  refine ⟨max k1 0 + 1,.ret,s1,push 0 _ ?_,z1,r1,φ1,h1,f1,a1,q1⟩;rw [nJ E (Nat.le_max_left k1 0) _ _ _ e1]; rfl
 | exit id =>
  refine ⟨max k1 0 + 1,.exit id,s1,push 0 _ ?_,z1,r1,φ1,h1,f1,a1,q1⟩;rw [nJ E (Nat.le_max_left k1 0) _ _ _ e1]; rfl
 | goto id =>
  refine ⟨max k1 0 + 1,.goto id,s1,push 0 _ ?_,z1,r1,φ1,h1,f1,a1,q1⟩;rw [nJ E (Nat.le_max_left k1 0) _ _ _ e1]; rfl
theorem Wp.weak {c:Code}{s:Sx}{h:Hp}(l:h.Le s.h){Q:Pst}(w:Wp E z rd c ⟨s.φ,h,s.m⟩ Q):Wp E z rd c s Q:=fun ρ H hf ha=>w ρ H hf (ha.weak l)
theorem Wp.loop {b:Code}{Q:Pst}(I:Nat→Sx→Prop)(hb:∀ n s,I n s→Wp E z rd b s (Zb Q fun s'=>∃ m h,m < n∧h.Le s'.h∧I m ⟨s'.φ,h,s'.m⟩)):∀ n s,I n s→Wp E z rd (.loop b) s Q:=by
 intro n
 induction n using Nat.strongRecOn with
 | ind n ih =>
  intro s hs ρ H hf ha;have hseq:Wp E z rd (.seq b (.loop b)) s Q:=Wp.seq (hb n s hs) fun s' ⟨m,h,hm,hl,hi⟩=>Wp.weak hl (ih m hm _ hi);obtain ⟨k,e,s',e1,rest⟩:=hseq ρ H hf ha
  cases k with
  | zero=>cases e1
  | succ k=>exact ⟨k + 1,e,s',e1,rest⟩
theorem UN {H:Heap}{h:Hp}(ha:HR H h){d:Nat}{m:List Nat}{h':Hp}(e:uT h rd = some (d,m,h')):∃ H',around H rd = some (d,m,H')∧HR H' h':=by
 unfold uT at e;unfold around
 cases rd with
 | none =>
  cases e
  exact ⟨_,by rw [ha.next],ha.lay (ob:=.dY) (o:=.dY) trivial⟩
 | some l =>
  dsimp only at e ⊢;split at e
  ·rename_i hl;cases e
   obtain ⟨ob,h1,h2⟩:=ha.at_ _ _ hl;cases ob <;> simp only [lI] at h2
   obtain ⟨_,_,_,_,_,_,_,rfl⟩:=h2;rw [h1];exact ⟨H,rfl,ha⟩
  ·cases e
theorem Zc {ρ:T Value}{φ:Frame}{H2:Heap}{h2:Hp}{m:List Nat}{Q:Pst}{l:Nat}(hf:FR ρ φ)(ha:HR H2 h2)(hj:EM φ m Q h2 l)(H0:Heap) :
  ∃ k e s',AO (ev E k) ⟨ρ,z,H0,rd,m⟩ (uJ H2 l) = some (e,s')∧s'.size = z∧s'.round = rd∧∃ φ' h',FR s'.tmps φ'∧HR s'.heap h'∧Q e ⟨φ',h',s'.marks⟩:=by
 unfold EM at hj;split at hj
 ·rename_i E0 st p φ' z' ps a b d hl;obtain ⟨ob,h1,h2'⟩:=ha.at_ _ _ hl;cases ob <;> simp only [lI] at h2'
  rename_i st0 p0 tm0 z0 ps0 a0 b0 d0;obtain ⟨rfl,hp,hft,rfl,rfl,hca,hcb,rfl⟩:=h2';obtain ⟨hnb,hq⟩:=hj;have ab4:uJ H2 l = some (p0,H2.set l (.loop .exhausted p0 tm0 z0 ps0 a0 b0 d0)):=by
   unfold uJ AL;rw [h1];dsimp only;rw [hnb]
  rw [ab4];have hset:HR (H2.set l (.loop .exhausted p0 tm0 z0 ps0 a0 b0 d0)) (h2.set l (.loop E0 .exhausted p φ' z0 ps0 a b d0)):=ha.set l ⟨rfl,hp,hft,rfl,rfl,hca,hcb,rfl⟩
  cases p with
  | none =>
   cases hp
   exact ⟨0,.normal,⟨ρ,z,_,rd,m⟩,rfl,rfl,rfl,φ,_,hf,hset,hq⟩
  | some e =>
   cases e with
   | normal=>cases hp; exact ⟨1,.normal,⟨ρ,z,_,rd,m⟩,rfl,rfl,rfl,φ,_,hf,hset,hq⟩
   | ret=>cases hp; exact ⟨1,.ret,⟨ρ,z,_,rd,m⟩,rfl,rfl,rfl,φ,_,hf,hset,hq⟩
   | exit id=>cases hp; exact ⟨1,.exit id,⟨ρ,z,_,rd,m⟩,rfl,rfl,rfl,φ,_,hf,hset,hq⟩
   | goto id=>cases hp; exact ⟨1,.goto id,⟨ρ,z,_,rd,m⟩,rfl,rfl,rfl,φ,_,hf,hset,hq⟩
 ·exact hj.elim
theorem Xv {f:Operand}{ps:Array Tmp}{a b:Code}{ca cb:C}(hca:comp E z a = some ca)(hcb:comp E z b = some cb){s:Sx}{Q:Pst}(hw:D8 E z (bI s.φ f) ps ca cb s Q (uT s.h rd)):Wp E z rd (.rangeFunc f ps a b) s Q:=fun ρ H hf ha=>by
 cases har:uT s.h rd with
 | none=>rw [har] at hw; exact hw.elim
 | some x =>
  obtain ⟨d,m,h⟩:=x;rw [har] at hw;obtain ⟨H1,e1,a1⟩:=UN ha har;unfold D8 at hw;dsimp only at hw;split at hw
  ·rename_i fn first captured hfv;split at hw
   ·rename_i g;obtain ⟨hcl,hw⟩:=hw;have yB:HR (xS ⟨ρ,z,H,rd,s.m⟩ ps a b d H1) (h.lay (.loop E .ready none s.φ z ps ca cb d)):=a1.lay ⟨rfl,rfl,hf,rfl,rfl,hca,hcb,rfl⟩;obtain ⟨k1,v,H2,h2,e2,a2,q2⟩:=hw _ yB;obtain ⟨k2,e,s',e3,z3,r3,rest⟩:=Zc (E:=E) (rd:=rd) (z:=z) hf a2 q2 H;refine ⟨max k1 k2 + 1,e,s',?_,z3,r3,rest⟩;show Cb E (ev E (max k1 k2)) f ps a b ⟨ρ,z,H,rd,s.m⟩ = _;unfold Cb;dsimp only;rw [e1];unfold rangeAt;dsimp only;have hc:sw E (xS ⟨ρ,z,H,rd,s.m⟩ ps a b d H1) (.func (.func g) first captured) [lQ h.next] = .call g (first.toList ++ [lQ h.next] ++ captured.toList) (xS ⟨ρ,z,H,rd,s.m⟩ ps a b d H1):=yG hcl _ _;rw [hf.eval,a1.next,hfv,hc];simp only [called];rw [GQ (nJ E (Nat.le_max_left k1 k2)) e2];unfold vY;dsimp only;exact JX (nJ E (Nat.le_max_right k1 k2)) e3
   ·exact hw.elim
  ·exact hw.elim
theorem Xw:∀ {code:Code} {c:C} {s:Sx} {Q:Pst},comp E z code = some c→wp E z rd c s Q→Wp E z rd code s Q:=by
 intro code
 induction code with
 | skip=>intro c s Q hc hw; cases hc; exact fun ρ H hf ha=>⟨1,.normal,_,rfl,rfl,rfl,_,_,hf,ha,hw⟩
 | label l=>intro c s Q hc hw; cases hc; exact fun ρ H hf ha=>⟨1,.normal,_,rfl,rfl,rfl,_,_,hf,ha,hw⟩
 | ret=>intro c s Q hc hw; cases hc; exact fun ρ H hf ha=>⟨1,.ret,_,rfl,rfl,rfl,_,_,hf,ha,hw⟩
 | exit id=>intro c s Q hc hw; cases hc; exact fun ρ H hf ha=>⟨1,.exit id,_,rfl,rfl,rfl,_,_,hf,ha,hw⟩
 | goto l=>intro c s Q hc hw; cases hc; exact fun ρ H hf ha=>⟨1,.goto l,_,rfl,rfl,rfl,_,_,hf,ha,hw⟩
 | region id ops draw =>
  intro c s Q hc hw ρ H hf ha
  cases draw with
  | false =>
   unfold comp at hc;split at hc
   ·rename_i l hl;cases hc
    obtain ⟨k,ρ',H',φ',h',e1,f1,a1,q1⟩:=Hu (rd:=rd) (m:=s.m) hl hf ha hw;exact ⟨k + 1,.normal,_,e1,rfl,rfl,φ',h',f1,a1,q1⟩
   ·cases hc
  | true =>
   unfold comp at hc;split at hc
   ·rename_i hd;split at hc
    ·rename_i l hl;split at hc
     ·cases hc
      obtain ⟨k,ρ',H',φ',h',e1,f1,a1,q1⟩:=SQ (E:=E) (rd:=rd) (m:=s.m) (Q:=fun φ h=>Q .normal ⟨φ,h,s.m⟩) hd hl hf ha hw;exact ⟨k + 1,.normal,_,e1,rfl,rfl,φ',h',f1,a1,q1⟩
     ·rename_i hany;cases hc
      have hany:(jB ops (cK ops) 0 ops.toList).any Dr.chk = false:=by simpa using hany
      have hw':=yJ hl hany hw;obtain ⟨k,ρ',H',φ',h',e1,f1,a1,q1⟩:=SQ (E:=E) (rd:=rd) (m:=s.m) (Q:=fun φ h=>Q .normal ⟨φ,h,s.m⟩) hd hl hf ha (kX (fun ns hs φ h hy=>⟨hy.1 _ _,hy.2⟩) hw');exact ⟨k + 1,.normal,_,e1,rfl,rfl,φ',h',f1,a1,q1⟩
    ·cases hc
   ·rename_i hd0;split at hc
    ·rename_i hdc;rw [Bool.and_eq_true] at hdc;split at hc
     ·rename_i l hl;split at hc
      ·rename_i htl;cases hc
       obtain ⟨k,ρ',H',φ',h',e1,f1,a1,q1⟩:=Xl (E:=E) (rd:=rd) (m:=s.m) (Q:=fun φ h=>Q .normal ⟨φ,h,s.m⟩) hd0 hdc.1 hdc.2 hl htl hf ha hw;exact ⟨k + 1,.normal,_,e1,rfl,rfl,φ',h',f1,a1,q1⟩
      ·cases hc
       exact (show False from hw).elim
     ·cases hc
    ·split at hc
     ·rename_i hdc;rw [Bool.and_eq_true] at hdc;split at hc
      ·rename_i l hl;cases hc
       obtain ⟨k,ρ',H',φ',h',e1,f1,a1,q1⟩:=aaS (E:=E) (rd:=rd) (m:=s.m) (Q:=fun φ h=>Q .normal ⟨φ,h,s.m⟩) (by simpa using hd0) hdc.1 (by simpa using hdc.2) hl hf ha hw;exact ⟨k + 1,.normal,_,e1,rfl,rfl,φ',h',f1,a1,q1⟩
      ·cases hc
     ·cases hc
      exact (show False from hw).elim
 | seq a b iha ihb =>
  intro c s Q hc hw;unfold comp at hc;split at hc
  ·rename_i ca hca;split at hc
   ·rename_i cb hcb;cases hc
    exact Wp.seq (iha hca hw) fun s' h=>ihb hcb h
   ·cases hc
  ·cases hc
 | cond x a b iha ihb =>
  intro c s Q hc hw ρ H hf ha;unfold comp at hc;split at hc
  ·rename_i ca hca;split at hc
   ·rename_i cb hcb;cases hc
    simp only [wp] at hw;unfold SK at hw;split at hw
    ·rename_i bb hbb
     cases bb with
     | true =>
      obtain ⟨k,e,s',e1,rest⟩:=iha hca (hw.1 rfl) ρ H hf ha;refine ⟨k + 1,e,s',?_,rest⟩;show DK (ev E k) a b _ (Rx.eval ρ x) = _;rw [hf.eval,hbb]; exact e1
     | false =>
      obtain ⟨k,e,s',e1,rest⟩:=ihb hcb (hw.2 rfl) ρ H hf ha;refine ⟨k + 1,e,s',?_,rest⟩;show DK (ev E k) a b _ (Rx.eval ρ x) = _;rw [hf.eval,hbb]; exact e1
    ·exact hw.elim
   ·cases hc
  ·cases hc
 | block id b ih =>
  intro c s Q hc hw ρ H hf ha;unfold comp at hc;split at hc
  ·rename_i cb hcb;cases hc
   obtain ⟨k,e,s',e1,z1,r1,φ',h',f1,a1,q1⟩:=ih hcb hw ρ H hf ha;have hev:ev E (k + 1) (.block id b) ⟨ρ,z,H,rd,s.m⟩ = vX id (some (e,s')):=by
    show vX id (ev E k b _) = _;rw [e1]
   cases e with
   | exit id' =>
    unfold vX at hev;dsimp only at hev;unfold LH at q1;dsimp only at q1
    cases hid:Nat.beq id' id with
    | true=>rw [hid] at hev q1; exact ⟨k + 1,_,_,hev,z1,r1,φ',h',f1,a1,q1⟩
    | false=>rw [hid] at hev q1; exact ⟨k + 1,_,_,hev,z1,r1,φ',h',f1,a1,q1⟩
   | normal=>exact ⟨k + 1,_,_,hev,z1,r1,φ',h',f1,a1,q1⟩
   | ret=>exact ⟨k + 1,_,_,hev,z1,r1,φ',h',f1,a1,q1⟩
   | goto l=>exact ⟨k + 1,_,_,hev,z1,r1,φ',h',f1,a1,q1⟩
  ·cases hc
 | scope b ih =>
  intro c s Q hc hw ρ H hf ha;unfold comp at hc;split at hc
  ·rename_i cb hcb;cases hc
   obtain ⟨k,e,s',e1,z1,r1,φ',h',f1,a1,q1⟩:=ih hcb hw ρ H hf ha;have hev:ev E (k + 1) (.scope b) ⟨ρ,z,H,rd,s.m⟩ = zG (some (e,s')):=by
    show zG (ev E k b _) = _;rw [e1]
   cases e with
   | goto l=>exact q1.elim
   | exit id'=>exact ⟨k + 1,_,_,hev,z1,r1,φ',h',f1,a1,q1⟩
   | normal=>exact ⟨k + 1,_,_,hev,z1,r1,φ',h',f1,a1,q1⟩
   | ret=>exact ⟨k + 1,_,_,hev,z1,r1,φ',h',f1,a1,q1⟩
  ·cases hc
 | loop b ih =>
  intro c s Q hc hw;unfold comp at hc;split at hc
  ·rename_i cb hcb;cases hc
   obtain ⟨I,n,h0,hl,hn,hI⟩:=hw;exact Wp.weak hl (Wp.loop I (fun n s hs=>ih hcb (hI n s hs)) n _ hn)
  ·cases hc
 | rangeFunc f ps a b iha ihb =>
  intro c s Q hc hw;unfold comp at hc;split at hc
  ·rename_i ca hca;split at hc
   ·rename_i cb hcb;cases hc
    exact Xv hca hcb hw
   ·cases hc
  ·cases hc
 | _=>intro c s Q hc hw; cases hc; exact (show False from hw).elim
end
section
variable {E:Env} {z:Nat} {rd:Option Nat} [Af E]
theorem Hy {φ:Frame}{m:List Nat}{Q Q':Pst}{h:Hp}{l:Nat}(k:∀ e s,Q e s→Q' e s):EM φ m Q h l→EM φ m Q' h l:=by
 unfold EM
 cases h.at l with
 | none=>exact fun q=>q
 | some ob =>
  cases ob with
  | loop E st p φ' z ps a b d =>
   cases p with
   | none=>exact fun q=>⟨q.1,k _ _ q.2⟩
   | some p=>exact fun q=>⟨q.1,k _ _ q.2⟩
  | _=>exact fun q=>q
theorem Bd:∀ {gs:List G} {φ:Frame} {h:Hp} {Q Q':Frame→Hp→Prop},(∀ φ h,Q φ h→Q' φ h)→wpOps E gs φ h Q→wpOps E gs φ h Q'
 | [],φ,h,Q,Q',k,hw=>k _ _ hw
 | g :: l,φ,h,Q,Q',k,hw=>by
  unfold wpOps at hw ⊢
  cases hb:gok φ g.g with
  | true=>rw [hb] at hw; exact lJ (fun v h' hy=>Bd k hy) hw
  | false=>rw [hb] at hw; exact Bd k hw
theorem pV:∀ {gs:List G} {ls:List Bool} {ns:List Nt} {h:Hp} {K K':List (Option Nat)→Hp→Prop},(∀ as h,K as h→K' as h)→j5 gs ls ns h K→j5 gs ls ns h K'
 | [],ls,ns,h,K,K',k,w=>by unfold j5 at w ⊢; exact k _ _ w
 | g :: l,[],ns,h,K,K',k,w=>by unfold j5 at w ⊢; exact k _ _ w
 | g :: l,b :: bs,[],h,K,K',k,w=>by unfold j5 at w ⊢; exact k _ _ w
 | g :: l,b :: bs,n :: ns,h,K,K',k,w=>by
  unfold j5 at w ⊢
  cases b with
  | false=>exact pV (fun as h hy=>k _ _ hy) w
  | true =>
   dsimp only at w ⊢
   cases hn:n.done with
   | true=>rw [hn] at w; exact oF (fun f e c hy=>pV (fun as h hz=>k _ _ hz) hy) w
   | false=>rw [hn] at w; exact pV (fun as h hy=>k _ _ hy) w
theorem sQ:∀ {gs:List G} {ds:List Dr} {ls:List Bool} {as:List (Option Nat)} {φ:Frame} {h:Hp} {K K':List Nt→List Ld→List Hp→Frame→Hp→Prop},(∀ ns os hs φ h,K ns os hs φ h→K' ns os hs φ h)→kW E gs ds ls as φ h K→kW E gs ds ls as φ h K'
 | [],ds,ls,as,φ,h,K,K',k,w=>by unfold kW at w ⊢; exact k _ _ _ _ _ w
 | g :: l,[],ls,as,φ,h,K,K',k,w=>by unfold kW at w; exact w.elim
 | g :: l,d :: ds,[],as,φ,h,K,K',k,w=>by unfold kW at w; exact w.elim
 | g :: l,d :: ds,b :: bs,as,φ,h,K,K',k,w=>by
  unfold kW at w ⊢;dsimp only at w ⊢
  cases hb:gok φ g.g with
  | false=>rw [hb] at w; exact sQ (fun ns os hs φ h hz=>k _ _ _ _ _ hz) w
  | true =>
   rw [hb] at w;dsimp only at w ⊢
   cases b with
   | true =>
    dsimp only at w ⊢
    match as,w with
    | some r :: as,w=>exact oF (fun f e c hy=>sQ (fun ns os hs φ h hz=>k _ _ _ _ _ hz) hy) w
   | false =>
    dsimp only at w ⊢
    match as,w with
    | none :: as,w=>exact ru (fun v h' hy=>sQ (fun ns os hs φ h hz=>k _ _ _ _ _ hz) hy) w
theorem wp_mono:∀ {c:C} {s:Sx} {Q Q':Pst},(∀ e s,Q e s→Q' e s)→wp E z rd c s Q→wp E z rd c s Q':=by
 intro c
 induction c with
 | skip=>intro s Q Q' k hw; exact k _ _ hw
 | ret=>intro s Q Q' k hw; exact k _ _ hw
 | exit id=>intro s Q Q' k hw; exact k _ _ hw
 | goto l=>intro s Q Q' k hw; exact k _ _ hw
 | ops l=>intro s Q Q' k hw; exact Bd (fun φ h hy=>k _ _ hy) hw
 | draw l ds=>intro s Q Q' k hw; exact kX (fun ns hs φ h hy=>⟨hy.1,k _ _ hy.2⟩) hw
 | ahead l ds ls=>intro s Q Q' k hw; exact qx (fun ns hs φ h hy=>⟨hy.1,k _ _ hy.2⟩) hw
 | dry l df ds ls=>intro s Q Q' k hw; exact kX (fun n1 _ _ _ hy=>pV (fun as h0 hy=>sQ (fun ns os hs φ h hy=>⟨hy.1,k _ _ hy.2⟩) hy) hy) hw
 | seq a b iha ihb =>
  intro s Q Q' k hw;refine iha (fun e s' hy=>?_) hw
  cases e with
  | normal=>exact ihb k hy
  | _=>exact k _ _ hy
 | cond x a b iha ihb =>
  intro s Q Q' k hw;simp only [wp] at hw ⊢;unfold SK at hw ⊢;split
  ·rename_i bb hbb;rw [hbb] at hw;exact ⟨fun h=>iha k (hw.1 h),fun h=>ihb k (hw.2 h)⟩
  ·rename_i hne;split at hw
   ·rename_i bb hbb; exact absurd hbb (hne _)
   ·exact hw
 | block id b ih =>
  intro s Q Q' k hw;refine ih (fun e s' hy=>?_) hw
  cases e with
  | exit id' =>
   unfold LH at hy ⊢;dsimp only at hy ⊢
   cases hid:Nat.beq id' id with
   | true=>rw [hid] at hy; exact k _ _ hy
   | false=>rw [hid] at hy; exact k _ _ hy
  | _=>exact k _ _ hy
 | scope b ih =>
  intro s Q Q' k hw;refine ih (fun e s' hy=>?_) hw
  cases e with
  | goto l=>exact hy
  | _=>exact k _ _ hy
 | loop b ih =>
  intro s Q Q' k hw;obtain ⟨I,n,h0,hl,hn,hI⟩:=hw;refine ⟨I,n,h0,hl,hn,fun n s hs=>ih (fun e s' hy=>?_) (hI n s hs)⟩
  cases e with
  | normal=>exact hy
  | _=>exact k _ _ hy
 | range f ps a b _ _ =>
  intro s Q Q' k hw;simp only [wp] at hw ⊢;unfold D8 at hw ⊢;split
  ·rename_i d m h har;rw [har] at hw;dsimp only at hw;split
   ·rename_i fn first captured hfv;rw [hfv] at hw;dsimp only at hw;split
    ·refine ⟨hw.1,fun H0 a0=>?_⟩;obtain ⟨n,v,H',h',e,a',q⟩:=hw.2 H0 a0;exact ⟨n,v,H',h',e,a',Hy k q⟩
    ·rename_i hne;split at hw
     ·exact absurd rfl (hne _)
     ·exact hw
   ·rename_i hne;split at hw
    ·rename_i hc; exact absurd hc (hne _ _ _)
    ·exact hw
  ·rename_i har;rw [har] at hw;exact hw
end
end
end Go.Rx
