/- Contracts by what is to be shown of each step: a part of the engine. -/
import Derived.Test.YtljbibjnidccbabWx3b
set_option linter.unusedVariables false
set_option linter.unusedSectionVars false
set_option linter.unusedSimpArgs false
namespace Go.Rx
noncomputable section

/-! What code leads to. -/

structure Sx where
 φ:Frame
 h:Hp
 m:List Nat

abbrev Pst:=AExit→Sx→Prop

section
variable (E:Env)

def CallP (f:FuncId) (as:List Value) (h:Hp) (Q:Value→Hp→Prop):Prop :=
 ∀ H,HR H h→∃ k v H' h',enter E (ev E k) f as H = some (v,H')∧HR H' h'∧Q v h'
def YieldP (l:Nat) (as:List Value) (h:Hp) (Q:Value→Hp→Prop):Prop :=
 ∀ H,HR H h→∃ k v H' h',yielding (ev E k) l as H = some (v,H')∧HR H' h'∧Q v h'
def ResP (r:HRes) (Q:Value→Hp→Prop):Prop:=match r with
 | .val v h=>Q v h
 | .call f as h=>CallP E f as h Q
 | .yield l as h=>YieldP E l as h Q
 | .fail=>False

def boolAt (v:Value) (want:Bool):Bool:=match v with
 | .bool b=>b == want
 | _=>false
def gok (φ:Frame) (g:Option (Nat×Bool)):Bool:=match g with
 | none=>true
 | some (d,want)=>boolAt (φ d) want
def put (φ:Frame) (d:Option Nat) (v:Value):Frame:=match d with
 | some d=>upd φ d v
 | none=>φ

def wpOps:List G→Frame→Hp→(Frame→Hp→Prop)→Prop
 | [],φ,h,Q=>Q φ h
 | g :: l,φ,h,Q=>match gok φ g.g with
  | true=>ResP E (runT E g.op φ h) fun v h'=>wpOps l (put φ g.d v) h' Q
  | false=>wpOps l (put φ g.d undef) h Q

structure Nt where
 φ:Frame
 v:Value
 done:Bool

def consH (turns:Bool) (h:Hp) (hs:List Hp):List Hp:=match turns with
 | true=>h :: hs
 | false=>hs

def DrP (turns:Bool) (r:HRes) (Q:Value→Hp→Prop):Prop:=match turns with
 | true=>ResP E r Q
 | false=>match r with
  | .val v h=>Q v h
  | _=>False

def wpDraw:List G→List Dr→Frame→Hp→(List Nt→List Hp→Frame→Hp→Prop)→Prop
 | [],_,φ,h,K=>K [] [] φ h
 | g :: l,[],φ,h,K=>False
 | g :: l,d :: ds,φ,h,K=>match gok φ g.g with
  | true=>DrP E d.turns (runT E g.op φ h) fun v h'=>wpDraw l ds (put φ g.d v) h' fun ns hs=>K (⟨φ,v,true⟩ :: ns) (consH d.turns h' hs)
  | false=>wpDraw l ds (put φ g.d undef) h fun ns hs=>K (⟨φ,undef,false⟩ :: ns) hs

def countDone:List Bool→List Nt→Nat
 | b :: bs,n :: ns=>match n.done && b with
  | true=>Nat.succ (countDone bs ns)
  | false=>countDone bs ns
 | _,_=>0

def sameAt (g:G) (n:Nt) (h:Hp):Prop:=match runT E g.op n.φ h with
 | .val v _=>v = n.v∧sameV 4 n.v n.v = true
 | _=>False

def allAt (g:G) (n:Nt):List Hp→Prop
 | []=>True
 | h :: hs=>sameAt E g n h∧allAt g n hs

def okAt (g:G) (d:Dr) (n:Nt) (ns:List Nt) (hs:List Hp):Prop:=match n.done && d.chk with
 | true=>allAt E g n ((hs.drop (countDone d.before ns)).take (Nat.succ (countDone d.notBehind ns - countDone d.before ns)))
 | false=>True

def okAll (ns:List Nt) (hs:List Hp):List G→List Dr→List Nt→Prop
 | g :: gs,d :: ds,n :: ms=>okAt E g d n ns hs∧okAll ns hs gs ds ms
 | _,_,_=>True

/-! Regions that lay ahead: what is laid is named before anything is carried out. -/
def layP (op:TOp) (b:Nat) (K:Value→Prop):Prop:=match op with
 | .alloc _ _=>K (ptr0 b)
 | .newMap=>K (mapAt b)
 | _=>False
def layH (op:TOp) (h:Hp):Hp:=match op with
 | .alloc e cells=>h.lay (.row e true cells)
 | .newMap=>h.lay (.map [] 0)
 | _=>h
def laysH:List G→List Bool→Hp→Hp
 | g :: l,b :: bs,h=>match b with
  | true=>laysH l bs (layH g.op h)
  | false=>laysH l bs h
 | _,_,h=>h
def wpAhead:List G→List Dr→List Bool→Nat→Frame→Hp→(List Nt→List Hp→Frame→Hp→Prop)→Prop
 | [],_,_,_,φ,h,K=>K [] [] φ h
 | g :: l,ds,bs,n,φ,h,K=>match ds,bs with
  | d :: ds,b :: bs=>match b with
   | true=>layP g.op n fun v=>wpAhead l ds bs (Nat.succ n) (put φ g.d v) h fun ns hs=>K (⟨φ,v,true⟩ :: ns) hs
   | false=>match gok φ g.g with
    | true=>DrP E d.turns (runT E g.op φ h) fun v h'=>wpAhead l ds bs n (put φ g.d v) h' fun ns hs=>K (⟨φ,v,true⟩ :: ns) (consH d.turns h' hs)
    | false=>wpAhead l ds bs n (put φ g.d undef) h fun ns hs=>K (⟨φ,undef,false⟩ :: ns) hs
  | _,_=>False
def laidAt (op:TOp) (v:Value) (h:Hp):Prop:=match op with
 | .alloc e cells=>∃ r,v = ptr0 r∧h.at r = some (.row e true cells)∧sameL cells cells = true
 | .newMap=>∃ r,v = mapAt r∧h.at r = some (.map [] 0)
 | _=>False
def allLaid (op:TOp) (v:Value):List Hp→Prop
 | []=>True
 | h :: hs=>laidAt op v h∧allLaid op v hs
def okAtA (g:G) (d:Dr) (b:Bool) (n:Nt) (ns:List Nt) (hs:List Hp):Prop:=match b with
 | true=>allLaid g.op n.v ((hs.drop (countDone d.before ns)).take (Nat.succ (countDone d.notBehind ns - countDone d.before ns)))
 | false=>okAt E g d n ns hs
def okAllA (ns:List Nt) (hs:List Hp):List G→List Dr→List Bool→List Nt→Prop
 | g :: gs,d :: ds,b :: bs,n :: ms=>okAtA E g d b n ns hs∧okAllA ns hs gs ds bs ms
 | _,_,_,_=>True

/-! Regions that lay ahead what needs to be known: a first run tells what is laid; then all is laid, and carried out. -/
def lay2P (op:TOp) (φ:Frame) (K:(Nat→Value)→TypeId→List Value→Prop):Prop:=match op with
 | .alloc e cells=>K ptr0 e cells
 | .box e x=>match cellsOf (evφ φ x) with
  | some cells=>K ptr0 e cells
  | none=>False
 | .slit e n z ps=>match fillφ φ z ps with
  | some cells=>K (fun r=>slc r 0 n n) e cells
  | none=>False
 | .make e z bytes l c=>match evφ φ l with
  | .int _ m=>match evφ φ c with
   | .int _ n=>(0≤m∧m≤n∧n≤100000∧(bytes:Int) * n≤1073741824)∧K (fun r=>slc r 0 m.toNat n.toNat) e (times z n.toNat)
   | _=>False
  | _=>False
 | _=>False
theorem lay2P_mono {op:TOp} {φ:Frame} {K K':(Nat→Value)→TypeId→List Value→Prop} (k:∀ f e c,K f e c→K' f e c) (w:lay2P op φ K):lay2P op φ K':=by
 cases op <;> first | exact w.elim | exact k _ _ _ w | skip
 ·rename_i e x
  unfold lay2P at w ⊢
  dsimp only at w ⊢
  cases h:cellsOf (evφ φ x) with
  | none=>rw [h] at w; exact w.elim
  | some cs=>rw [h] at w; exact k _ _ _ w
 ·rename_i e n z ps
  unfold lay2P at w ⊢
  dsimp only at w ⊢
  cases h:fillφ φ z ps with
  | none=>rw [h] at w; exact w.elim
  | some cs=>rw [h] at w; exact k _ _ _ w
 ·rename_i e z bytes l c
  unfold lay2P at w ⊢
  dsimp only at w ⊢
  cases h:evφ φ l <;> rw [h] at w <;> dsimp only at w ⊢ <;> first | exact w.elim | skip
  cases h2:evφ φ c <;> rw [h2] at w <;> dsimp only at w ⊢ <;> first | exact w.elim | skip
  exact ⟨w.1,k _ _ _ w.2⟩
def wpLays:List G→List Bool→List Nt→Hp→(List (Option Nat)→Hp→Prop)→Prop
 | g :: l,b :: bs,n :: ns,h,K=>match b with
  | true=>match n.done with
   | true=>lay2P g.op n.φ fun _ e cells=>wpLays l bs ns (h.lay (.row e true cells)) fun as h'=>K (some h.next :: as) h'
   | false=>wpLays l bs ns h fun as h'=>K (none :: as) h'
  | false=>wpLays l bs ns h fun as h'=>K (none :: as) h'
 | _,_,_,h,K=>K [] h
abbrev Ld:=Option (Nat×TypeId×List Value)
def wpDryA:List G→List Dr→List Bool→List (Option Nat)→Frame→Hp→(List Nt→List Ld→List Hp→Frame→Hp→Prop)→Prop
 | [],_,_,_,φ,h,K=>K [] [] [] φ h
 | g :: l,ds,bs,as,φ,h,K=>match ds,bs with
  | d :: ds,b :: bs=>match gok φ g.g with
   | true=>match b with
    | true=>match as with
     | a :: as=>match a with
      | some r=>lay2P g.op φ fun f e cells=>wpDryA l ds bs as (put φ g.d (f r)) h fun ns os hs=>K (⟨φ,f r,true⟩ :: ns) (some (r,e,cells) :: os) hs
      | none=>False
     | []=>False
    | false=>match as with
     | a :: as=>match a with
      | some _=>False
      | none=>DrP E d.turns (runT E g.op φ h) fun v h'=>wpDryA l ds bs as (put φ g.d v) h' fun ns os hs=>K (⟨φ,v,true⟩ :: ns) (none :: os) (consH d.turns h' hs)
     | []=>False
   | false=>wpDryA l ds bs as.tail (put φ g.d undef) h fun ns os hs=>K (⟨φ,undef,false⟩ :: ns) (none :: os) hs
  | _,_=>False
def allRow (r:Nat) (e:TypeId) (cells:List Value):List Hp→Prop
 | []=>True
 | h :: hs=>h.at r = some (.row e true cells)∧allRow r e cells hs
def okAtD (g:G) (d:Dr) (x:Ld) (n:Nt) (ns:List Nt) (hs:List Hp):Prop:=match x with
 | some (r,e,cells)=>(sameV 4 n.v n.v = true∧sameL cells cells = true)∧allRow r e cells ((hs.drop (countDone d.before ns)).take (Nat.succ (countDone d.notBehind ns - countDone d.before ns)))
 | none=>okAt E g d n ns hs
def okAllD (ns:List Nt) (hs:List Hp):List G→List Dr→List Ld→List Nt→Prop
 | g :: gs,d :: ds,x :: os,n :: ms=>okAtD E g d x n ns hs∧okAllD ns hs gs ds os ms
 | _,_,_,_=>True
def CondP (v:Value) (A B:Prop):Prop:=match v with
 | .bool b=>(b = true→A)∧(b = false→B)
 | _=>False

def seqP (Q:Pst) (K:Sx→Prop):Pst:=fun e s=>match e with
 | .normal=>K s
 | e=>Q e s
def blockP (id:Nat) (Q:Pst):Pst:=fun e s=>match e with
 | .exit id'=>match Nat.beq id' id with
  | true=>Q .normal s
  | false=>Q (.exit id') s
 | e=>Q e s
def scopeP (Q:Pst):Pst:=fun e s=>match e with
 | .goto _=>False
 | e=>Q e s

def aroundφ (h:Hp) (rd:Option Nat):Option (Nat×List Nat×Hp):=match rd with
 | some l=>match h.at l with
  | some (.loop _ _ _ _ _ _ _ _ d)=>some (d,[],h)
  | _=>none
 | none=>some (h.next,[h.next],h.lay .noDefers)

def jumpP (φ:Frame) (m:List Nat) (Q:Pst) (h:Hp) (l:Nat):Prop:=match h.at l with
 | some (.loop E st p φ' z ps a b d)=>notBusy st = true∧(match p with
  | none=>Q .normal ⟨φ,h.set l (.loop E .exhausted p φ' z ps a b d),m⟩
  | some e=>Q e ⟨φ,h.set l (.loop E .exhausted p φ' z ps a b d),m⟩)
 | _=>False

def rangeP (z:Nat) (f:Value) (ps:Array Tmp) (a b:C) (s:Sx) (Q:Pst) (x:Option (Nat×List Nat×Hp)):Prop:=match x with
 | some (d,m,h)=>match f with
  | .func fn first captured=>match fn with
   | .func g=>callable E g = true∧CallP E g (first.toList ++ [yieldVal h.next] ++ captured.toList) (h.lay (.loop E .ready none s.φ z ps a b d)) fun _ h2=>jumpP s.φ (m ++ s.m) Q h2 h.next
   | _=>False
  | _=>False
 | none=>False

def wp (z:Nat) (rd:Option Nat):C→Sx→Pst→Prop
 | .skip,s,Q=>Q .normal s
 | .ret,s,Q=>Q .ret s
 | .exit id,s,Q=>Q (.exit id) s
 | .goto l,s,Q=>Q (.goto l) s
 | .ops l,s,Q=>wpOps E l s.φ s.h fun φ h=>Q .normal ⟨φ,h,s.m⟩
 | .draw l ds,s,Q=>wpDraw E l ds s.φ s.h fun ns hs φ h=>okAll E ns (s.h :: hs) l ds ns∧Q .normal ⟨φ,h,s.m⟩
 | .seq a b,s,Q=>wp z rd a s (seqP Q fun s'=>wp z rd b s' Q)
 | .cond x a b,s,Q=>CondP (evφ s.φ x) (wp z rd a s Q) (wp z rd b s Q)
 | .block id b,s,Q=>wp z rd b s (blockP id Q)
 | .scope b,s,Q=>wp z rd b s (scopeP Q)
 | .loop b,s,Q=>∃ (I:Nat→Sx→Prop) (n:Nat) (h0:Hp),h0.Le s.h∧I n ⟨s.φ,h0,s.m⟩∧∀ n s,I n s→wp z rd b s (seqP Q fun s'=>∃ m h,m < n∧h.Le s'.h∧I m ⟨s'.φ,h,s'.m⟩)
 | .range f ps a b,s,Q=>rangeP E z (evφ s.φ f) ps a b s Q (aroundφ s.h rd)
 | .ahead l ds ls,s,Q=>wpAhead E l ds ls s.h.next s.φ (laysH l ls s.h) fun ns hs φ h=>okAllA E ns (laysH l ls s.h :: hs) l ds ls ns∧Q .normal ⟨φ,h,s.m⟩
 | .dry l df ds ls,s,Q=>wpDraw E l df s.φ s.h fun n1 _ _ _=>wpLays l ls n1 s.h fun as h0=>wpDryA E l ds ls as s.φ h0 fun ns os hs φ h=>okAllD E ns (h0 :: hs) l ds os ns∧Q .normal ⟨φ,h,s.m⟩

def Wp (z:Nat) (rd:Option Nat) (c:Code) (s:Sx) (Q:Pst):Prop :=
 ∀ ρ H,FR ρ s.φ→HR H s.h→∃ k e s',ev E k c ⟨ρ,z,H,rd,s.m⟩ = some (e,s')∧s'.size = z∧s'.round = rd∧∃ φ' h',FR s'.tmps φ'∧HR s'.heap h'∧Q e ⟨φ',h',s'.marks⟩
end

def makeP (h:Hp) (e:TypeId) (z:List Value) (bytes:Nat) (l c:Value) (K:Value→Hp→Prop):Prop:=match l with
 | .int _ m=>match c with
  | .int _ n=>(0≤m∧m≤n∧n≤100000∧(bytes:Int) * n≤1073741824)∧K (slc h.next 0 m.toNat n.toNat) (h.lay (.row e true (times z n.toNat)))
  | _=>False
 | _=>False
section
variable {E:Env}
theorem asNat_ok {m:Nat} {k:IntKind} {n:Int} (h0:0≤n) (h1:n≤(m:Int)):asNat m (.int k n) = some n.toNat:=by
 obtain ⟨j,rfl⟩:=Int.eq_ofNat_of_zero_le h0
 show natUpto m (Int.ofNat j) = _
 unfold natUpto
 dsimp only
 rw [show Nat.ble j m = true from by rw [Nat.ble_eq]; omega]
 rfl

theorem makeP_ok {h:Hp} {e:TypeId} {z:List Value} {bytes:Nat} {l c:Value} {K:Value→Hp→Prop} (w:makeP h e z bytes l c K):ResP E (hmakeT h e z bytes (asNat 100000 l) (asNat 100000 c)) K:=by
 unfold makeP at w
 cases l <;> dsimp only at w <;> first | exact w.elim | skip
 cases c <;> dsimp only at w <;> first | exact w.elim | skip
 obtain ⟨⟨h1,h2,h3,h4⟩,w⟩:=w
 rw [asNat_ok h1 (by omega),asNat_ok (by omega) (by omega)]
 unfold hmakeT
 dsimp only
 rename_i k1 m k2 n
 obtain ⟨n',rfl⟩:=Int.eq_ofNat_of_zero_le (show 0≤n by omega)
 have e1:(Nat.ble m.toNat (n':Int).toNat && Nat.ble (Nat.mul bytes (n':Int).toNat) 1073741824) = true:=by
  rw [Bool.and_eq_true,Nat.ble_eq,Nat.ble_eq]
  have e2:(n':Int).toNat = n':=rfl
  have e3:Nat.mul bytes n' = bytes * n':=rfl
  rw [e2,e3]
  refine ⟨by omega,?_⟩
  have h5:((bytes * n':Nat):Int)≤1073741824:=by rw [Int.natCast_mul]; exact h4
  omega
 rw [e1]
 exact w

end
section
variable {E:Env} {z:Nat} {rd:Option Nat}

class TyOk (E:Env):Prop where
 ty:∀ t i,E.ty t = some i→E.prog.underlying t = some i.desc

theorem fitsT [TyOk E] {H:Heap} {h:Hp} {ρ:T Value} {φ:Frame} (hf:FR ρ φ) (a:HR H h) (op:Op) (ty:TypeId):Fits (aop op E ρ H ty) (runT E (orRaw (typ E op) op ty) φ h):=(runT_ok TyOk.ty op ty).fits (run_fits hf a op ty)

variable [TyOk E]
theorem putDst_in {ρ:T Value} {d:Option Tmp} (hd:dstIn z d = true) {φ:Frame} (hf:FR ρ φ) (v:Value):FR (putDst ρ z d v) (put φ d v):=by
 cases d with
 | none=>exact hf
 | some d =>
  unfold dstIn at hd
  unfold putDst
  dsimp only at hd ⊢
  rw [hd]
  exact hf.put d v

theorem gok_ok {ops:Array Oper} {ρ:T Value} {φ:Frame} (hf:FR ρ φ) {g:Option (Nat×Bool)} {g':Option (Nat×Bool)} (h:gslot ops g = some g'):guardOk ops ρ g = gok φ g':=by
 unfold gslot at h
 split at h
 ·cases h; rfl
 ·rename_i j want
  split at h
  ·rename_i d hd
   cases h
   unfold guardOk saidBy gok
   dsimp only
   rw [hd]
   dsimp only
   have:=hf d
   unfold boolIs boolAt
   cases hg:ρ.get d with
   | none=>rw [hg] at this; simp only [orUndef] at this; rw [← this]; rfl
   | some v=>rw [hg] at this; simp only [orUndef] at this; rw [← this]; cases v <;> rfl
  ·cases h

theorem ResP_ok {r:ARes} {x:HRes} (hx:Fits r x) {Q:Value→Hp→Prop} (h:ResP E x Q):∃ k v H' h',doCall E (ev E k) r = some (v,H')∧HR H' h'∧Q v h':=by
 cases x with
 | val v h0 =>
  obtain ⟨H,rfl,a⟩:=hx
  exact ⟨0,v,H,h0,rfl,a,h⟩
 | call f as h0 =>
  obtain ⟨H,rfl,a⟩:=hx
  exact h H a
 | yield l as h0 =>
  obtain ⟨H,rfl,a⟩:=hx
  exact h H a
 | fail=>exact h.elim

theorem gOf_some {ops:Array Oper} {o:Oper} {g:G} (h:gOf E z ops o = some g):dstIn z o.dst = true∧∃ q,gslot ops o.guard = some q∧g = ⟨o.dst,orRaw (typ E o.op) o.op o.type,q⟩:=by
 unfold gOf at h
 split at h
 ·rename_i hd
  split at h
  ·rename_i q hq; cases h; exact ⟨hd,q,hq,rfl⟩
  ·cases h
 ·cases h

theorem gsOf_cons {ops:Array Oper} {o:Oper} {l:List Oper} {gs:List G} (h:gsOf E z ops (o :: l) = some gs):∃ g gs',gOf E z ops o = some g∧gsOf E z ops l = some gs'∧gs = g :: gs':=by
 unfold gsOf at h
 split at h
 ·rename_i g hg
  split at h
  ·rename_i gs' hgs; cases h; exact ⟨g,gs',hg,hgs,rfl⟩
  ·cases h
 ·cases h

theorem wpOps_ok {ops:Array Oper}:∀ {l:List Oper} {gs:List G} {φ:Frame} {h:Hp} {Q:Frame→Hp→Prop} {ρ:T Value} {H:Heap} {m:List Nat},gsOf E z ops l = some gs→FR ρ φ→HR H h→wpOps E gs φ h Q →
  ∃ k ρ' H' φ' h',evOps E (ev E k) ops l ⟨ρ,z,H,rd,m⟩ = some (.normal,⟨ρ',z,H',rd,m⟩)∧FR ρ' φ'∧HR H' h'∧Q φ' h'
 | [],gs,φ,h,Q,ρ,H,m,hg,hf,ha,hw=>by
  cases hg
  exact ⟨0,ρ,H,φ,h,rfl,hf,ha,hw⟩
 | o :: l,gs,φ,h,Q,ρ,H,m,hg,hf,ha,hw=>by
  obtain ⟨g,gs',h1,h2,rfl⟩:=gsOf_cons hg
  obtain ⟨hd,q,hq,rfl⟩:=gOf_some h1
  have hgd:=gok_ok hf hq
  simp only [wpOps] at hw
  cases hb:gok φ q with
  | true =>
   rw [hb] at hw
   obtain ⟨k1,v,H1,h1',e1,a1,hw1⟩:=ResP_ok (fitsT hf ha o.op o.type) hw
   obtain ⟨k2,ρ',H',φ',h',e2,f2,a2,q2⟩:=wpOps_ok (m:=m) h2 (putDst_in hd hf v) a1 hw1
   refine ⟨max k1 k2,ρ',H',φ',h',?_,f2,a2,q2⟩
   simp only [evOps]
   rw [hgd,hb]
   have e1':=doCall_le (ev_le E (Nat.le_max_left k1 k2)) e1
   have e2':=evOps_le (ev_le E (Nat.le_max_right k1 k2)) e2
   show afterOp _ o.dst _ (doCall E (ev E (max k1 k2)) (aop o.op E ρ H o.type)) = _
   rw [e1']
   simp only [afterOp,force_id]
   exact e2'
  | false =>
   rw [hb] at hw
   obtain ⟨k2,ρ',H',φ',h',e2,f2,a2,q2⟩:=wpOps_ok (m:=m) h2 (putDst_in hd hf undef) ha hw
   refine ⟨k2,ρ',H',φ',h',?_,f2,a2,q2⟩
   simp only [evOps]
   rw [hgd,hb]
   exact e2

theorem ResP_mono {x:HRes} {Q Q':Value→Hp→Prop} (k:∀ v h,Q v h→Q' v h) (h:ResP E x Q):ResP E x Q':=by
 cases x with
 | val v h0=>exact k _ _ h
 | call f as h0=>exact fun H a=>let ⟨n,v,H',h',e,a',q⟩:=h H a; ⟨n,v,H',h',e,a',k _ _ q⟩
 | yield l as h0=>exact fun H a=>let ⟨n,v,H',h',e,a',q⟩:=h H a; ⟨n,v,H',h',e,a',k _ _ q⟩
 | fail=>exact h

theorem DrP_mono {t:Bool} {x:HRes} {Q Q':Value→Hp→Prop} (k:∀ v h,Q v h→Q' v h) (h:DrP E t x Q):DrP E t x Q':=by
 cases t with
 | true=>exact ResP_mono k h
 | false=>cases x <;> first | exact k _ _ h | exact h

theorem wpDraw_mono:∀ {gs:List G} {ds:List Dr} {φ:Frame} {h:Hp} {K K':List Nt→List Hp→Frame→Hp→Prop},(∀ ns hs φ h,K ns hs φ h→K' ns hs φ h)→wpDraw E gs ds φ h K→wpDraw E gs ds φ h K'
 | [],ds,φ,h,K,K',k,hw=>by unfold wpDraw at hw ⊢; exact k _ _ _ _ hw
 | g :: l,[],φ,h,K,K',k,hw=>by unfold wpDraw at hw; exact hw.elim
 | g :: l,d :: ds,φ,h,K,K',k,hw=>by
  unfold wpDraw at hw ⊢
  cases hb:gok φ g.g with
  | true =>
   rw [hb] at hw
   exact DrP_mono (fun v h' hy=>wpDraw_mono (fun ns hs φ h hz=>k _ _ _ _ hz) hy) hw
  | false =>
   rw [hb] at hw
   exact wpDraw_mono (fun ns hs φ h hz=>k _ _ _ _ hz) hw

theorem layP_mono {op:TOp} {b:Nat} {K K':Value→Prop} (k:∀ v,K v→K' v) (h:layP op b K):layP op b K':=by
 unfold layP at h ⊢
 cases op <;> first | exact k _ h | exact h
theorem wpAhead_mono:∀ {gs:List G} {ds:List Dr} {ls:List Bool} {n:Nat} {φ:Frame} {h:Hp} {K K':List Nt→List Hp→Frame→Hp→Prop},(∀ ns hs φ h,K ns hs φ h→K' ns hs φ h)→wpAhead E gs ds ls n φ h K→wpAhead E gs ds ls n φ h K'
 | [],ds,ls,n,φ,h,K,K',k,hw=>by unfold wpAhead at hw ⊢; exact k _ _ _ _ hw
 | g :: l,[],ls,n,φ,h,K,K',k,hw=>by unfold wpAhead at hw; exact hw.elim
 | g :: l,d :: ds,[],n,φ,h,K,K',k,hw=>by unfold wpAhead at hw; exact hw.elim
 | g :: l,d :: ds,b :: bs,n,φ,h,K,K',k,hw=>by
  unfold wpAhead at hw ⊢
  cases b with
  | true=>exact layP_mono (fun v hy=>wpAhead_mono (fun ns hs φ h hz=>k _ _ _ _ hz) hy) hw
  | false =>
   dsimp only at hw ⊢
   cases hb:gok φ g.g with
   | true =>
    rw [hb] at hw
    exact DrP_mono (fun v h' hy=>wpAhead_mono (fun ns hs φ h hz=>k _ _ _ _ hz) hy) hw
   | false =>
    rw [hb] at hw
    exact wpAhead_mono (fun ns hs φ h hz=>k _ _ _ _ hz) hw

inductive All2 {α β:Type} (R:α→β→Prop):List α→List β→Prop
 | nil:All2 R [] []
 | cons {a b as bs} (h:R a b) (t:All2 R as bs):All2 R (a :: as) (b :: bs)

theorem All2.drop {α β:Type} {R:α→β→Prop} {as:List α} {bs:List β} (h:All2 R as bs):∀ n,All2 R (as.drop n) (bs.drop n):=by
 induction h with
 | nil=>intro n; simp; exact .nil
 | cons h t ih=>intro n; cases n with
  | zero=>exact .cons h t
  | succ n=>simpa using ih n
theorem All2.take {α β:Type} {R:α→β→Prop} {as:List α} {bs:List β} (h:All2 R as bs):∀ n,All2 R (as.take n) (bs.take n):=by
 induction h with
 | nil=>intro n; simp; exact .nil
 | cons h t ih=>intro n; cases n with
  | zero=>simp; exact .nil
  | succ n=>simpa using .cons h (ih n)

def NR (n:Note) (x:Nt):Prop:=FR n.tmps x.φ∧n.val = x.v∧n.done = x.done

section
variable [Unknowns]
theorem wpDraw_ok {ops:Array Oper} {ms:List Nat}:∀ {l:List Oper} {gs:List G} {i:Nat} {φ:Frame} {h:Hp} {K:List Nt→List Hp→Frame→Hp→Prop} {ρ:T Value} {H:Heap} {m:List Nat} {n:Nat},gsOf E z ops l = some gs→FR ρ φ→HR H h →
  wpDraw E gs (drsOf ops ms i l) φ h K →
  ∃ k t ρ' H' φ' h' ns hs,trace E (ev E k) false ops l [] ⟨ρ,z,H,rd,m⟩ n = some t∧t.last = ⟨ρ',z,H',rd,m⟩∧FR ρ' φ'∧HR H' h'∧K ns hs φ' h'∧All2 NR t.notes ns∧All2 HR t.heaps hs
 | [],gs,i,φ,h,K,ρ,H,m,n,hg,hf,ha,hw=>by
  cases hg
  exact ⟨0,⟨[],[],⟨ρ,z,H,rd,m⟩⟩,ρ,H,φ,h,[],[],rfl,rfl,hf,ha,hw,.nil,.nil⟩
 | o :: l,gs,i,φ,h,K,ρ,H,m,n,hg,hf,ha,hw=>by
  obtain ⟨g,gs',h1,h2,rfl⟩:=gsOf_cons hg
  obtain ⟨hd,q,hq,rfl⟩:=gOf_some h1
  have hgd:=gok_ok hf hq
  simp only [wpDraw,drsOf] at hw
  cases hb:gok φ q with
  | true =>
   rw [hb] at hw
   dsimp only at hw
   rw [show (drOf ops ms i o).turns = chained false o from by rw [drOf_eq]] at hw
   cases hr:readsOnly o.op with
   | true =>
    have hch:chained false o = false:=by simp [chained,hr]
    rw [hch] at hw
    unfold DrP at hw
    dsimp only at hw
    have hfit:=fitsT (E:=E) hf ha o.op o.type
    split at hw
    ·rename_i v h' hrun
     rw [hrun] at hfit
     obtain ⟨H1,e1,a1⟩:=hfit
     have hH:=reads_same hr e1
     subst hH
     obtain ⟨k,t,ρ',H',φ',h'',ns,hs,t1,t2,t3,t4,t5,t6,t7⟩:=wpDraw_ok (m:=m) (n:=n) h2 (putDst_in hd hf v) a1 hw
     refine ⟨k,⟨⟨ρ,v,n,true⟩ :: t.notes,t.heaps,t.last⟩,ρ',H',φ',h'',_,_,?_,t2,t3,t4,t5,.cons ⟨hf,rfl,rfl⟩ t6,t7⟩
     simp only [trace]
     rw [hgd,hb]
     dsimp only
     unfold traceOp
     simp only [Bool.false_and,hr]
     show noted _ o.dst n false _ (pureVal (aop o.op E ρ H1 o.type)) = _
     rw [e1]
     simp only [pureVal,noted,force_id]
     have t1':trace E (ev E k) false ops l ([]:List (Option Nat)).tail (St.keep ⟨ρ,z,H1,rd,m⟩ o.dst v) n = some t:=t1
     rw [t1']
     rfl
    ·exact hw.elim
   | false =>
    have hch:chained false o = true:=by simp [chained,hr]
    rw [hch] at hw
    unfold DrP at hw
    dsimp only at hw
    obtain ⟨k1,v,H1,h1',e1,a1,hw1⟩:=ResP_ok (fitsT hf ha o.op o.type) hw
    obtain ⟨k2,t,ρ',H',φ',h'',ns,hs,t1,t2,t3,t4,t5,t6,t7⟩:=wpDraw_ok (m:=m) (n:=Nat.succ n) h2 (putDst_in hd hf v) a1 hw1
    refine ⟨max k1 k2,⟨⟨ρ,v,n,true⟩ :: t.notes,H1 :: t.heaps,t.last⟩,ρ',H',φ',h'',_,_,?_,t2,t3,t4,t5,.cons ⟨hf,rfl,rfl⟩ t6,.cons a1 t7⟩
    simp only [trace]
    rw [hgd,hb]
    dsimp only
    unfold traceOp
    simp only [Bool.false_and,hr]
    have e1':=doCall_le (ev_le E (Nat.le_max_left k1 k2)) e1
    have t1':=trace_le (ev_le E (Nat.le_max_right k1 k2)) t1
    show noted _ o.dst n true _ (doCall E (ev E (max k1 k2)) (aop o.op E ρ H o.type)) = _
    rw [e1']
    simp only [noted,force_id]
    have t1'':trace E (ev E (max k1 k2)) false ops l ([]:List (Option Nat)).tail (St.done ⟨ρ,z,H,rd,m⟩ o.dst v H1) (Nat.succ n) = some t:=t1'
    rw [t1'']
    rfl
  | false =>
   rw [hb] at hw
   obtain ⟨k2,t,ρ',H',φ',h'',ns,hs,t1,t2,t3,t4,t5,t6,t7⟩:=wpDraw_ok (m:=m) (n:=n) h2 (putDst_in hd hf undef) ha hw
   refine ⟨k2,⟨⟨ρ,undef,n,false⟩ :: t.notes,t.heaps,t.last⟩,ρ',H',φ',h'',_,_,?_,t2,t3,t4,t5,.cons ⟨hf,rfl,rfl⟩ t6,t7⟩
   simp only [trace]
   rw [hgd,hb]
   dsimp only
   have t1':trace E (ev E k2) false ops l ([]:List (Option Nat)).tail (St.keep ⟨ρ,z,H,rd,m⟩ o.dst undef) n = some t:=t1
   rw [t1']
   rfl
end

theorem count_before {ms:List Nat} {i:Nat}:∀ {l:List Oper} {j:Nat} {notes:List Note} {ns:List Nt},All2 NR notes ns→turnsBefore false ms i j l notes = countDone (beforeOf ms i j l) ns
 | [],j,notes,ns,h=>by cases h <;> rfl
 | o :: l,j,_,_,.nil=>by simp only [beforeOf,consB_eq]; rfl
 | o :: l,j,_,_,.cons (a:=n) (b:=x) h t=>by
  simp only [turnsBefore,beforeOf,countDone]
  rw [consB_eq]
  simp only [countDone]
  rw [count_before t,h.2.2,Bool.and_assoc]
  rfl
theorem count_not {ms:List Nat} {i:Nat}:∀ {l:List Oper} {j:Nat} {notes:List Note} {ns:List Nt},All2 NR notes ns→turnsNotBehind false ms i j l notes = countDone (notBehindOf ms i j l) ns
 | [],j,notes,ns,h=>by cases h <;> rfl
 | o :: l,j,_,_,.nil=>by simp only [notBehindOf,consB_eq]; rfl
 | o :: l,j,_,_,.cons (a:=n) (b:=x) h t=>by
  simp only [turnsNotBehind,notBehindOf,countDone]
  rw [consB_eq]
  simp only [countDone]
  rw [count_not t,h.2.2,Bool.and_assoc]
  rfl

theorem stableIn_of {o:Oper} {g:G} (hop:g.op = orRaw (typ E o.op) o.op o.type) {n:Note} {x:Nt} (hn:NR n x):∀ {Hs:List Heap} {hs:List Hp},All2 HR Hs hs→allAt E g x hs→stableIn E o none n Hs = true
 | _,_,.nil,_=>rfl
 | _,_,.cons (a:=H) (b:=h) a t,w=>by
  obtain ⟨w1,w2⟩:=w
  simp only [stableIn,stableIn_of hop hn t w2,Bool.and_true]
  unfold stableAt
  dsimp only
  unfold sameAt at w1
  have hf:=fitsT (E:=E) hn.1 a o.op o.type
  rw [hop] at w1
  split at w1
  ·rename_i v h' hr
   rw [hr] at hf
   obtain ⟨H',e,_⟩:=hf
   rw [e]
   unfold sameRes
   dsimp only
   rw [hn.2.1,w1.1]
   exact w1.2
  ·exact w1.elim

theorem stableOver_of {o:Oper} {n:Note} {l:List Heap} (h:stableIn E o none n l = true):stableOver E o none n false l = true:=by
 unfold stableOver
 dsimp only
 cases l with
 | nil=>rfl
 | cons a l=>cases l with
  | nil=>rfl
  | cons b l=>exact h
theorem stableOver_one {o:Oper} {n:Note} {l:List Heap} (h:l.length≤1):stableOver E o none n false l = true:=by
 unfold stableOver
 dsimp only
 cases l with
 | nil=>rfl
 | cons a l=>cases l with
  | nil=>rfl
  | cons b l=>simp at h

theorem stableAll_of {ops:Array Oper} {ms:List Nat} {notes:List Note} {ns:List Nt} {Hs:List Heap} {hs:List Hp} (hN:All2 NR notes ns) (hH:All2 HR Hs hs):∀ {l:List Oper} {gs:List G} {i:Nat} {nl:List Note} {xl:List Nt},gsOf E z ops l = some gs →
  All2 NR nl xl→okAll E ns hs gs (drsOf ops ms i l) xl→stableAll E false ops ms notes Hs i l [] nl = true
 | [],gs,i,nl,xl,hg,hx,hw=>by unfold stableAll; rfl
 | o :: l,gs,i,_,_,hg,.nil,hw=>by unfold stableAll; rfl
 | o :: l,gs,i,_,_,hg,.cons (a:=n) (b:=x) (as:=nl) (bs:=xl) hn ht,hw=>by
  obtain ⟨g,gs',h1,h2,rfl⟩:=gsOf_cons hg
  obtain ⟨hd,q,hq,rfl⟩:=gOf_some h1
  simp only [okAll,drsOf] at hw
  obtain ⟨w1,w2⟩:=hw
  simp only [stableAll]
  have hrec:stableAll E false ops ms notes Hs (Nat.succ i) l ([]:List (Option Nat)).tail nl = true:=stableAll_of hN hH h2 ht w2
  rw [hrec,Bool.and_true]
  unfold stableOp
  split
  ·rfl
  ·rename_i hdone
   rw [Bool.and_eq_true] at hdone
   have hwin:=(hH.drop (countDone (beforeOf ms i 0 ops.toList) ns)).take (Nat.succ (countDone (notBehindOf ms i 0 ops.toList) ns - countDone (beforeOf ms i 0 ops.toList) ns))
   rw [count_before hN,count_not hN]
   show stableOver E o none n (false && lays o.op) _ = true
   rw [Bool.false_and]
   unfold okAt at w1
   cases hchk:(drOf ops ms i o).chk with
   | true =>
    rw [hchk,← hn.2.2,hdone.1,drOf_eq] at w1
    exact stableOver_of (stableIn_of (g:=⟨o.dst,orRaw (typ E o.op) o.op o.type,q⟩) rfl hn hwin w1)
   | false =>
    rw [drOf_eq] at hchk
    dsimp only at hchk
    rw [hdone.2,Bool.true_and] at hchk
    have heq:beforeOf ms i 0 ops.toList = notBehindOf ms i 0 ops.toList:=by simpa using hchk
    rw [heq]
    refine stableOver_one ?_
    have hz:Nat.sub (countDone (notBehindOf ms i 0 ops.toList) ns) (countDone (notBehindOf ms i 0 ops.toList) ns) = 0:=Nat.sub_self _
    rw [hz,List.length_take]
    omega

theorem count_beforeA {ms:List Nat} {i:Nat}:∀ {l:List Oper} {j:Nat} {notes:List Note} {ns:List Nt},All2 NR notes ns→turnsBefore true ms i j l notes = countDone (beforeOfA ms i j l) ns
 | [],j,notes,ns,h=>by cases h <;> rfl
 | o :: l,j,_,_,.nil=>by simp only [beforeOfA,consB_eq]; rfl
 | o :: l,j,_,_,.cons (a:=n) (b:=x) h t=>by
  simp only [turnsBefore,beforeOfA,countDone]
  rw [consB_eq]
  simp only [countDone]
  rw [count_beforeA t,h.2.2,Bool.and_assoc]
  rfl
theorem count_notA {ms:List Nat} {i:Nat}:∀ {l:List Oper} {j:Nat} {notes:List Note} {ns:List Nt},All2 NR notes ns→turnsNotBehind true ms i j l notes = countDone (notBehindOfA ms i j l) ns
 | [],j,notes,ns,h=>by cases h <;> rfl
 | o :: l,j,_,_,.nil=>by simp only [notBehindOfA,consB_eq]; rfl
 | o :: l,j,_,_,.cons (a:=n) (b:=x) h t=>by
  simp only [turnsNotBehind,notBehindOfA,countDone]
  rw [consB_eq]
  simp only [countDone]
  rw [count_notA t,h.2.2,Bool.and_assoc]
  rfl

/-! Regions that lay ahead: what they come to. -/
section
variable [Unknowns]
def namesOf:Nat→List Bool→List (Option Nat)
 | _,[]=>[]
 | n,b :: bs=>match b with
  | true=>some n :: namesOf (Nat.succ n) bs
  | false=>none :: namesOf n bs

theorem closed_lay {o:Oper} (hc:closedLay o.op = true) (hk:isLayT (orRaw (typ E o.op) o.op o.type) = true) :
  ∃ f ob,(∀ ρ,layOf E ρ o.op = some (f,ob))∧(∀ (b:Nat) (K:Value→Prop),layP (orRaw (typ E o.op) o.op o.type) b K→K (f b))∧(∀ H h,HR H h→HR ⟨Nat.succ H.next,H.objs.put H.next ob⟩ (layH (orRaw (typ E o.op) o.op o.type) h))∧(∀ h:Hp,(layH (orRaw (typ E o.op) o.op o.type) h).next = Nat.succ h.next) ∧
   ∀ n (x:Note) H h,x.val = f n→HR H h→laidAt (orRaw (typ E o.op) o.op o.type) (f n) h→liesAs x n (some (f,ob)) H = true:=by
 obtain ⟨odst,oop,otype,opos,oafter,oguard⟩:=o
 dsimp only at hc hk ⊢
 cases oop <;> first | (cases hc; done) | skip
 ·rename_i t
  simp only [typ] at hk ⊢
  cases hz:zeroOf (E.ty t) with
  | none=>rw [hz] at hk; cases hk
  | some z =>
   rw [hz] at hk
   dsimp only at hk ⊢
   cases hcs:cellsOf z with
   | none=>rw [hcs] at hk; cases hk
   | some cs =>
    rw [hcs] at hk
    refine ⟨ptr0,rowOf t cs true,fun ρ=>?_,fun b K hK=>hK,fun H h ha=>ha.lay (ORep.rowOf _ _ _),fun h=>rfl,fun n x H h hx ha hl=>?_⟩
    ·show allocated t (zeroOf (E.ty t)) = _
     rw [hz]
     show boxed t (cellsOf z) = _
     rw [hcs]
     rfl
    ·obtain ⟨r,er,hat,hsame⟩:=hl
     have hr:r = n:=by unfold ptr0 at er; injection er with er; injection er with er; injection er with er; exact er.symm
     subst hr
     obtain ⟨ob,h1,h2⟩:=ha.at_ _ _ hat
     unfold liesAs
     dsimp only
     rw [hx,h1,Bool.and_eq_true]
     refine ⟨by unfold ptr0; show decide _ = true; simp,?_⟩
     cases ob <;> simp only [ORep] at h2
     rename_i e' n' x' cs'
     obtain ⟨rfl,rfl,hln,hcells⟩:=h2
     unfold rowOf sameObj
     dsimp only
     have hrd:(T.ofList T.empty 0 cs).read 0 cs.length = some cs:=by
      have key:∀ (l pre:List Value),(T.ofList T.empty 0 (pre ++ l)).read pre.length l.length = some l:=by
       intro l
       induction l with
       | nil=>intro pre; rfl
       | cons y l ih =>
        intro pre
        have hg:(T.ofList T.empty 0 (pre ++ y :: l)).get pre.length = some y:=by
         rw [T.get_ofList,if_pos ⟨Nat.zero_le _,by simp⟩]
         simp
        have h3:=ih (pre ++ [y])
        rw [List.append_assoc,List.singleton_append,List.length_append,List.length_singleton] at h3
        show (T.ofList T.empty 0 (pre ++ y :: l)).read pre.length (l.length + 1) = _
        simp only [T.read]
        rw [hg]
        dsimp only
        rw [h3]
      exact key cs []
     have hrd':cs'.read 0 cs.length = some cs:=by
      have key:∀ (m k:Nat),k + m = cs.length→cs'.read k m = some (cs.drop k):=by
       intro m
       induction m with
       | zero=>intro k hk; rw [List.drop_eq_nil_of_le (by omega)]; rfl
       | succ m ih =>
        intro k hk
        have hg:cs'.get k = some cs[k]:=by rw [hcells k (by omega),List.getElem?_eq_getElem (by omega)]
        simp only [T.read]
        rw [hg]
        dsimp only
        rw [ih (k + 1) (by omega),List.drop_eq_getElem_cons (by omega:k < cs.length)]
      exact key cs.length 0 (by omega)
     unfold sameCells
     rw [hrd,hrd']
     dsimp only
     rw [hsame]
     simp [hln]
 ·rename_i t r
  cases r with
  | some _=>cases hc
  | none =>
   refine ⟨mapAt,.map [] 0,fun ρ=>rfl,fun b K hK=>hK,fun H h ha=>ha.lay (ob:=.map [] 0) (o:=.map [] 0) ⟨rfl,rfl⟩,fun h=>rfl,fun n x H h hx ha hl=>?_⟩
   obtain ⟨r,er,hat⟩:=hl
   have hr:r = n:=by unfold mapAt at er; injection er with er; injection er with er; exact er.symm
   subst hr
   obtain ⟨ob,h1,h2⟩:=ha.at_ _ _ hat
   unfold liesAs
   dsimp only
   rw [hx,h1,Bool.and_eq_true]
   refine ⟨by unfold mapAt; show decide _ = true; simp,?_⟩
   cases ob <;> simp only [ORep] at h2
   obtain ⟨rfl,rfl⟩:=h2
   rfl

def NamesOk (E:Env):List Oper→List (Option Nat)→List Note→Prop
 | o :: l,a :: as,n :: ns=>(∀ r f ob,a = some r→(∀ ρ,layOf E ρ o.op = some (f,ob))→n.val = f r)∧NamesOk E l as ns
 | _,_,_=>True
theorem layAll_ok {ops:Array Oper} {t:T Value}:∀ {l:List Oper} {gs:List G} {H:Heap} {h:Hp} {m:Nat},gsOf E z ops l = some gs→laysClosed l = true→laysT gs (laysOf l) = true→HR H h→m = h.next →
  ∃ H',layAll E l (fakeNotes t l) H = (namesOf m (laysOf l),H')∧HR H' (laysH gs (laysOf l) h)
 | [],gs,H,h,m,hg,hc,ht,ha,hm=>by
  cases hg
  exact ⟨H,rfl,ha⟩
 | o :: l,gs,H,h,m,hg,hc,ht,ha,hm=>by
  obtain ⟨g,gs',h1,h2,rfl⟩:=gsOf_cons hg
  obtain ⟨hd,q,hq,rfl⟩:=gOf_some h1
  unfold laysClosed at hc
  unfold laysOf at ht ⊢
  rw [consB_eq] at ht ⊢
  unfold laysT at ht
  unfold laysH namesOf fakeNotes layAll
  dsimp only at ht ⊢
  cases hl:lays o.op with
  | true =>
   rw [hl] at hc ht
   dsimp only at hc ht ⊢
   rw [Bool.and_eq_true,Bool.and_eq_true] at hc
   rw [Bool.and_eq_true] at ht
   obtain ⟨f,ob,e1,e2,e3,e4,-⟩:=closed_lay hc.1.1 ht.1
   obtain ⟨H',q1,q2⟩:=layAll_ok (t:=t) h2 hc.2 ht.2 (e3 H h ha) (m:=Nat.succ m) (by rw [e4,hm])
   refine ⟨H',?_,q2⟩
   rw [e1]
   show consSome H.next (layAll E l (fakeNotes t l) ⟨Nat.succ H.next,H.objs.put H.next ob⟩) = _
   rw [q1,ha.next,← hm]
   rfl
  | false =>
   rw [hl] at hc ht
   dsimp only at hc ht ⊢
   obtain ⟨H',q1,q2⟩:=layAll_ok (t:=t) h2 hc ht ha hm
   exact ⟨H',by rw [q1]; rfl,q2⟩

theorem wpAhead_ok {ops:Array Oper} {ms:List Nat}:∀ {l:List Oper} {gs:List G} {i:Nat} {b:Nat} {φ:Frame} {h:Hp} {K:List Nt→List Hp→Frame→Hp→Prop} {ρ:T Value} {H:Heap} {m:List Nat} {n:Nat},gsOf E z ops l = some gs→laysClosed l = true→laysT gs (laysOf l) = true→FR ρ φ→HR H h →
  wpAhead E gs (drsOfA ops ms i l) (laysOf l) b φ h K →
  ∃ k t ρ' H' φ' h' ns hs,trace E (ev E k) true ops l (namesOf b (laysOf l)) ⟨ρ,z,H,rd,m⟩ n = some t∧t.last = ⟨ρ',z,H',rd,m⟩∧FR ρ' φ'∧HR H' h'∧K ns hs φ' h'∧All2 NR t.notes ns∧All2 HR t.heaps hs∧NamesOk E l (namesOf b (laysOf l)) t.notes
 | [],gs,i,b,φ,h,K,ρ,H,m,n,hg,hc,ht,hf,ha,hw=>by
  cases hg
  exact ⟨0,⟨[],[],⟨ρ,z,H,rd,m⟩⟩,ρ,H,φ,h,[],[],rfl,rfl,hf,ha,hw,.nil,.nil,trivial⟩
 | o :: l,gs,i,b,φ,h,K,ρ,H,m,n,hg,hc,ht,hf,ha,hw=>by
  obtain ⟨g,gs',h1,h2,rfl⟩:=gsOf_cons hg
  obtain ⟨hd,q,hq,rfl⟩:=gOf_some h1
  have hgd:=gok_ok hf hq
  unfold laysClosed at hc
  unfold laysOf at ht hw ⊢
  rw [consB_eq] at ht hw ⊢
  unfold laysT at ht
  unfold namesOf
  simp only [drsOfA] at hw
  unfold wpAhead at hw
  dsimp only at ht hw ⊢
  cases hl:lays o.op with
  | true =>
   rw [hl] at hc ht hw
   dsimp only at hc ht hw ⊢
   rw [Bool.and_eq_true,Bool.and_eq_true] at hc
   rw [Bool.and_eq_true] at ht
   obtain ⟨f,ob,e1,e2,e3,e4,-⟩:=closed_lay hc.1.1 ht.1
   have hw:=e2 _ _ hw
   have hng:guardOk ops ρ o.guard = true:=by
    have:=hc.1.2
    unfold noGuard at this
    cases hgu:o.guard with
    | none=>rfl
    | some _=>rw [hgu] at this; cases this
   obtain ⟨k,t,ρ',H',φ',h'',ns,hs,t1,t2,t3,t4,t5,t6,t7,t8⟩:=wpAhead_ok (m:=m) (n:=n) h2 hc.2 ht.2 (putDst_in hd hf (f b)) ha hw
   refine ⟨k,⟨⟨ρ,f b,n,true⟩ :: t.notes,t.heaps,t.last⟩,ρ',H',φ',h'',_,_,?_,t2,t3,t4,t5,.cons ⟨hf,rfl,rfl⟩ t6,t7,⟨fun r f' ob' er e'=>?_,t8⟩⟩
   rotate_left
   ·cases er; have:=(e1 ρ).symm.trans (e' ρ); cases this; rfl
   simp only [trace]
   rw [hng]
   dsimp only
   unfold traceOp
   simp only [Bool.true_and,hl,headOf]
   show noted _ o.dst n false _ (withHeap H (newAt b (layOf E ρ o.op))) = _
   rw [e1]
   simp only [newAt,withHeap,noted,force_id]
   have t1':trace E (ev E k) true ops l (namesOf (Nat.succ b) (laysOf l)) (St.keep ⟨ρ,z,H,rd,m⟩ o.dst (f b)) n = some t:=t1
   rw [List.tail_cons,t1']
   rfl
  | false =>
   rw [hl] at hc ht hw
   dsimp only at hc ht hw ⊢
   cases hb:gok φ q with
   | true =>
    rw [hb] at hw
    dsimp only at hw
    rw [show (drOfA ops ms i o).turns = chained true o from by rw [drOfA_eq]] at hw
    cases hr:readsOnly o.op with
    | true =>
     have hch:chained true o = false:=by simp [chained,hr]
     rw [hch] at hw
     unfold DrP at hw
     dsimp only at hw
     have hfit:=fitsT (E:=E) hf ha o.op o.type
     split at hw
     ·rename_i v h' hrun
      rw [hrun] at hfit
      obtain ⟨H1,e1,a1⟩:=hfit
      have hH:=reads_same hr e1
      subst hH
      obtain ⟨k,t,ρ',H',φ',h'',ns,hs,t1,t2,t3,t4,t5,t6,t7,t8⟩:=wpAhead_ok (m:=m) (n:=n) h2 hc ht (putDst_in hd hf v) a1 hw
      refine ⟨k,⟨⟨ρ,v,n,true⟩ :: t.notes,t.heaps,t.last⟩,ρ',H',φ',h'',_,_,?_,t2,t3,t4,t5,.cons ⟨hf,rfl,rfl⟩ t6,t7,⟨fun r f' ob' er e'=>(by cases er),t8⟩⟩
      simp only [trace]
      rw [hgd,hb]
      dsimp only
      unfold traceOp
      simp only [hl,Bool.and_false,hr]
      show noted _ o.dst n false _ (pureVal (aop o.op E ρ H1 o.type)) = _
      rw [e1]
      simp only [pureVal,noted,force_id]
      have t1':trace E (ev E k) true ops l (namesOf b (laysOf l)) (St.keep ⟨ρ,z,H1,rd,m⟩ o.dst v) n = some t:=t1
      rw [List.tail_cons,t1']
      rfl
     ·exact hw.elim
    | false =>
     have hch:chained true o = true:=by simp [chained,hr,hl]
     rw [hch] at hw
     unfold DrP at hw
     dsimp only at hw
     obtain ⟨k1,v,H1,h1',e1,a1,hw1⟩:=ResP_ok (fitsT hf ha o.op o.type) hw
     obtain ⟨k2,t,ρ',H',φ',h'',ns,hs,t1,t2,t3,t4,t5,t6,t7,t8⟩:=wpAhead_ok (m:=m) (n:=Nat.succ n) h2 hc ht (putDst_in hd hf v) a1 hw1
     refine ⟨max k1 k2,⟨⟨ρ,v,n,true⟩ :: t.notes,H1 :: t.heaps,t.last⟩,ρ',H',φ',h'',_,_,?_,t2,t3,t4,t5,.cons ⟨hf,rfl,rfl⟩ t6,.cons a1 t7,⟨fun r f' ob' er e'=>(by cases er),t8⟩⟩
     simp only [trace]
     rw [hgd,hb]
     dsimp only
     unfold traceOp
     simp only [hl,Bool.and_false,hr]
     have e1':=doCall_le (ev_le E (Nat.le_max_left k1 k2)) e1
     have t1':=trace_le (ev_le E (Nat.le_max_right k1 k2)) t1
     show noted _ o.dst n true _ (doCall E (ev E (max k1 k2)) (aop o.op E ρ H o.type)) = _
     rw [e1']
     simp only [noted,force_id]
     have t1'':trace E (ev E (max k1 k2)) true ops l (namesOf b (laysOf l)) (St.done ⟨ρ,z,H,rd,m⟩ o.dst v H1) (Nat.succ n) = some t:=t1'
     rw [List.tail_cons,t1'']
     rfl
   | false =>
    rw [hb] at hw
    obtain ⟨k2,t,ρ',H',φ',h'',ns,hs,t1,t2,t3,t4,t5,t6,t7,t8⟩:=wpAhead_ok (m:=m) (n:=n) h2 hc ht (putDst_in hd hf undef) ha hw
    refine ⟨k2,⟨⟨ρ,undef,n,false⟩ :: t.notes,t.heaps,t.last⟩,ρ',H',φ',h'',_,_,?_,t2,t3,t4,t5,.cons ⟨hf,rfl,rfl⟩ t6,t7,⟨fun r f' ob' er e'=>(by cases er),t8⟩⟩
    simp only [trace]
    rw [hgd,hb]
    dsimp only
    have t1':trace E (ev E k2) true ops l (namesOf b (laysOf l)) (St.keep ⟨ρ,z,H,rd,m⟩ o.dst undef) n = some t:=t1
    rw [List.tail_cons,t1']
    rfl

theorem stableIn_laid {o:Oper} {f:Nat→Value} {ob:AObj} (e1:∀ ρ,layOf E ρ o.op = some (f,ob)) {r:Nat} {n:Note} (hv:n.val = f r)
  (hl:∀ (x:Note) H h,x.val = f r→HR H h→laidAt (orRaw (typ E o.op) o.op o.type) (f r) h→liesAs x r (some (f,ob)) H = true):∀ {Hs:List Heap} {hs:List Hp},All2 HR Hs hs→allLaid (orRaw (typ E o.op) o.op o.type) (f r) hs→stableIn E o (some r) n Hs = true
 | _,_,.nil,_=>rfl
 | _,_,.cons (a:=H) (b:=h) a t,w=>by
  obtain ⟨w1,w2⟩:=w
  simp only [stableIn,stableIn_laid e1 hv hl t w2,Bool.and_true]
  unfold stableAt
  dsimp only
  rw [e1]
  exact hl n H h hv a w1

theorem stableAll_ofA {ops:Array Oper} {ms:List Nat} {notes:List Note} {ns:List Nt} {Hs:List Heap} {hs:List Hp} (hN:All2 NR notes ns) (hH:All2 HR Hs hs):∀ {l:List Oper} {gs:List G} {i b:Nat} {nl:List Note} {xl:List Nt},gsOf E z ops l = some gs→laysClosed l = true→laysT gs (laysOf l) = true →
  All2 NR nl xl→NamesOk E l (namesOf b (laysOf l)) nl→okAllA E ns hs gs (drsOfA ops ms i l) (laysOf l) xl→stableAll E true ops ms notes Hs i l (namesOf b (laysOf l)) nl = true
 | [],gs,i,b,nl,xl,hg,hc,ht,hx,hv,hw=>by unfold stableAll; rfl
 | o :: l,gs,i,b,_,_,hg,hc,ht,.nil,hv,hw=>by unfold stableAll; rfl
 | o :: l,gs,i,b,_,_,hg,hc,ht,.cons (a:=n) (b:=x) (as:=nl) (bs:=xl) hn hnt,hv,hw=>by
  obtain ⟨g,gs',h1,h2,rfl⟩:=gsOf_cons hg
  obtain ⟨hd,q,hq,rfl⟩:=gOf_some h1
  unfold laysClosed at hc
  unfold laysOf at ht hv hw ⊢
  rw [consB_eq] at ht hv hw ⊢
  unfold laysT at ht
  unfold namesOf at hv ⊢
  simp only [okAllA,drsOfA] at hw
  obtain ⟨w1,w2⟩:=hw
  simp only [stableAll]
  have hwin:=(hH.drop (countDone (beforeOfA ms i 0 ops.toList) ns)).take (Nat.succ (countDone (notBehindOfA ms i 0 ops.toList) ns - countDone (beforeOfA ms i 0 ops.toList) ns))
  cases hl:lays o.op with
  | true =>
   rw [hl] at hc ht hv w1
   dsimp only at hc ht hv w1 ⊢
   rw [Bool.and_eq_true,Bool.and_eq_true] at hc
   rw [Bool.and_eq_true] at ht
   obtain ⟨hv1,hv2⟩:=hv
   rw [List.tail_cons,stableAll_ofA hN hH h2 hc.2 ht.2 hnt hv2 w2,Bool.and_true]
   obtain ⟨f,ob,e1,e2,e3,e4,e5⟩:=closed_lay hc.1.1 ht.1
   have hval:=hv1 b f ob rfl e1
   unfold stableOp
   split
   ·rfl
   ·rw [count_beforeA hN,count_notA hN]
    unfold stableOver
    simp only [Bool.true_and,hl,headOf]
    unfold okAtA at w1
    dsimp only at w1
    rw [← hn.2.1,hval,drOfA_eq] at w1
    exact stableIn_laid e1 hval (fun x H h hx ha hy=>e5 b x H h hx ha hy) hwin w1
  | false =>
   rw [hl] at hc ht hv w1
   dsimp only at hc ht hv w1 ⊢
   rw [List.tail_cons,stableAll_ofA hN hH h2 hc ht hnt hv.2 w2,Bool.and_true]
   unfold stableOp
   split
   ·rfl
   ·rename_i hdone
    rw [Bool.and_eq_true] at hdone
    rw [count_beforeA hN,count_notA hN]
    simp only [Bool.true_and,hl,headOf]
    unfold okAtA okAt at w1
    dsimp only at w1
    cases hchk:(drOfA ops ms i o).chk with
    | true =>
     rw [hchk,← hn.2.2,hdone.1,drOfA_eq] at w1
     exact stableOver_of (stableIn_of (g:=⟨o.dst,orRaw (typ E o.op) o.op o.type,q⟩) rfl hn hwin w1)
    | false =>
     rw [drOfA_eq] at hchk
     dsimp only at hchk
     rw [hdone.2,Bool.true_and] at hchk
     have heq:beforeOfA ms i 0 ops.toList = notBehindOfA ms i 0 ops.toList:=by simpa using hchk
     rw [heq]
     refine stableOver_one ?_
     have hz:Nat.sub (countDone (notBehindOfA ms i 0 ops.toList) ns) (countDone (notBehindOfA ms i 0 ops.toList) ns) = 0:=Nat.sub_self _
     rw [hz,List.length_take]
     omega

theorem ahead_ok {ops:Array Oper} {gs:List G} (hd0:drawOk false ops = false) (hd:drawOk true ops = true) (hc:laysClosed ops.toList = true) (hg:gsOf E z ops ops.toList = some gs) (ht:laysT gs (laysOf ops.toList) = true) {φ:Frame} {h:Hp} {Q:Frame→Hp→Prop} {ρ:T Value} {H:Heap} {m:List Nat} (hf:FR ρ φ) (ha:HR H h)
  (hw:wpAhead E gs (drsOfA ops (masksOf ops) 0 ops.toList) (laysOf ops.toList) h.next φ (laysH gs (laysOf ops.toList) h) fun ns hs φ' h'=>okAllA E ns (laysH gs (laysOf ops.toList) h :: hs) gs (drsOfA ops (masksOf ops) 0 ops.toList) (laysOf ops.toList) ns∧Q φ' h') :
  ∃ k ρ' H' φ' h',evDraw E (ev E k) ops ⟨ρ,z,H,rd,m⟩ = some (.normal,⟨ρ',z,H',rd,m⟩)∧FR ρ' φ'∧HR H' h'∧Q φ' h':=by
 obtain ⟨H0,l1,l2⟩:=layAll_ok (ops:=ops) (t:=ρ) hg hc ht ha rfl
 obtain ⟨k,t,ρ',H',φ',h',ns,hs,t1,t2,t3,t4,⟨t5,t5'⟩,t6,t7,t8⟩:=wpAhead_ok (rd:=rd) (m:=m) (n:=0) hg hc ht hf l2 hw
 refine ⟨k,ρ',H',φ',h',?_,t3,t4,t5'⟩
 unfold evDraw
 rw [hd0,hd,hc]
 show evAhead E (ev E k) true ops ⟨ρ,z,H,rd,m⟩ (layAll E ops.toList (fakeNotes ρ ops.toList) H) = _
 rw [l1]
 unfold evAhead
 dsimp only
 show settled E true ops (namesOf h.next (laysOf ops.toList)) H0 (trace E (ev E k) true ops ops.toList (namesOf h.next (laysOf ops.toList)) ⟨ρ,z,H0,rd,m⟩ 0) = _
 rw [t1]
 unfold settled
 dsimp only
 have hst:stable E true ops (namesOf h.next (laysOf ops.toList)) H0 t = true:=by
  unfold stable
  dsimp only
  exact stableAll_ofA t6 (.cons l2 t7) hg hc ht t6 t8 t5
 rw [hst]
 dsimp only
 rw [t2]
end

section
theorem lay2_run {op:TOp} {φ:Frame} {K:(Nat→Value)→TypeId→List Value→Prop} (w:lay2P op φ K):∃ f e cells,K f e cells∧∀ h,runT E op φ h = .val (f h.next) (h.lay (.row e true cells)):=by
 cases op <;> first | exact w.elim | skip
 ·exact ⟨_,_,_,w,fun h=>rfl⟩
 ·rename_i e x
  unfold lay2P at w
  dsimp only at w
  cases h:cellsOf (evφ φ x) with
  | none=>rw [h] at w; exact w.elim
  | some cs =>
   rw [h] at w
   exact ⟨_,_,_,w,fun h2=>by show hbox h2 e (cellsOf (evφ φ x)) = _; rw [h]; rfl⟩
 ·rename_i e n z ps
  unfold lay2P at w
  dsimp only at w
  cases h:fillφ φ z ps with
  | none=>rw [h] at w; exact w.elim
  | some cs =>
   rw [h] at w
   exact ⟨_,_,_,w,fun h2=>by show hslitT h2 e n (fillφ φ z ps) = _; rw [h]; rfl⟩
 ·rename_i e z bytes l c
  unfold lay2P at w
  dsimp only at w
  cases h:evφ φ l <;> rw [h] at w <;> dsimp only at w <;> first | exact w.elim | skip
  cases h2:evφ φ c <;> rw [h2] at w <;> dsimp only at w <;> first | exact w.elim | skip
  rename_i k1 m k2 n
  refine ⟨_,_,_,w.2,fun hh=>?_⟩
  have:=makeP_ok (E:=E) (h:=hh) (e:=e) (z:=z) (bytes:=bytes) (l:=.int k1 m) (c:=.int k2 n) (K:=fun v h'=>v = slc hh.next 0 m.toNat n.toNat∧h' = hh.lay (.row e true (times z n.toNat))) ⟨w.1,rfl,rfl⟩
  show hmakeT hh e z bytes (asNat 100000 (evφ φ l)) (asNat 100000 (evφ φ c)) = _
  rw [h,h2]
  have hcall:∀ r,ResP E r (fun v h'=>v = slc hh.next 0 m.toNat n.toNat∧h' = hh.lay (.row e true (times z n.toNat)))→(∀ f as h,r≠.call f as h)→(∀ f as h,r≠.yield f as h)→r = .val (slc hh.next 0 m.toNat n.toNat) (hh.lay (.row e true (times z n.toNat))):=by
   intro r hr n1 n2
   cases r with
   | val v h'=>obtain ⟨rfl,rfl⟩:=hr; rfl
   | call f as h=>exact absurd rfl (n1 _ _ _)
   | yield f as h=>exact absurd rfl (n2 _ _ _)
   | fail=>exact hr.elim
  refine hcall _ this (fun f as h=>?_) (fun f as h=>?_)
  all_goals
   unfold hmakeT
   repeat' split
   all_goals intro x; cases x

theorem aop_lays {op:Op} (hl:lays op = true) (ρ:T Value) (H:Heap) (ty:TypeId):aop op E ρ H ty = laidBy (layOf E ρ op) H:=by
 cases op <;> first | (cases hl; done) | rfl
def bareH (n:Nat):Hp:=⟨n,fun _=>none⟩
theorem bareH_at (n r:Nat):(bareH n).at r = none:=by
 unfold Hp.at bareH
 dsimp only
 split <;> rfl
theorem HR.bare (n:Nat):HR ⟨n,T.empty⟩ (bareH n):=⟨rfl,fun r o e=>by rw [bareH_at] at e; cases e⟩
theorem lay2_ok {o:Oper} {ρ:T Value} {φ:Frame} (hf:FR ρ φ) (hl:lays o.op = true) {K:(Nat→Value)→TypeId→List Value→Prop} (w:lay2P (orRaw (typ E o.op) o.op o.type) φ K) :
  ∃ f ob fn e cells,layOf E ρ o.op = some (f,ob)∧(∀ r,f r = fn r)∧ORep ob (.row e true cells)∧K fn e cells:=by
 obtain ⟨fn,e,cells,hK,hrun⟩:=lay2_run (E:=E) w
 have key:∀ r,∃ H1,laidBy (layOf E ρ o.op) ⟨r,T.empty⟩ = .val (fn r) H1∧HR H1 ((bareH r).lay (.row e true cells)):=by
  intro r
  have hft:=fitsT (E:=E) hf (HR.bare r) o.op o.type
  rw [hrun,aop_lays hl] at hft
  exact hft
 cases hlo:layOf E ρ o.op with
 | none =>
  obtain ⟨H1,h1,-⟩:=key 0
  rw [hlo] at h1
  cases h1
 | some x =>
  obtain ⟨f,ob⟩:=x
  rw [hlo] at key
  have key2:∀ r,f r = fn r∧HR ⟨Nat.succ r,(T.empty:T AObj).put r ob⟩ ((bareH r).lay (.row e true cells)):=by
   intro r
   obtain ⟨H1,h1,h2⟩:=key r
   unfold laidBy laid at h1
   dsimp only at h1
   rw [forceNat_id] at h1
   injection h1 with e1 e2
   subst e2
   exact ⟨e1,h2⟩
  refine ⟨f,ob,fn,e,cells,rfl,fun r=>(key2 r).1,?_,hK⟩
  obtain ⟨a,h1,h2⟩:=(key2 0).2.at_ 0 (.row e true cells) (Hp.at_lay_self _ _)
  have h1':((T.empty:T AObj).put 0 ob).get 0 = some a:=h1
  rw [T.get_put,if_pos rfl] at h1'
  cases h1'
  exact h2
theorem wpLays_ok {ops:Array Oper}:∀ {l:List Oper} {gs:List G} {notes:List Note} {ns:List Nt} {H:Heap} {h:Hp} {K:List (Option Nat)→Hp→Prop},gsOf E z ops l = some gs→All2 NR notes ns→HR H h→wpLays gs (laysOf l) ns h K →
  ∃ as H' h',layAll E l notes H = (as,H')∧HR H' h'∧K as h'
 | [],gs,notes,ns,H,h,K,hg,hn,ha,hw=>by
  cases hg
  exact ⟨[],H,h,by unfold layAll; rfl,ha,hw⟩
 | o :: l,gs,_,_,H,h,K,hg,.nil,ha,hw=>by
  obtain ⟨g,gs',h1,h2,rfl⟩:=gsOf_cons hg
  refine ⟨[],H,h,by unfold layAll; rfl,ha,?_⟩
  unfold laysOf at hw
  rw [consB_eq] at hw
  exact hw
 | o :: l,gs,_,_,H,h,K,hg,.cons (a:=n) (b:=x) hn ht,ha,hw=>by
  obtain ⟨g,gs',h1,h2,rfl⟩:=gsOf_cons hg
  obtain ⟨hd,q,hq,rfl⟩:=gOf_some h1
  unfold laysOf at hw
  rw [consB_eq] at hw
  unfold wpLays at hw
  unfold layAll
  cases hl:lays o.op with
  | true =>
   rw [hl] at hw
   dsimp only at hw
   cases hd2:x.done with
   | true =>
    rw [hd2] at hw
    dsimp only at hw
    obtain ⟨f,ob,fn,e,cells,e1,e2,e3,hK⟩:=lay2_ok (E:=E) hn.1 hl hw
    obtain ⟨as,H',h',q1,q2,q3⟩:=wpLays_ok h2 ht (ha.lay e3) hK
    refine ⟨_,H',h',?_,q2,q3⟩
    rw [hn.2.2,hd2]
    show layOne o (layOf E n.tmps o.op) (layAll E l _) H = _
    rw [e1]
    show consSome H.next (layAll E l _ ⟨Nat.succ H.next,H.objs.put H.next ob⟩) = _
    rw [q1,ha.next]
    rfl
   | false =>
    rw [hd2] at hw
    dsimp only at hw
    obtain ⟨as,H',h',q1,q2,q3⟩:=wpLays_ok h2 ht ha hw
    refine ⟨_,H',h',?_,q2,q3⟩
    rw [hn.2.2,hd2]
    show consNone (layAll E l _ H) = _
    rw [q1]
    rfl
  | false =>
   rw [hl] at hw
   dsimp only at hw
   obtain ⟨as,H',h',q1,q2,q3⟩:=wpLays_ok h2 ht ha hw
   refine ⟨_,H',h',?_,q2,q3⟩
   rw [Bool.and_false]
   show consNone (layAll E l _ H) = _
   rw [q1]
   rfl
def LaidOk (E:Env):List Oper→List (Option Nat)→List Ld→List Note→Prop
 | [],_,[],[]=>True
 | o :: l,as,x :: os,n :: ns=>(match x with
  | some (r,e,cells)=>headOf as = some r∧lays o.op = true∧∃ f ob,layOf E n.tmps o.op = some (f,ob)∧n.val = f r∧ORep ob (.row e true cells)
  | none=>n.done = false∨lays o.op = false∧headOf as = none)∧LaidOk E l as.tail os ns
 | _,_,_,_=>False
variable [Unknowns]
theorem wpDryA_ok {ops:Array Oper} {ms:List Nat}:∀ {l:List Oper} {gs:List G} {i:Nat} {as:List (Option Nat)} {φ:Frame} {h:Hp} {K:List Nt→List Ld→List Hp→Frame→Hp→Prop} {ρ:T Value} {H:Heap} {m:List Nat} {n:Nat},gsOf E z ops l = some gs→FR ρ φ→HR H h →
  wpDryA E gs (drsOfA ops ms i l) (laysOf l) as φ h K →
  ∃ k t ρ' H' φ' h' ns os hs,trace E (ev E k) true ops l as ⟨ρ,z,H,rd,m⟩ n = some t∧t.last = ⟨ρ',z,H',rd,m⟩∧FR ρ' φ'∧HR H' h'∧K ns os hs φ' h'∧All2 NR t.notes ns∧All2 HR t.heaps hs∧LaidOk E l as os t.notes
 | [],gs,i,as,φ,h,K,ρ,H,m,n,hg,hf,ha,hw=>by
  cases hg
  unfold wpDryA at hw
  exact ⟨0,⟨[],[],⟨ρ,z,H,rd,m⟩⟩,ρ,H,φ,h,[],[],[],rfl,rfl,hf,ha,hw,.nil,.nil,trivial⟩
 | o :: l,gs,i,as,φ,h,K,ρ,H,m,n,hg,hf,ha,hw=>by
  obtain ⟨g,gs',h1,h2,rfl⟩:=gsOf_cons hg
  obtain ⟨hd,q,hq,rfl⟩:=gOf_some h1
  have hgd:=gok_ok hf hq
  unfold laysOf at hw
  rw [consB_eq] at hw
  simp only [drsOfA] at hw
  unfold wpDryA at hw
  dsimp only at hw
  cases hb:gok φ q with
  | true =>
   rw [hb] at hw
   dsimp only at hw
   cases hl:lays o.op with
   | true =>
    rw [hl] at hw
    dsimp only at hw
    match as,hw with
    | some r :: as,hw =>
     dsimp only at hw
     obtain ⟨f,ob,fn,e,cells,e1,e2,e3,hK⟩:=lay2_ok (E:=E) hf hl hw
     rw [← e2 r] at hK
     obtain ⟨k,t,ρ',H',φ',h'',ns,os,hs,t1,t2,t3,t4,t5,t6,t7,t8⟩:=wpDryA_ok (m:=m) (n:=n) h2 (putDst_in hd hf (f r)) ha hK
     refine ⟨k,⟨⟨ρ,f r,n,true⟩ :: t.notes,t.heaps,t.last⟩,ρ',H',φ',h'',_,_,_,?_,t2,t3,t4,t5,.cons ⟨hf,rfl,rfl⟩ t6,t7,⟨⟨rfl,hl,f,ob,e1,rfl,e3⟩,t8⟩⟩
     simp only [trace]
     rw [hgd,hb]
     dsimp only
     unfold traceOp
     simp only [Bool.true_and,hl,headOf]
     show noted _ o.dst n false _ (withHeap H (newAt r (layOf E ρ o.op))) = _
     rw [e1]
     simp only [newAt,withHeap,noted,force_id]
     have t1':trace E (ev E k) true ops l as (St.keep ⟨ρ,z,H,rd,m⟩ o.dst (f r)) n = some t:=t1
     rw [List.tail_cons,t1']
     rfl
   | false =>
    rw [hl] at hw
    dsimp only at hw
    match as,hw with
    | none :: as,hw =>
     dsimp only at hw
     rw [show (drOfA ops ms i o).turns = chained true o from by rw [drOfA_eq]] at hw
     cases hr:readsOnly o.op with
     | true =>
      have hch:chained true o = false:=by simp [chained,hr]
      rw [hch] at hw
      unfold DrP at hw
      dsimp only at hw
      have hfit:=fitsT (E:=E) hf ha o.op o.type
      split at hw
      ·rename_i v h' hrun
       rw [hrun] at hfit
       obtain ⟨H1,e1,a1⟩:=hfit
       have hH:=reads_same hr e1
       subst hH
       obtain ⟨k,t,ρ',H',φ',h'',ns,os,hs,t1,t2,t3,t4,t5,t6,t7,t8⟩:=wpDryA_ok (m:=m) (n:=n) h2 (putDst_in hd hf v) a1 hw
       refine ⟨k,⟨⟨ρ,v,n,true⟩ :: t.notes,t.heaps,t.last⟩,ρ',H',φ',h'',_,_,_,?_,t2,t3,t4,t5,.cons ⟨hf,rfl,rfl⟩ t6,t7,⟨.inr ⟨hl,rfl⟩,t8⟩⟩
       simp only [trace]
       rw [hgd,hb]
       dsimp only
       unfold traceOp
       simp only [hl,Bool.and_false,hr]
       show noted _ o.dst n false _ (pureVal (aop o.op E ρ H1 o.type)) = _
       rw [e1]
       simp only [pureVal,noted,force_id]
       have t1':trace E (ev E k) true ops l as (St.keep ⟨ρ,z,H1,rd,m⟩ o.dst v) n = some t:=t1
       rw [List.tail_cons,t1']
       rfl
      ·exact hw.elim
     | false =>
      have hch:chained true o = true:=by simp [chained,hr,hl]
      rw [hch] at hw
      unfold DrP at hw
      dsimp only at hw
      obtain ⟨k1,v,H1,h1',e1,a1,hw1⟩:=ResP_ok (fitsT hf ha o.op o.type) hw
      obtain ⟨k2,t,ρ',H',φ',h'',ns,os,hs,t1,t2,t3,t4,t5,t6,t7,t8⟩:=wpDryA_ok (m:=m) (n:=Nat.succ n) h2 (putDst_in hd hf v) a1 hw1
      refine ⟨max k1 k2,⟨⟨ρ,v,n,true⟩ :: t.notes,H1 :: t.heaps,t.last⟩,ρ',H',φ',h'',_,_,_,?_,t2,t3,t4,t5,.cons ⟨hf,rfl,rfl⟩ t6,.cons a1 t7,⟨.inr ⟨hl,rfl⟩,t8⟩⟩
      simp only [trace]
      rw [hgd,hb]
      dsimp only
      unfold traceOp
      simp only [hl,Bool.and_false,hr]
      have e1':=doCall_le (ev_le E (Nat.le_max_left k1 k2)) e1
      have t1':=trace_le (ev_le E (Nat.le_max_right k1 k2)) t1
      show noted _ o.dst n true _ (doCall E (ev E (max k1 k2)) (aop o.op E ρ H o.type)) = _
      rw [e1']
      simp only [noted,force_id]
      have t1'':trace E (ev E (max k1 k2)) true ops l as (St.done ⟨ρ,z,H,rd,m⟩ o.dst v H1) (Nat.succ n) = some t:=t1'
      rw [List.tail_cons,t1'']
      rfl
  | false =>
   rw [hb] at hw
   dsimp only at hw
   obtain ⟨k2,t,ρ',H',φ',h'',ns,os,hs,t1,t2,t3,t4,t5,t6,t7,t8⟩:=wpDryA_ok (m:=m) (n:=n) h2 (putDst_in hd hf undef) ha hw
   refine ⟨k2,⟨⟨ρ,undef,n,false⟩ :: t.notes,t.heaps,t.last⟩,ρ',H',φ',h'',_,_,_,?_,t2,t3,t4,t5,.cons ⟨hf,rfl,rfl⟩ t6,t7,⟨.inl rfl,t8⟩⟩
   simp only [trace]
   rw [hgd,hb]
   dsimp only
   have t1':trace E (ev E k2) true ops l as.tail (St.keep ⟨ρ,z,H,rd,m⟩ o.dst undef) n = some t:=t1
   rw [t1']
   rfl
theorem read_orep {n:Nat} {e e':TypeId} {x x':Bool} {cs:T Value} {l:List Value} (h:ORep (.row e n x cs) (.row e' x' l)):cs.read 0 n = some l:=by
 obtain ⟨-,-,hn,hc⟩:=h
 have key:∀ (m k:Nat),k + m = n→cs.read k m = some (l.drop k):=by
  intro m
  induction m with
  | zero=>intro k hk; rw [List.drop_eq_nil_of_le (by omega)]; rfl
  | succ m ih =>
   intro k hk
   have hg:cs.get k = some (l[k]'(by omega)):=by rw [hc k (by omega),List.getElem?_eq_getElem (by omega)]
   simp only [T.read]
   rw [hg]
   dsimp only
   rw [ih (k + 1) (by omega),List.drop_eq_getElem_cons (by omega:k < l.length)]
 exact key n 0 (by omega)
theorem lies_row {n:Note} {f:Nat→Value} {ob:AObj} {r:Nat} {e:TypeId} {cells:List Value} (hv:n.val = f r) (hs:sameV 4 n.val n.val = true) (hc:sameL cells cells = true) (ho:ORep ob (.row e true cells)) {H:Heap} {h:Hp} (a:HR H h) (hr:h.at r = some (.row e true cells)):liesAs n r (some (f,ob)) H = true:=by
 obtain ⟨ob2,h1,h2⟩:=a.at_ _ _ hr
 unfold liesAs
 dsimp only
 rw [← hv,hs,h1,Bool.true_and]
 cases ob <;> first | (exact (show False from ho).elim) | skip
 cases ob2 <;> first | (exact (show False from h2).elim) | skip
 have q1:=read_orep ho
 have q2:=read_orep h2
 obtain ⟨rfl,rfl,p3,-⟩:=ho
 obtain ⟨rfl,rfl,p4,-⟩:=h2
 subst p3
 subst p4
 unfold sameObj sameCells
 dsimp only
 rw [q1,q2]
 dsimp only
 rw [hc]
 simp
theorem stableIn_row {o:Oper} {n:Note} {f:Nat→Value} {ob:AObj} {r:Nat} {e:TypeId} {cells:List Value} (e1:layOf E n.tmps o.op = some (f,ob)) (hv:n.val = f r) (hs:sameV 4 n.val n.val = true) (hc:sameL cells cells = true) (ho:ORep ob (.row e true cells)):∀ {Hs:List Heap} {hs:List Hp},All2 HR Hs hs→allRow r e cells hs→stableIn E o (some r) n Hs = true
 | _,_,.nil,_=>rfl
 | _,_,.cons (a:=H) (b:=h) a t,w=>by
  obtain ⟨w1,w2⟩:=w
  simp only [stableIn,stableIn_row e1 hv hs hc ho t w2,Bool.and_true]
  unfold stableAt
  dsimp only
  rw [e1]
  exact lies_row hv hs hc ho a w1
theorem stableAll_ofD {ops:Array Oper} {ms:List Nat} {notes:List Note} {ns:List Nt} {Hs:List Heap} {hs:List Hp} (hN:All2 NR notes ns) (hH:All2 HR Hs hs):∀ {l:List Oper} {gs:List G} {i:Nat} {as:List (Option Nat)} {os:List Ld} {nl:List Note} {xl:List Nt},gsOf E z ops l = some gs →
  All2 NR nl xl→LaidOk E l as os nl→okAllD E ns hs gs (drsOfA ops ms i l) os xl→stableAll E true ops ms notes Hs i l as nl = true
 | [],gs,i,as,os,nl,xl,hg,hx,hv,hw=>by unfold stableAll; rfl
 | o :: l,gs,i,as,os,_,_,hg,.nil,hv,hw=>by unfold stableAll; rfl
 | o :: l,gs,i,as,[],_,_,hg,.cons _ _,hv,hw=>by exact hv.elim
 | o :: l,gs,i,as,x :: os,_,_,hg,.cons (a:=n) (b:=y) (as:=nl) (bs:=xl) hn hnt,hv,hw=>by
  obtain ⟨g,gs',h1,h2,rfl⟩:=gsOf_cons hg
  obtain ⟨hd,q,hq,rfl⟩:=gOf_some h1
  simp only [okAllD,drsOfA] at hw
  obtain ⟨w1,w2⟩:=hw
  obtain ⟨hv1,hv2⟩:=hv
  simp only [stableAll]
  have hwin:=(hH.drop (countDone (beforeOfA ms i 0 ops.toList) ns)).take (Nat.succ (countDone (notBehindOfA ms i 0 ops.toList) ns - countDone (beforeOfA ms i 0 ops.toList) ns))
  rw [stableAll_ofD hN hH h2 hnt hv2 w2,Bool.and_true]
  unfold stableOp
  split
  ·rfl
  ·rename_i hdone
   rw [Bool.and_eq_true] at hdone
   rw [count_beforeA hN,count_notA hN]
   match x,hv1,w1 with
   | some (r,e,cells),hv1,w1 =>
    obtain ⟨ha,hl,f,ob,e1,e2,e3⟩:=hv1
    unfold okAtD at w1
    dsimp only at w1
    obtain ⟨⟨s1,s2⟩,s3⟩:=w1
    unfold stableOver
    simp only [Bool.true_and,hl]
    rw [ha]
    rw [drOfA_eq] at s3
    exact stableIn_row e1 e2 (by rw [hn.2.1]; exact s1) s2 e3 hwin s3
   | none,hv1,w1 =>
    rcases hv1 with hv1 | ⟨hl,ha⟩
    ·rw [hv1] at hdone; cases hdone.1
    unfold okAtD okAt at w1
    dsimp only at w1
    simp only [Bool.true_and,hl]
    rw [ha]
    cases hchk:(drOfA ops ms i o).chk with
    | true =>
     rw [hchk,← hn.2.2,hdone.1,drOfA_eq] at w1
     exact stableOver_of (stableIn_of (g:=⟨o.dst,orRaw (typ E o.op) o.op o.type,q⟩) rfl hn hwin w1)
    | false =>
     rw [drOfA_eq] at hchk
     dsimp only at hchk
     rw [hdone.2,Bool.true_and] at hchk
     have heq:beforeOfA ms i 0 ops.toList = notBehindOfA ms i 0 ops.toList:=by simpa using hchk
     rw [heq]
     refine stableOver_one ?_
     have hz:Nat.sub (countDone (notBehindOfA ms i 0 ops.toList) ns) (countDone (notBehindOfA ms i 0 ops.toList) ns) = 0:=Nat.sub_self _
     rw [hz,List.length_take]
     omega
theorem dry_ok {ops:Array Oper} {gs:List G} (hd0:drawOk false ops = false) (hd:drawOk true ops = true) (hc:laysClosed ops.toList = false) (hg:gsOf E z ops ops.toList = some gs) {φ:Frame} {h:Hp} {Q:Frame→Hp→Prop} {ρ:T Value} {H:Heap} {m:List Nat} (hf:FR ρ φ) (ha:HR H h)
  (hw:wpDraw E gs (drsOf ops (masksOf ops) 0 ops.toList) φ h fun ns1 _ _ _=>wpLays gs (laysOf ops.toList) ns1 h fun as h0=>wpDryA E gs (drsOfA ops (masksOf ops) 0 ops.toList) (laysOf ops.toList) as φ h0 fun ns os hs φ' h'=>okAllD E ns (h0 :: hs) gs (drsOfA ops (masksOf ops) 0 ops.toList) os ns∧Q φ' h') :
  ∃ k ρ' H' φ' h',evDraw E (ev E k) ops ⟨ρ,z,H,rd,m⟩ = some (.normal,⟨ρ',z,H',rd,m⟩)∧FR ρ' φ'∧HR H' h'∧Q φ' h':=by
 obtain ⟨k1,t1,-,-,-,-,ns1,hs1,q1,-,-,-,q2,q3,-⟩:=wpDraw_ok (rd:=rd) (m:=m) (n:=0) hg hf ha hw
 obtain ⟨as,H0,h0,l1,l2,q4⟩:=wpLays_ok hg q3 ha q2
 obtain ⟨k2,t,ρ',H',φ',h',ns,os,hs,t1',t2,t3,t4,⟨t5,t5'⟩,t6,t7,t8⟩:=wpDryA_ok (rd:=rd) (m:=m) (n:=0) hg hf l2 q4
 refine ⟨max k1 k2,ρ',H',φ',h',?_,t3,t4,t5'⟩
 have r1:=trace_le (ev_le E (Nat.le_max_left k1 k2)) q1
 have r2:=trace_le (ev_le E (Nat.le_max_right k1 k2)) t1'
 unfold evDraw
 rw [hd0,hd,hc]
 dsimp only
 rw [r1]
 show evAhead E (ev E (max k1 k2)) true ops ⟨ρ,z,H,rd,m⟩ (layAll E ops.toList t1.notes H) = _
 rw [l1]
 unfold evAhead
 dsimp only
 show settled E true ops as H0 (trace E (ev E (max k1 k2)) true ops ops.toList as ⟨ρ,z,H0,rd,m⟩ 0) = _
 rw [r2]
 unfold settled
 dsimp only
 have hst:stable E true ops as H0 t = true:=by
  unfold stable
  dsimp only
  exact stableAll_ofD t6 (.cons l2 t7) hg t6 t8 t5
 rw [hst]
 dsimp only
 rw [t2]
end

def VF (r:ARes):Prop:=match r with
 | .val _ _=>True
 | .fail=>True
 | _=>False
def VFφ (r:HRes):Prop:=match r with
 | .val _ _=>True
 | .fail=>True
 | _=>False
theorem VF.lift {r:ARes} (h:VF r) (m:Hp):VFφ (Rx.lift r m):=by cases r <;> first | trivial | exact h.elim
theorem vf_ofVal (H:Heap) (v:Option Value):VF (ofVal H v):=by cases v <;> trivial
theorem vf_hval (h:Hp) (v:Option Value):VFφ (hval h v):=by cases v <;> trivial
theorem vf_onOne (H:Heap) (v:Value) (r:Unit→Option Value):VF (onOne H v r):=by unfold onOne; split <;> first | exact vf_ofVal _ _ | trivial
theorem vf_onData (H:Heap) (v:List Value) (r:Unit→Option Value):VF (onData H v r):=by unfold onData; split <;> first | exact vf_ofVal _ _ | trivial
theorem vf_nil (H:Heap) (v:Value):VF (nilChecked H v):=by unfold nilChecked; repeat' (first | trivial | split)
theorem vf_build (ps:List (Nat×Value)) (i:TI) (H:Heap):VF (buildZ E H ps i):=by unfold buildZ buildTI aggIs; repeat' (first | trivial | split)
theorem vf_slice (v:Value) (lo hi mx:Option Value) (i:TI) (H:Heap):VF (sliceTI E H v lo hi mx i):=by unfold sliceTI cutVoid cutString cutNil cutLim cutObj cutExact cutOf cutLim cutOpen cutAll; repeat' (first | trivial | split)
theorem vf_cutExact (size r o:Nat) (b:Option (Nat×Nat×Nat)) (H:Heap):VF (cutExact H size r o b):=by unfold cutExact; repeat' (first | trivial | split)
theorem vf_cutOf (size r o:Nat) (n:Bool) (b:Option (Nat×Nat×Nat)) (H:Heap):VF (cutOf H size r o n b):=by unfold cutOf cutLim cutOpen cutAll; repeat' (first | trivial | split)

theorem reads_vf {op:Op} (hr:readsOnly op = true) (ty:TypeId) (φ:Frame) (h:Hp):VFφ (runφ E op ty φ h):=by
 cases op with
 | move x=>trivial
 | assign x=>trivial
 | pick c a b=>simp only [runφ]; split <;> trivial
 | build t ps=>simp only [runφ,hbuild]; split <;> first | exact (vf_build _ _ _).lift _ | trivial
 | load t a=>simp only [runφ,hptr]; split <;> first | exact vf_hval _ _ | trivial
 | nilCheck x=>exact (vf_nil _ _).lift _
 | binOp op t x y yt=>exact vf_hval _ _
 | unOp op t x=>exact (vf_onOne _ _ _).lift _
 | convert s d x=>simp only [runφ,hconvert,hconvSlice]; repeat' (first | exact vf_hval _ _ | trivial | split)
 | sliceToArrayPointer t x=>simp only [runφ]; refine VF.lift ?_ _; unfold toArrayTI toArray; repeat' (first | trivial | split)
 | makeInterface t x=>simp only [runφ]; refine VF.lift ?_ _; unfold ifaceOf; repeat' (first | trivial | split)
 | makeFunc f a b=>simp only [runφ]; refine VF.lift ?_ _; unfold funcOf; repeat' (first | trivial | split)
 | slice t x lo hi mx =>
  simp only [runφ]
  split
  ·unfold hslice
   repeat' (first | exact (vf_slice _ _ _ _ _ _).lift _ | trivial | split)
   unfold hcutObj
   repeat' (first | exact (vf_cutExact _ _ _ _ _).lift _ | exact (vf_cutOf _ _ _ _ _ _).lift _ | trivial | split)
  ·trivial
 | fieldAddr t x f=>simp only [runφ]; refine VF.lift ?_ _; unfold fieldAddrF fieldPtr; repeat' (first | trivial | split)
 | field t x f=>simp only [runφ]; refine VF.lift ?_ _; unfold fieldF partOf; repeat' (first | exact vf_ofVal _ _ | trivial | split)
 | indexAddr t x j=>simp only [runφ]; refine VF.lift ?_ _; unfold indexAddrTI elemPtr; repeat' (first | trivial | split)
 | index t x j=>simp only [runφ]; refine VF.lift ?_ _; unfold indexTI elemOf byteAt; repeat' (first | exact vf_ofVal _ _ | trivial | split)
 | lookup t x j ok=>exact vf_hval _ _
 | extract x i=>simp only [runφ]; refine VF.lift ?_ _; unfold extracted; repeat' (first | exact vf_ofVal _ _ | trivial | split)
 | call c =>
  obtain ⟨callee,args,ts⟩:=c
  cases callee with
  | builtin b=>cases b <;> first | exact vf_hval _ _ | exact (vf_onData _ _ _).lift _ | cases hr
  | value f=>cases hr
  | invoke r m=>cases hr
 | _=>cases hr

theorem draw_of_ops {ops:Array Oper} {ms:List Nat}:∀ {l:List Oper} {gs:List G} {i:Nat} {φ:Frame} {h:Hp} {Q:Frame→Hp→Prop},gsOf E z ops l = some gs→(drsOf ops ms i l).any Dr.chk = false→wpOps E gs φ h Q →
  wpDraw E gs (drsOf ops ms i l) φ h fun ns hs φ' h'=>(∀ N M,okAll E N M gs (drsOf ops ms i l) ns)∧Q φ' h'
 | [],gs,i,φ,h,Q,hg,hc,hw=>by
  cases hg
  exact ⟨fun N M=>trivial,hw⟩
 | o :: l,gs,i,φ,h,Q,hg,hc,hw=>by
  obtain ⟨g,gs',h1,h2,rfl⟩:=gsOf_cons hg
  obtain ⟨hd,q,hq,rfl⟩:=gOf_some h1
  simp only [drsOf,List.any_cons,Bool.or_eq_false_iff] at hc
  obtain ⟨hc1,hc2⟩:=hc
  simp only [wpDraw,drsOf]
  simp only [wpOps] at hw
  have hok:∀ (N:List Nt) (M:List Hp) (x:Nt) (xs:List Nt),okAll E N M gs' (drsOf ops ms (Nat.succ i) l) xs→okAll E N M (⟨o.dst,orRaw (typ E o.op) o.op o.type,q⟩ :: gs') (drOf ops ms i o :: drsOf ops ms (Nat.succ i) l) (x :: xs):=by
   intro N M x xs hx
   refine ⟨?_,hx⟩
   unfold okAt
   rw [hc1,Bool.and_false]
   trivial
  have lift:∀ {φ:Frame} {h:Hp} (f:List Nt→List Nt) (g:List Hp→List Hp),(∀ ns,∃ x,f ns = x :: ns)→wpDraw E gs' (drsOf ops ms (Nat.succ i) l) φ h (fun ns hs φ' h'=>(∀ N M,okAll E N M gs' (drsOf ops ms (Nat.succ i) l) ns)∧Q φ' h') →
    wpDraw E gs' (drsOf ops ms (Nat.succ i) l) φ h fun ns hs φ' h'=>(∀ N M,okAll E N M (⟨o.dst,orRaw (typ E o.op) o.op o.type,q⟩ :: gs') (drOf ops ms i o :: drsOf ops ms (Nat.succ i) l) (f ns))∧Q φ' h':=by
   intro φ h f g hf hx
   refine wpDraw_mono (fun ns hs φ' h' hy=>⟨fun N M=>?_,hy.2⟩) hx
   obtain ⟨x,e⟩:=hf ns
   rw [e]
   exact hok N M x ns (hy.1 N M)
  cases hb:gok φ q with
  | true =>
   rw [hb] at hw
   dsimp only at hw ⊢
   have hstep:∀ (turns:Bool) (x:HRes),(turns = false→VFφ x)→ResP E x (fun v h'=>wpOps E gs' (put φ o.dst v) h' Q) →
     DrP E turns x fun v h'=>wpDraw E gs' (drsOf ops ms (Nat.succ i) l) (put φ o.dst v) h' fun ns hs φ' h''=>(∀ N M,okAll E N M (⟨o.dst,orRaw (typ E o.op) o.op o.type,q⟩ :: gs') (drOf ops ms i o :: drsOf ops ms (Nat.succ i) l) (⟨φ,v,true⟩ :: ns))∧Q φ' h'':=by
    intro turns x hx hres
    have main:ResP E x fun v h'=>wpDraw E gs' (drsOf ops ms (Nat.succ i) l) (put φ o.dst v) h' fun ns hs φ' h''=>(∀ N M,okAll E N M (⟨o.dst,orRaw (typ E o.op) o.op o.type,q⟩ :: gs') (drOf ops ms i o :: drsOf ops ms (Nat.succ i) l) (⟨φ,v,true⟩ :: ns))∧Q φ' h'' :=
     ResP_mono (fun v h' hy=>lift (fun ns=>⟨φ,v,true⟩ :: ns) (fun hs=>hs) (fun ns=>⟨_,rfl⟩) (draw_of_ops h2 hc2 hy)) hres
    cases turns with
    | true=>exact main
    | false =>
     have hx:=hx rfl
     cases x with
     | val v h'=>exact main
     | fail=>exact main
     | call _ _ _=>exact hx.elim
     | yield _ _ _=>exact hx.elim
   refine hstep _ _ (fun ht=>?_) hw
   rw [drOf_eq] at ht
   have ht:chained false o = false:=ht
   have hv:readsOnly o.op = true→VFφ (runT E (orRaw (typ E o.op) o.op o.type) φ h):=fun hr=>by
    have h2:=reads_vf (E:=E) hr o.type φ h
    rcases runT_ok (E:=E) (φ:=φ) (h:=h) TyOk.ty o.op o.type with e | e
    ·rw [e]; trivial
    ·rw [e]; exact h2
   refine hv ?_
   cases hr:readsOnly o.op with
   | true=>rfl
   | false=>simp [chained,hr] at ht
  | false =>
   rw [hb] at hw
   exact lift (fun ns=>⟨φ,undef,false⟩ :: ns) (fun hs=>hs) (fun ns=>⟨_,rfl⟩) (draw_of_ops h2 hc2 hw)

theorem draw_ok [Unknowns] {ops:Array Oper} {gs:List G} (hd:drawOk false ops = true) (hg:gsOf E z ops ops.toList = some gs) {φ:Frame} {h:Hp} {Q:Frame→Hp→Prop} {ρ:T Value} {H:Heap} {m:List Nat} (hf:FR ρ φ) (ha:HR H h)
  (hw:wpDraw E gs (drsOf ops (masksOf ops) 0 ops.toList) φ h fun ns hs φ' h'=>okAll E ns (h :: hs) gs (drsOf ops (masksOf ops) 0 ops.toList) ns∧Q φ' h') :
  ∃ k ρ' H' φ' h',evDraw E (ev E k) ops ⟨ρ,z,H,rd,m⟩ = some (.normal,⟨ρ',z,H',rd,m⟩)∧FR ρ' φ'∧HR H' h'∧Q φ' h':=by
 obtain ⟨k,t,ρ',H',φ',h',ns,hs,t1,t2,t3,t4,⟨t5,t5'⟩,t6,t7⟩:=wpDraw_ok (rd:=rd) (m:=m) (n:=0) hg hf ha hw
 refine ⟨k,ρ',H',φ',h',?_,t3,t4,t5'⟩
 unfold evDraw
 rw [hd]
 show evAhead E (ev E k) false ops ⟨ρ,z,H,rd,m⟩ ([],H) = _
 unfold evAhead
 dsimp only
 show settled E false ops [] H (trace E (ev E k) false ops ops.toList [] ⟨ρ,z,H,rd,m⟩ 0) = _
 rw [t1]
 unfold settled
 dsimp only
 have hst:stable E false ops [] H t = true:=by
  unfold stable
  dsimp only
  unfold stableText
  split
  ·rfl
  ·rename_i H0 Hs hHs
   rw [← hHs]
   exact stableAll_of t6 (.cons ha t7) hg t6 t5
 rw [hst]
 dsimp only
 rw [t2]

end
section
variable [Unknowns] {E:Env} {z:Nat} {rd:Option Nat} [TyOk E]

theorem Wp.mono {c:Code} {s:Sx} {Q Q':Pst} (h:Wp E z rd c s Q) (k:∀ e s,Q e s→Q' e s):Wp E z rd c s Q':=fun ρ H hf ha=>by
 obtain ⟨n,e,s',e1,e2,e3,φ',h',f,a,q⟩:=h ρ H hf ha
 exact ⟨n,e,s',e1,e2,e3,φ',h',f,a,k _ _ q⟩

theorem Wp.seq {a b:Code} {s:Sx} {Q:Pst} {K:Sx→Prop} (h:Wp E z rd a s (seqP Q K)) (hb:∀ s,K s→Wp E z rd b s Q):Wp E z rd (.seq a b) s Q:=fun ρ H hf ha=>by
 obtain ⟨k1,e,s1,e1,z1,r1,φ1,h1,f1,a1,q1⟩:=h ρ H hf ha
 have push:∀ (k2:Nat) (x),evSeq (ev E (max k1 k2)) b (ev E (max k1 k2) a ⟨ρ,z,H,rd,s.m⟩) = some x→ev E (max k1 k2 + 1) (.seq a b) ⟨ρ,z,H,rd,s.m⟩ = some x:=fun _ _ h=>h
 cases e with
 | normal =>
  obtain ⟨t1,z1',H1,rd1,m1⟩:=s1
  dsimp only at z1 r1 f1 a1 q1
  subst z1 r1
  obtain ⟨k2,e,s2,e2,z2,r2,φ2,h2,f2,a2,q2⟩:=hb _ q1 t1 H1 f1 a1
  refine ⟨max k1 k2 + 1,e,s2,push k2 _ ?_,z2,r2,φ2,h2,f2,a2,q2⟩
  rw [ev_le E (Nat.le_max_left k1 k2) _ _ _ e1]
  exact ev_le E (Nat.le_max_right k1 k2) _ _ _ e2
 | ret =>
  refine ⟨max k1 0 + 1,.ret,s1,push 0 _ ?_,z1,r1,φ1,h1,f1,a1,q1⟩
  rw [ev_le E (Nat.le_max_left k1 0) _ _ _ e1]; rfl
 | exit id =>
  refine ⟨max k1 0 + 1,.exit id,s1,push 0 _ ?_,z1,r1,φ1,h1,f1,a1,q1⟩
  rw [ev_le E (Nat.le_max_left k1 0) _ _ _ e1]; rfl
 | goto id =>
  refine ⟨max k1 0 + 1,.goto id,s1,push 0 _ ?_,z1,r1,φ1,h1,f1,a1,q1⟩
  rw [ev_le E (Nat.le_max_left k1 0) _ _ _ e1]; rfl

theorem Wp.weak {c:Code} {s:Sx} {h:Hp} (l:h.Le s.h) {Q:Pst} (w:Wp E z rd c ⟨s.φ,h,s.m⟩ Q):Wp E z rd c s Q:=fun ρ H hf ha=>w ρ H hf (ha.weak l)

theorem Wp.loop {b:Code} {Q:Pst} (I:Nat→Sx→Prop) (hb:∀ n s,I n s→Wp E z rd b s (seqP Q fun s'=>∃ m h,m < n∧h.Le s'.h∧I m ⟨s'.φ,h,s'.m⟩)):∀ n s,I n s→Wp E z rd (.loop b) s Q:=by
 intro n
 induction n using Nat.strongRecOn with
 | ind n ih =>
  intro s hs ρ H hf ha
  have hseq:Wp E z rd (.seq b (.loop b)) s Q:=Wp.seq (hb n s hs) fun s' ⟨m,h,hm,hl,hi⟩=>Wp.weak hl (ih m hm _ hi)
  obtain ⟨k,e,s',e1,rest⟩:=hseq ρ H hf ha
  cases k with
  | zero=>cases e1
  | succ k=>exact ⟨k + 1,e,s',e1,rest⟩

theorem around_ok {H:Heap} {h:Hp} (ha:HR H h) {d:Nat} {m:List Nat} {h':Hp} (e:aroundφ h rd = some (d,m,h')):∃ H',around H rd = some (d,m,H')∧HR H' h':=by
 unfold aroundφ at e
 unfold around
 cases rd with
 | none =>
  cases e
  exact ⟨_,by rw [ha.next],ha.lay (ob:=.noDefers) (o:=.noDefers) trivial⟩
 | some l =>
  dsimp only at e ⊢
  split at e
  ·rename_i hl
   cases e
   obtain ⟨ob,h1,h2⟩:=ha.at_ _ _ hl
   cases ob <;> simp only [ORep] at h2
   obtain ⟨_,_,_,_,_,_,_,rfl⟩:=h2
   rw [h1]
   exact ⟨H,rfl,ha⟩
  ·cases e

theorem jump_ok {ρ:T Value} {φ:Frame} {H2:Heap} {h2:Hp} {m:List Nat} {Q:Pst} {l:Nat} (hf:FR ρ φ) (ha:HR H2 h2) (hj:jumpP φ m Q h2 l) (H0:Heap) :
  ∃ k e s',jumped (ev E k) ⟨ρ,z,H0,rd,m⟩ (pendingOf H2 l) = some (e,s')∧s'.size = z∧s'.round = rd∧∃ φ' h',FR s'.tmps φ'∧HR s'.heap h'∧Q e ⟨φ',h',s'.marks⟩:=by
 unfold jumpP at hj
 split at hj
 ·rename_i E0 st p φ' z' ps a b d hl
  obtain ⟨ob,h1,h2'⟩:=ha.at_ _ _ hl
  cases ob <;> simp only [ORep] at h2'
  rename_i st0 p0 tm0 z0 ps0 a0 b0 d0
  obtain ⟨rfl,hp,hft,rfl,rfl,hca,hcb,rfl⟩:=h2'
  obtain ⟨hnb,hq⟩:=hj
  have hpend:pendingOf H2 l = some (p0,H2.set l (.loop .exhausted p0 tm0 z0 ps0 a0 b0 d0)):=by
   unfold pendingOf pendingObj
   rw [h1]
   dsimp only
   rw [hnb]
  rw [hpend]
  have hset:HR (H2.set l (.loop .exhausted p0 tm0 z0 ps0 a0 b0 d0)) (h2.set l (.loop E0 .exhausted p φ' z0 ps0 a b d0)):=ha.set l ⟨rfl,hp,hft,rfl,rfl,hca,hcb,rfl⟩
  cases p with
  | none =>
   cases hp
   exact ⟨0,.normal,⟨ρ,z,_,rd,m⟩,rfl,rfl,rfl,φ,_,hf,hset,hq⟩
  | some e =>
   cases e with
   | normal=>cases hp; exact ⟨1,.normal,⟨ρ,z,_,rd,m⟩,rfl,rfl,rfl,φ,_,hf,hset,hq⟩
   | ret=>cases hp; exact ⟨1,.ret,⟨ρ,z,_,rd,m⟩,rfl,rfl,rfl,φ,_,hf,hset,hq⟩
   | exit id=>cases hp; exact ⟨1,.exit id,⟨ρ,z,_,rd,m⟩,rfl,rfl,rfl,φ,_,hf,hset,hq⟩
   | goto id=>cases hp; exact ⟨1,.goto id,⟨ρ,z,_,rd,m⟩,rfl,rfl,rfl,φ,_,hf,hset,hq⟩
 ·exact hj.elim

theorem range_wp {f:Operand} {ps:Array Tmp} {a b:Code} {ca cb:C} (hca:comp E z a = some ca) (hcb:comp E z b = some cb) {s:Sx} {Q:Pst} (hw:rangeP E z (evφ s.φ f) ps ca cb s Q (aroundφ s.h rd)):Wp E z rd (.rangeFunc f ps a b) s Q:=fun ρ H hf ha=>by
 cases har:aroundφ s.h rd with
 | none=>rw [har] at hw; exact hw.elim
 | some x =>
  obtain ⟨d,m,h⟩:=x
  rw [har] at hw
  obtain ⟨H1,e1,a1⟩:=around_ok ha har
  unfold rangeP at hw
  dsimp only at hw
  split at hw
  ·rename_i fn first captured hfv
   split at hw
   ·rename_i g
    obtain ⟨hcl,hw⟩:=hw
    have hlay:HR (loopLaid ⟨ρ,z,H,rd,s.m⟩ ps a b d H1) (h.lay (.loop E .ready none s.φ z ps ca cb d)):=a1.lay ⟨rfl,rfl,hf,rfl,rfl,hca,hcb,rfl⟩
    obtain ⟨k1,v,H2,h2,e2,a2,q2⟩:=hw _ hlay
    obtain ⟨k2,e,s',e3,z3,r3,rest⟩:=jump_ok (E:=E) (rd:=rd) (z:=z) hf a2 q2 H
    refine ⟨max k1 k2 + 1,e,s',?_,z3,r3,rest⟩
    show evRange E (ev E (max k1 k2)) f ps a b ⟨ρ,z,H,rd,s.m⟩ = _
    unfold evRange
    dsimp only
    rw [e1]
    unfold rangeAt
    dsimp only
    have hc:aCall E (loopLaid ⟨ρ,z,H,rd,s.m⟩ ps a b d H1) (.func (.func g) first captured) [yieldVal h.next] = .call g (first.toList ++ [yieldVal h.next] ++ captured.toList) (loopLaid ⟨ρ,z,H,rd,s.m⟩ ps a b d H1):=callable_ok hcl _ _
    rw [hf.eval,a1.next,hfv,hc]
    simp only [called]
    rw [enter_le (ev_le E (Nat.le_max_left k1 k2)) e2]
    unfold rangedOver
    dsimp only
    exact jumped_le (ev_le E (Nat.le_max_right k1 k2)) e3
   ·exact hw.elim
  ·exact hw.elim

theorem wp_ok:∀ {code:Code} {c:C} {s:Sx} {Q:Pst},comp E z code = some c→wp E z rd c s Q→Wp E z rd code s Q:=by
 intro code
 induction code with
 | skip=>intro c s Q hc hw; cases hc; exact fun ρ H hf ha=>⟨1,.normal,_,rfl,rfl,rfl,_,_,hf,ha,hw⟩
 | label l=>intro c s Q hc hw; cases hc; exact fun ρ H hf ha=>⟨1,.normal,_,rfl,rfl,rfl,_,_,hf,ha,hw⟩
 | ret=>intro c s Q hc hw; cases hc; exact fun ρ H hf ha=>⟨1,.ret,_,rfl,rfl,rfl,_,_,hf,ha,hw⟩
 | exit id=>intro c s Q hc hw; cases hc; exact fun ρ H hf ha=>⟨1,.exit id,_,rfl,rfl,rfl,_,_,hf,ha,hw⟩
 | goto l=>intro c s Q hc hw; cases hc; exact fun ρ H hf ha=>⟨1,.goto l,_,rfl,rfl,rfl,_,_,hf,ha,hw⟩
 | region id ops draw =>
  intro c s Q hc hw ρ H hf ha
  cases draw with
  | false =>
   unfold comp at hc
   split at hc
   ·rename_i l hl
    cases hc
    obtain ⟨k,ρ',H',φ',h',e1,f1,a1,q1⟩:=wpOps_ok (rd:=rd) (m:=s.m) hl hf ha hw
    exact ⟨k + 1,.normal,_,e1,rfl,rfl,φ',h',f1,a1,q1⟩
   ·cases hc
  | true =>
   unfold comp at hc
   split at hc
   ·rename_i hd
    split at hc
    ·rename_i l hl
     split at hc
     ·cases hc
      obtain ⟨k,ρ',H',φ',h',e1,f1,a1,q1⟩:=draw_ok (E:=E) (rd:=rd) (m:=s.m) (Q:=fun φ h=>Q .normal ⟨φ,h,s.m⟩) hd hl hf ha hw
      exact ⟨k + 1,.normal,_,e1,rfl,rfl,φ',h',f1,a1,q1⟩
     ·rename_i hany
      cases hc
      have hany:(drsOf ops (masksOf ops) 0 ops.toList).any Dr.chk = false:=by simpa using hany
      have hw':=draw_of_ops hl hany hw
      obtain ⟨k,ρ',H',φ',h',e1,f1,a1,q1⟩:=draw_ok (E:=E) (rd:=rd) (m:=s.m) (Q:=fun φ h=>Q .normal ⟨φ,h,s.m⟩) hd hl hf ha (wpDraw_mono (fun ns hs φ h hy=>⟨hy.1 _ _,hy.2⟩) hw')
      exact ⟨k + 1,.normal,_,e1,rfl,rfl,φ',h',f1,a1,q1⟩
    ·cases hc
   ·rename_i hd0
    split at hc
    ·rename_i hdc
     rw [Bool.and_eq_true] at hdc
     split at hc
     ·rename_i l hl
      split at hc
      ·rename_i htl
       cases hc
       obtain ⟨k,ρ',H',φ',h',e1,f1,a1,q1⟩:=ahead_ok (E:=E) (rd:=rd) (m:=s.m) (Q:=fun φ h=>Q .normal ⟨φ,h,s.m⟩) hd0 hdc.1 hdc.2 hl htl hf ha hw
       exact ⟨k + 1,.normal,_,e1,rfl,rfl,φ',h',f1,a1,q1⟩
      ·cases hc
       exact (show False from hw).elim
     ·cases hc
    ·split at hc
     ·rename_i hdc
      rw [Bool.and_eq_true] at hdc
      split at hc
      ·rename_i l hl
       cases hc
       obtain ⟨k,ρ',H',φ',h',e1,f1,a1,q1⟩:=dry_ok (E:=E) (rd:=rd) (m:=s.m) (Q:=fun φ h=>Q .normal ⟨φ,h,s.m⟩) (by simpa using hd0) hdc.1 (by simpa using hdc.2) hl hf ha hw
       exact ⟨k + 1,.normal,_,e1,rfl,rfl,φ',h',f1,a1,q1⟩
      ·cases hc
     ·cases hc
      exact (show False from hw).elim
 | seq a b iha ihb =>
  intro c s Q hc hw
  unfold comp at hc
  split at hc
  ·rename_i ca hca
   split at hc
   ·rename_i cb hcb
    cases hc
    exact Wp.seq (iha hca hw) fun s' h=>ihb hcb h
   ·cases hc
  ·cases hc
 | cond x a b iha ihb =>
  intro c s Q hc hw ρ H hf ha
  unfold comp at hc
  split at hc
  ·rename_i ca hca
   split at hc
   ·rename_i cb hcb
    cases hc
    simp only [wp] at hw
    unfold CondP at hw
    split at hw
    ·rename_i bb hbb
     cases bb with
     | true =>
      obtain ⟨k,e,s',e1,rest⟩:=iha hca (hw.1 rfl) ρ H hf ha
      refine ⟨k + 1,e,s',?_,rest⟩
      show evCond (ev E k) a b _ (Rx.eval ρ x) = _
      rw [hf.eval,hbb]; exact e1
     | false =>
      obtain ⟨k,e,s',e1,rest⟩:=ihb hcb (hw.2 rfl) ρ H hf ha
      refine ⟨k + 1,e,s',?_,rest⟩
      show evCond (ev E k) a b _ (Rx.eval ρ x) = _
      rw [hf.eval,hbb]; exact e1
    ·exact hw.elim
   ·cases hc
  ·cases hc
 | block id b ih =>
  intro c s Q hc hw ρ H hf ha
  unfold comp at hc
  split at hc
  ·rename_i cb hcb
   cases hc
   obtain ⟨k,e,s',e1,z1,r1,φ',h',f1,a1,q1⟩:=ih hcb hw ρ H hf ha
   have hev:ev E (k + 1) (.block id b) ⟨ρ,z,H,rd,s.m⟩ = evBlock id (some (e,s')):=by
    show evBlock id (ev E k b _) = _
    rw [e1]
   cases e with
   | exit id' =>
    unfold evBlock at hev
    dsimp only at hev
    unfold blockP at q1
    dsimp only at q1
    cases hid:Nat.beq id' id with
    | true=>rw [hid] at hev q1; exact ⟨k + 1,_,_,hev,z1,r1,φ',h',f1,a1,q1⟩
    | false=>rw [hid] at hev q1; exact ⟨k + 1,_,_,hev,z1,r1,φ',h',f1,a1,q1⟩
   | normal=>exact ⟨k + 1,_,_,hev,z1,r1,φ',h',f1,a1,q1⟩
   | ret=>exact ⟨k + 1,_,_,hev,z1,r1,φ',h',f1,a1,q1⟩
   | goto l=>exact ⟨k + 1,_,_,hev,z1,r1,φ',h',f1,a1,q1⟩
  ·cases hc
 | scope b ih =>
  intro c s Q hc hw ρ H hf ha
  unfold comp at hc
  split at hc
  ·rename_i cb hcb
   cases hc
   obtain ⟨k,e,s',e1,z1,r1,φ',h',f1,a1,q1⟩:=ih hcb hw ρ H hf ha
   have hev:ev E (k + 1) (.scope b) ⟨ρ,z,H,rd,s.m⟩ = evScope (some (e,s')):=by
    show evScope (ev E k b _) = _
    rw [e1]
   cases e with
   | goto l=>exact q1.elim
   | exit id'=>exact ⟨k + 1,_,_,hev,z1,r1,φ',h',f1,a1,q1⟩
   | normal=>exact ⟨k + 1,_,_,hev,z1,r1,φ',h',f1,a1,q1⟩
   | ret=>exact ⟨k + 1,_,_,hev,z1,r1,φ',h',f1,a1,q1⟩
  ·cases hc
 | loop b ih =>
  intro c s Q hc hw
  unfold comp at hc
  split at hc
  ·rename_i cb hcb
   cases hc
   obtain ⟨I,n,h0,hl,hn,hI⟩:=hw
   exact Wp.weak hl (Wp.loop I (fun n s hs=>ih hcb (hI n s hs)) n _ hn)
  ·cases hc
 | rangeFunc f ps a b iha ihb =>
  intro c s Q hc hw
  unfold comp at hc
  split at hc
  ·rename_i ca hca
   split at hc
   ·rename_i cb hcb
    cases hc
    exact range_wp hca hcb hw
   ·cases hc
  ·cases hc
 | _=>intro c s Q hc hw; cases hc; exact (show False from hw).elim
end

section
variable {E:Env} {z:Nat} {rd:Option Nat} [TyOk E]

theorem jumpP_mono {φ:Frame} {m:List Nat} {Q Q':Pst} {h:Hp} {l:Nat} (k:∀ e s,Q e s→Q' e s):jumpP φ m Q h l→jumpP φ m Q' h l:=by
 unfold jumpP
 cases h.at l with
 | none=>exact fun q=>q
 | some ob =>
  cases ob with
  | loop E st p φ' z ps a b d =>
   cases p with
   | none=>exact fun q=>⟨q.1,k _ _ q.2⟩
   | some p=>exact fun q=>⟨q.1,k _ _ q.2⟩
  | _=>exact fun q=>q

theorem wpOps_mono:∀ {gs:List G} {φ:Frame} {h:Hp} {Q Q':Frame→Hp→Prop},(∀ φ h,Q φ h→Q' φ h)→wpOps E gs φ h Q→wpOps E gs φ h Q'
 | [],φ,h,Q,Q',k,hw=>k _ _ hw
 | g :: l,φ,h,Q,Q',k,hw=>by
  unfold wpOps at hw ⊢
  cases hb:gok φ g.g with
  | true=>rw [hb] at hw; exact ResP_mono (fun v h' hy=>wpOps_mono k hy) hw
  | false=>rw [hb] at hw; exact wpOps_mono k hw

theorem wpLays_mono:∀ {gs:List G} {ls:List Bool} {ns:List Nt} {h:Hp} {K K':List (Option Nat)→Hp→Prop},(∀ as h,K as h→K' as h)→wpLays gs ls ns h K→wpLays gs ls ns h K'
 | [],ls,ns,h,K,K',k,w=>by unfold wpLays at w ⊢; exact k _ _ w
 | g :: l,[],ns,h,K,K',k,w=>by unfold wpLays at w ⊢; exact k _ _ w
 | g :: l,b :: bs,[],h,K,K',k,w=>by unfold wpLays at w ⊢; exact k _ _ w
 | g :: l,b :: bs,n :: ns,h,K,K',k,w=>by
  unfold wpLays at w ⊢
  cases b with
  | false=>exact wpLays_mono (fun as h hy=>k _ _ hy) w
  | true =>
   dsimp only at w ⊢
   cases hn:n.done with
   | true=>rw [hn] at w; exact lay2P_mono (fun f e c hy=>wpLays_mono (fun as h hz=>k _ _ hz) hy) w
   | false=>rw [hn] at w; exact wpLays_mono (fun as h hy=>k _ _ hy) w
theorem wpDryA_mono:∀ {gs:List G} {ds:List Dr} {ls:List Bool} {as:List (Option Nat)} {φ:Frame} {h:Hp} {K K':List Nt→List Ld→List Hp→Frame→Hp→Prop},(∀ ns os hs φ h,K ns os hs φ h→K' ns os hs φ h)→wpDryA E gs ds ls as φ h K→wpDryA E gs ds ls as φ h K'
 | [],ds,ls,as,φ,h,K,K',k,w=>by unfold wpDryA at w ⊢; exact k _ _ _ _ _ w
 | g :: l,[],ls,as,φ,h,K,K',k,w=>by unfold wpDryA at w; exact w.elim
 | g :: l,d :: ds,[],as,φ,h,K,K',k,w=>by unfold wpDryA at w; exact w.elim
 | g :: l,d :: ds,b :: bs,as,φ,h,K,K',k,w=>by
  unfold wpDryA at w ⊢
  dsimp only at w ⊢
  cases hb:gok φ g.g with
  | false=>rw [hb] at w; exact wpDryA_mono (fun ns os hs φ h hz=>k _ _ _ _ _ hz) w
  | true =>
   rw [hb] at w
   dsimp only at w ⊢
   cases b with
   | true =>
    dsimp only at w ⊢
    match as,w with
    | some r :: as,w=>exact lay2P_mono (fun f e c hy=>wpDryA_mono (fun ns os hs φ h hz=>k _ _ _ _ _ hz) hy) w
   | false =>
    dsimp only at w ⊢
    match as,w with
    | none :: as,w=>exact DrP_mono (fun v h' hy=>wpDryA_mono (fun ns os hs φ h hz=>k _ _ _ _ _ hz) hy) w
theorem wp_mono:∀ {c:C} {s:Sx} {Q Q':Pst},(∀ e s,Q e s→Q' e s)→wp E z rd c s Q→wp E z rd c s Q':=by
 intro c
 induction c with
 | skip=>intro s Q Q' k hw; exact k _ _ hw
 | ret=>intro s Q Q' k hw; exact k _ _ hw
 | exit id=>intro s Q Q' k hw; exact k _ _ hw
 | goto l=>intro s Q Q' k hw; exact k _ _ hw
 | ops l=>intro s Q Q' k hw; exact wpOps_mono (fun φ h hy=>k _ _ hy) hw
 | draw l ds=>intro s Q Q' k hw; exact wpDraw_mono (fun ns hs φ h hy=>⟨hy.1,k _ _ hy.2⟩) hw
 | ahead l ds ls=>intro s Q Q' k hw; exact wpAhead_mono (fun ns hs φ h hy=>⟨hy.1,k _ _ hy.2⟩) hw
 | dry l df ds ls=>intro s Q Q' k hw; exact wpDraw_mono (fun n1 _ _ _ hy=>wpLays_mono (fun as h0 hy=>wpDryA_mono (fun ns os hs φ h hy=>⟨hy.1,k _ _ hy.2⟩) hy) hy) hw
 | seq a b iha ihb =>
  intro s Q Q' k hw
  refine iha (fun e s' hy=>?_) hw
  cases e with
  | normal=>exact ihb k hy
  | _=>exact k _ _ hy
 | cond x a b iha ihb =>
  intro s Q Q' k hw
  simp only [wp] at hw ⊢
  unfold CondP at hw ⊢
  split
  ·rename_i bb hbb
   rw [hbb] at hw
   exact ⟨fun h=>iha k (hw.1 h),fun h=>ihb k (hw.2 h)⟩
  ·rename_i hne
   split at hw
   ·rename_i bb hbb; exact absurd hbb (hne _)
   ·exact hw
 | block id b ih =>
  intro s Q Q' k hw
  refine ih (fun e s' hy=>?_) hw
  cases e with
  | exit id' =>
   unfold blockP at hy ⊢
   dsimp only at hy ⊢
   cases hid:Nat.beq id' id with
   | true=>rw [hid] at hy; exact k _ _ hy
   | false=>rw [hid] at hy; exact k _ _ hy
  | _=>exact k _ _ hy
 | scope b ih =>
  intro s Q Q' k hw
  refine ih (fun e s' hy=>?_) hw
  cases e with
  | goto l=>exact hy
  | _=>exact k _ _ hy
 | loop b ih =>
  intro s Q Q' k hw
  obtain ⟨I,n,h0,hl,hn,hI⟩:=hw
  refine ⟨I,n,h0,hl,hn,fun n s hs=>ih (fun e s' hy=>?_) (hI n s hs)⟩
  cases e with
  | normal=>exact hy
  | _=>exact k _ _ hy
 | range f ps a b _ _ =>
  intro s Q Q' k hw
  simp only [wp] at hw ⊢
  unfold rangeP at hw ⊢
  split
  ·rename_i d m h har
   rw [har] at hw
   dsimp only at hw
   split
   ·rename_i fn first captured hfv
    rw [hfv] at hw
    dsimp only at hw
    split
    ·refine ⟨hw.1,fun H0 a0=>?_⟩
     obtain ⟨n,v,H',h',e,a',q⟩:=hw.2 H0 a0
     exact ⟨n,v,H',h',e,a',jumpP_mono k q⟩
    ·rename_i hne
     split at hw
     ·exact absurd rfl (hne _)
     ·exact hw
   ·rename_i hne
    split at hw
    ·rename_i hc; exact absurd hc (hne _ _ _)
    ·exact hw
  ·rename_i har
   rw [har] at hw
   exact hw
end

end
end Go.Rx
