/- The executor: a run of closed code over names, and its store. -/
import Derived.RangeFuncLeaves
import GoSem.Dispatch
import GoSem.Step
set_option linter.unusedVariables false
namespace Go.Rx
noncomputable section
variable {α β:Type}

def kV (l:List β):Nat→Option β :=
 @List.rec β (fun _=>Nat→Option β) (fun _=>none) (fun x _ ih k=>@Nat.rec (fun _=>Option β) (some x) (fun m _=>ih m) k) l

def U0 (y:β) (l:List β):List β:=@List.rec β (fun _=>List β) [y] (fun h t _=>y :: h :: t) l
def pad (d:β) (tl:List β) (k:Nat):List β:=@Nat.rec (fun _=>List β) tl (fun _ ih=>d :: ih) k
def Kt (d:β) (l:List β):Nat→β→List β :=
 @List.rec β (fun _=>Nat→β→List β) (fun k x=>pad d [x] k) (fun y ys ih k x=>@Nat.rec (fun _=>List β) (x :: ys) (fun m _=>U0 y (ih m x)) k) l

structure T (α:Type) where
 rows:List (List (List (Option α)))

def T.empty:T α:=⟨[]⟩

def tL (o:Option (List β)):List β:=@Option.rec (List β) (fun _=>List β) [] (fun l=>l) o

def T.get (t:T α) (k:Nat):Option α :=
 @Option.rec (Option α) (fun _=>Option α) none (fun x=>x)
  (kV (tL (kV (tL (kV t.rows (Nat.div k (nat_lit 64)))) (Nat.mod (Nat.div k (nat_lit 8)) (nat_lit 8)))) (Nat.mod k (nat_lit 8)))

def strict {γ:Type} (l:List β) (k:List β→γ):γ:=@List.rec β (fun _=>γ) (k []) (fun h t _=>k (h :: t)) l

def T.put (t:T α) (k:Nat) (x:α):T α :=
 strict (tL (kV t.rows (Nat.div k (nat_lit 64)))) fun m =>
 strict (Kt none (tL (kV m (Nat.mod (Nat.div k (nat_lit 8)) (nat_lit 8)))) (Nat.mod k (nat_lit 8)) (some x)) fun l =>
 strict (Kt [] m (Nat.mod (Nat.div k (nat_lit 8)) (nat_lit 8)) l) fun m =>
 strict (Kt [] t.rows (Nat.div k (nat_lit 64)) m) fun r=>⟨r⟩

theorem FQ (k:Nat):kV ([]:List β) k = none:=rfl
theorem zu (x:β) (l:List β):kV (x :: l) 0 = some x:=rfl
theorem nN (x:β) (l:List β) (k:Nat):kV (x :: l) (k + 1) = kV l k:=rfl

theorem jI (l:List β):∀ k,kV l k = l[k]?:=by
 induction l with
 | nil=>intro k; simp [FQ]
 | cons x l ih=>intro k; cases k with
  | zero=>simp [zu]
  | succ k=>simp [nN,ih]

theorem U1 (y:β) (l:List β):U0 y l = y :: l:=by cases l <;> rfl

theorem U2 (d x:β) (k j:Nat):kV (pad d [x] k) j = if j = k then some x else if j < k then some d else none:=by
 induction k generalizing j with
 | zero=>cases j with
  | zero=>rfl
  | succ j=>simp [show pad d [x] 0 = [x] from rfl,nN,FQ]
 | succ k ih =>
  have e:pad d [x] (k + 1) = d :: pad d [x] k:=rfl
  rw [e]
  cases j with
  | zero=>simp [zu]
  | succ j=>rw [nN,ih]; simp

theorem Jz (d:β) (l:List β) (k j:Nat) (x:β):kV (Kt d l k x) j = if j = k then some x else if j < l.length then kV l j else if j < k then some d else none:=by
 induction l generalizing k j with
 | nil=>simpa [Kt,FQ] using U2 d x k j
 | cons y l ih =>
  cases k with
  | zero =>
   have e:Kt d (y :: l) 0 x = x :: l:=rfl
   rw [e]
   cases j with
   | zero=>simp [zu]
   | succ j =>
    rw [nN,nN]
    by_cases h:j < l.length
    ·simp [h]
    ·have:kV l j = none:=by rw [jI]; simp; omega
     simp [h,this]
  | succ k =>
   have e:Kt d (y :: l) (k + 1) x = U0 y (Kt d l k x):=rfl
   rw [e,U1]
   cases j with
   | zero=>simp [zu]
   | succ j=>rw [nN,ih,nN]; simp

theorem JA {γ:Type} (l:List β) (k:List β→γ):strict l k = k l:=by cases l <;> rfl

theorem pG (l:List (List β)) (k j:Nat) (x:List β):tL (kV (Kt [] l k x) j) = if j = k then x else tL (kV l j):=by
 rw [Jz]
 by_cases h:j = k
 ·simp [h,tL]
 ·simp only [h,if_false]
  by_cases h1:j < l.length
  ·simp [h1]
  ·have:kV l j = none:=by rw [jI]; simp; omega
   rw [this]
   by_cases h2:j < k <;> simp [h1,h2,tL]

theorem T.mJ (k:Nat):(T.empty:T α).get k = none:=rfl

theorem T.get_put (t:T α) (k j:Nat) (x:α):(t.put k x).get j = if j = k then some x else t.get j:=by
 unfold T.put
 simp only [JA]
 unfold T.get
 have d:∀ a b:Nat,Nat.div a b = a / b:=fun _ _=>rfl
 have m:∀ a b:Nat,Nat.mod a b = a % b:=fun _ _=>rfl
 simp only [d,m]
 have adF:∀ l:List (Option α),tL (some l) = l:=fun _=>rfl
 by_cases h1:j / 64 = k / 64
 ·by_cases h2:j / 8 % 8 = k / 8 % 8
  ·simp only [pG,h1,h2,if_true]
   rw [Jz]
   by_cases h3:j % 8 = k % 8
   ·have:j = k:=by omega
    subst this; simp
   ·have:j≠k:=fun e=>h3 (by rw [e])
    simp only [h3,if_false,this]
    by_cases h4:j % 8 < (tL (kV (tL (kV t.rows (k / 64))) (k / 8 % 8))).length
    ·simp only [h4,if_true]
    ·have e:kV (tL (kV (tL (kV t.rows (k / 64))) (k / 8 % 8))) (j % 8) = none:=by rw [jI]; simp; omega
     rw [e]
     by_cases h5:j % 8 < k % 8 <;> simp only [h4,h5,if_true,if_false]
  ·have:j≠k:=fun e=>h2 (by rw [e])
   simp only [pG,h1,h2,if_true,if_false,this]
 ·have:j≠k:=fun e=>h1 (by rw [e])
  simp only [pG,h1,if_false,this]

def Pf {γ:Type} (t:T α) (k:T α→γ):γ:=@T.rec α (fun _=>γ) (fun r=>strict r fun r=>k ⟨r⟩) t

theorem JB {γ:Type} (t:T α) (k:T α→γ):Pf t k = k t:=by cases t; simp [Pf,JA]

def T.ofList (t:T α) (k:Nat):List α→T α
 | []=>t
 | x :: xs=>Pf (t.put k x) fun t=>T.ofList t (Nat.succ k) xs

theorem T.fQ (l:List α):∀ (t:T α) (k j:Nat),(T.ofList t k l).get j = if k≤j∧j < k + l.length then l[j - k]? else t.get j:=by
 induction l with
 | nil=>intro t k j; simp [T.ofList]; intros; omega
 | cons x xs ih =>
  intro t k j
  simp only [T.ofList,JB,ih,T.get_put,Nat.succ_eq_add_one,List.length_cons]
  by_cases h:j = k
  ·subst h; simp; omega
  ·by_cases h1:k + 1≤j∧j < k + 1 + xs.length
   ·have:k≤j∧j < k + (xs.length + 1):=by omega
    simp only [h1,this,and_self,if_true]
    have e:j - k = (j - (k + 1)) + 1:=by omega
    rw [e,List.getElem?_cons_succ]
   ·have:¬ (k≤j∧j < k + (xs.length + 1)):=by omega
    simp only [h1,this,if_false,h]

def T.read (t:T α) (k:Nat):Nat→Option (List α)
 | 0=>some []
 | m + 1=>match t.get k with
  | none=>none
  | some x=>match T.read t (Nat.succ k) m with
   | none=>none
   | some xs=>some (x :: xs)

theorem T.tN (t:T α):∀ (m k:Nat) (l:List α),t.read k m = some l→l.length = m∧∀ i,i < m→t.get (k + i) = l[i]?:=by
 intro m
 induction m with
 | zero=>intro k l h; simp [T.read] at h; subst h; simp
 | succ m ih =>
  intro k l h
  simp only [T.read] at h
  cases hx:t.get k with
  | none=>simp [hx] at h
  | some x =>
   simp only [hx] at h
   cases hs:t.read (Nat.succ k) m with
   | none=>simp [hs] at h
   | some xs =>
    simp only [hs] at h
    cases h
    obtain ⟨h1,h2⟩:=ih _ _ hs
    refine ⟨by simp [h1],fun i hi=>?_⟩
    cases i with
    | zero=>simp [hx]
    | succ i=>have:=h2 i (by omega); rw [Nat.succ_eq_add_one] at this; rw [show k + (i + 1) = k + 1 + i from by omega,this]; simp

end
end Go.Rx

namespace Go.Rx
noncomputable section

inductive gP where
 | row (elem:TypeId) (n:Nat) (exact:Bool) (cells:T Value)
 | map (es:List (Value×Value×Nat)) (clock:Nat)
 | loop (state:LoopState) (pending:Option Code) (tmps:T Value) (size:Nat) (params:Array Tmp) (assign body:Code) (defers:Nat)
 | dX
 | iter (s:ByteArray) (pos:Nat)
 | pI (n:Nat) (cells:T Value)
 | dead

structure Heap where
 next:Nat
 objs:T gP

inductive dL where
 | val (v:Value) (H:Heap)
 | call (f:FuncId) (args:List Value) (H:Heap)
 | yield (l:Nat) (args:List Value) (H:Heap)
 | fail

def gU {β:Type} (n:Nat) (k:Nat→β):β:=match n with
 | 0=>k 0
 | m + 1=>k (Nat.succ m)
def Mt {β:Type} (n:Int) (k:Int→β):β:=match n with
 | .ofNat m=>gU m fun m=>k (.ofNat m)
 | .negSucc m=>gU m fun m=>k (.negSucc m)
def SK {β:Type} (b:Bool) (k:Value→β):β:=match b with
 | true=>k (.bool true)
 | false=>k (.bool false)
def Mv {β:Type} (a:Option Addr) (k:Value→β):β:=match a with
 | some ⟨b,o,none⟩=>gU b fun b=>gU o fun o=>k (.pointer (some ⟨b,o,none⟩))
 | a=>k (.pointer a)
def FT {β:Type} (a:Option Addr) (l c:Nat) (k:Value→β):β:=match a with
 | some ⟨b,o,none⟩=>gU b fun b=>gU o fun o=>gU l fun l=>gU c fun c=>k (.slice (some ⟨b,o,none⟩) l c)
 | a=>k (.slice a l c)
def force {β:Type} (v:Value) (k:Value→β):β:=match v with
 | .bool b=>SK b k
 | .int i n=>Mt n fun n=>k (.int i n)
 | .pointer a=>Mv a k
 | .slice a l c=>FT a l c k
 | v=>k v

def bV {α:Type} (P:Program):Sem α→Option α
 | .pure a=>some a
 | .program k=>bV P (k P)
 | _=>none

def dQ:Nat→Value→Bool
 | _,.bool _ | _,.int _ _ | _,.string _ | _,.float _ _=>true
 | _,.pointer none | _,.map none | _,.nilFunc | _,.nilIface | _,.slice none _ _=>true
 | m + 1,.agg cs=>cs.toList.all (dQ m)
 | _,_=>false

structure TI where
 desc:TypeDesc
 agg:Bool
 size:Nat
 bytes:Nat
 zero:Option Value

def tO:TypeDesc→Bool
 | .struct _ | .array _ _=>true
 | _=>false

def jq (v:Option Value):Option Value:=match v with
 | some v=>match dQ 3 v with
  | true=>some v
  | false=>none
 | none=>none

def kW (P:Program) (t:TypeId):Option TI:=match P.underlying t with
 | some d=>match P.info? t with
  | some i=>some { desc:=d,agg:=tO d,size:=i.size,bytes:=i.bytes,zero:=jq i.zero }
  | none=>none
 | none=>none

structure Env where
 prog:Program
 ti:T (Option TI)
 fn:T Func
 /-- What calls are known to answer. -/
 memo:FuncId→List Value→Option Value
 /-- What operators are known to yield where an operand is unknown. -/
 bin:BinOp→Value→Value→Option Value
 /-- What calls are known to answer whose arguments lie in memory. -/
 BD:FuncId→List Value→Heap→Option (Value×Heap)
 /-- What conversions are known to yield of what is unknown. -/
 conv:TypeDesc→Value→Option Value

def Env.of (P:Program) (memo:FuncId→List Value→Option Value:=fun _ _=>none) (bin:BinOp→Value→Value→Option Value:=fun _ _ _=>none) (conv:TypeDesc→Value→Option Value:=fun _ _=>none) (BD:FuncId→List Value→Heap→Option (Value×Heap):=fun _ _ _=>none):Env :=
 { prog:=P,ti:=T.ofList T.empty 0 ((List.range P.types.size).map (kW P)),fn:=T.ofList T.empty 0 P.funcs.toList,memo:=memo,bin:=bin,conv:=conv,BD:=BD }

def Env.ty (E:Env) (t:TypeId):Option TI:=match E.ti.get t with
 | some r=>r
 | none=>none

def Heap.set (H:Heap) (r:Nat) (o:gP):Heap:={ next:=H.next,objs:=H.objs.put r o }

def laid (v:Nat→Value) (H:Heap) (o:gP):dL :=
 gU (Nat.succ H.next) fun n=>.val (v H.next) { next:=n,objs:=H.objs.put H.next o }

def ptr (r o:Nat):Value:=.pointer (some ⟨r,o,none⟩)
def xk (r:Nat):Value:=.pointer (some ⟨r,0,none⟩)
def slc (r o l c:Nat):Value:=.slice (some ⟨r,o,none⟩) l c
def lim (r o l c:Nat):Value:=.slice (some ⟨r,o,some 1⟩) l c
def void:Value:=.slice (some ⟨0,0,some 2⟩) 0 0
def fT:Option Nat→Bool
 | some 2=>true
 | _=>false
def jO:Option Addr→Bool
 | some ⟨_,_,sp⟩=>fT sp
 | none=>false
def bK (r:Nat):Value:=.map (some r)

def rowOf (elem:TypeId) (cells:List Value) (exact:Bool):gP:=.row elem cells.length exact (T.ofList T.empty 0 cells)

def oneCell:Value→Bool
 | .agg _ | .tuple _ | .chan _=>false
 | _=>true

def AJ (o m n:Nat) (cs:T Value):Option (List Value):=match Nat.ble (Nat.add o m) n with
 | true=>cs.read o m
 | false=>none
def BF (o m:Nat) (x:Option gP):Option (List Value):=match x with
 | some (.row _ n _ cs)=>AJ o m n cs
 | some (.pI n cs)=>AJ o m n cs
 | _=>none
def loadCells (H:Heap) (r o m:Nat):Option (List Value):=BF o m (H.objs.get r)

def Ku (H:Heap) (r o:Nat) (vs:List Value) (e:TypeId) (n:Nat) (x:Bool) (cs:T Value):Option Heap :=
 match Nat.ble (Nat.add o vs.length) n && vs.all oneCell with
 | true=>some (H.set r (.row e n x (T.ofList cs o vs)))
 | false=>none
def FU (H:Heap) (r o:Nat) (vs:List Value) (x:Option gP):Option Heap:=match x with
 | some (.row e n x cs)=>Ku H r o vs e n x cs
 | _=>none
def storeCells (H:Heap) (r o:Nat) (vs:List Value):Option Heap:=FU H r o vs (H.objs.get r)

def gV (l:Option (List Value)):Option Value:=match l with
 | some l=>some (.agg ⟨l⟩)
 | none=>none
def oneOf (l:Option (List Value)):Option Value:=match l with
 | some [v]=>some v
 | _=>none
def Pg (H:Heap) (r o:Nat) (i:TI):Option Value:=match i.agg with
 | true=>gV (loadCells H r o i.size)
 | false=>oneOf (loadCells H r o 1)
def loadVar (E:Env) (H:Heap) (t:TypeId) (r o:Nat):Option Value:=match E.ty t with
 | none=>none
 | some i=>Pg H r o i

def cellsOf (v:Value):Option (List Value):=match v with
 | .agg cs=>some cs.toList
 | .chan _=>none
 | v=>some [v]

def Kv (H:Heap) (r o:Nat) (vs:Option (List Value)) (i:TI):Option Heap:=match vs with
 | none=>none
 | some vs=>match Nat.beq vs.length i.size with
  | true=>storeCells H r o vs
  | false=>none
def storeVar (E:Env) (H:Heap) (t:TypeId) (r o:Nat) (v:Value):Option Heap:=match E.ty t with
 | none=>none
 | some i=>Kv H r o (cellsOf v) i

def lF (H:Heap) (v:Option Value):dL:=match v with
 | some v=>.val v H
 | none=>.fail
def qD (H:Option Heap):dL:=match H with
 | some H=>.val undef H
 | none=>.fail

def part (cs:List Value) (off:Nat) (i:TI):Option Value:=match i.agg with
 | true=>match Nat.ble (Nat.add off i.size) cs.length with
  | true=>some (.agg ⟨(cs.drop off).take i.size⟩)
  | false=>none
 | false=>kV cs off

def lay:List Value→Nat→List Value→Option (List Value)
 | cs,0,[]=>some cs
 | _,_ + 1,[]=>none
 | [],_,_ :: _=>none
 | _ :: cs,0,v :: vs=>match lay cs 0 vs with
  | some l=>some (v :: l)
  | none=>none
 | c :: cs,o + 1,vs=>match lay cs o vs with
  | some l=>some (c :: l)
  | none=>none

def fill (place:Nat→Option (Nat×Nat)) (cells:List Value):List (Nat×Value)→Option (List Value)
 | []=>some cells
 | (i,v) :: rest=>match place i with
  | none=>none
  | some (off,size)=>match cellsOf v with
   | none=>none
   | some vs=>match Nat.beq vs.length size with
    | false=>none
    | true=>match lay cells off vs with
     | none=>none
     | some cells=>fill place cells rest

def zeroCells (i:TI):Option (List Value):=match i.zero with
 | some z=>cellsOf z
 | none=>none

def times (zero:List Value):Nat→List Value
 | 0=>[]
 | n + 1=>zero ++ times zero n

def vC (m:Nat) (n:Int):Option Nat:=match n with
 | .ofNat n=>match Nat.ble n m with
  | true=>some n
  | false=>none
 | _=>none
def asNat (m:Nat) (v:Value):Option Nat:=match v with
 | .int _ n=>vC m n
 | _=>none

def bound (v:Option Value) (m d:Nat):Option Nat:=match v with
 | some v=>asNat m v
 | none=>some d

def bounds (len cap:Nat) (lo hi mx:Option Value):Option (Nat×Nat×Nat):=match bound mx cap cap with
 | none=>none
 | some m=>match (match hi,mx with
   | none,some _=>none
   | hi,_=>bound hi m len:Option Nat) with
  | none=>none
  | some h=>match bound lo h 0 with
   | none=>none
   | some l=>some (l,h,m)

def FV (n:Int):Int:=match n with
 | .ofNat m=>match Nat.ble (Nat.succ m) 9223372036854775808 with
  | true=>.ofNat m
  | false=>IntKind.i64.wrap (.ofNat m)
 | .negSucc m=>match Nat.ble (Nat.succ m) 9223372036854775808 with
  | true=>.negSucc m
  | false=>IntKind.i64.wrap (.negSucc m)

def ltI (x y:Int):Bool:=match x with
 | .ofNat m=>match y with
  | .ofNat n=>Nat.ble (Nat.succ m) n
  | .negSucc _=>false
 | .negSucc m=>match y with
  | .ofNat _=>true
  | .negSucc n=>Nat.ble (Nat.succ n) m
def eqI (x y:Int):Bool:=match x with
 | .ofNat m=>match y with
  | .ofNat n=>Nat.beq m n
  | .negSucc _=>false
 | .negSucc m=>match y with
  | .ofNat _=>false
  | .negSucc n=>Nat.beq m n
def isZero (x:Int):Bool:=match x with
 | .ofNat m=>Nat.beq m 0
 | _=>false

def Yl (x y:Int):Option Value:=match isZero y with
 | true=>none
 | false=>some (.int .i64 (FV (x.tdiv y)))
def Ym (x y:Int):Option Value:=match isZero y with
 | true=>none
 | false=>some (.int .i64 (x.tmod y))

def jJ (op:BinOp) (x y:Int):Option Value:=match op with
 | .add=>some (.int .i64 (FV (Int.add x y)))
 | .sub=>some (.int .i64 (FV (Int.sub x y)))
 | .mul=>some (.int .i64 (FV (Int.mul x y)))
 | .quo=>Yl x y
 | .rem=>Ym x y
 | .eql=>some (.bool (eqI x y))
 | .neq=>some (.bool (!eqI x y))
 | .lss=>some (.bool (ltI x y))
 | .leq=>some (.bool (!ltI y x))
 | .gtr=>some (.bool (ltI y x))
 | .geq=>some (.bool (!ltI x y))
 | _=>none

def nilness:Value→Option Bool
 | .slice none _ _ | .map none | .pointer none | .nilFunc | .nilIface=>some true
 | .slice (some _) _ _ | .map (some _) | .pointer (some _) | .func _ _ _ | .iface _ _=>some false
 | _=>none

def zw:TypeDesc→Value→Bool
 | .slice _,.slice _ _ _ | .map _ _,.map _ | .pointer _,.pointer _ | .func _ _ _,.nilFunc | .func _ _ _,.func _ _ _=>true
 | .interface _,.nilIface | .interface _,.iface _ _=>true
 | _,_=>false

def tQ:Operand→Bool
 | .const _=>true
 | _=>false

def Dm (E:Env) (op:BinOp) (t:TypeId) (x y:Operand) (a b:Value) (r:Bool):Option Value:=match E.ty t with
 | some i=>match zw i.desc a && zw i.desc b && (tQ x || tQ y) with
  | true=>match op with
   | .eql=>some (.bool r)
   | .neq=>some (.bool !r)
   | _=>none
  | false=>none
 | none=>none

def iT (E:Env) (op:BinOp) (t:TypeId) (x y:Operand) (a b:Value):Option Value :=
 jq (bV E.prog (do eqGuard op t x y a b; binOp op t a b))

def BG (E:Env) (op:BinOp) (t:TypeId) (x y:Operand) (a b:Value):Option Value:=match dQ 4 a && dQ 4 b with
 | true=>iT E op t x y a b
 | false=>match nilness a,nilness b with
  | some true,some r=>Dm E op t x y a b r
  | some r,some true=>Dm E op t x y a b r
  | _,_=>E.bin op a b

def orElse {α:Type} (a:Option α) (b:Unit→Option α):Option α:=match a with
 | some x=>some x
 | none=>b ()

def BH (E:Env) (op:BinOp) (t:TypeId) (x y:Operand) (k k':IntKind) (m n:Int):Option Value:=match k with
 | .i64=>match k' with
  | .i64=>orElse (jJ op m n) fun _=>iT E op t x y (.int .i64 m) (.int .i64 n)
  | _=>iT E op t x y (.int k m) (.int k' n)
 | _=>iT E op t x y (.int k m) (.int k' n)

def U3 (E:Env) (op:BinOp) (t:TypeId) (x y:Operand) (k:IntKind) (m:Int) (b:Value):Option Value:=match b with
 | .int k' n=>BH E op t x y k k' m n
 | b=>BG E op t x y (.int k m) b

def Jc (E:Env) (op:BinOp) (t:TypeId) (x y:Operand) (a b:Value):Option Value:=match a with
 | .int k m=>U3 E op t x y k m b
 | a=>BG E op t x y a b

abbrev Entry:=Value×Value×Nat

def Ak (P:Program) (t:TypeId) (k k':Value):Option Bool:=match k with
 | .int .i64 m=>match k' with
  | .int .i64 n=>some (eqI m n)
  | _=>none
 | k=>match dQ 4 k' with
  | true=>bV P (Op.equal t k k')
  | false=>none

def findKey (P:Program) (t:TypeId) (k:Value):List Entry→Nat→Option (Option (Nat×Entry))
 | [],_=>some none
 | e :: es,i=>match Ak P t k e.1 with
  | some true=>some (some (i,e))
  | some false=>findKey P t k es (Nat.succ i)
  | none=>none

def Mw:TypeDesc→Bool
 | .int .i64=>true
 | _=>false

def eD (E:Env) (t:TypeId) (k:Value):Bool:=match k with
 | .int .i64 _=>match E.ty t with
  | some i=>Mw i.desc
  | none=>false
 | k=>dQ 4 k && (bV E.prog (Instr.checkKey false 10000 t k)).isSome && (bV E.prog (Instr.checkKey true 10000 t k)).isSome

def entriesOf (x:Option gP):Option (List Entry×Nat):=match x with
 | some (.map es c)=>some (es,c)
 | _=>none

def mapOf (H:Heap) (m:Value):Option (List Entry×Nat):=match m with
 | .map none=>some ([],0)
 | .map (some r)=>entriesOf (H.objs.get r)
 | _=>none

def found (ok:Bool) (v:Value) (is:Bool):Value:=match ok with
 | true=>.tuple #[v,.bool is]
 | false=>v

def BI (ei:TI) (ok:Bool) (r:Option (Option (Nat×Entry))):Option Value:=match r with
 | none=>none
 | some (some (_,_,v,_))=>some (found ok v true)
 | some none=>match ei.zero with
  | none=>none
  | some z=>some (found ok z false)

def dP (E:Env) (kt et:TypeId) (k:Value) (ok:Bool) (m:Option (List Entry×Nat)):Option Value:=match eD E kt k with
 | false=>none
 | true=>match m with
  | none=>none
  | some (es,_)=>match E.ty et with
   | none=>none
   | some ei=>BI ei ok (findKey E.prog kt k es 0)

def zx (E:Env) (H:Heap) (t:TypeId) (m k:Value) (ok:Bool):Option Value:=match E.ty t with
 | none=>none
 | some i=>match i.desc with
  | .map kt et=>dP E kt et k ok (mapOf H m)
  | _=>none

def setAt:List Entry→Nat→Entry→List Entry
 | [],_,_=>[]
 | _ :: l,0,x=>x :: l
 | y :: l,i + 1,x=>y :: setAt l i x

def updated (H:Heap) (r:Nat) (k v:Value) (es:List Entry) (c:Nat) (f:Option (Option (Nat×Entry))):Option Heap:=match f with
 | none=>none
 | some (some (i,k',_,b))=>match Instr.sameBits 10000 k' k with
  | true=>some (H.set r (.map (setAt es i (k,v,b)) c))
  | false=>none
 | some none=>some (H.set r (.map (es ++ [(k,v,c)]) (Nat.succ c)))

def BJ (E:Env) (H:Heap) (kt:TypeId) (r:Nat) (k v:Value) (m:Option (List Entry×Nat)):Option Heap:=match eD E kt k with
 | false=>none
 | true=>match m with
  | none=>none
  | some (es,c)=>updated H r k v es c (findKey E.prog kt k es 0)

def vD (E:Env) (H:Heap) (t:TypeId) (m k v:Value):Option Heap:=match E.ty t with
 | none=>none
 | some i=>match i.desc with
  | .map kt _=>match m with
   | .map (some r)=>BJ E H kt r k v (entriesOf (H.objs.get r))
   | _=>none
  | _=>none

def entered (H:Heap) (r:Nat) (k:Value) (ei:TI) (es:List Entry) (c:Nat) (f:Option (Option (Nat×Entry))):dL:=match f with
 | none=>.fail
 | some (some (i,k',v,b))=>match Instr.sameBits 10000 k' k with
  | true=>.val (.tuple #[v,.int .i64 (.ofNat b)]) (H.set r (.map (setAt es i (k,v,b)) c))
  | false=>.fail
 | some none=>match ei.zero with
  | some z=>.val (.tuple #[z,.int .i64 (.ofNat c)]) (H.set r (.map (es ++ [(k,z,c)]) (Nat.succ c)))
  | none=>.fail

def Fa (E:Env) (H:Heap) (kt et:TypeId) (r:Nat) (k:Value) (m:Option (List Entry×Nat)):dL:=match eD E kt k with
 | false=>.fail
 | true=>match m with
  | none=>.fail
  | some (es,c)=>match E.ty et with
   | none=>.fail
   | some ei=>entered H r k ei es c (findKey E.prog kt k es 0)

def FW (E:Env) (H:Heap) (t:TypeId) (m k:Value):dL:=match E.ty t with
 | none=>.fail
 | some i=>match i.desc with
  | .map kt et=>match m with
   | .map (some r)=>Fa E H kt et r k (entriesOf (H.objs.get r))
   | _=>.fail
  | _=>.fail

def zy (b:Nat) (v:Value):List Entry→Option (List Entry)
 | []=>none
 | (k,w,c) :: es=>match Nat.beq c b with
  | true=>some ((k,v,c) :: es)
  | false=>match zy b v es with
   | some l=>some ((k,w,c) :: l)
   | none=>none

def Rs (H:Heap) (r c:Nat) (es:Option (List Entry)):Option Heap:=match es with
 | some es=>some (H.set r (.map es c))
 | none=>none

def rF (H:Heap) (r:Nat) (s v:Value) (m:Option (List Entry×Nat)):Option Heap:=match m with
 | none=>none
 | some (es,c)=>match s with
  | .int _ (.ofNat b)=>Rs H r c (zy b v es)
  | _=>none

def rG (H:Heap) (m s v:Value):Option Heap:=match m with
 | .map (some r)=>rF H r s v (entriesOf (H.objs.get r))
 | _=>none

def vE (b:UInt8):Value:=.int .u8 (.ofNat b.toNat)

def rH (H:Heap) (r o m:Nat) (sp:Option Nat):Option (List Value):=match sp with
 | some 2=>match m with
  | 0=>some []
  | _ + 1=>none
 | _=>loadCells H r o m

def elems (H:Heap) (size:Nat) (n:Nat):Value→Option (List Value)
 | .slice (some ⟨r,o,sp⟩) _ _=>rH H r o (Nat.mul n size) sp
 | .slice none _ _=>some []
 | .string s=>some ((s.data.toList.take n).map vE)
 | _=>none

def lenOf:Value→Option Nat
 | .slice _ n _=>some n
 | .string s=>some s.size
 | _=>none

def dJ (E:Env) (t:TypeId):Option (TypeId×TI):=match E.ty t with
 | none=>none
 | some i=>match i.desc with
  | .slice e=>match E.ty e with
   | none=>none
   | some ei=>some (e,ei)
  | _=>none

def BK (H:Heap) (r o e sc size:Nat) (x:Option gP):Option Heap:=match x with
 | some (.row e' n x _)=>match x with
  | true=>some H
  | false=>match Nat.beq e e' && Nat.ble (Nat.add o (Nat.mul sc size)) n with
   | true=>some (H.set r .dead)
   | false=>none
 | _=>none
def moved (H:Heap) (base:Option Addr) (e sc size:Nat):Option Heap:=match base with
 | none=>some H
 | some ⟨r,o,none⟩=>BK H r o e sc size (H.objs.get r)
 | some ⟨_,_,some _⟩=>some H

def grown (e:TypeId) (l:Nat) (cells:List Value) (H:Option Heap):dL:=match H with
 | some H=>laid (fun r=>slc r 0 l l) H (rowOf e cells false)
 | none=>.fail

def FX (ei:TI):Bool:=match zeroCells ei with
 | some z=>Nat.beq z.length ei.size
 | none=>false
def nO (ei:TI) (n l:Nat) (new:List Value):Bool :=
 Nat.ble (Nat.mul l ei.bytes) 1073741824 && Nat.ble l 1073741824 && new.all oneCell && Nat.beq new.length (Nat.mul n ei.size) && FX ei

def rJ (H:Heap) (e:TypeId) (ei:TI) (base:Option Addr) (sc:Nat) (n l:Nat) (new:List Value) (old:Option (List Value)):dL:=match old with
 | none=>.fail
 | some old=>match nO ei n l new && Nat.ble 1 ei.size with
  | true=>grown e l (old ++ new) (moved H base e sc ei.size)
  | false=>.fail

def vF (H:Heap) (ei:TI) (base:Option Addr) (sl sc l:Nat) (new:List Value):dL:=match base with
 | some ⟨r,o,s⟩=>match storeCells H r (Nat.add o (Nat.mul sl ei.size)) new with
  | some H=>.val (.slice (some ⟨r,o,s⟩) l sc) H
  | none=>.fail
 | none=>match new with
  | []=>.val (.slice none l sc) H
  | _=>.fail

def BL (H:Heap) (e:TypeId) (ei:TI) (base:Option Addr) (sl sc:Nat) (n:Nat) (new:Option (List Value)):dL:=match new with
 | none=>.fail
 | some new=>gU (Nat.add sl n) fun l=>match Nat.ble l sc with
  | true=>vF H ei base sl sc l new
  | false=>rJ H e ei base sc n l new (elems H ei.size sl (.slice base sl sc))

def nP:TypeDesc→Bool
 | .int _=>true
 | _=>false

def Ph (H:Heap) (e:TypeId) (ei:TI) (s:Value) (n:Option Nat):dL:=.fail

def vH (E:Env) (H:Heap) (s x:Value) (xt:TypeId) (se:Option (TypeId×TI)):dL:=match se with
 | none=>.fail
 | some (e,ei)=>match E.ty xt with
  | none=>.fail
  | some xi=>match nP xi.desc with
   | true=>Ph H e ei s (asNat 100000 x)
   | false=>match lenOf x with
    | none=>.fail
    | some n=>match s with
     | .slice base sl sc=>match jO base with
      | true=>.fail
      | false=>BL H e ei base sl sc n (elems H ei.size n x)
     | _=>.fail

def Fb (E:Env) (H:Heap) (argTypes:List TypeId) (args:List Value):dL:=match argTypes with
 | [st,xt]=>match args with
  | [s,x]=>vH E H s x xt (dJ E st)
  | _=>.fail
 | _=>.fail

def BM (H:Heap) (base:Option Addr) (n:Nat) (new:Option (List Value)):dL:=match new with
 | none=>.fail
 | some new=>match base with
  | none=>.val (.int .i64 (.ofNat n)) H
  | some ⟨r,o,sp⟩=>match fT sp with
   | true=>.fail
   | false=>match storeCells H r o new with
    | some H=>.val (.int .i64 (.ofNat n)) H
    | none=>.fail

def BN (H:Heap) (s x:Value) (se:Option (TypeId×TI)):dL:=match se with
 | none=>.fail
 | some (_,ei)=>match s with
  | .slice base dl _=>match lenOf x with
   | none=>.fail
   | some sl=>gU (Nat.min sl dl) fun n=>BM H base n (elems H ei.size n x)
  | _=>.fail

def Rt (E:Env) (H:Heap) (argTypes:List TypeId) (args:List Value):dL:=match argTypes with
 | dt :: _=>match args with
  | [s,x]=>BN H s x (dJ E dt)
  | _=>.fail
 | _=>.fail

def xq (n:Nat):Option Value:=some (.int .i64 (.ofNat n))

def FY (m:Option (List Entry×Nat)):Option Value:=match m with
 | some (es,_)=>xq es.length
 | none=>none

def xu (E:Env) (H:Heap) (x:Value) (i:TI):Option Value:=match i.desc with
 | .string=>match x with
  | .string s=>xq s.size
  | _=>none
 | .array n _=>xq n
 | .slice _=>match x with
  | .slice _ n _=>xq n
  | _=>none
 | .map _ _=>FY (mapOf H x)
 | .pointer arr=>match E.ty arr with
  | some j=>match j.desc with
   | .array n _=>xq n
   | _=>none
  | none=>none
 | _=>none

def Yn (E:Env) (H:Heap) (argTypes:List TypeId) (args:List Value):Option Value:=match argTypes with
 | t :: _=>match args with
  | x :: _=>match E.ty t with
   | none=>none
   | some i=>xu E H x i
  | _=>none
 | _=>none

def capOf (n:Nat) (o:Option gP):Option Value:=match o with
 | some (.row _ _ x _)=>match x with
  | true=>xq n
  | false=>none
 | _=>none

def FZ (H:Heap) (x:Value) (i:TI):Option Value:=match i.desc with
 | .slice _=>match x with
  | .slice none _ n=>xq n
  | .slice (some ⟨r,_,none⟩) _ n=>capOf n (H.objs.get r)
  | .slice (some ⟨_,_,some 1⟩) _ n=>xq n
  | _=>none
 | _=>none

def Yo (E:Env) (H:Heap) (argTypes:List TypeId) (args:List Value):Option Value:=match argTypes with
 | t :: _=>match args with
  | x :: _=>match E.ty t with
   | none=>none
   | some i=>FZ H x i
  | _=>none
 | _=>none

def mU (H:Heap) (args:List Value) (r:Unit→Option Value):dL:=match args.all (dQ 1) with
 | true=>lF H (jq (r ()))
 | false=>.fail

def U4 (H:Heap) (r o n size:Nat) (z:List Value):dL:=match Nat.beq z.length size with
 | true=>match storeCells H r o (times z n) with
  | some H=>.val undef H
  | none=>.fail
 | false=>.fail
def U5 (H:Heap) (r o n:Nat) (se:Option (TypeId×TI)):dL:=match se with
 | some (_,ei)=>match zeroCells ei with
  | some z=>U4 H r o n ei.size z
  | none=>.fail
 | none=>.fail
def F3 (E:Env) (H:Heap) (t:TypeId) (x:Value):dL:=match x with
 | .slice none _ _=>.val undef H
 | .slice (some ⟨r,o,sp⟩) n _=>match n with
  | 0=>.val undef H
  | k + 1=>match fT sp with
   | true=>.fail
   | false=>U5 H r o (Nat.succ k) (dJ E t)
 | _=>.fail
def Pj (E:Env) (H:Heap) (argTypes:List TypeId) (args:List Value):dL:=match argTypes with
 | t :: _=>match args with
  | x :: _=>match E.ty t with
   | some _=>F3 E H t x
   | none=>.fail
  | []=>.fail
 | []=>.fail

def tT (E:Env) (H:Heap) (b:Builtin) (argTypes:Array TypeId) (type:TypeId) (args:List Value):dL:=match b with
 | .append=>Fb E H argTypes.toList args
 | .copy=>Rt E H argTypes.toList args
 | .len=>lF H (Yn E H argTypes.toList args)
 | .cap=>lF H (Yo E H argTypes.toList args)
 | .clear=>Pj E H argTypes.toList args
 | .max=>mU H args fun _=>bV E.prog (Builtin.max_ argTypes type ⟨args⟩)
 | .min=>mU H args fun _=>bV E.prog (Builtin.min_ argTypes type ⟨args⟩)
 | _=>.fail

def F4 (f:FuncId) (args:List Value) (H:Heap) (fn:Func):dL:=match fn.body with
 | some _ => match fn.name == "runtime.NumGoroutine" with
  | false=>.call f args H
  | true=>.fail
 | none=>.fail

def callFunc (E:Env) (f:FuncId) (args:List Value) (H:Heap):dL:=match E.fn.get f with
 | some fn=>F4 f args H fn
 | none=>.fail

def U6 (d:TypeDesc) (pointer:Bool):Bool:=match d with
 | .pointer _=>pointer
 | _=>!pointer

def Dn (E:Env) (H:Heap) (g:FuncId) (pointer:Bool) (args:List Value) (i:Option TI):dL:=match i with
 | some i=>match U6 i.desc pointer with
  | true=>match args with
   | x :: r=>callFunc E g (x :: r) H
   | []=>.fail
  | false=>.fail
 | none=>.fail

def Kw (E:Env) (H:Heap) (t:TypeId) (path:Array FieldStep) (g:FuncId) (pointer:Bool) (args:List Value):dL:=match path.toList with
 | []=>Dn E H g pointer args (E.ty t)
 | _=>.fail

def Ky (E:Env) (H:Heap) (fn:Fn) (first captured:Array Value) (args:List Value):dL:=match fn with
 | .func g=>callFunc E g (first.toList ++ args ++ captured.toList) H
 | .yield l=>.yield l (first.toList ++ args) H
 | .via t path g pointer=>Kw E H t path g pointer (first.toList ++ args)
 | _=>.fail

def rM (E:Env) (H:Heap) (f:Value) (args:List Value):dL:=match f with
 | .func fn first captured=>Ky E H fn first captured args
 | _=>.fail

def kX (v:Option Value):Value:=match v with
 | some v=>v
 | none=>undef

def junk:Value:=.chan (some 0)
def BP (v:Value):Value:=match v with
 | .int k n=>.int k n
 | v=>match dQ 3 v with
  | true=>v
  | false=>junk

def eval (ρ:T Value) (x:Operand):Value:=match x with
 | .tmp t=>kX (ρ.get t)
 | .const v=>BP v
 | .global g=>.pointer (some ⟨g,0,some 0⟩)
 | .func f=>.func (.func f) #[] #[]

def fA (ρ:T Value) (x:Option Operand):Option Value:=match x with
 | some x=>some (eval ρ x)
 | none=>none

def jG (ρ:T Value):List Operand→List Value
 | []=>[]
 | x :: l=>eval ρ x :: jG ρ l

def fU (ρ:T Value):List (Nat×Operand)→List (Nat×Value)
 | []=>[]
 | (i,x) :: l=>(i,eval ρ x) :: fU ρ l

abbrev Arm:=Env→T Value→Heap→TypeId→dL

def picked (ρ:T Value) (H:Heap) (a b:Operand) (c:Value):dL:=match c with
 | .bool true=>.val (eval ρ a) H
 | .bool false=>.val (eval ρ b) H
 | _=>.fail

def zeroOf (i:Option TI):Option Value:=match i with
 | some i=>i.zero
 | none=>none

def boxed (elem:TypeId) (cells:Option (List Value)):Option ((Nat→Value)×gP):=match cells with
 | some cells=>some (xk,rowOf elem cells true)
 | none=>none

def allocated (elem:TypeId) (z:Option Value):Option ((Nat→Value)×gP):=match z with
 | some z=>boxed elem (cellsOf z)
 | none=>none

def placeOf (off:Nat) (i:Option TI):Option (Nat×Nat):=match i with
 | some fi=>some (off,fi.size)
 | none=>none

def oI (E:Env) (fields:Array Field) (i:Nat):Option (Nat×Nat):=match kV fields.toList i with
 | some f=>placeOf f.offset (E.ty f.type)
 | none=>none

def typed (i:Option TI):Bool:=match i with
 | some _=>true
 | none=>false

def tV (E:Env):List Field→Bool
 | []=>true
 | f :: l=>typed (E.ty f.type) && tV E l

def iI (size:Nat) (i:Nat):Option (Nat×Nat):=some (Nat.mul i size,size)

def El (H:Heap) (cells:Option (List Value)):dL:=match cells with
 | some cells=>.val (.agg ⟨cells⟩) H
 | none=>.fail

def zA (E:Env) (H:Heap) (parts:List (Nat×Value)) (i:TI) (z:List Value):dL:=match i.desc with
 | .struct fields=>match tV E fields.toList with
  | true=>El H (fill (oI E fields) z parts)
  | false=>.fail
 | .array _ elem=>match E.ty elem with
  | some ei=>El H (fill (iI ei.size) z parts)
  | none=>.fail
 | _=>.fail

def pJ (E:Env) (H:Heap) (parts:List (Nat×Value)) (i:TI):dL:=match zeroCells i with
 | some z=>zA E H parts i z
 | none=>.fail

def Kz (elem:TypeId) (l c:Nat) (cells:Option (List Value)):Option ((Nat→Value)×gP):=match cells with
 | some cells=>some (fun r=>slc r 0 l c,rowOf elem cells true)
 | none=>none

def xw (len:Nat) (parts:List (Nat×Value)) (elem:TypeId) (size:Nat) (z:List Value):Option ((Nat→Value)×gP) :=
 match Nat.ble (Nat.mul len size) 10000 && Nat.beq z.length size with
 | true=>Kz elem len len (fill (iI size) (times z len) parts)
 | false=>none

def ku (len:Nat) (parts:List (Nat×Value)) (se:Option (TypeId×TI)):Option ((Nat→Value)×gP):=match se with
 | some (e,ei)=>match zeroCells ei with
  | some z=>xw len parts e ei.size z
  | none=>none
 | none=>none

def Em (v:Value) (k:Nat→Nat→dL):dL:=match v with
 | .pointer (some ⟨r,o,none⟩)=>k r o
 | _=>.fail

def iA (H:Heap) (v:Value):dL:=match v with
 | .pointer (some a)=>.val (.pointer (some a)) H
 | .func fn a b=>match fn with
  | .func _=>.val (.func fn a b) H
  | .yield _=>.val (.func fn a b) H
  | .via _ _ _ _=>.val (.func fn a b) H
  | _=>.fail
 | .iface t v=>.val (.iface t v) H
 | _=>.fail

def wT (H:Heap) (v:Value) (r:Unit→Option Value):dL:=match dQ 1 v with
 | true=>lF H (jq (r ()))
 | false=>.fail

def toArray (H:Heap) (n:Nat) (v:Value):dL:=match v with
 | .slice (some ⟨r,o,sp⟩) len _=>match Nat.ble n len && !fT sp with
  | true=>.val (ptr r o) H
  | false=>.fail
 | _=>.fail

def jr (H:Heap) (v:Value) (i:Option TI):dL:=match i with
 | some i=>match i.desc with
  | .array n _=>toArray H n v
  | _=>.fail
 | none=>.fail

def oo (H:Heap) (t:TypeId) (v:Value) (i:Option TI):dL:=match i with
 | some i=>match i.desc with
  | .interface _=>.fail
  | _=>.val (.iface t v) H
 | none=>.fail

def funcOf (H:Heap) (fn:Fn) (first captured:List Value):dL:=match fn with
 | .func _=>.val (.func fn ⟨first⟩ ⟨captured⟩) H
 | .via _ _ _ _=>.val (.func fn ⟨first⟩ ⟨captured⟩) H
 | _=>.fail

abbrev New:=Option ((Nat→Value)×gP)

def gW:New:=some (bK,.map [] 0)

def zB (i:Option TI) (v:Value):New:=match i with
 | some i=>match i.desc with
  | .map _ _=>match v with
   | .int _ _=>gW
   | _=>none
  | _=>none
 | none=>none

def AL (l c:Nat) (elem:TypeId) (ei:TI) (z:List Value):New :=
 match Nat.ble l c && Nat.ble (Nat.mul ei.bytes c) 1073741824 && Nat.beq z.length ei.size with
 | true=>some (fun r=>slc r 0 l c,rowOf elem (times z c) true)
 | false=>none

def mo (l c:Option Nat) (se:Option (TypeId×TI)):New:=match se with
 | some (e,ei)=>match zeroCells ei with
  | some z=>match l with
   | some l=>match c with
    | some c=>AL l c e ei z
    | none=>none
   | none=>none
  | none=>none
 | none=>none

def F5 (size o l m:Nat):Nat:=match Nat.beq m l with
 | true=>o
 | false=>Nat.add o (Nat.mul l size)

def mq (H:Heap) (size r o:Nat) (b:Option (Nat×Nat×Nat)):dL:=match b with
 | none=>.fail
 | some (l,h,m)=>.val (lim r (F5 size o l m) (Nat.sub h l) (Nat.sub m l)) H

def xA (H:Heap) (h m l:Nat):dL:=match Nat.beq (Nat.sub h l) 0 && Nat.beq (Nat.sub m l) 0 with
 | true=>.val void H
 | false=>.fail

def oq (H:Heap) (size r o:Nat) (b:Option (Nat×Nat×Nat)):dL:=match b with
 | none=>.fail
 | some (l,h,m)=>match Nat.ble (Nat.succ l) m with
  | true=>.val (slc r (Nat.add o (Nat.mul l size)) (Nat.sub h l) (Nat.sub m l)) H
  | false=>xA H h m l

def kH (H:Heap) (size r o:Nat) (b:Option (Nat×Nat×Nat)):dL:=match b with
 | none=>.fail
 | some (l,h,m)=>.val (slc r (F5 size o l m) (Nat.sub h l) (Nat.sub m l)) H

def nJ (H:Heap) (size r o:Nat) (BQ:Bool) (b:Option (Nat×Nat×Nat)):dL:=match BQ with
 | true=>oq H size r o b
 | false=>mq H size r o b
def F6 (H:Heap) (size r o:Nat) (BQ:Bool) (b:Option (Nat×Nat×Nat)) (x:Option gP):dL:=match x with
 | some (.row _ _ x _)=>match x with
  | true=>kH H size r o b
  | false=>nJ H size r o BQ b
 | some (.pI _ _)=>nJ H size r o BQ b
 | _=>.fail

def xB (H:Heap) (b:Option (Nat×Nat×Nat)):dL:=match b with
 | none=>.fail
 | some (l,h,m)=>.val (.slice none (Nat.sub h l) (Nat.sub m l)) H

def nQ (H:Heap) (s:ByteArray) (mx:Option Value) (b:Option (Nat×Nat×Nat)):dL:=match mx with
 | some _=>.fail
 | none=>match b with
  | none=>.fail
  | some (l,h,_)=>.val (.string (s.extract l h)) H

def rO (H:Heap) (BQ:Bool) (b:Option (Nat×Nat×Nat)):dL:=match BQ with
 | true=>match b with
  | none=>.fail
  | some _=>.val void H
 | false=>.fail

def fE (E:Env) (H:Heap) (v:Value) (lo hi mx:Option Value) (i:TI):dL:=match i.desc with
 | .string=>match v with
  | .string s=>nQ H s mx (bounds s.size s.size lo hi none)
  | _=>.fail
 | .slice elem=>match E.ty elem with
  | none=>.fail
  | some ei=>match v with
   | .slice none len cap=>xB H (bounds len cap lo hi mx)
   | .slice (some ⟨r,o,none⟩) len cap=>F6 H ei.size r o mx.isNone (bounds len cap lo hi mx) (H.objs.get r)
   | .slice (some ⟨r,o,some 1⟩) len cap=>mq H ei.size r o (bounds len cap lo hi mx)
   | .slice (some ⟨_,_,some 2⟩) _ _=>rO H mx.isNone (bounds 0 0 lo hi mx)
   | _=>.fail
 | .array n elem=>match E.ty elem with
  | none=>.fail
  | some ei=>match v with
   | .pointer (some ⟨r,o,none⟩)=>mq H ei.size r o (bounds n n lo hi mx)
   | _=>.fail
 | _=>.fail

def tX (H:Heap) (r o off:Nat) (fi:Option TI):dL:=match fi with
 | some fi=>match Nat.beq fi.size 0 with
  | true=>.fail
  | false=>.val (ptr r (Nat.add o off)) H
 | none=>.fail

def lZ (i:Option TI) (f:Nat):Option Field:=match i with
 | some i=>match i.desc with
  | .struct fields=>kV fields.toList f
  | _=>none
 | none=>none

def iJ (E:Env) (H:Heap) (v:Value) (fd:Option Field):dL:=match fd with
 | some fd=>match v with
  | .pointer (some ⟨r,o,none⟩)=>tX H r o fd.offset (E.ty fd.type)
  | _=>.fail
 | none=>.fail

def partOf (H:Heap) (cs:List Value) (off:Nat) (fi:Option TI):dL:=match fi with
 | some fi=>lF H (part cs off fi)
 | none=>.fail

def pK (E:Env) (H:Heap) (v:Value) (fd:Option Field):dL:=match fd with
 | some fd=>match v with
  | .agg cs=>partOf H cs.toList fd.offset (E.ty fd.type)
  | _=>.fail
 | none=>.fail

def below (n:Nat) (j:Int):Option Nat:=match j with
 | .ofNat j=>match Nat.ble (Nat.succ j) n with
  | true=>some j
  | false=>none
 | _=>none
def indexOf (n:Nat) (v:Value):Option Nat:=match v with
 | .int _ j=>below n j
 | _=>none

def pV (H:Heap) (r o:Nat) (ei:Option TI) (j:Option Nat):dL:=match ei with
 | some ei=>match j with
  | some j=>.val (ptr r (Nat.add o (Nat.mul j ei.size))) H
  | none=>.fail
 | none=>.fail

def gy (E:Env) (H:Heap) (v j:Value) (i:Option TI):dL:=match i with
 | none=>.fail
 | some i=>match i.desc with
  | .array n elem=>match v with
   | .pointer (some ⟨r,o,none⟩)=>pV H r o (E.ty elem) (indexOf n j)
   | _=>.fail
  | .slice elem=>match v with
   | .slice (some ⟨r,o,sp⟩) n _=>match fT sp with
    | true=>.fail
    | false=>pV H r o (E.ty elem) (indexOf n j)
   | _=>.fail
  | _=>.fail

def elemOf (H:Heap) (cs:List Value) (ei:Option TI) (j:Option Nat):dL:=match ei with
 | some ei=>match j with
  | some j=>lF H (part cs (Nat.mul j ei.size) ei)
  | none=>.fail
 | none=>.fail

def Dp (H:Heap) (s:ByteArray) (j:Option Nat):dL:=match j with
 | some j=>match kV s.data.toList j with
  | some b=>.val (vE b) H
  | none=>.fail
 | none=>.fail

def kY (E:Env) (H:Heap) (v j:Value) (i:Option TI):dL:=match i with
 | none=>.fail
 | some i=>match i.desc with
  | .array n elem=>match v with
   | .agg cs=>elemOf H cs.toList (E.ty elem) (indexOf n j)
   | _=>.fail
  | .string=>match v with
   | .string s=>Dp H s (indexOf s.size j)
   | _=>.fail
  | _=>.fail

def extracted (H:Heap) (v:Value) (i:Nat):dL:=match v with
 | .tuple vs=>lF H (kV vs.toList i)
 | _=>.fail

def F7 (E:Env) (ρ:T Value) (H:Heap) (type:TypeId) (argTypes:Array TypeId) (args:List Value) (c:Callee):dL:=match c with
 | .value f=>rM E H (eval ρ f) args
 | .builtin b=>tT E H b argTypes type args
 | .invoke _ _=>.fail

def ji (x:New) (H:Heap):dL:=match x with
 | some (f,o)=>laid f H o
 | none=>.fail

def xC (E:Env) (ρ:T Value) (t:TypeId) (r:Option Operand):New:=match r with
 | none=>gW
 | some x=>zB (E.ty t) (eval ρ x)
def rP (x:Operand):Arm:=fun _ ρ H _=>.val (eval ρ x) H
def KA (c a b:Operand):Arm:=fun _ ρ H _=>picked ρ H a b (eval ρ c)
def U7 (elem:TypeId):Arm:=fun E _ H _=>ji (allocated elem (zeroOf (E.ty elem))) H
def U8 (elem:TypeId) (x:Operand):Arm:=fun _ ρ H _=>ji (boxed elem (cellsOf (eval ρ x))) H
def xD (t:TypeId) (parts:Array (Nat×Operand)):Arm:=fun E ρ H _=>match E.ty t with
 | some i=>pJ E H (fU ρ parts.toList) i
 | none=>.fail
def Al (t:TypeId) (len:Nat) (parts:Array (Nat×Operand)):Arm:=fun E ρ H _=>ji (ku len (fU ρ parts.toList) (dJ E t)) H
def ql (t:TypeId) (m k x:Operand):Arm:=fun E ρ H _=>qD (vD E H t (eval ρ m) (eval ρ k) (eval ρ x))
def BR (t:TypeId) (a:Operand):Arm:=fun E ρ H _=>Em (eval ρ a) fun r o=>lF H (loadVar E H t r o)
def BS (t:TypeId) (a x:Operand):Arm:=fun E ρ H _=>Em (eval ρ a) fun r o=>qD (storeVar E H t r o (eval ρ x))
def Mx (_:Nat):Arm:=fun _ _ _ _=>.fail
def xE (x:Operand):Arm:=fun _ ρ H _=>iA H (eval ρ x)
def KC (op:BinOp) (t:TypeId) (x y:Operand) (_:TypeId):Arm:=fun E ρ H _=>lF H (Jc E op t x y (eval ρ x) (eval ρ y))
def MB (op:UnOp) (_:TypeId) (x:Operand):Arm:=fun E ρ H _=>wT H (eval ρ x) fun _=>bV E.prog (Op.unary op (eval ρ x))
def KD (E:Env) (H:Heap) (src dst:TypeId) (v:Value):dL:=match E.ty src with
 | some _=>match E.ty dst with
  | some i=>lF H (E.conv i.desc v)
  | none=>.fail
 | none=>.fail
def bytesOf:List Value→Option (List UInt8)
 | []=>some []
 | v :: l=>match v with
  | .int .u8 n=>match bytesOf l with
   | some bs=>some (UInt8.ofNat n.toNat :: bs)
   | none=>none
  | _=>none
def ZW (E:Env) (t:TypeId):Bool:=match E.ty t with
 | some i=>match i.desc with
  | .int .u8=>true
  | _=>false
 | none=>false
def isStr (E:Env) (t:TypeId):Bool:=match E.ty t with
 | some i=>match i.desc with
  | .string=>true
  | _=>false
 | none=>false
def isBytes (E:Env) (t:TypeId):Bool:=match dJ E t with
 | some (e,_)=>ZW E e
 | none=>false
def textOf (H:Heap) (bs:Option (List UInt8)):dL:=match bs with
 | some bs=>.val (.string ⟨⟨bs⟩⟩) H
 | none=>.fail
def BU (cells:Option (List Value)):Option (List UInt8):=match cells with
 | some l=>bytesOf l
 | none=>none
def zC (E:Env) (H:Heap) (src dst:TypeId) (v:Value):dL:=match v with
 | .slice (some ⟨r,o,sp⟩) len _=>match isBytes E src && isStr E dst with
  | true=>textOf H (BU (rH H r o len sp))
  | false=>.fail
 | v=>KD E H src dst v
def converted (E:Env) (H:Heap) (src dst:TypeId) (v:Value):dL:=match dQ 1 v with
 | true=>lF H (jq (bV E.prog (convert src dst v)))
 | false=>zC E H src dst v
def qE (src dst:TypeId) (x:Operand):Arm:=fun E ρ H _=>converted E H src dst (eval ρ x)
def qF (t:TypeId) (x:Operand):Arm:=fun E ρ H _=>jr H (eval ρ x) (E.ty t)
def xG (t:TypeId) (x:Operand):Arm:=fun E ρ H _=>oo H t (eval ρ x) (E.ty t)
def BX (fn:Fn) (first captured:Array Operand):Arm:=fun _ ρ H _=>funcOf H fn (jG ρ first.toList) (jG ρ captured.toList)
def U9 (t:TypeId) (r:Option Operand):Arm:=fun E ρ H _=>ji (xC E ρ t r) H
def Yp (_:TypeId) (_:Operand):Arm:=fun _ _ _ _=>.fail
def BZ (t:TypeId) (l c:Operand):Arm:=fun E ρ H _=>ji (mo (asNat 100000 (eval ρ l)) (asNat 100000 (eval ρ c)) (dJ E t)) H
def xH (t:TypeId) (x:Operand) (lo hi mx:Option Operand):Arm:=fun E ρ H _=>match E.ty t with
 | some i=>fE E H (eval ρ x) (fA ρ lo) (fA ρ hi) (fA ρ mx) i
 | none=>.fail
def mV (t:TypeId) (x:Operand) (f:Nat):Arm:=fun E ρ H _=>iJ E H (eval ρ x) (lZ (E.ty t) f)
def xI (t:TypeId) (x:Operand) (f:Nat):Arm:=fun E ρ H _=>pK E H (eval ρ x) (lZ (E.ty t) f)
def mW (t:TypeId) (x j:Operand):Arm:=fun E ρ H _=>gy E H (eval ρ x) (eval ρ j) (E.ty t)
def xJ (t:TypeId) (x j:Operand):Arm:=fun E ρ H _=>kY E H (eval ρ x) (eval ρ j) (E.ty t)
def zD (t:TypeId) (x j:Operand) (ok:Bool):Arm:=fun E ρ H _=>lF H (zx E H t (eval ρ x) (eval ρ j) ok)
def Ca (t:TypeId) (m k:Operand):Arm:=fun E ρ H _=>FW E H t (eval ρ m) (eval ρ k)
def ow (_:TypeId) (m s x:Operand):Arm:=fun _ ρ H _=>qD (rG H (eval ρ m) (eval ρ s) (eval ρ x))
def zF (i:Option TI) (v:Value):Option ((Nat→Value)×gP):=match i with
 | some i=>match i.desc with
  | .string=>match v with
   | .string s=>some (xk,.iter s 0)
   | _=>none
  | _=>none
 | none=>none
def MC (t:TypeId) (x:Operand):Arm:=fun E ρ H _=>ji (zF (E.ty t) (eval ρ x)) H
def lG (H:Heap) (r:Nat) (s:ByteArray) (pos:Nat) (p:Nat×Nat):dL:=match p with
 | (c,width)=>gU (Nat.add pos width) fun n=>gU c fun c=>.val (.tuple #[.bool true,.int .i64 (.ofNat pos),.int .i32 (.ofNat c)]) (H.set r (.iter s n))
def F8 (H:Heap) (r:Nat) (o:Option gP):dL:=match o with
 | some (.iter s pos)=>match Nat.ble (Nat.succ pos) s.size with
  | true=>lG H r s pos (Utf8.decode s pos)
  | false=>.val (.tuple #[.bool false]) H
 | _=>.fail
def KF (H:Heap) (isString:Bool) (v:Value):dL:=match isString with
 | true=>match v with
  | .pointer (some ⟨r,0,none⟩)=>F8 H r (H.objs.get r)
  | _=>.fail
 | false=>.fail
def Fe (x:Operand) (isString:Bool):Arm:=fun _ ρ H _=>KF H isString (eval ρ x)
def Pk (_:Operand):Arm:=fun _ _ _ _=>.fail
def SL (_:Operand) (_ _:TypeId) (_:Bool):Arm:=fun _ _ _ _=>.fail
def qG (x:Operand) (i:Nat):Arm:=fun _ ρ H _=>extracted H (eval ρ x) i
def Cb (c:Call):Arm:=fun E ρ H type=>F7 E ρ H type c.argTypes (jG ρ c.args.toList) c.callee
def Va (_:Call):Arm:=fun _ _ _ _=>.fail
def Vb (_:Operand):Arm:=fun _ _ _ _=>.fail
def Yq (_ _:Operand):Arm:=fun _ _ _ _=>.fail
def Yr (_:TypeId) (_:Operand) (_:Bool):Arm:=fun _ _ _ _=>.fail
def SN (_:Array SelectCase) (_:Bool):Arm:=fun _ _ _ _=>.fail

def aop (op:Op):Arm :=
 @Op.casesOn (fun _=>Arm) op rP rP KA U7 U8 xD Al ql BR BS Mx Mx xE KC MB qE qF
  xG BX U9 Yp BZ xH mV xI mW xJ zD ql Ca ow MC Fe Pk SL qG
  Cb Va Va Vb Yq Yr SN

inductive dS where
 | normal | ret | exit (id:Nat) | goto (l:Nat)

structure St where
 tmps:T Value
 size:Nat
 heap:Heap
 round:Option Nat
 marks:List Nat

def St.AO (s:St) (f:Heap→Heap):St:=@St.rec (fun _=>St) (fun t z h r m=>⟨t,z,f h,r,m⟩) s

def putDst (tmps:T Value) (size:Nat) (d:Option Tmp) (v:Value):T Value:=match d with
 | some d=>match Nat.ble (Nat.succ d) size with
  | true=>tmps.put d v
  | false=>tmps
 | none=>tmps

def Pm (want:Bool) (v:Option Value):Bool:=match v with
 | some (.bool b)=>b == want
 | _=>false

def ME (o:Option Oper):Option Tmp:=match o with
 | some o=>o.dst
 | none=>none

def Dq (ρ:T Value) (d:Option Tmp) (want:Bool):Bool:=match d with
 | some d=>Pm want (ρ.get d)
 | none=>false

def mX (ops:Array Oper) (ρ:T Value) (g:Option (Nat×Bool)):Bool:=match g with
 | none=>true
 | some (j,want)=>Dq ρ (ME (kV ops.toList j)) want

abbrev Self:=Code→St→Option (dS×St)

def F9 (E:Env) (H:Heap) (t:TypeId) (v:Option Value):Option Value:=match v with
 | some (.pointer (some ⟨r,o,none⟩))=>loadVar E H t r o
 | _=>none

def tY (E:Env) (ρ:T Value) (H:Heap):ResultVar→Option Value
 | .tmp t=>ρ.get t
 | .cell a t=>F9 E H t (ρ.get a)

def kZ (E:Env) (ρ:T Value) (H:Heap):List ResultVar→Option (List Value)
 | []=>some []
 | r :: rs=>match tY E ρ H r with
  | none=>none
  | some v=>match kZ E ρ H rs with
   | none=>none
   | some vs=>some (v :: vs)

def Pn (H:Heap) (vs:Option (List Value)):Option (Value×Heap):=match vs with
 | none=>none
 | some [v]=>some (v,H)
 | some vs=>some (.tuple ⟨vs⟩,H)

def Ga (H:Heap) (d:Nat) (x:Option gP):Option Heap:=match x with
 | some .dX=>some (H.set d .dead)
 | _=>none
def jW:List Nat→Heap→Option Heap
 | [],H=>some H
 | d :: ds,H=>match Ga H d (H.objs.get d) with
  | some H=>jW ds H
  | none=>none

def Dt (E:Env) (fn:Func) (s:St) (H:Option Heap):Option (Value×Heap):=match H with
 | some H=>Pn H (kZ E s.tmps H fn.results.toList)
 | none=>none

def qm (E:Env) (fn:Func) (s:St):Option (Value×Heap):=Dt E fn s (jW s.marks s.heap)

def leave (E:Env) (fn:Func) (r:Option (dS×St)):Option (Value×Heap):=match r with
 | some (.normal,s)=>qm E fn s
 | some (.ret,s)=>qm E fn s
 | _=>none

def qo (E:Env) (self:Self) (args:List Value) (H:Heap) (fn:Func) (body:Option Code):Option (Value×Heap):=match body with
 | none=>none
 | some body=>match Nat.ble args.length fn.ntmps with
  | true=>leave E fn (self body ⟨T.ofList T.empty 0 args,fn.ntmps,H,none,[]⟩)
  | false=>none

def zG (E:Env) (self:Self) (args:List Value) (H:Heap) (fn:Option Func):Option (Value×Heap):=match fn with
 | none=>none
 | some fn=>qo E self args H fn fn.body

def Fg (E:Env) (self:Self) (f:FuncId) (args:List Value) (H:Heap) (r:Option (Value×Heap)):Option (Value×Heap):=match r with
 | some r=>some r
 | none=>zG E self args H (E.fn.get f)

def enter (E:Env) (self:Self) (f:FuncId) (args:List Value) (H:Heap):Option (Value×Heap):=match E.memo f args with
 | some v=>some (v,H)
 | none=>Fg E self f args H (E.BD f args H)

def mK (size:Nat):List Tmp→List Value→T Value→T Value
 | p :: ps,v :: vs,t=>mK size ps vs (putDst t size (some p) v)
 | _,_,t=>t

def nR (H:Heap) (l:Nat) (state:LoopState) (pending:Option Code) (x:Option gP):Option Heap:=match x with
 | some (.loop _ _ tmps size params assign body d)=>some (H.set l (.loop state pending tmps size params assign body d))
 | _=>none
def Heap.oz (H:Heap) (l:Nat) (state:LoopState) (pending:Option Code):Option Heap:=nR H l state pending (H.objs.get l)

def yields (b:Bool) (H:Option Heap):Option (Value×Heap):=match H with
 | some H=>some (.bool b,H)
 | none=>none

def endRound (l:Nat) (s:St) (e:dS):Option (Value×Heap):=match e with
 | .normal=>yields true (s.heap.oz l .ready none)
 | .ret=>yields false (s.heap.oz l .done (some .ret))
 | .exit id=>yields false (s.heap.oz l .done (some (.exit id)))
 | .goto id=>yields false (s.heap.oz l .done (some (.goto id)))

def qH (l:Nat) (r:Option (dS×St)):Option (Value×Heap):=match r with
 | none=>none
 | some (e,s)=>endRound l s e

def zH (self:Self) (l:Nat) (s:St) (body:Code) (x:Option gP):Option (Value×Heap):=match x with
 | some (.loop .ready p tmps size params assign body' d)=>qH l (self body (s.AO fun h=>h.set l (.loop .busy p tmps size params assign body' d)))
 | _=>none

def qp (self:Self) (l:Nat) (body:Code) (r:Option (dS×St)):Option (Value×Heap):=match r with
 | some (.normal,s)=>zH self l s body (s.heap.objs.get l)
 | _=>none

def zI (self:Self) (l:Nat) (args:List Value) (H:Heap) (x:Option gP):Option (Value×Heap):=match x with
 | some (.loop _ _ tmps size params assign body _)=>match Nat.beq args.length params.size with
  | true=>qp self l body (self assign ⟨mK size params.toList args tmps,size,H,some l,[]⟩)
  | false=>none
 | _=>none

def yielding (self:Self) (l:Nat) (args:List Value) (H:Heap):Option (Value×Heap):=zI self l args H (H.objs.get l)

def mD (E:Env) (self:Self) (r:dL):Option (Value×Heap):=match r with
 | .val v H=>some (v,H)
 | .call f args H=>enter E self f args H
 | .yield l args H=>yielding self l args H
 | .fail=>none

def KG (E:Env) (self:Self) (o:Oper) (s:St):Option (Value×Heap):=@St.rec (fun _=>Option (Value×Heap)) (fun t _ h _ _=>mD E self (aop o.op E t h o.type)) s

def St.done (s:St) (d:Option Tmp) (v:Value) (H:Heap):St:=@St.rec (fun _=>St) (fun t z _ r m=>⟨putDst t z d v,z,H,r,m⟩) s
def St.keep (s:St) (d:Option Tmp) (v:Value):St:=@St.rec (fun _=>St) (fun t z h r m=>⟨putDst t z d v,z,h,r,m⟩) s

def Cc (s:St) (d:Option Tmp) (k:St→Option (dS×St)) (r:Option (Value×Heap)):Option (dS×St):=match r with
 | some (v,H)=>force v fun v=>k (s.done d v H)
 | none=>none

def wU (E:Env) (self:Self) (ops:Array Oper):List Oper→St→Option (dS×St)
 | [],s=>some (.normal,s)
 | o :: l,s=>match mX ops s.tmps o.guard with
  | true=>Cc s o.dst (wU E self ops l) (KG E self o s)
  | false=>wU E self ops l (s.keep o.dst undef)

/-! Regions that draw their order. -/

def fG (op:Op):Bool:=match op with
 | .move _ | .assign _ | .pick _ _ _ | .build _ _ | .load _ _ | .nilCheck _ | .binOp _ _ _ _ _ | .unOp _ _ _ | .convert _ _ _ | .sliceToArrayPointer _ _ | .makeInterface _ _ | .makeFunc _ _ _
 | .slice _ _ _ _ _ | .fieldAddr _ _ _ | .field _ _ _ | .indexAddr _ _ _ | .index _ _ _ | .lookup _ _ _ _ | .extract _ _=>true
 | .call c=>match c.callee with
  | .builtin b=>match b with
   | .len | .cap | .max | .min=>true
   | _=>false
  | _=>false
 | _=>false

def jv (E:Env) (ρ:T Value) (op:Op):New:=match op with
 | .alloc t=>allocated t (zeroOf (E.ty t))
 | .box t x=>boxed t (cellsOf (eval ρ x))
 | .buildSlice t len parts=>ku len (fU ρ parts.toList) (dJ E t)
 | .makeSlice t l c=>mo (asNat 100000 (eval ρ l)) (asNat 100000 (eval ρ c)) (dJ E t)
 | .makeMap t r=>xC E ρ t r
 | _=>none

def lays (op:Op):Bool:=match op with
 | .alloc _ | .box _ _ | .buildSlice _ _ _ | .makeSlice _ _ _ | .makeMap _ _=>true
 | _=>false

def oJ (e:Edge):Bool:=Region.binds .any e

def qI (acc:List Nat):List Edge→Nat
 | []=>0
 | e :: es=>match oJ e with
  | true=>Nat.lor (Nat.lor (Nat.pow 2 e.on) (match kV acc e.on with | some m=>m | none=>0)) (qI acc es)
  | false=>qI acc es

def masks:List Oper→List Nat→List Nat
 | [],acc=>acc
 | o :: l,acc=>masks l (acc ++ [qI acc o.after.toList])

def cO (ops:Array Oper):List Nat:=masks ops.toList []

def maskAt (ms:List Nat) (i:Nat):Nat:=match kV ms i with
 | some m=>m
 | none=>0

def comes (ms:List Nat) (j i:Nat):Bool:=Nat.testBit (maskAt ms i) j

def ZA (x:Operand):List Tmp:=match x with
 | .tmp t=>[t]
 | _=>[]

def MF (ops:Array Oper) (g:Option (Nat×Bool)):List Tmp:=match g with
 | none=>[]
 | some (j,_)=>match ME (kV ops.toList j) with
  | some d=>[d]
  | none=>[]

def looks (ops:Array Oper) (o:Oper):List Tmp:=o.op.operands.toList.flatMap ZA ++ MF ops o.guard

def isDst (o:Oper) (t:Tmp):Bool:=match o.dst with
 | some d=>Nat.beq d t
 | none=>false

def Gb (ops:Array Oper) (ms:List Nat) (i j:Nat) (o p:Oper):Bool:=match Nat.beq i j with
 | true=>true
 | false=>match (looks ops o).any (isDst p) with
  | false=>true
  | true=>match Nat.ble j i with
   | true=>comes ms j i
   | false=>comes ms i j

def Fh (o p:Oper):Bool:=match o.dst with
 | some d=>isDst p d
 | none=>false

def chained (ahead:Bool) (o:Oper):Bool:=match fG o.op with
 | true=>false
 | false=>!(ahead && lays o.op)

def apart (ahead:Bool) (ms:List Nat) (i j:Nat) (o p:Oper):Bool:=match Nat.ble (Nat.succ i) j with
 | false=>true
 | true=>!Fh o p && (!(chained ahead o && chained ahead p) || comes ms i j)

def Fj (ahead:Bool) (ops:Array Oper) (ms:List Nat) (i:Nat) (o:Oper):Nat→List Oper→Bool
 | _,[]=>true
 | j,p :: ps=>Gb ops ms i j o p && apart ahead ms i j o p && Fj ahead ops ms i o (Nat.succ j) ps

def backward (i:Nat) (o:Oper):Bool:=o.after.toList.all fun e=>!oJ e || Nat.ble (Nat.succ e.on) i

def Ru (ahead:Bool) (ops:Array Oper) (ms:List Nat):Nat→List Oper→Bool
 | _,[]=>true
 | i,o :: l=>backward i o && Fj ahead ops ms i o 0 ops.toList && Ru ahead ops ms (Nat.succ i) l

def qJ (ahead:Bool) (ops:Array Oper):Bool:=Ru ahead ops (cO ops) 0 ops.toList

structure Note where
 tmps:T Value
 val:Value
 turned:Nat
 done:Bool

structure Trace where
 notes:List Note
 heaps:List Heap
 last:St

def cons (n:Note) (r:Option Trace):Option Trace:=match r with
 | some t=>some ⟨n :: t.notes,t.heaps,t.last⟩
 | none=>none
def Gc (H:Heap) (r:Option Trace):Option Trace:=match r with
 | some t=>some ⟨t.notes,H :: t.heaps,t.last⟩
 | none=>none

def noted (s:St) (d:Option Tmp) (k:Nat) (turns:Bool) (go:St→Nat→Option Trace) (r:Option (Value×Heap)):Option Trace:=match r with
 | none=>none
 | some (v,H)=>force v fun v=>match turns with
  | true=>Gc H (cons ⟨s.tmps,v,k,true⟩ (go (s.done d v H) (Nat.succ k)))
  | false=>cons ⟨s.tmps,v,k,true⟩ (go (s.keep d v) k)

def rQ (r:dL):Option (Value×Heap):=match r with
 | .val v H=>some (v,H)
 | _=>none

def newAt (r:Nat) (x:New):Option Value:=match x with
 | some (f,_)=>some (f r)
 | none=>none

def tZ (H:Heap) (v:Option Value):Option (Value×Heap):=match v with
 | some v=>some (v,H)
 | none=>none

def qK (as:List (Option Nat)):Option Nat:=match as with
 | []=>none
 | a :: _=>a

def mY (E:Env) (self:Self) (o:Oper) (ah:Bool) (ahead:Option Nat) (s:St) (k:Nat) (go:St→Nat→Option Trace):Option Trace:=match ah && lays o.op with
 | true=>match ahead with
  | some r=>noted s o.dst k false go (tZ s.heap (newAt r (jv E s.tmps o.op)))
  | none=>none
 | false=>match fG o.op with
  | true=>noted s o.dst k false go (rQ (aop o.op E s.tmps s.heap o.type))
  | false=>noted s o.dst k true go (KG E self o s)

def trace (E:Env) (self:Self) (ah:Bool) (ops:Array Oper):List Oper→List (Option Nat)→St→Nat→Option Trace
 | [],_,s,_=>some ⟨[],[],s⟩
 | o :: l,as,s,k=>match mX ops s.tmps o.guard with
  | true=>mY E self o ah (qK as) s k (trace E self ah ops l as.tail)
  | false=>cons ⟨s.tmps,undef,k,false⟩ (trace E self ah ops l as.tail (s.keep o.dst undef) k)

def uf (r:List (Option Nat)×Heap):List (Option Nat)×Heap:=match r with
 | (as,H)=>(none :: as,H)
def Ce (n:Nat) (r:List (Option Nat)×Heap):List (Option Nat)×Heap:=match r with
 | (as,H)=>(some n :: as,H)
def Po (o:Oper) (x:New) (go:Heap→List (Option Nat)×Heap) (H:Heap):List (Option Nat)×Heap:=match x with
 | some (_,ob)=>Ce H.next (go ⟨Nat.succ H.next,H.objs.put H.next ob⟩)
 | none=>uf (go H)

def layAll (E:Env):List Oper→List Note→Heap→List (Option Nat)×Heap
 | o :: l,n :: ns,H=>match n.done && lays o.op with
  | true=>Po o (jv E n.tmps o.op) (layAll E l ns) H
  | false=>uf (layAll E l ns H)
 | _,_,H=>([],H)

def fF:Nat→Value→Value→Bool
 | _,.bool a,.bool b=>a == b
 | _,.int .i64 a,.int .i64 b=>eqI a b
 | _,.int k a,.int j b=>decide (k = j) && eqI a b
 | _,.string a,.string b=>a == b
 | _,.pointer a,.pointer b=>decide (a = b)
 | _,.slice a l c,.slice b m d=>decide (a = b) && Nat.beq l m && Nat.beq c d
 | _,.map a,.map b=>decide (a = b)
 | _,.nilFunc,.nilFunc=>true
 | _,.nilIface,.nilIface=>true
 | n + 1,.agg a,.agg b=>Nat.beq a.size b.size && (a.toList.zip b.toList).all fun p=>fF n p.1 p.2
 | n + 1,.tuple a,.tuple b=>Nat.beq a.size b.size && (a.toList.zip b.toList).all fun p=>fF n p.1 p.2
 | n + 1,.func f a b,.func g c d=>decide (f = g) && Nat.beq a.size c.size && Nat.beq b.size d.size && (a.toList.zip c.toList).all (fun p=>fF n p.1 p.2) && (b.toList.zip d.toList).all (fun p=>fF n p.1 p.2)
 | _,_,_=>false

def Fp (v:Value) (r:dL):Bool:=match r with
 | .val u _=>fF 4 v u
 | _=>false

def Cg (l m:List Value):Bool:=Nat.beq l.length m.length && (l.zip m).all fun p=>fF 3 p.1 p.2
def ug (n:Nat) (a b:T Value):Bool:=match a.read 0 n with
 | some l=>match b.read 0 n with
  | some m=>Cg l m
  | none=>false
 | none=>false
def vI (a:gP) (b:Option gP):Bool:=match a with
 | .row e n x cs=>match b with
  | some (.row e' n' x' cs')=>Nat.beq e e' && Nat.beq n n' && (x && x') && ug n cs cs'
  | _=>false
 | .map [] 0=>match b with
  | some (.map [] 0)=>true
  | _=>false
 | _=>false
def vJ (n:Note) (r:Nat) (x:New) (H:Heap):Bool:=match x with
 | some (f,ob)=>fF 4 n.val (f r) && vI ob (H.objs.get r)
 | none=>false

def kI (E:Env) (o:Oper) (ahead:Option Nat) (n:Note) (H:Heap):Bool:=match ahead with
 | some r=>vJ n r (jv E n.tmps o.op) H
 | none=>Fp n.val (aop o.op E n.tmps H o.type)

def jP (E:Env) (o:Oper) (ahead:Option Nat) (n:Note):List Heap→Bool
 | []=>true
 | H :: l=>kI E o ahead n H && jP E o ahead n l

def eY (ahead:Bool) (ms:List Nat) (i:Nat):Nat→List Oper→List Note→Nat
 | j,o :: l,n :: ns=>match n.done && chained ahead o && comes ms j i with
  | true=>Nat.succ (eY ahead ms i (Nat.succ j) l ns)
  | false=>eY ahead ms i (Nat.succ j) l ns
 | _,_,_=>0
def dY (ahead:Bool) (ms:List Nat) (i:Nat):Nat→List Oper→List Note→Nat
 | j,o :: l,n :: ns=>match n.done && chained ahead o && !comes ms i j with
  | true=>Nat.succ (dY ahead ms i (Nat.succ j) l ns)
  | false=>dY ahead ms i (Nat.succ j) l ns
 | _,_,_=>0

def jK (E:Env) (o:Oper) (a:Option Nat) (n:Note) (laid:Bool) (l:List Heap):Bool:=match laid with
 | true=>jP E o a n l
 | false=>match l with
  | []=>true
  | H :: r=>match r with
   | []=>true
   | H' :: r=>jP E o a n (H :: H' :: r)

def qL (E:Env) (ahead:Bool) (ops:Array Oper) (ms:List Nat) (i:Nat) (o:Oper) (a:Option Nat) (n:Note) (notes:List Note) (heaps:List Heap):Bool:=match n.done && !chained ahead o with
 | false=>true
 | true =>
  jK E o a n (ahead && lays o.op) ((heaps.drop (eY ahead ms i 0 ops.toList notes)).take (Nat.succ (Nat.sub (dY ahead ms i 0 ops.toList notes) (eY ahead ms i 0 ops.toList notes))))

def fB (E:Env) (ahead:Bool) (ops:Array Oper) (ms:List Nat) (notes:List Note) (heaps:List Heap):Nat→List Oper→List (Option Nat)→List Note→Bool
 | i,o :: l,as,n :: ns=>qL E ahead ops ms i o (qK as) n notes heaps && fB E ahead ops ms notes heaps (Nat.succ i) l as.tail ns
 | _,_,_,_=>true

def AP (E:Env) (ops:Array Oper) (as:List (Option Nat)) (H:Heap) (notes:List Note) (heaps:List Heap):Bool:=match heaps with
 | []=>true
 | H' :: l=>fB E false ops (cO ops) notes (H :: H' :: l) 0 ops.toList as notes

def stable (E:Env) (ahead:Bool) (ops:Array Oper) (as:List (Option Nat)) (H:Heap) (t:Trace):Bool:=match ahead with
 | false=>AP E ops as H t.notes t.heaps
 | true=>fB E true ops (cO ops) t.notes (H :: t.heaps) 0 ops.toList as t.notes

def settled (E:Env) (ahead:Bool) (ops:Array Oper) (as:List (Option Nat)) (H:Heap) (t:Option Trace):Option (dS×St):=match t with
 | none=>none
 | some t=>match stable E ahead ops as H t with
  | true=>some (.normal,t.last)
  | false=>none

def j6 (E:Env) (self:Self) (ahead:Bool) (ops:Array Oper) (s:St) (a:List (Option Nat)×Heap):Option (dS×St):=match a with
 | (as,H)=>settled E ahead ops as H (trace E self ahead ops ops.toList as (s.AO fun _=>H) 0)

def Vd (E:Env) (self:Self) (ops:Array Oper) (s:St) (t:Option Trace):Option (dS×St):=match t with
 | none=>none
 | some t=>j6 E self true ops s (layAll E ops.toList t.notes s.heap)

def JC (op:Op):Bool:=match op with
 | .alloc _=>true
 | .makeMap _ r=>match r with
  | none=>true
  | some _=>false
 | _=>false
def Rv (o:Oper):Bool:=match o.guard with
 | none=>true
 | some _=>false
def gJ:List Oper→Bool
 | []=>true
 | o :: l=>match lays o.op with
  | true=>JC o.op && Rv o && gJ l
  | false=>gJ l
def nS (t:T Value):List Oper→List Note
 | []=>[]
 | _ :: l=>⟨t,undef,0,true⟩ :: nS t l

def nT (E:Env) (self:Self) (ops:Array Oper) (s:St):Option (dS×St):=match qJ false ops with
 | true=>@St.rec (fun _=>Option (dS×St)) (fun t z h r m=>j6 E self false ops ⟨t,z,h,r,m⟩ ([],h)) s
 | false=>match qJ true ops with
  | true=>match gJ ops.toList with
   | true=>j6 E self true ops s (layAll E ops.toList (nS s.tmps ops.toList) s.heap)
   | false=>Vd E self ops s (trace E self false ops ops.toList [] s 0)
  | false=>none

def MG (E:Env) (self:Self) (ops:Array Oper) (draw:Bool) (s:St):Option (dS×St):=match draw with
 | true=>nT E self ops s
 | false=>wU E self ops ops.toList s

def xK (self:Self) (b:Code) (r:Option (dS×St)):Option (dS×St):=match r with
 | some (.normal,s)=>self b s
 | r=>r

def zJ (r:Option (dS×St)):Option (dS×St):=match r with
 | some (.goto _,_)=>none
 | r=>r

def Du (self:Self) (a b:Code) (s:St) (v:Value):Option (dS×St):=match v with
 | .bool true=>self a s
 | .bool false=>self b s
 | _=>none

def vK (id:Nat) (r:Option (dS×St)):Option (dS×St):=match r with
 | some (.exit id',s)=>match Nat.beq id' id with
  | true=>some (.normal,s)
  | false=>some (.exit id',s)
 | r=>r

def JD (H:Heap) (x:Option gP):Option (Nat×List Nat×Heap):=match x with
 | some (.loop _ _ _ _ _ _ _ d)=>some (d,[],H)
 | _=>none

def around (H:Heap) (round:Option Nat):Option (Nat×List Nat×Heap):=match round with
 | some l=>JD H (H.objs.get l)
 | none=>some (H.next,[H.next],⟨Nat.succ H.next,H.objs.put H.next .dX⟩)

def xL (s:St) (params:Array Tmp) (assign body:Code) (d:Nat) (H:Heap):Heap :=
 ⟨Nat.succ H.next,H.objs.put H.next (.loop .ready none s.tmps s.size params assign body d)⟩

def Fq (st:LoopState):Bool:=match st with
 | .busy=>false
 | _=>true

def AQ (H:Heap) (l:Nat) (x:Option gP):Option (Option Code×Heap):=match x with
 | some (.loop st p t z q a b d)=>match Fq st with
  | true=>some (p,H.set l (.loop .exhausted p t z q a b d))
  | false=>none
 | _=>none
def uh (H:Heap) (l:Nat):Option (Option Code×Heap):=AQ H l (H.objs.get l)

def AU (self:Self) (s:St) (r:Option (Option Code×Heap)):Option (dS×St):=match r with
 | none=>none
 | some (none,H)=>some (.normal,s.AO fun _=>H)
 | some (some c,H)=>self c (s.AO fun _=>H)

def vL (self:Self) (s:St) (l:Nat) (r:Option (Value×Heap)):Option (dS×St):=match r with
 | none=>none
 | some (_,H)=>AU self s (uh H l)

def called (E:Env) (self:Self) (r:dL):Option (Value×Heap):=match r with
 | .call f args H=>enter E self f args H
 | _=>none

def lK (l:Nat):Value:=.func (.yield l) #[] #[]

def rangeAt (E:Env) (self:Self) (f:Value) (params:Array Tmp) (assign body:Code) (s:St) (r:Option (Nat×List Nat×Heap)):Option (dS×St):=match r with
 | none=>none
 | some (d,m,H)=>vL self ⟨s.tmps,s.size,s.heap,s.round,m ++ s.marks⟩ H.next (called E self (rM E (xL s params assign body d H) f [lK H.next]))

def Ch (E:Env) (self:Self) (f:Operand) (params:Array Tmp) (assign body:Code) (s:St):Option (dS×St) :=
 rangeAt E self (eval s.tmps f) params assign body s (around s.heap s.round)

def step (E:Env) (self:Self) (c:Code) (s:St):Option (dS×St):=match c with
 | .skip=>some (.normal,s)
 | .label _=>some (.normal,s)
 | .region _ ops draw=>MG E self ops draw s
 | .seq a b=>xK self b (self a s)
 | .cond x a b=>Du self a b s (eval s.tmps x)
 | .block id b=>vK id (self b s)
 | .scope b=>zJ (self b s)
 | .loop b=>xK self (.loop b) (self b s)
 | .rangeFunc f params assign body=>Ch E self f params assign body s
 | .exit id=>some (.exit id,s)
 | .goto l=>some (.goto l,s)
 | .ret=>some (.ret,s)
 | _=>none

def ev (E:Env):Nat→Self
 | 0=>fun _ _=>none
 | fuel + 1=>step E (ev E fuel)

def run (E:Env) (fuel:Nat) (f:FuncId) (args:List Value):Option (Value×Heap) :=
 zG E (ev E fuel) args ⟨0,T.empty⟩ (E.fn.get f)

def says (E:Env) (fuel:Nat) (f:FuncId) (args:List Value) (want:Value→Bool):Bool:=match run E fuel f args with
 | some (v,_)=>want v
 | none=>false

end
end Go.Rx
