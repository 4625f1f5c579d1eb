/- The executor: a run of closed code over names, and its store. -/
import Derived.RangeFuncLeaves
import GoSem.Dispatch
import GoSem.Step
set_option linter.unusedVariables false
namespace Go.Rx
noncomputable section
variable {α β:Type}

def lget (l:List β):Nat→Option β :=
 @List.rec β (fun _=>Nat→Option β) (fun _=>none) (fun x _ ih k=>@Nat.rec (fun _=>Option β) (some x) (fun m _=>ih m) k) l

def consS (y:β) (l:List β):List β:=@List.rec β (fun _=>List β) [y] (fun h t _=>y :: h :: t) l
def pad (d:β) (tl:List β) (k:Nat):List β:=@Nat.rec (fun _=>List β) tl (fun _ ih=>d :: ih) k
def lput (d:β) (l:List β):Nat→β→List β :=
 @List.rec β (fun _=>Nat→β→List β) (fun k x=>pad d [x] k) (fun y ys ih k x=>@Nat.rec (fun _=>List β) (x :: ys) (fun m _=>consS y (ih m x)) k) l

structure T (α:Type) where
 rows:List (List (List (Option α)))

def T.empty:T α:=⟨[]⟩

def orNil (o:Option (List β)):List β:=@Option.rec (List β) (fun _=>List β) [] (fun l=>l) o

def T.get (t:T α) (k:Nat):Option α :=
 @Option.rec (Option α) (fun _=>Option α) none (fun x=>x)
  (lget (orNil (lget (orNil (lget t.rows (Nat.div k (nat_lit 64)))) (Nat.mod (Nat.div k (nat_lit 8)) (nat_lit 8)))) (Nat.mod k (nat_lit 8)))

def strict {γ:Type} (l:List β) (k:List β→γ):γ:=@List.rec β (fun _=>γ) (k []) (fun h t _=>k (h :: t)) l

def T.put (t:T α) (k:Nat) (x:α):T α :=
 strict (orNil (lget t.rows (Nat.div k (nat_lit 64)))) fun m =>
 strict (lput none (orNil (lget m (Nat.mod (Nat.div k (nat_lit 8)) (nat_lit 8)))) (Nat.mod k (nat_lit 8)) (some x)) fun l =>
 strict (lput [] m (Nat.mod (Nat.div k (nat_lit 8)) (nat_lit 8)) l) fun m =>
 strict (lput [] t.rows (Nat.div k (nat_lit 64)) m) fun r=>⟨r⟩

theorem lget_nil (k:Nat):lget ([]:List β) k = none:=rfl
theorem lget_zero (x:β) (l:List β):lget (x :: l) 0 = some x:=rfl
theorem lget_succ (x:β) (l:List β) (k:Nat):lget (x :: l) (k + 1) = lget l k:=rfl

theorem lget_eq (l:List β):∀ k,lget l k = l[k]?:=by
 induction l with
 | nil=>intro k; simp [lget_nil]
 | cons x l ih=>intro k; cases k with
  | zero=>simp [lget_zero]
  | succ k=>simp [lget_succ,ih]

theorem consS_eq (y:β) (l:List β):consS y l = y :: l:=by cases l <;> rfl

theorem lget_pad (d x:β) (k j:Nat):lget (pad d [x] k) j = if j = k then some x else if j < k then some d else none:=by
 induction k generalizing j with
 | zero=>cases j with
  | zero=>rfl
  | succ j=>simp [show pad d [x] 0 = [x] from rfl,lget_succ,lget_nil]
 | succ k ih =>
  have e:pad d [x] (k + 1) = d :: pad d [x] k:=rfl
  rw [e]
  cases j with
  | zero=>simp [lget_zero]
  | succ j=>rw [lget_succ,ih]; simp

theorem lget_lput (d:β) (l:List β) (k j:Nat) (x:β):lget (lput d l k x) j = if j = k then some x else if j < l.length then lget l j else if j < k then some d else none:=by
 induction l generalizing k j with
 | nil=>simpa [lput,lget_nil] using lget_pad d x k j
 | cons y l ih =>
  cases k with
  | zero =>
   have e:lput d (y :: l) 0 x = x :: l:=rfl
   rw [e]
   cases j with
   | zero=>simp [lget_zero]
   | succ j =>
    rw [lget_succ,lget_succ]
    by_cases h:j < l.length
    ·simp [h]
    ·have:lget l j = none:=by rw [lget_eq]; simp; omega
     simp [h,this]
  | succ k =>
   have e:lput d (y :: l) (k + 1) x = consS y (lput d l k x):=rfl
   rw [e,consS_eq]
   cases j with
   | zero=>simp [lget_zero]
   | succ j=>rw [lget_succ,ih,lget_succ]; simp

theorem strict_eq {γ:Type} (l:List β) (k:List β→γ):strict l k = k l:=by cases l <;> rfl

theorem orNil_lget_lput (l:List (List β)) (k j:Nat) (x:List β):orNil (lget (lput [] l k x) j) = if j = k then x else orNil (lget l j):=by
 rw [lget_lput]
 by_cases h:j = k
 ·simp [h,orNil]
 ·simp only [h,if_false]
  by_cases h1:j < l.length
  ·simp [h1]
  ·have:lget l j = none:=by rw [lget_eq]; simp; omega
   rw [this]
   by_cases h2:j < k <;> simp [h1,h2,orNil]

theorem T.get_empty (k:Nat):(T.empty:T α).get k = none:=rfl

theorem T.get_put (t:T α) (k j:Nat) (x:α):(t.put k x).get j = if j = k then some x else t.get j:=by
 unfold T.put
 simp only [strict_eq]
 unfold T.get
 have d:∀ a b:Nat,Nat.div a b = a / b:=fun _ _=>rfl
 have m:∀ a b:Nat,Nat.mod a b = a % b:=fun _ _=>rfl
 simp only [d,m]
 have osome:∀ l:List (Option α),orNil (some l) = l:=fun _=>rfl
 by_cases h1:j / 64 = k / 64
 ·by_cases h2:j / 8 % 8 = k / 8 % 8
  ·simp only [orNil_lget_lput,h1,h2,if_true]
   rw [lget_lput]
   by_cases h3:j % 8 = k % 8
   ·have:j = k:=by omega
    subst this; simp
   ·have:j≠k:=fun e=>h3 (by rw [e])
    simp only [h3,if_false,this]
    by_cases h4:j % 8 < (orNil (lget (orNil (lget t.rows (k / 64))) (k / 8 % 8))).length
    ·simp only [h4,if_true]
    ·have e:lget (orNil (lget (orNil (lget t.rows (k / 64))) (k / 8 % 8))) (j % 8) = none:=by rw [lget_eq]; simp; omega
     rw [e]
     by_cases h5:j % 8 < k % 8 <;> simp only [h4,h5,if_true,if_false]
  ·have:j≠k:=fun e=>h2 (by rw [e])
   simp only [orNil_lget_lput,h1,h2,if_true,if_false,this]
 ·have:j≠k:=fun e=>h1 (by rw [e])
  simp only [orNil_lget_lput,h1,if_false,this]

def forceT {γ:Type} (t:T α) (k:T α→γ):γ:=@T.rec α (fun _=>γ) (fun r=>strict r fun r=>k ⟨r⟩) t

theorem forceT_eq {γ:Type} (t:T α) (k:T α→γ):forceT t k = k t:=by cases t; simp [forceT,strict_eq]

def T.ofList (t:T α) (k:Nat):List α→T α
 | []=>t
 | x :: xs=>forceT (t.put k x) fun t=>T.ofList t (Nat.succ k) xs

theorem T.get_ofList (l:List α):∀ (t:T α) (k j:Nat),(T.ofList t k l).get j = if k≤j∧j < k + l.length then l[j - k]? else t.get j:=by
 induction l with
 | nil=>intro t k j; simp [T.ofList]; intros; omega
 | cons x xs ih =>
  intro t k j
  simp only [T.ofList,forceT_eq,ih,T.get_put,Nat.succ_eq_add_one,List.length_cons]
  by_cases h:j = k
  ·subst h; simp; omega
  ·by_cases h1:k + 1≤j∧j < k + 1 + xs.length
   ·have:k≤j∧j < k + (xs.length + 1):=by omega
    simp only [h1,this,and_self,if_true]
    have e:j - k = (j - (k + 1)) + 1:=by omega
    rw [e,List.getElem?_cons_succ]
   ·have:¬ (k≤j∧j < k + (xs.length + 1)):=by omega
    simp only [h1,this,if_false,h]

def T.read (t:T α) (k:Nat):Nat→Option (List α)
 | 0=>some []
 | m + 1=>match t.get k with
  | none=>none
  | some x=>match T.read t (Nat.succ k) m with
   | none=>none
   | some xs=>some (x :: xs)

theorem T.read_spec (t:T α):∀ (m k:Nat) (l:List α),t.read k m = some l→l.length = m∧∀ i,i < m→t.get (k + i) = l[i]?:=by
 intro m
 induction m with
 | zero=>intro k l h; simp [T.read] at h; subst h; simp
 | succ m ih =>
  intro k l h
  simp only [T.read] at h
  cases hx:t.get k with
  | none=>simp [hx] at h
  | some x =>
   simp only [hx] at h
   cases hs:t.read (Nat.succ k) m with
   | none=>simp [hs] at h
   | some xs =>
    simp only [hs] at h
    cases h
    obtain ⟨h1,h2⟩:=ih _ _ hs
    refine ⟨by simp [h1],fun i hi=>?_⟩
    cases i with
    | zero=>simp [hx]
    | succ i=>have:=h2 i (by omega); rw [Nat.succ_eq_add_one] at this; rw [show k + (i + 1) = k + 1 + i from by omega,this]; simp

end
end Go.Rx

namespace Go.Rx
noncomputable section

inductive AObj where
 | row (elem:TypeId) (n:Nat) (exact:Bool) (cells:T Value)
 | map (es:List (Value×Value×Nat)) (clock:Nat)
 | loop (state:LoopState) (pending:Option Code) (tmps:T Value) (size:Nat) (params:Array Tmp) (assign body:Code) (defers:Nat)
 | noDefers
 | iter (s:ByteArray) (pos:Nat)
 | lent (n:Nat) (cells:T Value)
 | dead

structure Heap where
 next:Nat
 objs:T AObj

inductive ARes where
 | val (v:Value) (H:Heap)
 | call (f:FuncId) (args:List Value) (H:Heap)
 | yield (l:Nat) (args:List Value) (H:Heap)
 | fail

def forceNat {β:Type} (n:Nat) (k:Nat→β):β:=match n with
 | 0=>k 0
 | m + 1=>k (Nat.succ m)
def forceInt {β:Type} (n:Int) (k:Int→β):β:=match n with
 | .ofNat m=>forceNat m fun m=>k (.ofNat m)
 | .negSucc m=>forceNat m fun m=>k (.negSucc m)
def forceBool {β:Type} (b:Bool) (k:Value→β):β:=match b with
 | true=>k (.bool true)
 | false=>k (.bool false)
def forcePtr {β:Type} (a:Option Addr) (k:Value→β):β:=match a with
 | some ⟨b,o,none⟩=>forceNat b fun b=>forceNat o fun o=>k (.pointer (some ⟨b,o,none⟩))
 | a=>k (.pointer a)
def forceSlice {β:Type} (a:Option Addr) (l c:Nat) (k:Value→β):β:=match a with
 | some ⟨b,o,none⟩=>forceNat b fun b=>forceNat o fun o=>forceNat l fun l=>forceNat c fun c=>k (.slice (some ⟨b,o,none⟩) l c)
 | a=>k (.slice a l c)
def force {β:Type} (v:Value) (k:Value→β):β:=match v with
 | .bool b=>forceBool b k
 | .int i n=>forceInt n fun n=>k (.int i n)
 | .pointer a=>forcePtr a k
 | .slice a l c=>forceSlice a l c k
 | v=>k v

def pureRun {α:Type} (P:Program):Sem α→Option α
 | .pure a=>some a
 | .program k=>pureRun P (k P)
 | _=>none

def isData:Nat→Value→Bool
 | _,.bool _ | _,.int _ _ | _,.string _ | _,.float _ _=>true
 | _,.pointer none | _,.map none | _,.nilFunc | _,.nilIface | _,.slice none _ _=>true
 | m + 1,.agg cs=>cs.toList.all (isData m)
 | _,_=>false

structure TI where
 desc:TypeDesc
 agg:Bool
 size:Nat
 bytes:Nat
 zero:Option Value

def isAggDesc:TypeDesc→Bool
 | .struct _ | .array _ _=>true
 | _=>false

def dataOnly (v:Option Value):Option Value:=match v with
 | some v=>match isData 3 v with
  | true=>some v
  | false=>none
 | none=>none

def tiOf (P:Program) (t:TypeId):Option TI:=match P.underlying t with
 | some d=>match P.info? t with
  | some i=>some { desc:=d,agg:=isAggDesc d,size:=i.size,bytes:=i.bytes,zero:=dataOnly i.zero }
  | none=>none
 | none=>none

structure Env where
 prog:Program
 ti:T (Option TI)
 fn:T Func
 /-- What calls are known to answer. -/
 memo:FuncId→List Value→Option Value
 /-- What operators are known to yield where an operand is unknown. -/
 bin:BinOp→Value→Value→Option Value
 /-- What calls are known to answer whose arguments lie in memory. -/
 memoM:FuncId→List Value→Heap→Option (Value×Heap)
 /-- What conversions are known to yield of what is unknown. -/
 conv:TypeDesc→Value→Option Value

def Env.of (P:Program) (memo:FuncId→List Value→Option Value:=fun _ _=>none) (bin:BinOp→Value→Value→Option Value:=fun _ _ _=>none) (conv:TypeDesc→Value→Option Value:=fun _ _=>none) (memoM:FuncId→List Value→Heap→Option (Value×Heap):=fun _ _ _=>none):Env :=
 { prog:=P,ti:=T.ofList T.empty 0 ((List.range P.types.size).map (tiOf P)),fn:=T.ofList T.empty 0 P.funcs.toList,memo:=memo,bin:=bin,conv:=conv,memoM:=memoM }

def Env.ty (E:Env) (t:TypeId):Option TI:=match E.ti.get t with
 | some r=>r
 | none=>none

def Heap.set (H:Heap) (r:Nat) (o:AObj):Heap:={ next:=H.next,objs:=H.objs.put r o }

def laid (v:Nat→Value) (H:Heap) (o:AObj):ARes :=
 forceNat (Nat.succ H.next) fun n=>.val (v H.next) { next:=n,objs:=H.objs.put H.next o }

def ptr (r o:Nat):Value:=.pointer (some ⟨r,o,none⟩)
def ptr0 (r:Nat):Value:=.pointer (some ⟨r,0,none⟩)
def slc (r o l c:Nat):Value:=.slice (some ⟨r,o,none⟩) l c
def lim (r o l c:Nat):Value:=.slice (some ⟨r,o,some 1⟩) l c
def void:Value:=.slice (some ⟨0,0,some 2⟩) 0 0
def voidSp:Option Nat→Bool
 | some 2=>true
 | _=>false
def voidBase:Option Addr→Bool
 | some ⟨_,_,sp⟩=>voidSp sp
 | none=>false
def mapAt (r:Nat):Value:=.map (some r)

def rowOf (elem:TypeId) (cells:List Value) (exact:Bool):AObj:=.row elem cells.length exact (T.ofList T.empty 0 cells)

def oneCell:Value→Bool
 | .agg _ | .tuple _ | .chan _=>false
 | _=>true

def loadIn (o m n:Nat) (cs:T Value):Option (List Value):=match Nat.ble (Nat.add o m) n with
 | true=>cs.read o m
 | false=>none
def loadObj (o m:Nat) (x:Option AObj):Option (List Value):=match x with
 | some (.row _ n _ cs)=>loadIn o m n cs
 | some (.lent n cs)=>loadIn o m n cs
 | _=>none
def loadCells (H:Heap) (r o m:Nat):Option (List Value):=loadObj o m (H.objs.get r)

def storeIn (H:Heap) (r o:Nat) (vs:List Value) (e:TypeId) (n:Nat) (x:Bool) (cs:T Value):Option Heap :=
 match Nat.ble (Nat.add o vs.length) n && vs.all oneCell with
 | true=>some (H.set r (.row e n x (T.ofList cs o vs)))
 | false=>none
def storeObj (H:Heap) (r o:Nat) (vs:List Value) (x:Option AObj):Option Heap:=match x with
 | some (.row e n x cs)=>storeIn H r o vs e n x cs
 | _=>none
def storeCells (H:Heap) (r o:Nat) (vs:List Value):Option Heap:=storeObj H r o vs (H.objs.get r)

def aggOf (l:Option (List Value)):Option Value:=match l with
 | some l=>some (.agg ⟨l⟩)
 | none=>none
def oneOf (l:Option (List Value)):Option Value:=match l with
 | some [v]=>some v
 | _=>none
def loadTI (H:Heap) (r o:Nat) (i:TI):Option Value:=match i.agg with
 | true=>aggOf (loadCells H r o i.size)
 | false=>oneOf (loadCells H r o 1)
def loadVar (E:Env) (H:Heap) (t:TypeId) (r o:Nat):Option Value:=match E.ty t with
 | none=>none
 | some i=>loadTI H r o i

def cellsOf (v:Value):Option (List Value):=match v with
 | .agg cs=>some cs.toList
 | .chan _=>none
 | v=>some [v]

def storeTI (H:Heap) (r o:Nat) (vs:Option (List Value)) (i:TI):Option Heap:=match vs with
 | none=>none
 | some vs=>match Nat.beq vs.length i.size with
  | true=>storeCells H r o vs
  | false=>none
def storeVar (E:Env) (H:Heap) (t:TypeId) (r o:Nat) (v:Value):Option Heap:=match E.ty t with
 | none=>none
 | some i=>storeTI H r o (cellsOf v) i

def ofVal (H:Heap) (v:Option Value):ARes:=match v with
 | some v=>.val v H
 | none=>.fail
def ofHeap (H:Option Heap):ARes:=match H with
 | some H=>.val undef H
 | none=>.fail

def part (cs:List Value) (off:Nat) (i:TI):Option Value:=match i.agg with
 | true=>match Nat.ble (Nat.add off i.size) cs.length with
  | true=>some (.agg ⟨(cs.drop off).take i.size⟩)
  | false=>none
 | false=>lget cs off

def lay:List Value→Nat→List Value→Option (List Value)
 | cs,0,[]=>some cs
 | _,_ + 1,[]=>none
 | [],_,_ :: _=>none
 | _ :: cs,0,v :: vs=>match lay cs 0 vs with
  | some l=>some (v :: l)
  | none=>none
 | c :: cs,o + 1,vs=>match lay cs o vs with
  | some l=>some (c :: l)
  | none=>none

def fill (place:Nat→Option (Nat×Nat)) (cells:List Value):List (Nat×Value)→Option (List Value)
 | []=>some cells
 | (i,v) :: rest=>match place i with
  | none=>none
  | some (off,size)=>match cellsOf v with
   | none=>none
   | some vs=>match Nat.beq vs.length size with
    | false=>none
    | true=>match lay cells off vs with
     | none=>none
     | some cells=>fill place cells rest

def zeroCells (i:TI):Option (List Value):=match i.zero with
 | some z=>cellsOf z
 | none=>none

def times (zero:List Value):Nat→List Value
 | 0=>[]
 | n + 1=>zero ++ times zero n

def natUpto (m:Nat) (n:Int):Option Nat:=match n with
 | .ofNat n=>match Nat.ble n m with
  | true=>some n
  | false=>none
 | _=>none
def asNat (m:Nat) (v:Value):Option Nat:=match v with
 | .int _ n=>natUpto m n
 | _=>none

def bound (v:Option Value) (m d:Nat):Option Nat:=match v with
 | some v=>asNat m v
 | none=>some d

def bounds (len cap:Nat) (lo hi mx:Option Value):Option (Nat×Nat×Nat):=match bound mx cap cap with
 | none=>none
 | some m=>match (match hi,mx with
   | none,some _=>none
   | hi,_=>bound hi m len:Option Nat) with
  | none=>none
  | some h=>match bound lo h 0 with
   | none=>none
   | some l=>some (l,h,m)

def fwrap (n:Int):Int:=match n with
 | .ofNat m=>match Nat.ble (Nat.succ m) 9223372036854775808 with
  | true=>.ofNat m
  | false=>IntKind.i64.wrap (.ofNat m)
 | .negSucc m=>match Nat.ble (Nat.succ m) 9223372036854775808 with
  | true=>.negSucc m
  | false=>IntKind.i64.wrap (.negSucc m)

def ltI (x y:Int):Bool:=match x with
 | .ofNat m=>match y with
  | .ofNat n=>Nat.ble (Nat.succ m) n
  | .negSucc _=>false
 | .negSucc m=>match y with
  | .ofNat _=>true
  | .negSucc n=>Nat.ble (Nat.succ n) m
def eqI (x y:Int):Bool:=match x with
 | .ofNat m=>match y with
  | .ofNat n=>Nat.beq m n
  | .negSucc _=>false
 | .negSucc m=>match y with
  | .ofNat _=>false
  | .negSucc n=>Nat.beq m n
def isZero (x:Int):Bool:=match x with
 | .ofNat m=>Nat.beq m 0
 | _=>false

def quoI (x y:Int):Option Value:=match isZero y with
 | true=>none
 | false=>some (.int .i64 (fwrap (x.tdiv y)))
def remI (x y:Int):Option Value:=match isZero y with
 | true=>none
 | false=>some (.int .i64 (x.tmod y))

def intBin (op:BinOp) (x y:Int):Option Value:=match op with
 | .add=>some (.int .i64 (fwrap (Int.add x y)))
 | .sub=>some (.int .i64 (fwrap (Int.sub x y)))
 | .mul=>some (.int .i64 (fwrap (Int.mul x y)))
 | .quo=>quoI x y
 | .rem=>remI x y
 | .eql=>some (.bool (eqI x y))
 | .neq=>some (.bool (!eqI x y))
 | .lss=>some (.bool (ltI x y))
 | .leq=>some (.bool (!ltI y x))
 | .gtr=>some (.bool (ltI y x))
 | .geq=>some (.bool (!ltI x y))
 | _=>none

def nilness:Value→Option Bool
 | .slice none _ _ | .map none | .pointer none | .nilFunc | .nilIface=>some true
 | .slice (some _) _ _ | .map (some _) | .pointer (some _) | .func _ _ _ | .iface _ _=>some false
 | _=>none

def nilFits:TypeDesc→Value→Bool
 | .slice _,.slice _ _ _ | .map _ _,.map _ | .pointer _,.pointer _ | .func _ _ _,.nilFunc | .func _ _ _,.func _ _ _=>true
 | .interface _,.nilIface | .interface _,.iface _ _=>true
 | _,_=>false

def isConstOp:Operand→Bool
 | .const _=>true
 | _=>false

def binNil (E:Env) (op:BinOp) (t:TypeId) (x y:Operand) (a b:Value) (r:Bool):Option Value:=match E.ty t with
 | some i=>match nilFits i.desc a && nilFits i.desc b && (isConstOp x || isConstOp y) with
  | true=>match op with
   | .eql=>some (.bool r)
   | .neq=>some (.bool !r)
   | _=>none
  | false=>none
 | none=>none

def binData (E:Env) (op:BinOp) (t:TypeId) (x y:Operand) (a b:Value):Option Value :=
 dataOnly (pureRun E.prog (do eqGuard op t x y a b; binOp op t a b))

def binOther (E:Env) (op:BinOp) (t:TypeId) (x y:Operand) (a b:Value):Option Value:=match isData 4 a && isData 4 b with
 | true=>binData E op t x y a b
 | false=>match nilness a,nilness b with
  | some true,some r=>binNil E op t x y a b r
  | some r,some true=>binNil E op t x y a b r
  | _,_=>E.bin op a b

def orElse {α:Type} (a:Option α) (b:Unit→Option α):Option α:=match a with
 | some x=>some x
 | none=>b ()

def binInts (E:Env) (op:BinOp) (t:TypeId) (x y:Operand) (k k':IntKind) (m n:Int):Option Value:=match k with
 | .i64=>match k' with
  | .i64=>orElse (intBin op m n) fun _=>binData E op t x y (.int .i64 m) (.int .i64 n)
  | _=>binData E op t x y (.int k m) (.int k' n)
 | _=>binData E op t x y (.int k m) (.int k' n)

def binInt (E:Env) (op:BinOp) (t:TypeId) (x y:Operand) (k:IntKind) (m:Int) (b:Value):Option Value:=match b with
 | .int k' n=>binInts E op t x y k k' m n
 | b=>binOther E op t x y (.int k m) b

def aBin (E:Env) (op:BinOp) (t:TypeId) (x y:Operand) (a b:Value):Option Value:=match a with
 | .int k m=>binInt E op t x y k m b
 | a=>binOther E op t x y a b

abbrev Entry:=Value×Value×Nat

def keyEq (P:Program) (t:TypeId) (k k':Value):Option Bool:=match k with
 | .int .i64 m=>match k' with
  | .int .i64 n=>some (eqI m n)
  | _=>none
 | k=>match isData 4 k' with
  | true=>pureRun P (Op.equal t k k')
  | false=>none

def findKey (P:Program) (t:TypeId) (k:Value):List Entry→Nat→Option (Option (Nat×Entry))
 | [],_=>some none
 | e :: es,i=>match keyEq P t k e.1 with
  | some true=>some (some (i,e))
  | some false=>findKey P t k es (Nat.succ i)
  | none=>none

def isI64:TypeDesc→Bool
 | .int .i64=>true
 | _=>false

def keyOk (E:Env) (t:TypeId) (k:Value):Bool:=match k with
 | .int .i64 _=>match E.ty t with
  | some i=>isI64 i.desc
  | none=>false
 | k=>isData 4 k && (pureRun E.prog (Instr.checkKey false 10000 t k)).isSome && (pureRun E.prog (Instr.checkKey true 10000 t k)).isSome

def entriesOf (x:Option AObj):Option (List Entry×Nat):=match x with
 | some (.map es c)=>some (es,c)
 | _=>none

def mapOf (H:Heap) (m:Value):Option (List Entry×Nat):=match m with
 | .map none=>some ([],0)
 | .map (some r)=>entriesOf (H.objs.get r)
 | _=>none

def found (ok:Bool) (v:Value) (is:Bool):Value:=match ok with
 | true=>.tuple #[v,.bool is]
 | false=>v

def lookedUp (ei:TI) (ok:Bool) (r:Option (Option (Nat×Entry))):Option Value:=match r with
 | none=>none
 | some (some (_,_,v,_))=>some (found ok v true)
 | some none=>match ei.zero with
  | none=>none
  | some z=>some (found ok z false)

def lookIn (E:Env) (kt et:TypeId) (k:Value) (ok:Bool) (m:Option (List Entry×Nat)):Option Value:=match keyOk E kt k with
 | false=>none
 | true=>match m with
  | none=>none
  | some (es,_)=>match E.ty et with
   | none=>none
   | some ei=>lookedUp ei ok (findKey E.prog kt k es 0)

def aLookup (E:Env) (H:Heap) (t:TypeId) (m k:Value) (ok:Bool):Option Value:=match E.ty t with
 | none=>none
 | some i=>match i.desc with
  | .map kt et=>lookIn E kt et k ok (mapOf H m)
  | _=>none

def setAt:List Entry→Nat→Entry→List Entry
 | [],_,_=>[]
 | _ :: l,0,x=>x :: l
 | y :: l,i + 1,x=>y :: setAt l i x

def updated (H:Heap) (r:Nat) (k v:Value) (es:List Entry) (c:Nat) (f:Option (Option (Nat×Entry))):Option Heap:=match f with
 | none=>none
 | some (some (i,k',_,b))=>match Instr.sameBits 10000 k' k with
  | true=>some (H.set r (.map (setAt es i (k,v,b)) c))
  | false=>none
 | some none=>some (H.set r (.map (es ++ [(k,v,c)]) (Nat.succ c)))

def updateAt (E:Env) (H:Heap) (kt:TypeId) (r:Nat) (k v:Value) (m:Option (List Entry×Nat)):Option Heap:=match keyOk E kt k with
 | false=>none
 | true=>match m with
  | none=>none
  | some (es,c)=>updated H r k v es c (findKey E.prog kt k es 0)

def aUpdate (E:Env) (H:Heap) (t:TypeId) (m k v:Value):Option Heap:=match E.ty t with
 | none=>none
 | some i=>match i.desc with
  | .map kt _=>match m with
   | .map (some r)=>updateAt E H kt r k v (entriesOf (H.objs.get r))
   | _=>none
  | _=>none

def entered (H:Heap) (r:Nat) (k:Value) (ei:TI) (es:List Entry) (c:Nat) (f:Option (Option (Nat×Entry))):ARes:=match f with
 | none=>.fail
 | some (some (i,k',v,b))=>match Instr.sameBits 10000 k' k with
  | true=>.val (.tuple #[v,.int .i64 (.ofNat b)]) (H.set r (.map (setAt es i (k,v,b)) c))
  | false=>.fail
 | some none=>match ei.zero with
  | some z=>.val (.tuple #[z,.int .i64 (.ofNat c)]) (H.set r (.map (es ++ [(k,z,c)]) (Nat.succ c)))
  | none=>.fail

def entryAt (E:Env) (H:Heap) (kt et:TypeId) (r:Nat) (k:Value) (m:Option (List Entry×Nat)):ARes:=match keyOk E kt k with
 | false=>.fail
 | true=>match m with
  | none=>.fail
  | some (es,c)=>match E.ty et with
   | none=>.fail
   | some ei=>entered H r k ei es c (findKey E.prog kt k es 0)

def aEntry (E:Env) (H:Heap) (t:TypeId) (m k:Value):ARes:=match E.ty t with
 | none=>.fail
 | some i=>match i.desc with
  | .map kt et=>match m with
   | .map (some r)=>entryAt E H kt et r k (entriesOf (H.objs.get r))
   | _=>.fail
  | _=>.fail

def setBorn (b:Nat) (v:Value):List Entry→Option (List Entry)
 | []=>none
 | (k,w,c) :: es=>match Nat.beq c b with
  | true=>some ((k,v,c) :: es)
  | false=>match setBorn b v es with
   | some l=>some ((k,w,c) :: l)
   | none=>none

def bornSet (H:Heap) (r c:Nat) (es:Option (List Entry)):Option Heap:=match es with
 | some es=>some (H.set r (.map es c))
 | none=>none

def entryStored (H:Heap) (r:Nat) (s v:Value) (m:Option (List Entry×Nat)):Option Heap:=match m with
 | none=>none
 | some (es,c)=>match s with
  | .int _ (.ofNat b)=>bornSet H r c (setBorn b v es)
  | _=>none

def aEntryStore (H:Heap) (m s v:Value):Option Heap:=match m with
 | .map (some r)=>entryStored H r s v (entriesOf (H.objs.get r))
 | _=>none

def byteVal (b:UInt8):Value:=.int .u8 (.ofNat b.toNat)

def elemsAt (H:Heap) (r o m:Nat) (sp:Option Nat):Option (List Value):=match sp with
 | some 2=>match m with
  | 0=>some []
  | _ + 1=>none
 | _=>loadCells H r o m

def elems (H:Heap) (size:Nat) (n:Nat):Value→Option (List Value)
 | .slice (some ⟨r,o,sp⟩) _ _=>elemsAt H r o (Nat.mul n size) sp
 | .slice none _ _=>some []
 | .string s=>some ((s.data.toList.take n).map byteVal)
 | _=>none

def lenOf:Value→Option Nat
 | .slice _ n _=>some n
 | .string s=>some s.size
 | _=>none

def sliceElem (E:Env) (t:TypeId):Option (TypeId×TI):=match E.ty t with
 | none=>none
 | some i=>match i.desc with
  | .slice e=>match E.ty e with
   | none=>none
   | some ei=>some (e,ei)
  | _=>none

def movedRow (H:Heap) (r o e sc size:Nat) (x:Option AObj):Option Heap:=match x with
 | some (.row e' n x _)=>match x with
  | true=>some H
  | false=>match Nat.beq e e' && Nat.ble (Nat.add o (Nat.mul sc size)) n with
   | true=>some (H.set r .dead)
   | false=>none
 | _=>none
def moved (H:Heap) (base:Option Addr) (e sc size:Nat):Option Heap:=match base with
 | none=>some H
 | some ⟨r,o,none⟩=>movedRow H r o e sc size (H.objs.get r)
 | some ⟨_,_,some _⟩=>some H

def grown (e:TypeId) (l:Nat) (cells:List Value) (H:Option Heap):ARes:=match H with
 | some H=>laid (fun r=>slc r 0 l l) H (rowOf e cells false)
 | none=>.fail

def zeroFits (ei:TI):Bool:=match zeroCells ei with
 | some z=>Nat.beq z.length ei.size
 | none=>false
def smallCells (ei:TI) (n l:Nat) (new:List Value):Bool :=
 Nat.ble (Nat.mul l ei.bytes) 1073741824 && Nat.ble l 1073741824 && new.all oneCell && Nat.beq new.length (Nat.mul n ei.size) && zeroFits ei

def appendGrows (H:Heap) (e:TypeId) (ei:TI) (base:Option Addr) (sc:Nat) (n l:Nat) (new:List Value) (old:Option (List Value)):ARes:=match old with
 | none=>.fail
 | some old=>match smallCells ei n l new && Nat.ble 1 ei.size with
  | true=>grown e l (old ++ new) (moved H base e sc ei.size)
  | false=>.fail

def appendFits (H:Heap) (ei:TI) (base:Option Addr) (sl sc l:Nat) (new:List Value):ARes:=match base with
 | some ⟨r,o,s⟩=>match storeCells H r (Nat.add o (Nat.mul sl ei.size)) new with
  | some H=>.val (.slice (some ⟨r,o,s⟩) l sc) H
  | none=>.fail
 | none=>match new with
  | []=>.val (.slice none l sc) H
  | _=>.fail

def appendTo (H:Heap) (e:TypeId) (ei:TI) (base:Option Addr) (sl sc:Nat) (n:Nat) (new:Option (List Value)):ARes:=match new with
 | none=>.fail
 | some new=>forceNat (Nat.add sl n) fun l=>match Nat.ble l sc with
  | true=>appendFits H ei base sl sc l new
  | false=>appendGrows H e ei base sc n l new (elems H ei.size sl (.slice base sl sc))

def isIntDesc:TypeDesc→Bool
 | .int _=>true
 | _=>false

def zeroElems (ei:TI) (n:Nat):Option (List Value):=match zeroCells ei with
 | some z=>match Nat.beq z.length ei.size with
  | true=>some (times z n)
  | false=>none
 | none=>none

def appendMade (H:Heap) (e:TypeId) (ei:TI) (s:Value) (n:Option Nat):ARes:=match n with
 | none=>.fail
 | some n=>match Nat.ble (Nat.mul n ei.bytes) 1073741824 with
  | false=>.fail
  | true=>match s with
   | .slice base sl sc=>match voidBase base with
    | true=>.fail
    | false=>appendTo H e ei base sl sc n (zeroElems ei n)
   | _=>.fail

def appendArgs (E:Env) (H:Heap) (s x:Value) (xt:TypeId) (se:Option (TypeId×TI)):ARes:=match se with
 | none=>.fail
 | some (e,ei)=>match E.ty xt with
  | none=>.fail
  | some xi=>match isIntDesc xi.desc with
   | true=>appendMade H e ei s (asNat 100000 x)
   | false=>match lenOf x with
    | none=>.fail
    | some n=>match s with
     | .slice base sl sc=>match voidBase base with
      | true=>.fail
      | false=>appendTo H e ei base sl sc n (elems H ei.size n x)
     | _=>.fail

def aAppend (E:Env) (H:Heap) (argTypes:List TypeId) (args:List Value):ARes:=match argTypes with
 | [st,xt]=>match args with
  | [s,x]=>appendArgs E H s x xt (sliceElem E st)
  | _=>.fail
 | _=>.fail

def copyInto (H:Heap) (base:Option Addr) (n:Nat) (new:Option (List Value)):ARes:=match new with
 | none=>.fail
 | some new=>match base with
  | none=>.val (.int .i64 (.ofNat n)) H
  | some ⟨r,o,sp⟩=>match voidSp sp with
   | true=>.fail
   | false=>match storeCells H r o new with
    | some H=>.val (.int .i64 (.ofNat n)) H
    | none=>.fail

def copyArgs (H:Heap) (s x:Value) (se:Option (TypeId×TI)):ARes:=match se with
 | none=>.fail
 | some (_,ei)=>match s with
  | .slice base dl _=>match lenOf x with
   | none=>.fail
   | some sl=>forceNat (Nat.min sl dl) fun n=>copyInto H base n (elems H ei.size n x)
  | _=>.fail

def aCopy (E:Env) (H:Heap) (argTypes:List TypeId) (args:List Value):ARes:=match argTypes with
 | dt :: _=>match args with
  | [s,x]=>copyArgs H s x (sliceElem E dt)
  | _=>.fail
 | _=>.fail

def lenIs (n:Nat):Option Value:=some (.int .i64 (.ofNat n))

def lenOfMap (m:Option (List Entry×Nat)):Option Value:=match m with
 | some (es,_)=>lenIs es.length
 | none=>none

def lenTI (E:Env) (H:Heap) (x:Value) (i:TI):Option Value:=match i.desc with
 | .string=>match x with
  | .string s=>lenIs s.size
  | _=>none
 | .array n _=>lenIs n
 | .slice _=>match x with
  | .slice _ n _=>lenIs n
  | _=>none
 | .map _ _=>lenOfMap (mapOf H x)
 | .pointer arr=>match E.ty arr with
  | some j=>match j.desc with
   | .array n _=>lenIs n
   | _=>none
  | none=>none
 | _=>none

def aLen (E:Env) (H:Heap) (argTypes:List TypeId) (args:List Value):Option Value:=match argTypes with
 | t :: _=>match args with
  | x :: _=>match E.ty t with
   | none=>none
   | some i=>lenTI E H x i
  | _=>none
 | _=>none

def capOf (n:Nat) (o:Option AObj):Option Value:=match o with
 | some (.row _ _ x _)=>match x with
  | true=>lenIs n
  | false=>none
 | _=>none

def capTI (H:Heap) (x:Value) (i:TI):Option Value:=match i.desc with
 | .slice _=>match x with
  | .slice none _ n=>lenIs n
  | .slice (some ⟨r,_,none⟩) _ n=>capOf n (H.objs.get r)
  | .slice (some ⟨_,_,some 1⟩) _ n=>lenIs n
  | _=>none
 | _=>none

def aCap (E:Env) (H:Heap) (argTypes:List TypeId) (args:List Value):Option Value:=match argTypes with
 | t :: _=>match args with
  | x :: _=>match E.ty t with
   | none=>none
   | some i=>capTI H x i
  | _=>none
 | _=>none

def onData (H:Heap) (args:List Value) (r:Unit→Option Value):ARes:=match args.all (isData 1) with
 | true=>ofVal H (dataOnly (r ()))
 | false=>.fail

def clearZ (H:Heap) (r o n size:Nat) (z:List Value):ARes:=match Nat.beq z.length size with
 | true=>match storeCells H r o (times z n) with
  | some H=>.val undef H
  | none=>.fail
 | false=>.fail
def clearE (H:Heap) (r o n:Nat) (se:Option (TypeId×TI)):ARes:=match se with
 | some (_,ei)=>match zeroCells ei with
  | some z=>clearZ H r o n ei.size z
  | none=>.fail
 | none=>.fail
def clearSlice (E:Env) (H:Heap) (t:TypeId) (x:Value):ARes:=match x with
 | .slice none _ _=>.val undef H
 | .slice (some ⟨r,o,sp⟩) n _=>match n with
  | 0=>.val undef H
  | k + 1=>match voidSp sp with
   | true=>.fail
   | false=>clearE H r o (Nat.succ k) (sliceElem E t)
 | _=>.fail
def aClear (E:Env) (H:Heap) (argTypes:List TypeId) (args:List Value):ARes:=match argTypes with
 | t :: _=>match args with
  | x :: _=>match E.ty t with
   | some _=>clearSlice E H t x
   | none=>.fail
  | []=>.fail
 | []=>.fail

def aBuiltin (E:Env) (H:Heap) (b:Builtin) (argTypes:Array TypeId) (type:TypeId) (args:List Value):ARes:=match b with
 | .append=>aAppend E H argTypes.toList args
 | .copy=>aCopy E H argTypes.toList args
 | .len=>ofVal H (aLen E H argTypes.toList args)
 | .cap=>ofVal H (aCap E H argTypes.toList args)
 | .clear=>aClear E H argTypes.toList args
 | .max=>onData H args fun _=>pureRun E.prog (Builtin.max_ argTypes type ⟨args⟩)
 | .min=>onData H args fun _=>pureRun E.prog (Builtin.min_ argTypes type ⟨args⟩)
 | _=>.fail

def callFn (f:FuncId) (args:List Value) (H:Heap) (fn:Func):ARes:=match fn.body with
 | some _ => match fn.name == "runtime.NumGoroutine" with
  | false=>.call f args H
  | true=>.fail
 | none=>.fail

def callFunc (E:Env) (f:FuncId) (args:List Value) (H:Heap):ARes:=match E.fn.get f with
 | some fn=>callFn f args H fn
 | none=>.fail

def viaOk (d:TypeDesc) (pointer:Bool):Bool:=match d with
 | .pointer _=>pointer
 | _=>!pointer

def callViaAt (E:Env) (H:Heap) (g:FuncId) (pointer:Bool) (args:List Value) (i:Option TI):ARes:=match i with
 | some i=>match viaOk i.desc pointer with
  | true=>match args with
   | x :: r=>callFunc E g (x :: r) H
   | []=>.fail
  | false=>.fail
 | none=>.fail

def callVia (E:Env) (H:Heap) (t:TypeId) (path:Array FieldStep) (g:FuncId) (pointer:Bool) (args:List Value):ARes:=match path.toList with
 | []=>callViaAt E H g pointer args (E.ty t)
 | _=>.fail

def aCallFn (E:Env) (H:Heap) (fn:Fn) (first captured:Array Value) (args:List Value):ARes:=match fn with
 | .func g=>callFunc E g (first.toList ++ args ++ captured.toList) H
 | .yield l=>.yield l (first.toList ++ args) H
 | .via t path g pointer=>callVia E H t path g pointer (first.toList ++ args)
 | _=>.fail

def aCall (E:Env) (H:Heap) (f:Value) (args:List Value):ARes:=match f with
 | .func fn first captured=>aCallFn E H fn first captured args
 | _=>.fail

def orUndef (v:Option Value):Value:=match v with
 | some v=>v
 | none=>undef

def junk:Value:=.chan (some 0)
def constVal (v:Value):Value:=match v with
 | .int k n=>.int k n
 | v=>match isData 3 v with
  | true=>v
  | false=>junk

def eval (ρ:T Value) (x:Operand):Value:=match x with
 | .tmp t=>orUndef (ρ.get t)
 | .const v=>constVal v
 | .global g=>.pointer (some ⟨g,0,some 0⟩)
 | .func f=>.func (.func f) #[] #[]

def evalOpt (ρ:T Value) (x:Option Operand):Option Value:=match x with
 | some x=>some (eval ρ x)
 | none=>none

def evals (ρ:T Value):List Operand→List Value
 | []=>[]
 | x :: l=>eval ρ x :: evals ρ l

def evalParts (ρ:T Value):List (Nat×Operand)→List (Nat×Value)
 | []=>[]
 | (i,x) :: l=>(i,eval ρ x) :: evalParts ρ l

abbrev Arm:=Env→T Value→Heap→TypeId→ARes

def picked (ρ:T Value) (H:Heap) (a b:Operand) (c:Value):ARes:=match c with
 | .bool true=>.val (eval ρ a) H
 | .bool false=>.val (eval ρ b) H
 | _=>.fail

def zeroOf (i:Option TI):Option Value:=match i with
 | some i=>i.zero
 | none=>none

def boxed (elem:TypeId) (cells:Option (List Value)):Option ((Nat→Value)×AObj):=match cells with
 | some cells=>some (ptr0,rowOf elem cells true)
 | none=>none

def allocated (elem:TypeId) (z:Option Value):Option ((Nat→Value)×AObj):=match z with
 | some z=>boxed elem (cellsOf z)
 | none=>none

def placeOf (off:Nat) (i:Option TI):Option (Nat×Nat):=match i with
 | some fi=>some (off,fi.size)
 | none=>none

def structPlace (E:Env) (fields:Array Field) (i:Nat):Option (Nat×Nat):=match lget fields.toList i with
 | some f=>placeOf f.offset (E.ty f.type)
 | none=>none

def typed (i:Option TI):Bool:=match i with
 | some _=>true
 | none=>false

def allTyped (E:Env):List Field→Bool
 | []=>true
 | f :: l=>typed (E.ty f.type) && allTyped E l

def arrayPlace (size:Nat) (i:Nat):Option (Nat×Nat):=some (Nat.mul i size,size)

def aggIs (H:Heap) (cells:Option (List Value)):ARes:=match cells with
 | some cells=>.val (.agg ⟨cells⟩) H
 | none=>.fail

def buildTI (E:Env) (H:Heap) (parts:List (Nat×Value)) (i:TI) (z:List Value):ARes:=match i.desc with
 | .struct fields=>match allTyped E fields.toList with
  | true=>aggIs H (fill (structPlace E fields) z parts)
  | false=>.fail
 | .array _ elem=>match E.ty elem with
  | some ei=>aggIs H (fill (arrayPlace ei.size) z parts)
  | none=>.fail
 | _=>.fail

def buildZ (E:Env) (H:Heap) (parts:List (Nat×Value)) (i:TI):ARes:=match zeroCells i with
 | some z=>buildTI E H parts i z
 | none=>.fail

def sliceIs (elem:TypeId) (l c:Nat) (cells:Option (List Value)):Option ((Nat→Value)×AObj):=match cells with
 | some cells=>some (fun r=>slc r 0 l c,rowOf elem cells true)
 | none=>none

def buildSliceZ (len:Nat) (parts:List (Nat×Value)) (elem:TypeId) (size:Nat) (z:List Value):Option ((Nat→Value)×AObj) :=
 match Nat.ble (Nat.mul len size) 10000 && Nat.beq z.length size with
 | true=>sliceIs elem len len (fill (arrayPlace size) (times z len) parts)
 | false=>none

def buildSliceE (len:Nat) (parts:List (Nat×Value)) (se:Option (TypeId×TI)):Option ((Nat→Value)×AObj):=match se with
 | some (e,ei)=>match zeroCells ei with
  | some z=>buildSliceZ len parts e ei.size z
  | none=>none
 | none=>none

def atPtr (v:Value) (k:Nat→Nat→ARes):ARes:=match v with
 | .pointer (some ⟨r,o,none⟩)=>k r o
 | _=>.fail

def nilChecked (H:Heap) (v:Value):ARes:=match v with
 | .pointer (some a)=>.val (.pointer (some a)) H
 | .func fn a b=>match fn with
  | .func _=>.val (.func fn a b) H
  | .yield _=>.val (.func fn a b) H
  | .via _ _ _ _=>.val (.func fn a b) H
  | _=>.fail
 | .iface t v=>.val (.iface t v) H
 | _=>.fail

def onOne (H:Heap) (v:Value) (r:Unit→Option Value):ARes:=match isData 1 v with
 | true=>ofVal H (dataOnly (r ()))
 | false=>.fail

def toArray (H:Heap) (n:Nat) (v:Value):ARes:=match v with
 | .slice (some ⟨r,o,sp⟩) len _=>match Nat.ble n len && !voidSp sp with
  | true=>.val (ptr r o) H
  | false=>.fail
 | _=>.fail

def toArrayTI (H:Heap) (v:Value) (i:Option TI):ARes:=match i with
 | some i=>match i.desc with
  | .array n _=>toArray H n v
  | _=>.fail
 | none=>.fail

def ifaceOf (H:Heap) (t:TypeId) (v:Value) (i:Option TI):ARes:=match i with
 | some i=>match i.desc with
  | .interface _=>.fail
  | _=>.val (.iface t v) H
 | none=>.fail

def funcOf (H:Heap) (fn:Fn) (first captured:List Value):ARes:=match fn with
 | .func _=>.val (.func fn ⟨first⟩ ⟨captured⟩) H
 | .via _ _ _ _=>.val (.func fn ⟨first⟩ ⟨captured⟩) H
 | _=>.fail

abbrev New:=Option ((Nat→Value)×AObj)

def newMap:New:=some (mapAt,.map [] 0)

def mapHint (i:Option TI) (v:Value):New:=match i with
 | some i=>match i.desc with
  | .map _ _=>match v with
   | .int _ _=>newMap
   | _=>none
  | _=>none
 | none=>none

def makeSliceZ (l c:Nat) (elem:TypeId) (ei:TI) (z:List Value):New :=
 match Nat.ble l c && Nat.ble (Nat.mul ei.bytes c) 1073741824 && Nat.beq z.length ei.size with
 | true=>some (fun r=>slc r 0 l c,rowOf elem (times z c) true)
 | false=>none

def makeSliceE (l c:Option Nat) (se:Option (TypeId×TI)):New:=match se with
 | some (e,ei)=>match zeroCells ei with
  | some z=>match l with
   | some l=>match c with
    | some c=>makeSliceZ l c e ei z
    | none=>none
   | none=>none
  | none=>none
 | none=>none

def cutTo (size o l m:Nat):Nat:=match Nat.beq m l with
 | true=>o
 | false=>Nat.add o (Nat.mul l size)

def cutLim (H:Heap) (size r o:Nat) (b:Option (Nat×Nat×Nat)):ARes:=match b with
 | none=>.fail
 | some (l,h,m)=>.val (lim r (cutTo size o l m) (Nat.sub h l) (Nat.sub m l)) H

def cutAll (H:Heap) (h m l:Nat):ARes:=match Nat.beq (Nat.sub h l) 0 && Nat.beq (Nat.sub m l) 0 with
 | true=>.val void H
 | false=>.fail

def cutOpen (H:Heap) (size r o:Nat) (b:Option (Nat×Nat×Nat)):ARes:=match b with
 | none=>.fail
 | some (l,h,m)=>match Nat.ble (Nat.succ l) m with
  | true=>.val (slc r (Nat.add o (Nat.mul l size)) (Nat.sub h l) (Nat.sub m l)) H
  | false=>cutAll H h m l

def cutExact (H:Heap) (size r o:Nat) (b:Option (Nat×Nat×Nat)):ARes:=match b with
 | none=>.fail
 | some (l,h,m)=>.val (slc r (cutTo size o l m) (Nat.sub h l) (Nat.sub m l)) H

def cutOf (H:Heap) (size r o:Nat) (noMax:Bool) (b:Option (Nat×Nat×Nat)):ARes:=match noMax with
 | true=>cutOpen H size r o b
 | false=>cutLim H size r o b
def cutObj (H:Heap) (size r o:Nat) (noMax:Bool) (b:Option (Nat×Nat×Nat)) (x:Option AObj):ARes:=match x with
 | some (.row _ _ x _)=>match x with
  | true=>cutExact H size r o b
  | false=>cutOf H size r o noMax b
 | some (.lent _ _)=>cutOf H size r o noMax b
 | _=>.fail

def cutNil (H:Heap) (b:Option (Nat×Nat×Nat)):ARes:=match b with
 | none=>.fail
 | some (l,h,m)=>.val (.slice none (Nat.sub h l) (Nat.sub m l)) H

def cutString (H:Heap) (s:ByteArray) (mx:Option Value) (b:Option (Nat×Nat×Nat)):ARes:=match mx with
 | some _=>.fail
 | none=>match b with
  | none=>.fail
  | some (l,h,_)=>.val (.string (s.extract l h)) H

def cutVoid (H:Heap) (noMax:Bool) (b:Option (Nat×Nat×Nat)):ARes:=match noMax with
 | true=>match b with
  | none=>.fail
  | some _=>.val void H
 | false=>.fail

def sliceTI (E:Env) (H:Heap) (v:Value) (lo hi mx:Option Value) (i:TI):ARes:=match i.desc with
 | .string=>match v with
  | .string s=>cutString H s mx (bounds s.size s.size lo hi none)
  | _=>.fail
 | .slice elem=>match E.ty elem with
  | none=>.fail
  | some ei=>match v with
   | .slice none len cap=>cutNil H (bounds len cap lo hi mx)
   | .slice (some ⟨r,o,none⟩) len cap=>cutObj H ei.size r o mx.isNone (bounds len cap lo hi mx) (H.objs.get r)
   | .slice (some ⟨r,o,some 1⟩) len cap=>cutLim H ei.size r o (bounds len cap lo hi mx)
   | .slice (some ⟨_,_,some 2⟩) _ _=>cutVoid H mx.isNone (bounds 0 0 lo hi mx)
   | _=>.fail
 | .array n elem=>match E.ty elem with
  | none=>.fail
  | some ei=>match v with
   | .pointer (some ⟨r,o,none⟩)=>cutLim H ei.size r o (bounds n n lo hi mx)
   | _=>.fail
 | _=>.fail

def fieldPtr (H:Heap) (r o off:Nat) (fi:Option TI):ARes:=match fi with
 | some fi=>match Nat.beq fi.size 0 with
  | true=>.fail
  | false=>.val (ptr r (Nat.add o off)) H
 | none=>.fail

def fieldOf (i:Option TI) (f:Nat):Option Field:=match i with
 | some i=>match i.desc with
  | .struct fields=>lget fields.toList f
  | _=>none
 | none=>none

def fieldAddrF (E:Env) (H:Heap) (v:Value) (fd:Option Field):ARes:=match fd with
 | some fd=>match v with
  | .pointer (some ⟨r,o,none⟩)=>fieldPtr H r o fd.offset (E.ty fd.type)
  | _=>.fail
 | none=>.fail

def partOf (H:Heap) (cs:List Value) (off:Nat) (fi:Option TI):ARes:=match fi with
 | some fi=>ofVal H (part cs off fi)
 | none=>.fail

def fieldF (E:Env) (H:Heap) (v:Value) (fd:Option Field):ARes:=match fd with
 | some fd=>match v with
  | .agg cs=>partOf H cs.toList fd.offset (E.ty fd.type)
  | _=>.fail
 | none=>.fail

def below (n:Nat) (j:Int):Option Nat:=match j with
 | .ofNat j=>match Nat.ble (Nat.succ j) n with
  | true=>some j
  | false=>none
 | _=>none
def indexOf (n:Nat) (v:Value):Option Nat:=match v with
 | .int _ j=>below n j
 | _=>none

def elemPtr (H:Heap) (r o:Nat) (ei:Option TI) (j:Option Nat):ARes:=match ei with
 | some ei=>match j with
  | some j=>.val (ptr r (Nat.add o (Nat.mul j ei.size))) H
  | none=>.fail
 | none=>.fail

def indexAddrTI (E:Env) (H:Heap) (v j:Value) (i:Option TI):ARes:=match i with
 | none=>.fail
 | some i=>match i.desc with
  | .array n elem=>match v with
   | .pointer (some ⟨r,o,none⟩)=>elemPtr H r o (E.ty elem) (indexOf n j)
   | _=>.fail
  | .slice elem=>match v with
   | .slice (some ⟨r,o,sp⟩) n _=>match voidSp sp with
    | true=>.fail
    | false=>elemPtr H r o (E.ty elem) (indexOf n j)
   | _=>.fail
  | _=>.fail

def elemOf (H:Heap) (cs:List Value) (ei:Option TI) (j:Option Nat):ARes:=match ei with
 | some ei=>match j with
  | some j=>ofVal H (part cs (Nat.mul j ei.size) ei)
  | none=>.fail
 | none=>.fail

def byteAt (H:Heap) (s:ByteArray) (j:Option Nat):ARes:=match j with
 | some j=>match lget s.data.toList j with
  | some b=>.val (byteVal b) H
  | none=>.fail
 | none=>.fail

def indexTI (E:Env) (H:Heap) (v j:Value) (i:Option TI):ARes:=match i with
 | none=>.fail
 | some i=>match i.desc with
  | .array n elem=>match v with
   | .agg cs=>elemOf H cs.toList (E.ty elem) (indexOf n j)
   | _=>.fail
  | .string=>match v with
   | .string s=>byteAt H s (indexOf s.size j)
   | _=>.fail
  | _=>.fail

def extracted (H:Heap) (v:Value) (i:Nat):ARes:=match v with
 | .tuple vs=>ofVal H (lget vs.toList i)
 | _=>.fail

def callOp (E:Env) (ρ:T Value) (H:Heap) (type:TypeId) (argTypes:Array TypeId) (args:List Value) (c:Callee):ARes:=match c with
 | .value f=>aCall E H (eval ρ f) args
 | .builtin b=>aBuiltin E H b argTypes type args
 | .invoke _ _=>.fail

def laidBy (x:New) (H:Heap):ARes:=match x with
 | some (f,o)=>laid f H o
 | none=>.fail

def mapNew (E:Env) (ρ:T Value) (t:TypeId) (r:Option Operand):New:=match r with
 | none=>newMap
 | some x=>mapHint (E.ty t) (eval ρ x)
def armMove (x:Operand):Arm:=fun _ ρ H _=>.val (eval ρ x) H
def armPick (c a b:Operand):Arm:=fun _ ρ H _=>picked ρ H a b (eval ρ c)
def armAlloc (elem:TypeId):Arm:=fun E _ H _=>laidBy (allocated elem (zeroOf (E.ty elem))) H
def armBox (elem:TypeId) (x:Operand):Arm:=fun _ ρ H _=>laidBy (boxed elem (cellsOf (eval ρ x))) H
def armBuild (t:TypeId) (parts:Array (Nat×Operand)):Arm:=fun E ρ H _=>match E.ty t with
 | some i=>buildZ E H (evalParts ρ parts.toList) i
 | none=>.fail
def armBuildSlice (t:TypeId) (len:Nat) (parts:Array (Nat×Operand)):Arm:=fun E ρ H _=>laidBy (buildSliceE len (evalParts ρ parts.toList) (sliceElem E t)) H
def armInsert (t:TypeId) (m k x:Operand):Arm:=fun E ρ H _=>ofHeap (aUpdate E H t (eval ρ m) (eval ρ k) (eval ρ x))
def armLoad (t:TypeId) (a:Operand):Arm:=fun E ρ H _=>atPtr (eval ρ a) fun r o=>ofVal H (loadVar E H t r o)
def armStore (t:TypeId) (a x:Operand):Arm:=fun E ρ H _=>atPtr (eval ρ a) fun r o=>ofHeap (storeVar E H t r o (eval ρ x))
def armFail1 (_:Nat):Arm:=fun _ _ _ _=>.fail
def armNilCheck (x:Operand):Arm:=fun _ ρ H _=>nilChecked H (eval ρ x)
def armBin (op:BinOp) (t:TypeId) (x y:Operand) (_:TypeId):Arm:=fun E ρ H _=>ofVal H (aBin E op t x y (eval ρ x) (eval ρ y))
def armUn (op:UnOp) (_:TypeId) (x:Operand):Arm:=fun E ρ H _=>onOne H (eval ρ x) fun _=>pureRun E.prog (Op.unary op (eval ρ x))
def convUnk (E:Env) (H:Heap) (src dst:TypeId) (v:Value):ARes:=match E.ty src with
 | some _=>match E.ty dst with
  | some i=>ofVal H (E.conv i.desc v)
  | none=>.fail
 | none=>.fail
def bytesOf:List Value→Option (List UInt8)
 | []=>some []
 | v :: l=>match v with
  | .int .u8 n=>match bytesOf l with
   | some bs=>some (UInt8.ofNat n.toNat :: bs)
   | none=>none
  | _=>none
def isU8 (E:Env) (t:TypeId):Bool:=match E.ty t with
 | some i=>match i.desc with
  | .int .u8=>true
  | _=>false
 | none=>false
def isStr (E:Env) (t:TypeId):Bool:=match E.ty t with
 | some i=>match i.desc with
  | .string=>true
  | _=>false
 | none=>false
def isBytes (E:Env) (t:TypeId):Bool:=match sliceElem E t with
 | some (e,_)=>isU8 E e
 | none=>false
def textOf (H:Heap) (bs:Option (List UInt8)):ARes:=match bs with
 | some bs=>.val (.string ⟨⟨bs⟩⟩) H
 | none=>.fail
def bytesIn (cells:Option (List Value)):Option (List UInt8):=match cells with
 | some l=>bytesOf l
 | none=>none
def convSlice (E:Env) (H:Heap) (src dst:TypeId) (v:Value):ARes:=match v with
 | .slice (some ⟨r,o,sp⟩) len _=>match isBytes E src && isStr E dst with
  | true=>textOf H (bytesIn (elemsAt H r o len sp))
  | false=>.fail
 | v=>convUnk E H src dst v
def converted (E:Env) (H:Heap) (src dst:TypeId) (v:Value):ARes:=match isData 1 v with
 | true=>ofVal H (dataOnly (pureRun E.prog (convert src dst v)))
 | false=>convSlice E H src dst v
def armConvert (src dst:TypeId) (x:Operand):Arm:=fun E ρ H _=>converted E H src dst (eval ρ x)
def armToArray (t:TypeId) (x:Operand):Arm:=fun E ρ H _=>toArrayTI H (eval ρ x) (E.ty t)
def armIface (t:TypeId) (x:Operand):Arm:=fun E ρ H _=>ifaceOf H t (eval ρ x) (E.ty t)
def armFunc (fn:Fn) (first captured:Array Operand):Arm:=fun _ ρ H _=>funcOf H fn (evals ρ first.toList) (evals ρ captured.toList)
def armMap (t:TypeId) (r:Option Operand):Arm:=fun E ρ H _=>laidBy (mapNew E ρ t r) H
def armChan (_:TypeId) (_:Operand):Arm:=fun _ _ _ _=>.fail
def armMakeSlice (t:TypeId) (l c:Operand):Arm:=fun E ρ H _=>laidBy (makeSliceE (asNat 100000 (eval ρ l)) (asNat 100000 (eval ρ c)) (sliceElem E t)) H
def armSlice (t:TypeId) (x:Operand) (lo hi mx:Option Operand):Arm:=fun E ρ H _=>match E.ty t with
 | some i=>sliceTI E H (eval ρ x) (evalOpt ρ lo) (evalOpt ρ hi) (evalOpt ρ mx) i
 | none=>.fail
def armFieldAddr (t:TypeId) (x:Operand) (f:Nat):Arm:=fun E ρ H _=>fieldAddrF E H (eval ρ x) (fieldOf (E.ty t) f)
def armField (t:TypeId) (x:Operand) (f:Nat):Arm:=fun E ρ H _=>fieldF E H (eval ρ x) (fieldOf (E.ty t) f)
def armIndexAddr (t:TypeId) (x j:Operand):Arm:=fun E ρ H _=>indexAddrTI E H (eval ρ x) (eval ρ j) (E.ty t)
def armIndex (t:TypeId) (x j:Operand):Arm:=fun E ρ H _=>indexTI E H (eval ρ x) (eval ρ j) (E.ty t)
def armLookup (t:TypeId) (x j:Operand) (ok:Bool):Arm:=fun E ρ H _=>ofVal H (aLookup E H t (eval ρ x) (eval ρ j) ok)
def armEntry (t:TypeId) (m k:Operand):Arm:=fun E ρ H _=>aEntry E H t (eval ρ m) (eval ρ k)
def armEntryStore (_:TypeId) (m s x:Operand):Arm:=fun _ ρ H _=>ofHeap (aEntryStore H (eval ρ m) (eval ρ s) (eval ρ x))
def rangeOf (i:Option TI) (v:Value):Option ((Nat→Value)×AObj):=match i with
 | some i=>match i.desc with
  | .string=>match v with
   | .string s=>some (ptr0,.iter s 0)
   | _=>none
  | _=>none
 | none=>none
def armRange (t:TypeId) (x:Operand):Arm:=fun E ρ H _=>laidBy (rangeOf (E.ty t) (eval ρ x)) H
def nextAt (H:Heap) (r:Nat) (s:ByteArray) (pos:Nat) (p:Nat×Nat):ARes:=match p with
 | (c,width)=>forceNat (Nat.add pos width) fun n=>forceNat c fun c=>.val (.tuple #[.bool true,.int .i64 (.ofNat pos),.int .i32 (.ofNat c)]) (H.set r (.iter s n))
def nextIn (H:Heap) (r:Nat) (o:Option AObj):ARes:=match o with
 | some (.iter s pos)=>match Nat.ble (Nat.succ pos) s.size with
  | true=>nextAt H r s pos (Utf8.decode s pos)
  | false=>.val (.tuple #[.bool false]) H
 | _=>.fail
def nextOf (H:Heap) (isString:Bool) (v:Value):ARes:=match isString with
 | true=>match v with
  | .pointer (some ⟨r,0,none⟩)=>nextIn H r (H.objs.get r)
  | _=>.fail
 | false=>.fail
def armNext (x:Operand) (isString:Bool):Arm:=fun _ ρ H _=>nextOf H isString (eval ρ x)
def armEntryOf (_:Operand):Arm:=fun _ _ _ _=>.fail
def armAssert (_:Operand) (_ _:TypeId) (_:Bool):Arm:=fun _ _ _ _=>.fail
def armExtract (x:Operand) (i:Nat):Arm:=fun _ ρ H _=>extracted H (eval ρ x) i
def armCall (c:Call):Arm:=fun E ρ H type=>callOp E ρ H type c.argTypes (evals ρ c.args.toList) c.callee
def armGo (_:Call):Arm:=fun _ _ _ _=>.fail
def armPanic (_:Operand):Arm:=fun _ _ _ _=>.fail
def armSend (_ _:Operand):Arm:=fun _ _ _ _=>.fail
def armRecv (_:TypeId) (_:Operand) (_:Bool):Arm:=fun _ _ _ _=>.fail
def armSelect (_:Array SelectCase) (_:Bool):Arm:=fun _ _ _ _=>.fail

def aop (op:Op):Arm :=
 @Op.casesOn (fun _=>Arm) op armMove armMove armPick armAlloc armBox armBuild armBuildSlice armInsert armLoad armStore armFail1 armFail1 armNilCheck armBin armUn armConvert armToArray
  armIface armFunc armMap armChan armMakeSlice armSlice armFieldAddr armField armIndexAddr armIndex armLookup armInsert armEntry armEntryStore armRange armNext armEntryOf armAssert armExtract
  armCall armGo armGo armPanic armSend armRecv armSelect

inductive AExit where
 | normal | ret | exit (id:Nat) | goto (l:Nat)

structure St where
 tmps:T Value
 size:Nat
 heap:Heap
 round:Option Nat
 marks:List Nat

def St.onHeap (s:St) (f:Heap→Heap):St:=@St.rec (fun _=>St) (fun t z h r m=>⟨t,z,f h,r,m⟩) s

def putDst (tmps:T Value) (size:Nat) (d:Option Tmp) (v:Value):T Value:=match d with
 | some d=>match Nat.ble (Nat.succ d) size with
  | true=>tmps.put d v
  | false=>tmps
 | none=>tmps

def boolIs (want:Bool) (v:Option Value):Bool:=match v with
 | some (.bool b)=>b == want
 | _=>false

def dstOf (o:Option Oper):Option Tmp:=match o with
 | some o=>o.dst
 | none=>none

def saidBy (ρ:T Value) (d:Option Tmp) (want:Bool):Bool:=match d with
 | some d=>boolIs want (ρ.get d)
 | none=>false

def guardOk (ops:Array Oper) (ρ:T Value) (g:Option (Nat×Bool)):Bool:=match g with
 | none=>true
 | some (j,want)=>saidBy ρ (dstOf (lget ops.toList j)) want

abbrev Self:=Code→St→Option (AExit×St)

def resultCell (E:Env) (H:Heap) (t:TypeId) (v:Option Value):Option Value:=match v with
 | some (.pointer (some ⟨r,o,none⟩))=>loadVar E H t r o
 | _=>none

def resultOf (E:Env) (ρ:T Value) (H:Heap):ResultVar→Option Value
 | .tmp t=>ρ.get t
 | .cell a t=>resultCell E H t (ρ.get a)

def resultsIn (E:Env) (ρ:T Value) (H:Heap):List ResultVar→Option (List Value)
 | []=>some []
 | r :: rs=>match resultOf E ρ H r with
  | none=>none
  | some v=>match resultsIn E ρ H rs with
   | none=>none
   | some vs=>some (v :: vs)

def tupled (H:Heap) (vs:Option (List Value)):Option (Value×Heap):=match vs with
 | none=>none
 | some [v]=>some (v,H)
 | some vs=>some (.tuple ⟨vs⟩,H)

def takeMark (H:Heap) (d:Nat) (x:Option AObj):Option Heap:=match x with
 | some .noDefers=>some (H.set d .dead)
 | _=>none
def takeMarks:List Nat→Heap→Option Heap
 | [],H=>some H
 | d :: ds,H=>match takeMark H d (H.objs.get d) with
  | some H=>takeMarks ds H
  | none=>none

def resultsAt (E:Env) (fn:Func) (s:St) (H:Option Heap):Option (Value×Heap):=match H with
 | some H=>tupled H (resultsIn E s.tmps H fn.results.toList)
 | none=>none

def resultsOf (E:Env) (fn:Func) (s:St):Option (Value×Heap):=resultsAt E fn s (takeMarks s.marks s.heap)

def leave (E:Env) (fn:Func) (r:Option (AExit×St)):Option (Value×Heap):=match r with
 | some (.normal,s)=>resultsOf E fn s
 | some (.ret,s)=>resultsOf E fn s
 | _=>none

def enterBody (E:Env) (self:Self) (args:List Value) (H:Heap) (fn:Func) (body:Option Code):Option (Value×Heap):=match body with
 | none=>none
 | some body=>match Nat.ble args.length fn.ntmps with
  | true=>leave E fn (self body ⟨T.ofList T.empty 0 args,fn.ntmps,H,none,[]⟩)
  | false=>none

def enterFn (E:Env) (self:Self) (args:List Value) (H:Heap) (fn:Option Func):Option (Value×Heap):=match fn with
 | none=>none
 | some fn=>enterBody E self args H fn fn.body

def enterOr (E:Env) (self:Self) (f:FuncId) (args:List Value) (H:Heap) (r:Option (Value×Heap)):Option (Value×Heap):=match r with
 | some r=>some r
 | none=>enterFn E self args H (E.fn.get f)

def enter (E:Env) (self:Self) (f:FuncId) (args:List Value) (H:Heap):Option (Value×Heap):=match E.memo f args with
 | some v=>some (v,H)
 | none=>enterOr E self f args H (E.memoM f args H)

def setParams (size:Nat):List Tmp→List Value→T Value→T Value
 | p :: ps,v :: vs,t=>setParams size ps vs (putDst t size (some p) v)
 | _,_,t=>t

def setLoopObj (H:Heap) (l:Nat) (state:LoopState) (pending:Option Code) (x:Option AObj):Option Heap:=match x with
 | some (.loop _ _ tmps size params assign body d)=>some (H.set l (.loop state pending tmps size params assign body d))
 | _=>none
def Heap.setLoop (H:Heap) (l:Nat) (state:LoopState) (pending:Option Code):Option Heap:=setLoopObj H l state pending (H.objs.get l)

def yields (b:Bool) (H:Option Heap):Option (Value×Heap):=match H with
 | some H=>some (.bool b,H)
 | none=>none

def endRound (l:Nat) (s:St) (e:AExit):Option (Value×Heap):=match e with
 | .normal=>yields true (s.heap.setLoop l .ready none)
 | .ret=>yields false (s.heap.setLoop l .done (some .ret))
 | .exit id=>yields false (s.heap.setLoop l .done (some (.exit id)))
 | .goto id=>yields false (s.heap.setLoop l .done (some (.goto id)))

def afterRound (l:Nat) (r:Option (AExit×St)):Option (Value×Heap):=match r with
 | none=>none
 | some (e,s)=>endRound l s e

def runBody (self:Self) (l:Nat) (s:St) (body:Code) (x:Option AObj):Option (Value×Heap):=match x with
 | some (.loop .ready p tmps size params assign body' d)=>afterRound l (self body (s.onHeap fun h=>h.set l (.loop .busy p tmps size params assign body' d)))
 | _=>none

def roundBody (self:Self) (l:Nat) (body:Code) (r:Option (AExit×St)):Option (Value×Heap):=match r with
 | some (.normal,s)=>runBody self l s body (s.heap.objs.get l)
 | _=>none

def yieldTo (self:Self) (l:Nat) (args:List Value) (H:Heap) (x:Option AObj):Option (Value×Heap):=match x with
 | some (.loop _ _ tmps size params assign body _)=>match Nat.beq args.length params.size with
  | true=>roundBody self l body (self assign ⟨setParams size params.toList args tmps,size,H,some l,[]⟩)
  | false=>none
 | _=>none

def yielding (self:Self) (l:Nat) (args:List Value) (H:Heap):Option (Value×Heap):=yieldTo self l args H (H.objs.get l)

def doCall (E:Env) (self:Self) (r:ARes):Option (Value×Heap):=match r with
 | .val v H=>some (v,H)
 | .call f args H=>enter E self f args H
 | .yield l args H=>yielding self l args H
 | .fail=>none

def evOp (E:Env) (self:Self) (o:Oper) (s:St):Option (Value×Heap):=@St.rec (fun _=>Option (Value×Heap)) (fun t _ h _ _=>doCall E self (aop o.op E t h o.type)) s

def St.done (s:St) (d:Option Tmp) (v:Value) (H:Heap):St:=@St.rec (fun _=>St) (fun t z _ r m=>⟨putDst t z d v,z,H,r,m⟩) s
def St.keep (s:St) (d:Option Tmp) (v:Value):St:=@St.rec (fun _=>St) (fun t z h r m=>⟨putDst t z d v,z,h,r,m⟩) s

def afterOp (s:St) (d:Option Tmp) (k:St→Option (AExit×St)) (r:Option (Value×Heap)):Option (AExit×St):=match r with
 | some (v,H)=>force v fun v=>k (s.done d v H)
 | none=>none

def evOps (E:Env) (self:Self) (ops:Array Oper):List Oper→St→Option (AExit×St)
 | [],s=>some (.normal,s)
 | o :: l,s=>match guardOk ops s.tmps o.guard with
  | true=>afterOp s o.dst (evOps E self ops l) (evOp E self o s)
  | false=>evOps E self ops l (s.keep o.dst undef)

/-! Regions that draw their order. -/

def readsOnly (op:Op):Bool:=match op with
 | .move _ | .assign _ | .pick _ _ _ | .build _ _ | .load _ _ | .nilCheck _ | .binOp _ _ _ _ _ | .unOp _ _ _ | .convert _ _ _ | .sliceToArrayPointer _ _ | .makeInterface _ _ | .makeFunc _ _ _
 | .slice _ _ _ _ _ | .fieldAddr _ _ _ | .field _ _ _ | .indexAddr _ _ _ | .index _ _ _ | .lookup _ _ _ _ | .extract _ _=>true
 | .call c=>match c.callee with
  | .builtin b=>match b with
   | .len | .cap | .max | .min=>true
   | _=>false
  | _=>false
 | _=>false

def layOf (E:Env) (ρ:T Value) (op:Op):New:=match op with
 | .alloc t=>allocated t (zeroOf (E.ty t))
 | .box t x=>boxed t (cellsOf (eval ρ x))
 | .buildSlice t len parts=>buildSliceE len (evalParts ρ parts.toList) (sliceElem E t)
 | .makeSlice t l c=>makeSliceE (asNat 100000 (eval ρ l)) (asNat 100000 (eval ρ c)) (sliceElem E t)
 | .makeMap t r=>mapNew E ρ t r
 | _=>none

def lays (op:Op):Bool:=match op with
 | .alloc _ | .box _ _ | .buildSlice _ _ _ | .makeSlice _ _ _ | .makeMap _ _=>true
 | _=>false

def bindsAny (e:Edge):Bool:=Region.binds .any e

def maskOf (acc:List Nat):List Edge→Nat
 | []=>0
 | e :: es=>match bindsAny e with
  | true=>Nat.lor (Nat.lor (Nat.pow 2 e.on) (match lget acc e.on with | some m=>m | none=>0)) (maskOf acc es)
  | false=>maskOf acc es

def masks:List Oper→List Nat→List Nat
 | [],acc=>acc
 | o :: l,acc=>masks l (acc ++ [maskOf acc o.after.toList])

def masksOf (ops:Array Oper):List Nat:=masks ops.toList []

def maskAt (ms:List Nat) (i:Nat):Nat:=match lget ms i with
 | some m=>m
 | none=>0

def comes (ms:List Nat) (j i:Nat):Bool:=Nat.testBit (maskAt ms i) j

def tmpOf (x:Operand):List Tmp:=match x with
 | .tmp t=>[t]
 | _=>[]

def guardTmp (ops:Array Oper) (g:Option (Nat×Bool)):List Tmp:=match g with
 | none=>[]
 | some (j,_)=>match dstOf (lget ops.toList j) with
  | some d=>[d]
  | none=>[]

def looks (ops:Array Oper) (o:Oper):List Tmp:=o.op.operands.toList.flatMap tmpOf ++ guardTmp ops o.guard

def isDst (o:Oper) (t:Tmp):Bool:=match o.dst with
 | some d=>Nat.beq d t
 | none=>false

def pairOk (ops:Array Oper) (ms:List Nat) (i j:Nat) (o p:Oper):Bool:=match Nat.beq i j with
 | true=>true
 | false=>match (looks ops o).any (isDst p) with
  | false=>true
  | true=>match Nat.ble j i with
   | true=>comes ms j i
   | false=>comes ms i j

def sameDst (o p:Oper):Bool:=match o.dst with
 | some d=>isDst p d
 | none=>false

def chained (ahead:Bool) (o:Oper):Bool:=match readsOnly o.op with
 | true=>false
 | false=>!(ahead && lays o.op)

def apart (ahead:Bool) (ms:List Nat) (i j:Nat) (o p:Oper):Bool:=match Nat.ble (Nat.succ i) j with
 | false=>true
 | true=>!sameDst o p && (!(chained ahead o && chained ahead p) || comes ms i j)

def pairsOk (ahead:Bool) (ops:Array Oper) (ms:List Nat) (i:Nat) (o:Oper):Nat→List Oper→Bool
 | _,[]=>true
 | j,p :: ps=>pairOk ops ms i j o p && apart ahead ms i j o p && pairsOk ahead ops ms i o (Nat.succ j) ps

def backward (i:Nat) (o:Oper):Bool:=o.after.toList.all fun e=>!bindsAny e || Nat.ble (Nat.succ e.on) i

def allOk (ahead:Bool) (ops:Array Oper) (ms:List Nat):Nat→List Oper→Bool
 | _,[]=>true
 | i,o :: l=>backward i o && pairsOk ahead ops ms i o 0 ops.toList && allOk ahead ops ms (Nat.succ i) l

def drawOk (ahead:Bool) (ops:Array Oper):Bool:=allOk ahead ops (masksOf ops) 0 ops.toList

structure Note where
 tmps:T Value
 val:Value
 turned:Nat
 done:Bool

structure Trace where
 notes:List Note
 heaps:List Heap
 last:St

def cons (n:Note) (r:Option Trace):Option Trace:=match r with
 | some t=>some ⟨n :: t.notes,t.heaps,t.last⟩
 | none=>none
def consHeap (H:Heap) (r:Option Trace):Option Trace:=match r with
 | some t=>some ⟨t.notes,H :: t.heaps,t.last⟩
 | none=>none

def noted (s:St) (d:Option Tmp) (k:Nat) (turns:Bool) (go:St→Nat→Option Trace) (r:Option (Value×Heap)):Option Trace:=match r with
 | none=>none
 | some (v,H)=>force v fun v=>match turns with
  | true=>consHeap H (cons ⟨s.tmps,v,k,true⟩ (go (s.done d v H) (Nat.succ k)))
  | false=>cons ⟨s.tmps,v,k,true⟩ (go (s.keep d v) k)

def pureVal (r:ARes):Option (Value×Heap):=match r with
 | .val v H=>some (v,H)
 | _=>none

def newAt (r:Nat) (x:New):Option Value:=match x with
 | some (f,_)=>some (f r)
 | none=>none

def withHeap (H:Heap) (v:Option Value):Option (Value×Heap):=match v with
 | some v=>some (v,H)
 | none=>none

def headOf (as:List (Option Nat)):Option Nat:=match as with
 | []=>none
 | a :: _=>a

def traceOp (E:Env) (self:Self) (o:Oper) (ah:Bool) (ahead:Option Nat) (s:St) (k:Nat) (go:St→Nat→Option Trace):Option Trace:=match ah && lays o.op with
 | true=>match ahead with
  | some r=>noted s o.dst k false go (withHeap s.heap (newAt r (layOf E s.tmps o.op)))
  | none=>none
 | false=>match readsOnly o.op with
  | true=>noted s o.dst k false go (pureVal (aop o.op E s.tmps s.heap o.type))
  | false=>noted s o.dst k true go (evOp E self o s)

def trace (E:Env) (self:Self) (ah:Bool) (ops:Array Oper):List Oper→List (Option Nat)→St→Nat→Option Trace
 | [],_,s,_=>some ⟨[],[],s⟩
 | o :: l,as,s,k=>match guardOk ops s.tmps o.guard with
  | true=>traceOp E self o ah (headOf as) s k (trace E self ah ops l as.tail)
  | false=>cons ⟨s.tmps,undef,k,false⟩ (trace E self ah ops l as.tail (s.keep o.dst undef) k)

def consNone (r:List (Option Nat)×Heap):List (Option Nat)×Heap:=match r with
 | (as,H)=>(none :: as,H)
def consSome (n:Nat) (r:List (Option Nat)×Heap):List (Option Nat)×Heap:=match r with
 | (as,H)=>(some n :: as,H)
def layOne (o:Oper) (x:New) (go:Heap→List (Option Nat)×Heap) (H:Heap):List (Option Nat)×Heap:=match x with
 | some (_,ob)=>consSome H.next (go ⟨Nat.succ H.next,H.objs.put H.next ob⟩)
 | none=>consNone (go H)

def layAll (E:Env):List Oper→List Note→Heap→List (Option Nat)×Heap
 | o :: l,n :: ns,H=>match n.done && lays o.op with
  | true=>layOne o (layOf E n.tmps o.op) (layAll E l ns) H
  | false=>consNone (layAll E l ns H)
 | _,_,H=>([],H)

def sameV:Nat→Value→Value→Bool
 | _,.bool a,.bool b=>a == b
 | _,.int .i64 a,.int .i64 b=>eqI a b
 | _,.int k a,.int j b=>decide (k = j) && eqI a b
 | _,.string a,.string b=>a == b
 | _,.pointer a,.pointer b=>decide (a = b)
 | _,.slice a l c,.slice b m d=>decide (a = b) && Nat.beq l m && Nat.beq c d
 | _,.map a,.map b=>decide (a = b)
 | _,.nilFunc,.nilFunc=>true
 | _,.nilIface,.nilIface=>true
 | n + 1,.agg a,.agg b=>Nat.beq a.size b.size && (a.toList.zip b.toList).all fun p=>sameV n p.1 p.2
 | n + 1,.tuple a,.tuple b=>Nat.beq a.size b.size && (a.toList.zip b.toList).all fun p=>sameV n p.1 p.2
 | n + 1,.func f a b,.func g c d=>decide (f = g) && Nat.beq a.size c.size && Nat.beq b.size d.size && (a.toList.zip c.toList).all (fun p=>sameV n p.1 p.2) && (b.toList.zip d.toList).all (fun p=>sameV n p.1 p.2)
 | _,_,_=>false

def sameRes (v:Value) (r:ARes):Bool:=match r with
 | .val u _=>sameV 4 v u
 | _=>false

def sameL (l m:List Value):Bool:=Nat.beq l.length m.length && (l.zip m).all fun p=>sameV 3 p.1 p.2
def sameCells (n:Nat) (a b:T Value):Bool:=match a.read 0 n with
 | some l=>match b.read 0 n with
  | some m=>sameL l m
  | none=>false
 | none=>false
def sameObj (a:AObj) (b:Option AObj):Bool:=match a with
 | .row e n x cs=>match b with
  | some (.row e' n' x' cs')=>Nat.beq e e' && Nat.beq n n' && (x && x') && sameCells n cs cs'
  | _=>false
 | .map [] 0=>match b with
  | some (.map [] 0)=>true
  | _=>false
 | _=>false
def liesAs (n:Note) (r:Nat) (x:New) (H:Heap):Bool:=match x with
 | some (f,ob)=>sameV 4 n.val (f r) && sameObj ob (H.objs.get r)
 | none=>false

def stableAt (E:Env) (o:Oper) (ahead:Option Nat) (n:Note) (H:Heap):Bool:=match ahead with
 | some r=>liesAs n r (layOf E n.tmps o.op) H
 | none=>sameRes n.val (aop o.op E n.tmps H o.type)

def stableIn (E:Env) (o:Oper) (ahead:Option Nat) (n:Note):List Heap→Bool
 | []=>true
 | H :: l=>stableAt E o ahead n H && stableIn E o ahead n l

def turnsBefore (ahead:Bool) (ms:List Nat) (i:Nat):Nat→List Oper→List Note→Nat
 | j,o :: l,n :: ns=>match n.done && chained ahead o && comes ms j i with
  | true=>Nat.succ (turnsBefore ahead ms i (Nat.succ j) l ns)
  | false=>turnsBefore ahead ms i (Nat.succ j) l ns
 | _,_,_=>0
def turnsNotBehind (ahead:Bool) (ms:List Nat) (i:Nat):Nat→List Oper→List Note→Nat
 | j,o :: l,n :: ns=>match n.done && chained ahead o && !comes ms i j with
  | true=>Nat.succ (turnsNotBehind ahead ms i (Nat.succ j) l ns)
  | false=>turnsNotBehind ahead ms i (Nat.succ j) l ns
 | _,_,_=>0

def stableOver (E:Env) (o:Oper) (a:Option Nat) (n:Note) (laid:Bool) (l:List Heap):Bool:=match laid with
 | true=>stableIn E o a n l
 | false=>match l with
  | []=>true
  | H :: r=>match r with
   | []=>true
   | H' :: r=>stableIn E o a n (H :: H' :: r)

def stableOp (E:Env) (ahead:Bool) (ops:Array Oper) (ms:List Nat) (i:Nat) (o:Oper) (a:Option Nat) (n:Note) (notes:List Note) (heaps:List Heap):Bool:=match n.done && !chained ahead o with
 | false=>true
 | true =>
  stableOver E o a n (ahead && lays o.op) ((heaps.drop (turnsBefore ahead ms i 0 ops.toList notes)).take (Nat.succ (Nat.sub (turnsNotBehind ahead ms i 0 ops.toList notes) (turnsBefore ahead ms i 0 ops.toList notes))))

def stableAll (E:Env) (ahead:Bool) (ops:Array Oper) (ms:List Nat) (notes:List Note) (heaps:List Heap):Nat→List Oper→List (Option Nat)→List Note→Bool
 | i,o :: l,as,n :: ns=>stableOp E ahead ops ms i o (headOf as) n notes heaps && stableAll E ahead ops ms notes heaps (Nat.succ i) l as.tail ns
 | _,_,_,_=>true

def stableText (E:Env) (ops:Array Oper) (as:List (Option Nat)) (H:Heap) (notes:List Note) (heaps:List Heap):Bool:=match heaps with
 | []=>true
 | H' :: l=>stableAll E false ops (masksOf ops) notes (H :: H' :: l) 0 ops.toList as notes

def stable (E:Env) (ahead:Bool) (ops:Array Oper) (as:List (Option Nat)) (H:Heap) (t:Trace):Bool:=match ahead with
 | false=>stableText E ops as H t.notes t.heaps
 | true=>stableAll E true ops (masksOf ops) t.notes (H :: t.heaps) 0 ops.toList as t.notes

def settled (E:Env) (ahead:Bool) (ops:Array Oper) (as:List (Option Nat)) (H:Heap) (t:Option Trace):Option (AExit×St):=match t with
 | none=>none
 | some t=>match stable E ahead ops as H t with
  | true=>some (.normal,t.last)
  | false=>none

def evAhead (E:Env) (self:Self) (ahead:Bool) (ops:Array Oper) (s:St) (a:List (Option Nat)×Heap):Option (AExit×St):=match a with
 | (as,H)=>settled E ahead ops as H (trace E self ahead ops ops.toList as (s.onHeap fun _=>H) 0)

def evDry (E:Env) (self:Self) (ops:Array Oper) (s:St) (t:Option Trace):Option (AExit×St):=match t with
 | none=>none
 | some t=>evAhead E self true ops s (layAll E ops.toList t.notes s.heap)

def closedLay (op:Op):Bool:=match op with
 | .alloc _=>true
 | .makeMap _ r=>match r with
  | none=>true
  | some _=>false
 | _=>false
def noGuard (o:Oper):Bool:=match o.guard with
 | none=>true
 | some _=>false
def laysClosed:List Oper→Bool
 | []=>true
 | o :: l=>match lays o.op with
  | true=>closedLay o.op && noGuard o && laysClosed l
  | false=>laysClosed l
def fakeNotes (t:T Value):List Oper→List Note
 | []=>[]
 | _ :: l=>⟨t,undef,0,true⟩ :: fakeNotes t l

def evDraw (E:Env) (self:Self) (ops:Array Oper) (s:St):Option (AExit×St):=match drawOk false ops with
 | true=>@St.rec (fun _=>Option (AExit×St)) (fun t z h r m=>evAhead E self false ops ⟨t,z,h,r,m⟩ ([],h)) s
 | false=>match drawOk true ops with
  | true=>match laysClosed ops.toList with
   | true=>evAhead E self true ops s (layAll E ops.toList (fakeNotes s.tmps ops.toList) s.heap)
   | false=>evDry E self ops s (trace E self false ops ops.toList [] s 0)
  | false=>none

def evRegion (E:Env) (self:Self) (ops:Array Oper) (draw:Bool) (s:St):Option (AExit×St):=match draw with
 | true=>evDraw E self ops s
 | false=>evOps E self ops ops.toList s

def evSeq (self:Self) (b:Code) (r:Option (AExit×St)):Option (AExit×St):=match r with
 | some (.normal,s)=>self b s
 | r=>r

def evScope (r:Option (AExit×St)):Option (AExit×St):=match r with
 | some (.goto _,_)=>none
 | r=>r

def evCond (self:Self) (a b:Code) (s:St) (v:Value):Option (AExit×St):=match v with
 | .bool true=>self a s
 | .bool false=>self b s
 | _=>none

def evBlock (id:Nat) (r:Option (AExit×St)):Option (AExit×St):=match r with
 | some (.exit id',s)=>match Nat.beq id' id with
  | true=>some (.normal,s)
  | false=>some (.exit id',s)
 | r=>r

def aroundObj (H:Heap) (x:Option AObj):Option (Nat×List Nat×Heap):=match x with
 | some (.loop _ _ _ _ _ _ _ d)=>some (d,[],H)
 | _=>none

def around (H:Heap) (round:Option Nat):Option (Nat×List Nat×Heap):=match round with
 | some l=>aroundObj H (H.objs.get l)
 | none=>some (H.next,[H.next],⟨Nat.succ H.next,H.objs.put H.next .noDefers⟩)

def loopLaid (s:St) (params:Array Tmp) (assign body:Code) (d:Nat) (H:Heap):Heap :=
 ⟨Nat.succ H.next,H.objs.put H.next (.loop .ready none s.tmps s.size params assign body d)⟩

def notBusy (st:LoopState):Bool:=match st with
 | .busy=>false
 | _=>true

def pendingObj (H:Heap) (l:Nat) (x:Option AObj):Option (Option Code×Heap):=match x with
 | some (.loop st p t z q a b d)=>match notBusy st with
  | true=>some (p,H.set l (.loop .exhausted p t z q a b d))
  | false=>none
 | _=>none
def pendingOf (H:Heap) (l:Nat):Option (Option Code×Heap):=pendingObj H l (H.objs.get l)

def jumped (self:Self) (s:St) (r:Option (Option Code×Heap)):Option (AExit×St):=match r with
 | none=>none
 | some (none,H)=>some (.normal,s.onHeap fun _=>H)
 | some (some c,H)=>self c (s.onHeap fun _=>H)

def rangedOver (self:Self) (s:St) (l:Nat) (r:Option (Value×Heap)):Option (AExit×St):=match r with
 | none=>none
 | some (_,H)=>jumped self s (pendingOf H l)

def called (E:Env) (self:Self) (r:ARes):Option (Value×Heap):=match r with
 | .call f args H=>enter E self f args H
 | _=>none

def yieldVal (l:Nat):Value:=.func (.yield l) #[] #[]

def rangeAt (E:Env) (self:Self) (f:Value) (params:Array Tmp) (assign body:Code) (s:St) (r:Option (Nat×List Nat×Heap)):Option (AExit×St):=match r with
 | none=>none
 | some (d,m,H)=>rangedOver self ⟨s.tmps,s.size,s.heap,s.round,m ++ s.marks⟩ H.next (called E self (aCall E (loopLaid s params assign body d H) f [yieldVal H.next]))

def evRange (E:Env) (self:Self) (f:Operand) (params:Array Tmp) (assign body:Code) (s:St):Option (AExit×St) :=
 rangeAt E self (eval s.tmps f) params assign body s (around s.heap s.round)

def step (E:Env) (self:Self) (c:Code) (s:St):Option (AExit×St):=match c with
 | .skip=>some (.normal,s)
 | .label _=>some (.normal,s)
 | .region _ ops draw=>evRegion E self ops draw s
 | .seq a b=>evSeq self b (self a s)
 | .cond x a b=>evCond self a b s (eval s.tmps x)
 | .block id b=>evBlock id (self b s)
 | .scope b=>evScope (self b s)
 | .loop b=>evSeq self (.loop b) (self b s)
 | .rangeFunc f params assign body=>evRange E self f params assign body s
 | .exit id=>some (.exit id,s)
 | .goto l=>some (.goto l,s)
 | .ret=>some (.ret,s)
 | _=>none

def ev (E:Env):Nat→Self
 | 0=>fun _ _=>none
 | fuel + 1=>step E (ev E fuel)

def run (E:Env) (fuel:Nat) (f:FuncId) (args:List Value):Option (Value×Heap) :=
 enterFn E (ev E fuel) args ⟨0,T.empty⟩ (E.fn.get f)

def says (E:Env) (fuel:Nat) (f:FuncId) (args:List Value) (want:Value→Bool):Bool:=match run E fuel f args with
 | some (v,_)=>want v
 | none=>false

end
end Go.Rx
