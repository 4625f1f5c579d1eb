/- The executor: a run of closed code over names, and its store. -/
import Derived.RangeFuncLeaves
import GoSem.Dispatch
import GoSem.Step
set_option linter.unusedVariables false
namespace Go.Rx
noncomputable section
variable {α β:Type}
def lC (l:List β):Nat→Option β :=
 @List.rec β (fun _=>Nat→Option β) (fun _=>none) (fun x _ ih k=>@Nat.rec (fun _=>Option β) (some x) (fun m _=>ih m) k) l
def VH (y:β)(l:List β):List β:=@List.rec β (fun _=>List β) [y] (fun h t _=>y :: h :: t) l
def pad (d:β)(tl:List β)(k:Nat):List β:=@Nat.rec (fun _=>List β) tl (fun _ ih=>d :: ih) k
def KC (d:β)(l:List β):Nat→β→List β :=
 @List.rec β (fun _=>Nat→β→List β) (fun k x=>pad d [x] k) (fun y ys ih k x=>@Nat.rec (fun _=>List β) (x :: ys) (fun m _=>VH y (ih m x)) k) l
structure T (α:Type) where
 rows:List (List (List (Option α)))
def T.empty:T α:=⟨[]⟩
def uo (o:Option (List β)):List β:=@Option.rec (List β) (fun _=>List β) [] (fun l=>l) o
def T.get (t:T α)(k:Nat):Option α :=
 @Option.rec (Option α) (fun _=>Option α) none (fun x=>x)
  (lC (uo (lC (uo (lC t.rows (Nat.div k (nat_lit 64)))) (Nat.mod (Nat.div k (nat_lit 8)) (nat_lit 8)))) (Nat.mod k (nat_lit 8)))
def strict {γ:Type}(l:List β)(k:List β→γ):γ:=@List.rec β (fun _=>γ) (k []) (fun h t _=>k (h :: t)) l
def T.put (t:T α)(k:Nat)(x:α):T α :=
 strict (uo (lC t.rows (Nat.div k (nat_lit 64)))) fun m =>
 strict (KC none (uo (lC m (Nat.mod (Nat.div k (nat_lit 8)) (nat_lit 8)))) (Nat.mod k (nat_lit 8)) (some x)) fun l =>
 strict (KC [] m (Nat.mod (Nat.div k (nat_lit 8)) (nat_lit 8)) l) fun m =>
 strict (KC [] t.rows (Nat.div k (nat_lit 64)) m) fun r=>⟨r⟩
theorem FV (k:Nat):lC ([]:List β) k = none:=rfl
theorem zn (x:β)(l:List β):lC (x :: l) 0 = some x:=rfl
theorem nY (x:β)(l:List β)(k:Nat):lC (x :: l) (k + 1) = lC l k:=rfl
theorem jK (l:List β):∀ k,lC l k = l[k]?:=by
 induction l with
 | nil=>intro k; simp [FV]
 | cons x l ih=>intro k; cases k with
  | zero=>simp [zn]
  | succ k=>simp [nY,ih]
theorem VI (y:β)(l:List β):VH y l = y :: l:=by cases l <;> rfl
theorem VJ (d x:β)(k j:Nat):lC (pad d [x] k) j = if j = k then some x else if j < k then some d else none:=by
 induction k generalizing j with
 | zero=>cases j with
  | zero=>rfl
  | succ j=>simp [show pad d [x] 0 = [x] from rfl,nY,FV]
 | succ k ih =>
  have e:pad d [x] (k + 1) = d :: pad d [x] k:=rfl;rw [e]
  cases j with
  | zero=>simp [zn]
  | succ j=>rw [nY,ih]; simp
theorem JD (d:β)(l:List β)(k j:Nat)(x:β):lC (KC d l k x) j = if j = k then some x else if j < l.length then lC l j else if j < k then some d else none:=by
 induction l generalizing k j with
 | nil=>simpa [KC,FV] using VJ d x k j
 | cons y l ih =>
  cases k with
  | zero =>
   have e:KC d (y :: l) 0 x = x :: l:=rfl;rw [e]
   cases j with
   | zero=>simp [zn]
   | succ j =>
    rw [nY,nY];by_cases h:j < l.length
    ·simp [h]
    ·have:lC l j = none:=by rw [jK]; simp; omega
     simp [h,this]
  | succ k =>
   have e:KC d (y :: l) (k + 1) x = VH y (KC d l k x):=rfl;rw [e,VI]
   cases j with
   | zero=>simp [zn]
   | succ j=>rw [nY,ih,nY]; simp
theorem JE {γ:Type}(l:List β)(k:List β→γ):strict l k = k l:=by cases l <;> rfl
theorem p9 (l:List (List β))(k j:Nat)(x:List β):uo (lC (KC [] l k x) j) = if j = k then x else uo (lC l j):=by
 rw [JD];by_cases h:j = k
 ·simp [h,uo]
 ·simp only [h,if_false];by_cases h1:j < l.length
  ·simp [h1]
  ·have:lC l j = none:=by rw [jK]; simp; omega
   rw [this];by_cases h2:j < k <;> simp [h1,h2,uo]
theorem T.mV (k:Nat):(T.empty:T α).get k = none:=rfl
theorem T.get_put (t:T α)(k j:Nat)(x:α):(t.put k x).get j = if j = k then some x else t.get j:=by
 unfold T.put;simp only [JE];unfold T.get;have d:∀ a b:Nat,Nat.div a b = a / b:=fun _ _=>rfl;have m:∀ a b:Nat,Nat.mod a b = a % b:=fun _ _=>rfl;simp only [d,m];have aeB:∀ l:List (Option α),uo (some l) = l:=fun _=>rfl;by_cases h1:j / 64 = k / 64
 ·by_cases h2:j / 8 % 8 = k / 8 % 8
  ·simp only [p9,h1,h2,if_true];rw [JD];by_cases h3:j % 8 = k % 8
   ·have:j = k:=by omega
    subst this; simp
   ·have:j≠k:=fun e=>h3 (by rw [e]);simp only [h3,if_false,this];by_cases h4:j % 8 < (uo (lC (uo (lC t.rows (k / 64))) (k / 8 % 8))).length
    ·simp only [h4,if_true]
    ·have e:lC (uo (lC (uo (lC t.rows (k / 64))) (k / 8 % 8))) (j % 8) = none:=by rw [jK]; simp; omega
     rw [e];by_cases h5:j % 8 < k % 8 <;> simp only [h4,h5,if_true,if_false]
  ·have:j≠k:=fun e=>h2 (by rw [e]);simp only [p9,h1,h2,if_true,if_false,this]
 ·have:j≠k:=fun e=>h1 (by rw [e]);simp only [p9,h1,if_false,this]
def PW {γ:Type}(t:T α)(k:T α→γ):γ:=@T.rec α (fun _=>γ) (fun r=>strict r fun r=>k ⟨r⟩) t
theorem JF {γ:Type}(t:T α)(k:T α→γ):PW t k = k t:=by cases t; simp [PW,JE]
def T.ofList (t:T α)(k:Nat):List α→T α
 | []=>t
 | x :: xs=>PW (t.put k x) fun t=>T.ofList t (Nat.succ k) xs
theorem T.fT (l:List α):∀ (t:T α) (k j:Nat),(T.ofList t k l).get j = if k≤j∧j < k + l.length then l[j - k]? else t.get j:=by
 induction l with
 | nil=>intro t k j; simp [T.ofList]; intros; omega
 | cons x xs ih =>
  intro t k j;simp only [T.ofList,JF,ih,T.get_put,Nat.succ_eq_add_one,List.length_cons];by_cases h:j = k
  ·subst h; simp; omega
  ·by_cases h1:k + 1≤j∧j < k + 1 + xs.length
   ·have:k≤j∧j < k + (xs.length + 1):=by omega
    simp only [h1,this,and_self,if_true];have e:j - k = (j - (k + 1)) + 1:=by omega
    rw [e,List.getElem?_cons_succ]
   ·have:¬ (k≤j∧j < k + (xs.length + 1)):=by omega
    simp only [h1,this,if_false,h]
def T.read (t:T α)(k:Nat):Nat→Option (List α)
 | 0=>some []
 | m + 1=>match t.get k with
  | none=>none
  | some x=>match T.read t (Nat.succ k) m with
   | none=>none
   | some xs=>some (x :: xs)
theorem T.uq (t:T α):∀ (m k:Nat) (l:List α),t.read k m = some l→l.length = m∧∀ i,i < m→t.get (k + i) = l[i]?:=by
 intro m
 induction m with
 | zero=>intro k l h; simp [T.read] at h; subst h; simp
 | succ m ih =>
  intro k l h;simp only [T.read] at h
  cases hx:t.get k with
  | none=>simp [hx] at h
  | some x =>
   simp only [hx] at h
   cases hs:t.read (Nat.succ k) m with
   | none=>simp [hs] at h
   | some xs =>
    simp only [hs] at h;cases h
    obtain ⟨h1,h2⟩:=ih _ _ hs;refine ⟨by simp [h1],fun i hi=>?_⟩
    cases i with
    | zero=>simp [hx]
    | succ i=>have:=h2 i (by omega); rw [Nat.succ_eq_add_one] at this; rw [show k + (i + 1) = k + 1 + i from by omega,this]; simp
end
end Go.Rx
namespace Go.Rx
noncomputable section
inductive gV where
 | row (elem:TypeId) (n:Nat) (exact:Bool) (cells:T Value)
 | map (es:List (Value×Value×Nat)) (clock:Nat)
 | loop (state:LoopState) (pending:Option Code) (tmps:T Value) (size:Nat) (params:Array Tmp) (assign body:Code) (defers:Nat)
 | dY
 | iter (s:ByteArray) (pos:Nat)
 | qb (n:Nat) (cells:T Value)
 | dead
structure Heap where
 next:Nat
 objs:T gV
inductive dN where
 | val (v:Value) (H:Heap)
 | call (f:FuncId) (args:List Value) (H:Heap)
 | yield (l:Nat) (args:List Value) (H:Heap)
 | fail
def gZ {β:Type}(n:Nat)(k:Nat→β):β:=match n with
 | 0=>k 0
 | m + 1=>k (Nat.succ m)
def M5 {β:Type}(n:Int)(k:Int→β):β:=match n with
 | .ofNat m=>gZ m fun m=>k (.ofNat m)
 | .negSucc m=>gZ m fun m=>k (.negSucc m)
def TP {β:Type}(b:Bool)(k:Value→β):β:=match b with
 | true=>k (.bool true)
 | false=>k (.bool false)
def M6 {β:Type}(a:Option Addr)(k:Value→β):β:=match a with
 | some ⟨b,o,none⟩=>gZ b fun b=>gZ o fun o=>k (.pointer (some ⟨b,o,none⟩))
 | a=>k (.pointer a)
def FW {β:Type}(a:Option Addr)(l c:Nat)(k:Value→β):β:=match a with
 | some ⟨b,o,none⟩=>gZ b fun b=>gZ o fun o=>gZ l fun l=>gZ c fun c=>k (.slice (some ⟨b,o,none⟩) l c)
 | a=>k (.slice a l c)
def force {β:Type}(v:Value)(k:Value→β):β:=match v with
 | .bool b=>TP b k
 | .int i n=>M5 n fun n=>k (.int i n)
 | .pointer a=>M6 a k
 | .slice a l c=>FW a l c k
 | v=>k v
def bR {α:Type}(P:Program):Sem α→Option α
 | .pure a=>some a
 | .program k=>bR P (k P)
 | _=>none
def dP:Nat→Value→Bool
 | _,.bool _ | _,.int _ _ | _,.string _ | _,.float _ _=>true
 | _,.pointer none | _,.map none | _,.nilFunc | _,.nilIface | _,.slice none _ _=>true
 | m + 1,.agg cs=>cs.toList.all (dP m)
 | _,_=>false
structure TI where
 desc:TypeDesc
 agg:Bool
 size:Nat
 bytes:Nat
 zero:Option Value
def uw:TypeDesc→Bool
 | .struct _ | .array _ _=>true
 | _=>false
def jr (v:Option Value):Option Value:=match v with
 | some v=>match dP 3 v with
  | true=>some v
  | false=>none
 | none=>none
def jL (P:Program)(t:TypeId):Option TI:=match P.underlying t with
 | some d=>match P.info? t with
  | some i=>some { desc:=d,agg:=uw d,size:=i.size,bytes:=i.bytes,zero:=jr i.zero }
  | none=>none
 | none=>none
structure Env where
 prog:Program
 ti:T (Option TI)
 fn:T Func
 /-- What calls are known to answer. -/
 memo:FuncId→List Value→Option Value
 /-- What operators are known to yield where an operand is unknown. -/
 bin:BinOp→Value→Value→Option Value
 /-- What calls are known to answer whose arguments lie in memory. -/
 Bv:FuncId→List Value→Heap→Option (Value×Heap)
 /-- What conversions are known to yield of what is unknown. -/
 conv:TypeDesc→Value→Option Value
def Env.of (P:Program)(memo:FuncId→List Value→Option Value:=fun _ _=>none)(bin:BinOp→Value→Value→Option Value:=fun _ _ _=>none)(conv:TypeDesc→Value→Option Value:=fun _ _=>none)(Bv:FuncId→List Value→Heap→Option (Value×Heap):=fun _ _ _=>none):Env :=
 { prog:=P,ti:=T.ofList T.empty 0 ((List.range P.types.size).map (jL P)),fn:=T.ofList T.empty 0 P.funcs.toList,memo:=memo,bin:=bin,conv:=conv,Bv:=Bv }
def Env.ty (E:Env)(t:TypeId):Option TI:=match E.ti.get t with
 | some r=>r
 | none=>none
def Heap.set (H:Heap)(r:Nat)(o:gV):Heap:={ next:=H.next,objs:=H.objs.put r o }
def laid (v:Nat→Value)(H:Heap)(o:gV):dN :=
 gZ (Nat.succ H.next) fun n=>.val (v H.next) { next:=n,objs:=H.objs.put H.next o }
def ptr (r o:Nat):Value:=.pointer (some ⟨r,o,none⟩)
def xC (r:Nat):Value:=.pointer (some ⟨r,0,none⟩)
def slc (r o l c:Nat):Value:=.slice (some ⟨r,o,none⟩) l c
def lim (r o l c:Nat):Value:=.slice (some ⟨r,o,some 1⟩) l c
def void:Value:=.slice (some ⟨0,0,some 2⟩) 0 0
def fA:Option Nat→Bool
 | some 2=>true
 | _=>false
def jR:Option Addr→Bool
 | some ⟨_,_,sp⟩=>fA sp
 | none=>false
def bL (r:Nat):Value:=.map (some r)
def rowOf (elem:TypeId)(cells:List Value)(exact:Bool):gV:=.row elem cells.length exact (T.ofList T.empty 0 cells)
def oneCell:Value→Bool
 | .agg _ | .tuple _ | .chan _=>false
 | _=>true
def Az (o m n:Nat)(cs:T Value):Option (List Value):=match Nat.ble (Nat.add o m) n with
 | true=>cs.read o m
 | false=>none
def Bw (o m:Nat)(x:Option gV):Option (List Value):=match x with
 | some (.row _ n _ cs)=>Az o m n cs
 | some (.qb n cs)=>Az o m n cs
 | _=>none
def loadCells (H:Heap)(r o m:Nat):Option (List Value):=Bw o m (H.objs.get r)
def KD (H:Heap)(r o:Nat)(vs:List Value)(e:TypeId)(n:Nat)(x:Bool)(cs:T Value):Option Heap :=
 match Nat.ble (Nat.add o vs.length) n && vs.all oneCell with
 | true=>some (H.set r (.row e n x (T.ofList cs o vs)))
 | false=>none
def FX (H:Heap)(r o:Nat)(vs:List Value)(x:Option gV):Option Heap:=match x with
 | some (.row e n x cs)=>KD H r o vs e n x cs
 | _=>none
def storeCells (H:Heap)(r o:Nat)(vs:List Value):Option Heap:=FX H r o vs (H.objs.get r)
def dw (l:Option (List Value)):Option Value:=match l with
 | some l=>some (.agg ⟨l⟩)
 | none=>none
def oneOf (l:Option (List Value)):Option Value:=match l with
 | some [v]=>some v
 | _=>none
def PX (H:Heap)(r o:Nat)(i:TI):Option Value:=match i.agg with
 | true=>dw (loadCells H r o i.size)
 | false=>oneOf (loadCells H r o 1)
def loadVar (E:Env)(H:Heap)(t:TypeId)(r o:Nat):Option Value:=match E.ty t with
 | none=>none
 | some i=>PX H r o i
def cellsOf (v:Value):Option (List Value):=match v with
 | .agg cs=>some cs.toList
 | .chan _=>none
 | v=>some [v]
def KF (H:Heap)(r o:Nat)(vs:Option (List Value))(i:TI):Option Heap:=match vs with
 | none=>none
 | some vs=>match Nat.beq vs.length i.size with
  | true=>storeCells H r o vs
  | false=>none
def storeVar (E:Env)(H:Heap)(t:TypeId)(r o:Nat)(v:Value):Option Heap:=match E.ty t with
 | none=>none
 | some i=>KF H r o (cellsOf v) i
def lM (H:Heap)(v:Option Value):dN:=match v with
 | some v=>.val v H
 | none=>.fail
def qN (H:Option Heap):dN:=match H with
 | some H=>.val undef H
 | none=>.fail
def part (cs:List Value)(off:Nat)(i:TI):Option Value:=match i.agg with
 | true=>match Nat.ble (Nat.add off i.size) cs.length with
  | true=>some (.agg ⟨(cs.drop off).take i.size⟩)
  | false=>none
 | false=>lC cs off
def lay:List Value→Nat→List Value→Option (List Value)
 | cs,0,[]=>some cs
 | _,_ + 1,[]=>none
 | [],_,_ :: _=>none
 | _ :: cs,0,v :: vs=>match lay cs 0 vs with
  | some l=>some (v :: l)
  | none=>none
 | c :: cs,o + 1,vs=>match lay cs o vs with
  | some l=>some (c :: l)
  | none=>none
def fill (place:Nat→Option (Nat×Nat))(cells:List Value):List (Nat×Value)→Option (List Value)
 | []=>some cells
 | (i,v) :: rest=>match place i with
  | none=>none
  | some (off,size)=>match cellsOf v with
   | none=>none
   | some vs=>match Nat.beq vs.length size with
    | false=>none
    | true=>match lay cells off vs with
     | none=>none
     | some cells=>fill place cells rest
def zeroCells (i:TI):Option (List Value):=match i.zero with
 | some z=>cellsOf z
 | none=>none
def times (zero:List Value):Nat→List Value
 | 0=>[]
 | n + 1=>zero ++ times zero n
def vP (m:Nat)(n:Int):Option Nat:=match n with
 | .ofNat n=>match Nat.ble n m with
  | true=>some n
  | false=>none
 | _=>none
def asNat (m:Nat)(v:Value):Option Nat:=match v with
 | .int _ n=>vP m n
 | _=>none
def bound (v:Option Value)(m d:Nat):Option Nat:=match v with
 | some v=>asNat m v
 | none=>some d
def bounds (len cap:Nat)(lo hi mx:Option Value):Option (Nat×Nat×Nat):=match bound mx cap cap with
 | none=>none
 | some m=>match (match hi,mx with
   | none,some _=>none
   | hi,_=>bound hi m len:Option Nat) with
  | none=>none
  | some h=>match bound lo h 0 with
   | none=>none
   | some l=>some (l,h,m)
def FY (n:Int):Int:=match n with
 | .ofNat m=>match Nat.ble (Nat.succ m) 9223372036854775808 with
  | true=>.ofNat m
  | false=>IntKind.i64.wrap (.ofNat m)
 | .negSucc m=>match Nat.ble (Nat.succ m) 9223372036854775808 with
  | true=>.negSucc m
  | false=>IntKind.i64.wrap (.negSucc m)
def ltI (x y:Int):Bool:=match x with
 | .ofNat m=>match y with
  | .ofNat n=>Nat.ble (Nat.succ m) n
  | .negSucc _=>false
 | .negSucc m=>match y with
  | .ofNat _=>true
  | .negSucc n=>Nat.ble (Nat.succ n) m
def eqI (x y:Int):Bool:=match x with
 | .ofNat m=>match y with
  | .ofNat n=>Nat.beq m n
  | .negSucc _=>false
 | .negSucc m=>match y with
  | .ofNat _=>false
  | .negSucc n=>Nat.beq m n
def isZero (x:Int):Bool:=match x with
 | .ofNat m=>Nat.beq m 0
 | _=>false
def YO (x y:Int):Option Value:=match isZero y with
 | true=>none
 | false=>some (.int .i64 (FY (x.tdiv y)))
def YP (x y:Int):Option Value:=match isZero y with
 | true=>none
 | false=>some (.int .i64 (x.tmod y))
def jM (op:BinOp)(x y:Int):Option Value:=match op with
 | .add=>some (.int .i64 (FY (Int.add x y)))
 | .sub=>some (.int .i64 (FY (Int.sub x y)))
 | .mul=>some (.int .i64 (FY (Int.mul x y)))
 | .quo=>YO x y
 | .rem=>YP x y
 | .eql=>some (.bool (eqI x y))
 | .neq=>some (.bool (!eqI x y))
 | .lss=>some (.bool (ltI x y))
 | .leq=>some (.bool (!ltI y x))
 | .gtr=>some (.bool (ltI y x))
 | .geq=>some (.bool (!ltI x y))
 | _=>none
def nilness:Value→Option Bool
 | .slice none _ _ | .map none | .pointer none | .nilFunc | .nilIface=>some true
 | .slice (some _) _ _ | .map (some _) | .pointer (some _) | .func _ _ _ | .iface _ _=>some false
 | _=>none
def zo:TypeDesc→Value→Bool
 | .slice _,.slice _ _ _ | .map _ _,.map _ | .pointer _,.pointer _ | .func _ _ _,.nilFunc | .func _ _ _,.func _ _ _=>true
 | .interface _,.nilIface | .interface _,.iface _ _=>true
 | _,_=>false
def uy:Operand→Bool
 | .const _=>true
 | _=>false
def Dz (E:Env)(op:BinOp)(t:TypeId)(x y:Operand)(a b:Value)(r:Bool):Option Value:=match E.ty t with
 | some i=>match zo i.desc a && zo i.desc b && (uy x || uy y) with
  | true=>match op with
   | .eql=>some (.bool r)
   | .neq=>some (.bool !r)
   | _=>none
  | false=>none
 | none=>none
def iQ (E:Env)(op:BinOp)(t:TypeId)(x y:Operand)(a b:Value):Option Value :=
 jr (bR E.prog (do eqGuard op t x y a b; binOp op t a b))
def Bz (E:Env)(op:BinOp)(t:TypeId)(x y:Operand)(a b:Value):Option Value:=match dP 4 a && dP 4 b with
 | true=>iQ E op t x y a b
 | false=>match nilness a,nilness b with
  | some true,some r=>Dz E op t x y a b r
  | some r,some true=>Dz E op t x y a b r
  | _,_=>E.bin op a b
def orElse {α:Type}(a:Option α)(b:Unit→Option α):Option α:=match a with
 | some x=>some x
 | none=>b ()
def BA (E:Env)(op:BinOp)(t:TypeId)(x y:Operand)(k k':IntKind)(m n:Int):Option Value:=match k with
 | .i64=>match k' with
  | .i64=>orElse (jM op m n) fun _=>iQ E op t x y (.int .i64 m) (.int .i64 n)
  | _=>iQ E op t x y (.int k m) (.int k' n)
 | _=>iQ E op t x y (.int k m) (.int k' n)
def VK (E:Env)(op:BinOp)(t:TypeId)(x y:Operand)(k:IntKind)(m:Int)(b:Value):Option Value:=match b with
 | .int k' n=>BA E op t x y k k' m n
 | b=>Bz E op t x y (.int k m) b
def PY (E:Env)(op:BinOp)(t:TypeId)(x y:Operand)(a b:Value):Option Value:=match a with
 | .int k m=>VK E op t x y k m b
 | a=>Bz E op t x y a b
abbrev Entry:=Value×Value×Nat
def Ah (P:Program)(t:TypeId)(k k':Value):Option Bool:=match k with
 | .int .i64 m=>match k' with
  | .int .i64 n=>some (eqI m n)
  | _=>none
 | k=>match dP 4 k' with
  | true=>bR P (Op.equal t k k')
  | false=>none
def findKey (P:Program)(t:TypeId)(k:Value):List Entry→Nat→Option (Option (Nat×Entry))
 | [],_=>some none
 | e :: es,i=>match Ah P t k e.1 with
  | some true=>some (some (i,e))
  | some false=>findKey P t k es (Nat.succ i)
  | none=>none
def M7:TypeDesc→Bool
 | .int .i64=>true
 | _=>false
def dZ (E:Env)(t:TypeId)(k:Value):Bool:=match k with
 | .int .i64 _=>match E.ty t with
  | some i=>M7 i.desc
  | none=>false
 | k=>dP 4 k && (bR E.prog (Instr.checkKey false 10000 t k)).isSome && (bR E.prog (Instr.checkKey true 10000 t k)).isSome
def entriesOf (x:Option gV):Option (List Entry×Nat):=match x with
 | some (.map es c)=>some (es,c)
 | _=>none
def mapOf (H:Heap)(m:Value):Option (List Entry×Nat):=match m with
 | .map none=>some ([],0)
 | .map (some r)=>entriesOf (H.objs.get r)
 | _=>none
def found (ok:Bool)(v:Value)(is:Bool):Value:=match ok with
 | true=>.tuple #[v,.bool is]
 | false=>v
def BD (ei:TI)(ok:Bool)(r:Option (Option (Nat×Entry))):Option Value:=match r with
 | none=>none
 | some (some (_,_,v,_))=>some (found ok v true)
 | some none=>match ei.zero with
  | none=>none
  | some z=>some (found ok z false)
def dO (E:Env)(kt et:TypeId)(k:Value)(ok:Bool)(m:Option (List Entry×Nat)):Option Value:=match dZ E kt k with
 | false=>none
 | true=>match m with
  | none=>none
  | some (es,_)=>match E.ty et with
   | none=>none
   | some ei=>BD ei ok (findKey E.prog kt k es 0)
def zq (E:Env)(H:Heap)(t:TypeId)(m k:Value)(ok:Bool):Option Value:=match E.ty t with
 | none=>none
 | some i=>match i.desc with
  | .map kt et=>dO E kt et k ok (mapOf H m)
  | _=>none
def setAt:List Entry→Nat→Entry→List Entry
 | [],_,_=>[]
 | _ :: l,0,x=>x :: l
 | y :: l,i + 1,x=>y :: setAt l i x
def updated (H:Heap)(r:Nat)(k v:Value)(es:List Entry)(c:Nat)(f:Option (Option (Nat×Entry))):Option Heap:=match f with
 | none=>none
 | some (some (i,k',_,b))=>match Instr.sameBits 10000 k' k with
  | true=>some (H.set r (.map (setAt es i (k,v,b)) c))
  | false=>none
 | some none=>some (H.set r (.map (es ++ [(k,v,c)]) (Nat.succ c)))
def BF (E:Env)(H:Heap)(kt:TypeId)(r:Nat)(k v:Value)(m:Option (List Entry×Nat)):Option Heap:=match dZ E kt k with
 | false=>none
 | true=>match m with
  | none=>none
  | some (es,c)=>updated H r k v es c (findKey E.prog kt k es 0)
def vQ (E:Env)(H:Heap)(t:TypeId)(m k v:Value):Option Heap:=match E.ty t with
 | none=>none
 | some i=>match i.desc with
  | .map kt _=>match m with
   | .map (some r)=>BF E H kt r k v (entriesOf (H.objs.get r))
   | _=>none
  | _=>none
def entered (H:Heap)(r:Nat)(k:Value)(ei:TI)(es:List Entry)(c:Nat)(f:Option (Option (Nat×Entry))):dN:=match f with
 | none=>.fail
 | some (some (i,k',v,b))=>match Instr.sameBits 10000 k' k with
  | true=>.val (.tuple #[v,.int .i64 (.ofNat b)]) (H.set r (.map (setAt es i (k,v,b)) c))
  | false=>.fail
 | some none=>match ei.zero with
  | some z=>.val (.tuple #[z,.int .i64 (.ofNat c)]) (H.set r (.map (es ++ [(k,z,c)]) (Nat.succ c)))
  | none=>.fail
def Fj (E:Env)(H:Heap)(kt et:TypeId)(r:Nat)(k:Value)(m:Option (List Entry×Nat)):dN:=match dZ E kt k with
 | false=>.fail
 | true=>match m with
  | none=>.fail
  | some (es,c)=>match E.ty et with
   | none=>.fail
   | some ei=>entered H r k ei es c (findKey E.prog kt k es 0)
def FZ (E:Env)(H:Heap)(t:TypeId)(m k:Value):dN:=match E.ty t with
 | none=>.fail
 | some i=>match i.desc with
  | .map kt et=>match m with
   | .map (some r)=>Fj E H kt et r k (entriesOf (H.objs.get r))
   | _=>.fail
  | _=>.fail
def zu (b:Nat)(v:Value):List Entry→Option (List Entry)
 | []=>none
 | (k,w,c) :: es=>match Nat.beq c b with
  | true=>some ((k,v,c) :: es)
  | false=>match zu b v es with
   | some l=>some ((k,w,c) :: l)
   | none=>none
def Sd (H:Heap)(r c:Nat)(es:Option (List Entry)):Option Heap:=match es with
 | some es=>some (H.set r (.map es c))
 | none=>none
def rY (H:Heap)(r:Nat)(s v:Value)(m:Option (List Entry×Nat)):Option Heap:=match m with
 | none=>none
 | some (es,c)=>match s with
  | .int _ (.ofNat b)=>Sd H r c (zu b v es)
  | _=>none
def rZ (H:Heap)(m s v:Value):Option Heap:=match m with
 | .map (some r)=>rY H r s v (entriesOf (H.objs.get r))
 | _=>none
def vR (b:UInt8):Value:=.int .u8 (.ofNat b.toNat)
def sj (H:Heap)(r o m:Nat)(sp:Option Nat):Option (List Value):=match sp with
 | some 2=>match m with
  | 0=>some []
  | _ + 1=>none
 | _=>loadCells H r o m
def elems (H:Heap)(size:Nat)(n:Nat):Value→Option (List Value)
 | .slice (some ⟨r,o,sp⟩) _ _=>sj H r o (Nat.mul n size) sp
 | .slice none _ _=>some []
 | .string s=>some ((s.data.toList.take n).map vR)
 | _=>none
def lenOf:Value→Option Nat
 | .slice _ n _=>some n
 | .string s=>some s.size
 | _=>none
def dK (E:Env)(t:TypeId):Option (TypeId×TI):=match E.ty t with
 | none=>none
 | some i=>match i.desc with
  | .slice e=>match E.ty e with
   | none=>none
   | some ei=>some (e,ei)
  | _=>none
def BG (H:Heap)(r o e sc size:Nat)(x:Option gV):Option Heap:=match x with
 | some (.row e' n x _)=>match x with
  | true=>some H
  | false=>match Nat.beq e e' && Nat.ble (Nat.add o (Nat.mul sc size)) n with
   | true=>some (H.set r .dead)
   | false=>none
 | _=>none
def moved (H:Heap)(base:Option Addr)(e sc size:Nat):Option Heap:=match base with
 | none=>some H
 | some ⟨r,o,none⟩=>BG H r o e sc size (H.objs.get r)
 | some ⟨_,_,some _⟩=>some H
def grown (e:TypeId)(l:Nat)(cells:List Value)(H:Option Heap):dN:=match H with
 | some H=>laid (fun r=>slc r 0 l l) H (rowOf e cells false)
 | none=>.fail
def F3 (ei:TI):Bool:=match zeroCells ei with
 | some z=>Nat.beq z.length ei.size
 | none=>false
def nZ (ei:TI)(n l:Nat)(new:List Value):Bool :=
 Nat.ble (Nat.mul l ei.bytes) 1073741824 && Nat.ble l 1073741824 && new.all oneCell && Nat.beq new.length (Nat.mul n ei.size) && F3 ei
def su (H:Heap)(e:TypeId)(ei:TI)(base:Option Addr)(sc:Nat)(n l:Nat)(new:List Value)(old:Option (List Value)):dN:=match old with
 | none=>.fail
 | some old=>match nZ ei n l new && Nat.ble 1 ei.size with
  | true=>grown e l (old ++ new) (moved H base e sc ei.size)
  | false=>.fail
def vS (H:Heap)(ei:TI)(base:Option Addr)(sl sc l:Nat)(new:List Value):dN:=match base with
 | some ⟨r,o,s⟩=>match storeCells H r (Nat.add o (Nat.mul sl ei.size)) new with
  | some H=>.val (.slice (some ⟨r,o,s⟩) l sc) H
  | none=>.fail
 | none=>match new with
  | []=>.val (.slice none l sc) H
  | _=>.fail
def BH (H:Heap)(e:TypeId)(ei:TI)(base:Option Addr)(sl sc:Nat)(n:Nat)(new:Option (List Value)):dN:=match new with
 | none=>.fail
 | some new=>gZ (Nat.add sl n) fun l=>match Nat.ble l sc with
  | true=>vS H ei base sl sc l new
  | false=>su H e ei base sc n l new (elems H ei.size sl (.slice base sl sc))
def og:TypeDesc→Bool
 | .int _=>true
 | _=>false
def PZ (H:Heap)(e:TypeId)(ei:TI)(s:Value)(n:Option Nat):dN:=.fail
def vU (E:Env)(H:Heap)(s x:Value)(xt:TypeId)(se:Option (TypeId×TI)):dN:=match se with
 | none=>.fail
 | some (e,ei)=>match E.ty xt with
  | none=>.fail
  | some xi=>match og xi.desc with
   | true=>PZ H e ei s (asNat 100000 x)
   | false=>match lenOf x with
    | none=>.fail
    | some n=>match s with
     | .slice base sl sc=>match jR base with
      | true=>.fail
      | false=>BH H e ei base sl sc n (elems H ei.size n x)
     | _=>.fail
def Fp (E:Env)(H:Heap)(argTypes:List TypeId)(args:List Value):dN:=match argTypes with
 | [st,xt]=>match args with
  | [s,x]=>vU E H s x xt (dK E st)
  | _=>.fail
 | _=>.fail
def BI (H:Heap)(base:Option Addr)(n:Nat)(new:Option (List Value)):dN:=match new with
 | none=>.fail
 | some new=>match base with
  | none=>.val (.int .i64 (.ofNat n)) H
  | some ⟨r,o,sp⟩=>match fA sp with
   | true=>.fail
   | false=>match storeCells H r o new with
    | some H=>.val (.int .i64 (.ofNat n)) H
    | none=>.fail
def BJ (H:Heap)(s x:Value)(se:Option (TypeId×TI)):dN:=match se with
 | none=>.fail
 | some (_,ei)=>match s with
  | .slice base dl _=>match lenOf x with
   | none=>.fail
   | some sl=>gZ (Nat.min sl dl) fun n=>BI H base n (elems H ei.size n x)
  | _=>.fail
def Sg (E:Env)(H:Heap)(argTypes:List TypeId)(args:List Value):dN:=match argTypes with
 | dt :: _=>match args with
  | [s,x]=>BJ H s x (dK E dt)
  | _=>.fail
 | _=>.fail
def xD (n:Nat):Option Value:=some (.int .i64 (.ofNat n))
def F4 (m:Option (List Entry×Nat)):Option Value:=match m with
 | some (es,_)=>xD es.length
 | none=>none
def xE (E:Env)(H:Heap)(x:Value)(i:TI):Option Value:=match i.desc with
 | .string=>match x with
  | .string s=>xD s.size
  | _=>none
 | .array n _=>xD n
 | .slice _=>match x with
  | .slice _ n _=>xD n
  | _=>none
 | .map _ _=>F4 (mapOf H x)
 | .pointer arr=>match E.ty arr with
  | some j=>match j.desc with
   | .array n _=>xD n
   | _=>none
  | none=>none
 | _=>none
def YQ (E:Env)(H:Heap)(argTypes:List TypeId)(args:List Value):Option Value:=match argTypes with
 | t :: _=>match args with
  | x :: _=>match E.ty t with
   | none=>none
   | some i=>xE E H x i
  | _=>none
 | _=>none
def capOf (n:Nat)(o:Option gV):Option Value:=match o with
 | some (.row _ _ x _)=>match x with
  | true=>xD n
  | false=>none
 | _=>none
def F5 (H:Heap)(x:Value)(i:TI):Option Value:=match i.desc with
 | .slice _=>match x with
  | .slice none _ n=>xD n
  | .slice (some ⟨r,_,none⟩) _ n=>capOf n (H.objs.get r)
  | .slice (some ⟨_,_,some 1⟩) _ n=>xD n
  | _=>none
 | _=>none
def YR (E:Env)(H:Heap)(argTypes:List TypeId)(args:List Value):Option Value:=match argTypes with
 | t :: _=>match args with
  | x :: _=>match E.ty t with
   | none=>none
   | some i=>F5 H x i
  | _=>none
 | _=>none
def nk (H:Heap)(args:List Value)(r:Unit→Option Value):dN:=match args.all (dP 1) with
 | true=>lM H (jr (r ()))
 | false=>.fail
def VL (H:Heap)(r o n size:Nat)(z:List Value):dN:=match Nat.beq z.length size with
 | true=>match storeCells H r o (times z n) with
  | some H=>.val undef H
  | none=>.fail
 | false=>.fail
def VN (H:Heap)(r o n:Nat)(se:Option (TypeId×TI)):dN:=match se with
 | some (_,ei)=>match zeroCells ei with
  | some z=>VL H r o n ei.size z
  | none=>.fail
 | none=>.fail
def F6 (E:Env)(H:Heap)(t:TypeId)(x:Value):dN:=match x with
 | .slice none _ _=>.val undef H
 | .slice (some ⟨r,o,sp⟩) n _=>match n with
  | 0=>.val undef H
  | k + 1=>match fA sp with
   | true=>.fail
   | false=>VN H r o (Nat.succ k) (dK E t)
 | _=>.fail
def P5 (E:Env)(H:Heap)(argTypes:List TypeId)(args:List Value):dN:=match argTypes with
 | t :: _=>match args with
  | x :: _=>match E.ty t with
   | some _=>F6 E H t x
   | none=>.fail
  | []=>.fail
 | []=>.fail
def uz (E:Env)(H:Heap)(b:Builtin)(argTypes:Array TypeId)(type:TypeId)(args:List Value):dN:=match b with
 | .append=>Fp E H argTypes.toList args
 | .copy=>Sg E H argTypes.toList args
 | .len=>lM H (YQ E H argTypes.toList args)
 | .cap=>lM H (YR E H argTypes.toList args)
 | .clear=>P5 E H argTypes.toList args
 | .max=>nk H args fun _=>bR E.prog (Builtin.max_ argTypes type ⟨args⟩)
 | .min=>nk H args fun _=>bR E.prog (Builtin.min_ argTypes type ⟨args⟩)
 | _=>.fail
def F7 (f:FuncId)(args:List Value)(H:Heap)(fn:Func):dN:=match fn.body with
 | some _ => match fn.name == "runtime.NumGoroutine" with
  | false=>.call f args H
  | true=>.fail
 | none=>.fail
def callFunc (E:Env)(f:FuncId)(args:List Value)(H:Heap):dN:=match E.fn.get f with
 | some fn=>F7 f args H fn
 | none=>.fail
def VO (d:TypeDesc)(pointer:Bool):Bool:=match d with
 | .pointer _=>pointer
 | _=>!pointer
def DC (E:Env)(H:Heap)(g:FuncId)(pointer:Bool)(args:List Value)(i:Option TI):dN:=match i with
 | some i=>match VO i.desc pointer with
  | true=>match args with
   | x :: r=>callFunc E g (x :: r) H
   | []=>.fail
  | false=>.fail
 | none=>.fail
def KG (E:Env)(H:Heap)(t:TypeId)(path:Array FieldStep)(g:FuncId)(pointer:Bool)(args:List Value):dN:=match path.toList with
 | []=>DC E H g pointer args (E.ty t)
 | _=>.fail
def KH (E:Env)(H:Heap)(fn:Fn)(first captured:Array Value)(args:List Value):dN:=match fn with
 | .func g=>callFunc E g (first.toList ++ args ++ captured.toList) H
 | .yield l=>.yield l (first.toList ++ args) H
 | .via t path g pointer=>KG E H t path g pointer (first.toList ++ args)
 | _=>.fail
def sw (E:Env)(H:Heap)(f:Value)(args:List Value):dN:=match f with
 | .func fn first captured=>KH E H fn first captured args
 | _=>.fail
def lD (v:Option Value):Value:=match v with
 | some v=>v
 | none=>undef
def junk:Value:=.chan (some 0)
def BK (v:Value):Value:=match v with
 | .int k n=>.int k n
 | v=>match dP 3 v with
  | true=>v
  | false=>junk
def eval (ρ:T Value)(x:Operand):Value:=match x with
 | .tmp t=>lD (ρ.get t)
 | .const v=>BK v
 | .global g=>.pointer (some ⟨g,0,some 0⟩)
 | .func f=>.func (.func f) #[] #[]
def fF (ρ:T Value)(x:Option Operand):Option Value:=match x with
 | some x=>some (eval ρ x)
 | none=>none
def jH (ρ:T Value):List Operand→List Value
 | []=>[]
 | x :: l=>eval ρ x :: jH ρ l
def fU (ρ:T Value):List (Nat×Operand)→List (Nat×Value)
 | []=>[]
 | (i,x) :: l=>(i,eval ρ x) :: fU ρ l
abbrev Arm:=Env→T Value→Heap→TypeId→dN
def picked (ρ:T Value)(H:Heap)(a b:Operand)(c:Value):dN:=match c with
 | .bool true=>.val (eval ρ a) H
 | .bool false=>.val (eval ρ b) H
 | _=>.fail
def zeroOf (i:Option TI):Option Value:=match i with
 | some i=>i.zero
 | none=>none
def boxed (elem:TypeId)(cells:Option (List Value)):Option ((Nat→Value)×gV):=match cells with
 | some cells=>some (xC,rowOf elem cells true)
 | none=>none
def allocated (elem:TypeId)(z:Option Value):Option ((Nat→Value)×gV):=match z with
 | some z=>boxed elem (cellsOf z)
 | none=>none
def placeOf (off:Nat)(i:Option TI):Option (Nat×Nat):=match i with
 | some fi=>some (off,fi.size)
 | none=>none
def pF (E:Env)(fields:Array Field)(i:Nat):Option (Nat×Nat):=match lC fields.toList i with
 | some f=>placeOf f.offset (E.ty f.type)
 | none=>none
def typed (i:Option TI):Bool:=match i with
 | some _=>true
 | none=>false
def uD (E:Env):List Field→Bool
 | []=>true
 | f :: l=>typed (E.ty f.type) && uD E l
def iK (size:Nat)(i:Nat):Option (Nat×Nat):=some (Nat.mul i size,size)
def Ey (H:Heap)(cells:Option (List Value)):dN:=match cells with
 | some cells=>.val (.agg ⟨cells⟩) H
 | none=>.fail
def zw (E:Env)(H:Heap)(parts:List (Nat×Value))(i:TI)(z:List Value):dN:=match i.desc with
 | .struct fields=>match uD E fields.toList with
  | true=>Ey H (fill (pF E fields) z parts)
  | false=>.fail
 | .array _ elem=>match E.ty elem with
  | some ei=>Ey H (fill (iK ei.size) z parts)
  | none=>.fail
 | _=>.fail
def qc (E:Env)(H:Heap)(parts:List (Nat×Value))(i:TI):dN:=match zeroCells i with
 | some z=>zw E H parts i z
 | none=>.fail
def KI (elem:TypeId)(l c:Nat)(cells:Option (List Value)):Option ((Nat→Value)×gV):=match cells with
 | some cells=>some (fun r=>slc r 0 l c,rowOf elem cells true)
 | none=>none
def xG (len:Nat)(parts:List (Nat×Value))(elem:TypeId)(size:Nat)(z:List Value):Option ((Nat→Value)×gV) :=
 match Nat.ble (Nat.mul len size) 10000 && Nat.beq z.length size with
 | true=>KI elem len len (fill (iK size) (times z len) parts)
 | false=>none
def kP (len:Nat)(parts:List (Nat×Value))(se:Option (TypeId×TI)):Option ((Nat→Value)×gV):=match se with
 | some (e,ei)=>match zeroCells ei with
  | some z=>xG len parts e ei.size z
  | none=>none
 | none=>none
def Ez (v:Value)(k:Nat→Nat→dN):dN:=match v with
 | .pointer (some ⟨r,o,none⟩)=>k r o
 | _=>.fail
def iB (H:Heap)(v:Value):dN:=match v with
 | .pointer (some a)=>.val (.pointer (some a)) H
 | .func fn a b=>match fn with
  | .func _=>.val (.func fn a b) H
  | .yield _=>.val (.func fn a b) H
  | .via _ _ _ _=>.val (.func fn a b) H
  | _=>.fail
 | .iface t v=>.val (.iface t v) H
 | _=>.fail
def wX (H:Heap)(v:Value)(r:Unit→Option Value):dN:=match dP 1 v with
 | true=>lM H (jr (r ()))
 | false=>.fail
def toArray (H:Heap)(n:Nat)(v:Value):dN:=match v with
 | .slice (some ⟨r,o,sp⟩) len _=>match Nat.ble n len && !fA sp with
  | true=>.val (ptr r o) H
  | false=>.fail
 | _=>.fail
def jv (H:Heap)(v:Value)(i:Option TI):dN:=match i with
 | some i=>match i.desc with
  | .array n _=>toArray H n v
  | _=>.fail
 | none=>.fail
def oO (H:Heap)(t:TypeId)(v:Value)(i:Option TI):dN:=match i with
 | some i=>match i.desc with
  | .interface _=>.fail
  | _=>.val (.iface t v) H
 | none=>.fail
def funcOf (H:Heap)(fn:Fn)(first captured:List Value):dN:=match fn with
 | .func _=>.val (.func fn ⟨first⟩ ⟨captured⟩) H
 | .via _ _ _ _=>.val (.func fn ⟨first⟩ ⟨captured⟩) H
 | _=>.fail
abbrev New:=Option ((Nat→Value)×gV)
def iC:New:=some (bL,.map [] 0)
def zx (i:Option TI)(v:Value):New:=match i with
 | some i=>match i.desc with
  | .map _ _=>match v with
   | .int _ _=>iC
   | _=>none
  | _=>none
 | none=>none
def AA (l c:Nat)(elem:TypeId)(ei:TI)(z:List Value):New :=
 match Nat.ble l c && Nat.ble (Nat.mul ei.bytes c) 1073741824 && Nat.beq z.length ei.size with
 | true=>some (fun r=>slc r 0 l c,rowOf elem (times z c) true)
 | false=>none
def mG (l c:Option Nat)(se:Option (TypeId×TI)):New:=match se with
 | some (e,ei)=>match zeroCells ei with
  | some z=>match l with
   | some l=>match c with
    | some c=>AA l c e ei z
    | none=>none
   | none=>none
  | none=>none
 | none=>none
def F8 (size o l m:Nat):Nat:=match Nat.beq m l with
 | true=>o
 | false=>Nat.add o (Nat.mul l size)
def mH (H:Heap)(size r o:Nat)(b:Option (Nat×Nat×Nat)):dN:=match b with
 | none=>.fail
 | some (l,h,m)=>.val (lim r (F8 size o l m) (Nat.sub h l) (Nat.sub m l)) H
def xH (H:Heap)(h m l:Nat):dN:=match Nat.beq (Nat.sub h l) 0 && Nat.beq (Nat.sub m l) 0 with
 | true=>.val void H
 | false=>.fail
def oP (H:Heap)(size r o:Nat)(b:Option (Nat×Nat×Nat)):dN:=match b with
 | none=>.fail
 | some (l,h,m)=>match Nat.ble (Nat.succ l) m with
  | true=>.val (slc r (Nat.add o (Nat.mul l size)) (Nat.sub h l) (Nat.sub m l)) H
  | false=>xH H h m l
def kQ (H:Heap)(size r o:Nat)(b:Option (Nat×Nat×Nat)):dN:=match b with
 | none=>.fail
 | some (l,h,m)=>.val (slc r (F8 size o l m) (Nat.sub h l) (Nat.sub m l)) H
def nW (H:Heap)(size r o:Nat)(BL:Bool)(b:Option (Nat×Nat×Nat)):dN:=match BL with
 | true=>oP H size r o b
 | false=>mH H size r o b
def F9 (H:Heap)(size r o:Nat)(BL:Bool)(b:Option (Nat×Nat×Nat))(x:Option gV):dN:=match x with
 | some (.row _ _ x _)=>match x with
  | true=>kQ H size r o b
  | false=>nW H size r o BL b
 | some (.qb _ _)=>nW H size r o BL b
 | _=>.fail
def xI (H:Heap)(b:Option (Nat×Nat×Nat)):dN:=match b with
 | none=>.fail
 | some (l,h,m)=>.val (.slice none (Nat.sub h l) (Nat.sub m l)) H
def oh (H:Heap)(s:ByteArray)(mx:Option Value)(b:Option (Nat×Nat×Nat)):dN:=match mx with
 | some _=>.fail
 | none=>match b with
  | none=>.fail
  | some (l,h,_)=>.val (.string (s.extract l h)) H
def sD (H:Heap)(BL:Bool)(b:Option (Nat×Nat×Nat)):dN:=match BL with
 | true=>match b with
  | none=>.fail
  | some _=>.val void H
 | false=>.fail
def fI (E:Env)(H:Heap)(v:Value)(lo hi mx:Option Value)(i:TI):dN:=match i.desc with
 | .string=>match v with
  | .string s=>oh H s mx (bounds s.size s.size lo hi none)
  | _=>.fail
 | .slice elem=>match E.ty elem with
  | none=>.fail
  | some ei=>match v with
   | .slice none len cap=>xI H (bounds len cap lo hi mx)
   | .slice (some ⟨r,o,none⟩) len cap=>F9 H ei.size r o mx.isNone (bounds len cap lo hi mx) (H.objs.get r)
   | .slice (some ⟨r,o,some 1⟩) len cap=>mH H ei.size r o (bounds len cap lo hi mx)
   | .slice (some ⟨_,_,some 2⟩) _ _=>sD H mx.isNone (bounds 0 0 lo hi mx)
   | _=>.fail
 | .array n elem=>match E.ty elem with
  | none=>.fail
  | some ei=>match v with
   | .pointer (some ⟨r,o,none⟩)=>mH H ei.size r o (bounds n n lo hi mx)
   | _=>.fail
 | _=>.fail
def uE (H:Heap)(r o off:Nat)(fi:Option TI):dN:=match fi with
 | some fi=>match Nat.beq fi.size 0 with
  | true=>.fail
  | false=>.val (ptr r (Nat.add o off)) H
 | none=>.fail
def mo (i:Option TI)(f:Nat):Option Field:=match i with
 | some i=>match i.desc with
  | .struct fields=>lC fields.toList f
  | _=>none
 | none=>none
def iL (E:Env)(H:Heap)(v:Value)(fd:Option Field):dN:=match fd with
 | some fd=>match v with
  | .pointer (some ⟨r,o,none⟩)=>uE H r o fd.offset (E.ty fd.type)
  | _=>.fail
 | none=>.fail
def partOf (H:Heap)(cs:List Value)(off:Nat)(fi:Option TI):dN:=match fi with
 | some fi=>lM H (part cs off fi)
 | none=>.fail
def qd (E:Env)(H:Heap)(v:Value)(fd:Option Field):dN:=match fd with
 | some fd=>match v with
  | .agg cs=>partOf H cs.toList fd.offset (E.ty fd.type)
  | _=>.fail
 | none=>.fail
def below (n:Nat)(j:Int):Option Nat:=match j with
 | .ofNat j=>match Nat.ble (Nat.succ j) n with
  | true=>some j
  | false=>none
 | _=>none
def indexOf (n:Nat)(v:Value):Option Nat:=match v with
 | .int _ j=>below n j
 | _=>none
def qo (H:Heap)(r o:Nat)(ei:Option TI)(j:Option Nat):dN:=match ei with
 | some ei=>match j with
  | some j=>.val (ptr r (Nat.add o (Nat.mul j ei.size))) H
  | none=>.fail
 | none=>.fail
def gM (E:Env)(H:Heap)(v j:Value)(i:Option TI):dN:=match i with
 | none=>.fail
 | some i=>match i.desc with
  | .array n elem=>match v with
   | .pointer (some ⟨r,o,none⟩)=>qo H r o (E.ty elem) (indexOf n j)
   | _=>.fail
  | .slice elem=>match v with
   | .slice (some ⟨r,o,sp⟩) n _=>match fA sp with
    | true=>.fail
    | false=>qo H r o (E.ty elem) (indexOf n j)
   | _=>.fail
  | _=>.fail
def elemOf (H:Heap)(cs:List Value)(ei:Option TI)(j:Option Nat):dN:=match ei with
 | some ei=>match j with
  | some j=>lM H (part cs (Nat.mul j ei.size) ei)
  | none=>.fail
 | none=>.fail
def DF (H:Heap)(s:ByteArray)(j:Option Nat):dN:=match j with
 | some j=>match lC s.data.toList j with
  | some b=>.val (vR b) H
  | none=>.fail
 | none=>.fail
def lF (E:Env)(H:Heap)(v j:Value)(i:Option TI):dN:=match i with
 | none=>.fail
 | some i=>match i.desc with
  | .array n elem=>match v with
   | .agg cs=>elemOf H cs.toList (E.ty elem) (indexOf n j)
   | _=>.fail
  | .string=>match v with
   | .string s=>DF H s (indexOf s.size j)
   | _=>.fail
  | _=>.fail
def extracted (H:Heap)(v:Value)(i:Nat):dN:=match v with
 | .tuple vs=>lM H (lC vs.toList i)
 | _=>.fail
def Ga (E:Env)(ρ:T Value)(H:Heap)(type:TypeId)(argTypes:Array TypeId)(args:List Value)(c:Callee):dN:=match c with
 | .value f=>sw E H (eval ρ f) args
 | .builtin b=>uz E H b argTypes type args
 | .invoke _ _=>.fail
def jf (x:New)(H:Heap):dN:=match x with
 | some (f,o)=>laid f H o
 | none=>.fail
def xJ (E:Env)(ρ:T Value)(t:TypeId)(r:Option Operand):New:=match r with
 | none=>iC
 | some x=>zx (E.ty t) (eval ρ x)
def sG (x:Operand):Arm:=fun _ ρ H _=>.val (eval ρ x) H
def KJ (c a b:Operand):Arm:=fun _ ρ H _=>picked ρ H a b (eval ρ c)
def VP (elem:TypeId):Arm:=fun E _ H _=>jf (allocated elem (zeroOf (E.ty elem))) H
def VQ (elem:TypeId)(x:Operand):Arm:=fun _ ρ H _=>jf (boxed elem (cellsOf (eval ρ x))) H
def xK (t:TypeId)(parts:Array (Nat×Operand)):Arm:=fun E ρ H _=>match E.ty t with
 | some i=>qc E H (fU ρ parts.toList) i
 | none=>.fail
def Ai (t:TypeId)(len:Nat)(parts:Array (Nat×Operand)):Arm:=fun E ρ H _=>jf (kP len (fU ρ parts.toList) (dK E t)) H
def qH (t:TypeId)(m k x:Operand):Arm:=fun E ρ H _=>qN (vQ E H t (eval ρ m) (eval ρ k) (eval ρ x))
def BM (t:TypeId)(a:Operand):Arm:=fun E ρ H _=>Ez (eval ρ a) fun r o=>lM H (loadVar E H t r o)
def BN (t:TypeId)(a x:Operand):Arm:=fun E ρ H _=>Ez (eval ρ a) fun r o=>qN (storeVar E H t r o (eval ρ x))
def M8 (_:Nat):Arm:=fun _ _ _ _=>.fail
def xL (x:Operand):Arm:=fun _ ρ H _=>iB H (eval ρ x)
def KL (op:BinOp)(t:TypeId)(x y:Operand)(_:TypeId):Arm:=fun E ρ H _=>lM H (PY E op t x y (eval ρ x) (eval ρ y))
def M9 (op:UnOp)(_:TypeId)(x:Operand):Arm:=fun E ρ H _=>wX H (eval ρ x) fun _=>bR E.prog (Op.unary op (eval ρ x))
def KM (E:Env)(H:Heap)(src dst:TypeId)(v:Value):dN:=match E.ty src with
 | some _=>match E.ty dst with
  | some i=>lM H (E.conv i.desc v)
  | none=>.fail
 | none=>.fail
def bytesOf:List Value→Option (List UInt8)
 | []=>some []
 | v :: l=>match v with
  | .int .u8 n=>match bytesOf l with
   | some bs=>some (UInt8.ofNat n.toNat :: bs)
   | none=>none
  | _=>none
def aaz (E:Env)(t:TypeId):Bool:=match E.ty t with
 | some i=>match i.desc with
  | .int .u8=>true
  | _=>false
 | none=>false
def isStr (E:Env)(t:TypeId):Bool:=match E.ty t with
 | some i=>match i.desc with
  | .string=>true
  | _=>false
 | none=>false
def isBytes (E:Env)(t:TypeId):Bool:=match dK E t with
 | some (e,_)=>aaz E e
 | none=>false
def textOf (H:Heap)(bs:Option (List UInt8)):dN:=match bs with
 | some bs=>.val (.string ⟨⟨bs⟩⟩) H
 | none=>.fail
def BP (cells:Option (List Value)):Option (List UInt8):=match cells with
 | some l=>bytesOf l
 | none=>none
def zy (E:Env)(H:Heap)(src dst:TypeId)(v:Value):dN:=match v with
 | .slice (some ⟨r,o,sp⟩) len _=>match isBytes E src && isStr E dst with
  | true=>textOf H (BP (sj H r o len sp))
  | false=>.fail
 | v=>KM E H src dst v
def converted (E:Env)(H:Heap)(src dst:TypeId)(v:Value):dN:=match dP 1 v with
 | true=>lM H (jr (bR E.prog (convert src dst v)))
 | false=>zy E H src dst v
def qO (src dst:TypeId)(x:Operand):Arm:=fun E ρ H _=>converted E H src dst (eval ρ x)
def qP (t:TypeId)(x:Operand):Arm:=fun E ρ H _=>jv H (eval ρ x) (E.ty t)
def xM (t:TypeId)(x:Operand):Arm:=fun E ρ H _=>oO H t (eval ρ x) (E.ty t)
def BQ (fn:Fn)(first captured:Array Operand):Arm:=fun _ ρ H _=>funcOf H fn (jH ρ first.toList) (jH ρ captured.toList)
def VR (t:TypeId)(r:Option Operand):Arm:=fun E ρ H _=>jf (xJ E ρ t r) H
def YS (_:TypeId)(_:Operand):Arm:=fun _ _ _ _=>.fail
def BR (t:TypeId)(l c:Operand):Arm:=fun E ρ H _=>jf (mG (asNat 100000 (eval ρ l)) (asNat 100000 (eval ρ c)) (dK E t)) H
def xO (t:TypeId)(x:Operand)(lo hi mx:Option Operand):Arm:=fun E ρ H _=>match E.ty t with
 | some i=>fI E H (eval ρ x) (fF ρ lo) (fF ρ hi) (fF ρ mx) i
 | none=>.fail
def nu (t:TypeId)(x:Operand)(f:Nat):Arm:=fun E ρ H _=>iL E H (eval ρ x) (mo (E.ty t) f)
def xP (t:TypeId)(x:Operand)(f:Nat):Arm:=fun E ρ H _=>qd E H (eval ρ x) (mo (E.ty t) f)
def ny (t:TypeId)(x j:Operand):Arm:=fun E ρ H _=>gM E H (eval ρ x) (eval ρ j) (E.ty t)
def xQ (t:TypeId)(x j:Operand):Arm:=fun E ρ H _=>lF E H (eval ρ x) (eval ρ j) (E.ty t)
def zA (t:TypeId)(x j:Operand)(ok:Bool):Arm:=fun E ρ H _=>lM H (zq E H t (eval ρ x) (eval ρ j) ok)
def BS (t:TypeId)(m k:Operand):Arm:=fun E ρ H _=>FZ E H t (eval ρ m) (eval ρ k)
def oQ (_:TypeId)(m s x:Operand):Arm:=fun _ ρ H _=>qN (rZ H (eval ρ m) (eval ρ s) (eval ρ x))
def zB (i:Option TI)(v:Value):Option ((Nat→Value)×gV):=match i with
 | some i=>match i.desc with
  | .string=>match v with
   | .string s=>some (xC,.iter s 0)
   | _=>none
  | _=>none
 | none=>none
def Na (t:TypeId)(x:Operand):Arm:=fun E ρ H _=>jf (zB (E.ty t) (eval ρ x)) H
def kR (H:Heap)(r:Nat)(s:ByteArray)(pos:Nat)(p:Nat×Nat):dN:=match p with
 | (c,width)=>gZ (Nat.add pos width) fun n=>gZ c fun c=>.val (.tuple #[.bool true,.int .i64 (.ofNat pos),.int .i32 (.ofNat c)]) (H.set r (.iter s n))
def Gb (H:Heap)(r:Nat)(o:Option gV):dN:=match o with
 | some (.iter s pos)=>match Nat.ble (Nat.succ pos) s.size with
  | true=>kR H r s pos (Utf8.decode s pos)
  | false=>.val (.tuple #[.bool false]) H
 | _=>.fail
def KN (H:Heap)(isString:Bool)(v:Value):dN:=match isString with
 | true=>match v with
  | .pointer (some ⟨r,0,none⟩)=>Gb H r (H.objs.get r)
  | _=>.fail
 | false=>.fail
def Fq (x:Operand)(isString:Bool):Arm:=fun _ ρ H _=>KN H isString (eval ρ x)
def P6 (_:Operand):Arm:=fun _ _ _ _=>.fail
def TQ (_:Operand)(_ _:TypeId)(_:Bool):Arm:=fun _ _ _ _=>.fail
def qQ (x:Operand)(i:Nat):Arm:=fun _ ρ H _=>extracted H (eval ρ x) i
def BU (c:Call):Arm:=fun E ρ H type=>Ga E ρ H type c.argTypes (jH ρ c.args.toList) c.callee
def VT (_:Call):Arm:=fun _ _ _ _=>.fail
def VU (_:Operand):Arm:=fun _ _ _ _=>.fail
def YT (_ _:Operand):Arm:=fun _ _ _ _=>.fail
def YU (_:TypeId)(_:Operand)(_:Bool):Arm:=fun _ _ _ _=>.fail
def TR (_:Array SelectCase)(_:Bool):Arm:=fun _ _ _ _=>.fail
def aop (op:Op):Arm :=
 @Op.casesOn (fun _=>Arm) op sG sG KJ VP VQ xK Ai qH BM BN M8 M8 xL KL M9 qO qP
  xM BQ VR YS BR xO nu xP ny xQ zA qH BS oQ Na Fq P6 TQ qQ
  BU VT VT VU YT YU TR
inductive dU where
 | normal | ret | exit (id:Nat) | goto (l:Nat)
structure St where
 tmps:T Value
 size:Nat
 heap:Heap
 round:Option Nat
 marks:List Nat
def St.AB (s:St)(f:Heap→Heap):St:=@St.rec (fun _=>St) (fun t z h r m=>⟨t,z,f h,r,m⟩) s
def putDst (tmps:T Value)(size:Nat)(d:Option Tmp)(v:Value):T Value:=match d with
 | some d=>match Nat.ble (Nat.succ d) size with
  | true=>tmps.put d v
  | false=>tmps
 | none=>tmps
def P7 (want:Bool)(v:Option Value):Bool:=match v with
 | some (.bool b)=>b == want
 | _=>false
def Nc (o:Option Oper):Option Tmp:=match o with
 | some o=>o.dst
 | none=>none
def DI (ρ:T Value)(d:Option Tmp)(want:Bool):Bool:=match d with
 | some d=>P7 want (ρ.get d)
 | none=>false
def nA (ops:Array Oper)(ρ:T Value)(g:Option (Nat×Bool)):Bool:=match g with
 | none=>true
 | some (j,want)=>DI ρ (Nc (lC ops.toList j)) want
abbrev Self:=Code→St→Option (dU×St)
def Gc (E:Env)(H:Heap)(t:TypeId)(v:Option Value):Option Value:=match v with
 | some (.pointer (some ⟨r,o,none⟩))=>loadVar E H t r o
 | _=>none
def uF (E:Env)(ρ:T Value)(H:Heap):ResultVar→Option Value
 | .tmp t=>ρ.get t
 | .cell a t=>Gc E H t (ρ.get a)
def lG (E:Env)(ρ:T Value)(H:Heap):List ResultVar→Option (List Value)
 | []=>some []
 | r :: rs=>match uF E ρ H r with
  | none=>none
  | some v=>match lG E ρ H rs with
   | none=>none
   | some vs=>some (v :: vs)
def P8 (H:Heap)(vs:Option (List Value)):Option (Value×Heap):=match vs with
 | none=>none
 | some [v]=>some (v,H)
 | some vs=>some (.tuple ⟨vs⟩,H)
def Gd (H:Heap)(d:Nat)(x:Option gV):Option Heap:=match x with
 | some .dY=>some (H.set d .dead)
 | _=>none
def jZ:List Nat→Heap→Option Heap
 | [],H=>some H
 | d :: ds,H=>match Gd H d (H.objs.get d) with
  | some H=>jZ ds H
  | none=>none
def DJ (E:Env)(fn:Func)(s:St)(H:Option Heap):Option (Value×Heap):=match H with
 | some H=>P8 H (lG E s.tmps H fn.results.toList)
 | none=>none
def qI (E:Env)(fn:Func)(s:St):Option (Value×Heap):=DJ E fn s (jZ s.marks s.heap)
def leave (E:Env)(fn:Func)(r:Option (dU×St)):Option (Value×Heap):=match r with
 | some (.normal,s)=>qI E fn s
 | some (.ret,s)=>qI E fn s
 | _=>none
def qJ (E:Env)(self:Self)(args:List Value)(H:Heap)(fn:Func)(body:Option Code):Option (Value×Heap):=match body with
 | none=>none
 | some body=>match Nat.ble args.length fn.ntmps with
  | true=>leave E fn (self body ⟨T.ofList T.empty 0 args,fn.ntmps,H,none,[]⟩)
  | false=>none
def zC (E:Env)(self:Self)(args:List Value)(H:Heap)(fn:Option Func):Option (Value×Heap):=match fn with
 | none=>none
 | some fn=>qJ E self args H fn fn.body
def Fu (E:Env)(self:Self)(f:FuncId)(args:List Value)(H:Heap)(r:Option (Value×Heap)):Option (Value×Heap):=match r with
 | some r=>some r
 | none=>zC E self args H (E.fn.get f)
def enter (E:Env)(self:Self)(f:FuncId)(args:List Value)(H:Heap):Option (Value×Heap):=match E.memo f args with
 | some v=>some (v,H)
 | none=>Fu E self f args H (E.Bv f args H)
def mW (size:Nat):List Tmp→List Value→T Value→T Value
 | p :: ps,v :: vs,t=>mW size ps vs (putDst t size (some p) v)
 | _,_,t=>t
def om (H:Heap)(l:Nat)(state:LoopState)(pending:Option Code)(x:Option gV):Option Heap:=match x with
 | some (.loop _ _ tmps size params assign body d)=>some (H.set l (.loop state pending tmps size params assign body d))
 | _=>none
def Heap.oU (H:Heap)(l:Nat)(state:LoopState)(pending:Option Code):Option Heap:=om H l state pending (H.objs.get l)
def yields (b:Bool)(H:Option Heap):Option (Value×Heap):=match H with
 | some H=>some (.bool b,H)
 | none=>none
def endRound (l:Nat)(s:St)(e:dU):Option (Value×Heap):=match e with
 | .normal=>yields true (s.heap.oU l .ready none)
 | .ret=>yields false (s.heap.oU l .done (some .ret))
 | .exit id=>yields false (s.heap.oU l .done (some (.exit id)))
 | .goto id=>yields false (s.heap.oU l .done (some (.goto id)))
def qR (l:Nat)(r:Option (dU×St)):Option (Value×Heap):=match r with
 | none=>none
 | some (e,s)=>endRound l s e
def zD (self:Self)(l:Nat)(s:St)(body:Code)(x:Option gV):Option (Value×Heap):=match x with
 | some (.loop .ready p tmps size params assign body' d)=>qR l (self body (s.AB fun h=>h.set l (.loop .busy p tmps size params assign body' d)))
 | _=>none
def qK (self:Self)(l:Nat)(body:Code)(r:Option (dU×St)):Option (Value×Heap):=match r with
 | some (.normal,s)=>zD self l s body (s.heap.objs.get l)
 | _=>none
def zF (self:Self)(l:Nat)(args:List Value)(H:Heap)(x:Option gV):Option (Value×Heap):=match x with
 | some (.loop _ _ tmps size params assign body _)=>match Nat.beq args.length params.size with
  | true=>qK self l body (self assign ⟨mW size params.toList args tmps,size,H,some l,[]⟩)
  | false=>none
 | _=>none
def yielding (self:Self)(l:Nat)(args:List Value)(H:Heap):Option (Value×Heap):=zF self l args H (H.objs.get l)
def mI (E:Env)(self:Self)(r:dN):Option (Value×Heap):=match r with
 | .val v H=>some (v,H)
 | .call f args H=>enter E self f args H
 | .yield l args H=>yielding self l args H
 | .fail=>none
def KO (E:Env)(self:Self)(o:Oper)(s:St):Option (Value×Heap):=@St.rec (fun _=>Option (Value×Heap)) (fun t _ h _ _=>mI E self (aop o.op E t h o.type)) s
def St.done (s:St)(d:Option Tmp)(v:Value)(H:Heap):St:=@St.rec (fun _=>St) (fun t z _ r m=>⟨putDst t z d v,z,H,r,m⟩) s
def St.keep (s:St)(d:Option Tmp)(v:Value):St:=@St.rec (fun _=>St) (fun t z h r m=>⟨putDst t z d v,z,h,r,m⟩) s
def BX (s:St)(d:Option Tmp)(k:St→Option (dU×St))(r:Option (Value×Heap)):Option (dU×St):=match r with
 | some (v,H)=>force v fun v=>k (s.done d v H)
 | none=>none
def wY (E:Env)(self:Self)(ops:Array Oper):List Oper→St→Option (dU×St)
 | [],s=>some (.normal,s)
 | o :: l,s=>match nA ops s.tmps o.guard with
  | true=>BX s o.dst (wY E self ops l) (KO E self o s)
  | false=>wY E self ops l (s.keep o.dst undef)
/-! Regions that draw their order. -/
def fJ (op:Op):Bool:=match op with
 | .move _ | .assign _ | .pick _ _ _ | .build _ _ | .load _ _ | .nilCheck _ | .binOp _ _ _ _ _ | .unOp _ _ _ | .convert _ _ _ | .sliceToArrayPointer _ _ | .makeInterface _ _ | .makeFunc _ _ _
 | .slice _ _ _ _ _ | .fieldAddr _ _ _ | .field _ _ _ | .indexAddr _ _ _ | .index _ _ _ | .lookup _ _ _ _ | .extract _ _=>true
 | .call c=>match c.callee with
  | .builtin b=>match b with
   | .len | .cap | .max | .min=>true
   | _=>false
  | _=>false
 | _=>false
def jw (E:Env)(ρ:T Value)(op:Op):New:=match op with
 | .alloc t=>allocated t (zeroOf (E.ty t))
 | .box t x=>boxed t (cellsOf (eval ρ x))
 | .buildSlice t len parts=>kP len (fU ρ parts.toList) (dK E t)
 | .makeSlice t l c=>mG (asNat 100000 (eval ρ l)) (asNat 100000 (eval ρ c)) (dK E t)
 | .makeMap t r=>xJ E ρ t r
 | _=>none
def lays (op:Op):Bool:=match op with
 | .alloc _ | .box _ _ | .buildSlice _ _ _ | .makeSlice _ _ _ | .makeMap _ _=>true
 | _=>false
def pG (e:Edge):Bool:=Region.binds .any e
def qU (acc:List Nat):List Edge→Nat
 | []=>0
 | e :: es=>match pG e with
  | true=>Nat.lor (Nat.lor (Nat.pow 2 e.on) (match lC acc e.on with | some m=>m | none=>0)) (qU acc es)
  | false=>qU acc es
def masks:List Oper→List Nat→List Nat
 | [],acc=>acc
 | o :: l,acc=>masks l (acc ++ [qU acc o.after.toList])
def cK (ops:Array Oper):List Nat:=masks ops.toList []
def maskAt (ms:List Nat)(i:Nat):Nat:=match lC ms i with
 | some m=>m
 | none=>0
def comes (ms:List Nat)(j i:Nat):Bool:=Nat.testBit (maskAt ms i) j
def aaf (x:Operand):List Tmp:=match x with
 | .tmp t=>[t]
 | _=>[]
def Nf (ops:Array Oper)(g:Option (Nat×Bool)):List Tmp:=match g with
 | none=>[]
 | some (j,_)=>match Nc (lC ops.toList j) with
  | some d=>[d]
  | none=>[]
def looks (ops:Array Oper)(o:Oper):List Tmp:=o.op.operands.toList.flatMap aaf ++ Nf ops o.guard
def isDst (o:Oper)(t:Tmp):Bool:=match o.dst with
 | some d=>Nat.beq d t
 | none=>false
def Gf (ops:Array Oper)(ms:List Nat)(i j:Nat)(o p:Oper):Bool:=match Nat.beq i j with
 | true=>true
 | false=>match (looks ops o).any (isDst p) with
  | false=>true
  | true=>match Nat.ble j i with
   | true=>comes ms j i
   | false=>comes ms i j
def Fv (o p:Oper):Bool:=match o.dst with
 | some d=>isDst p d
 | none=>false
def chained (ahead:Bool)(o:Oper):Bool:=match fJ o.op with
 | true=>false
 | false=>!(ahead && lays o.op)
def apart (ahead:Bool)(ms:List Nat)(i j:Nat)(o p:Oper):Bool:=match Nat.ble (Nat.succ i) j with
 | false=>true
 | true=>!Fv o p && (!(chained ahead o && chained ahead p) || comes ms i j)
def Fw (ahead:Bool)(ops:Array Oper)(ms:List Nat)(i:Nat)(o:Oper):Nat→List Oper→Bool
 | _,[]=>true
 | j,p :: ps=>Gf ops ms i j o p && apart ahead ms i j o p && Fw ahead ops ms i o (Nat.succ j) ps
def backward (i:Nat)(o:Oper):Bool:=o.after.toList.all fun e=>!pG e || Nat.ble (Nat.succ e.on) i
def Si (ahead:Bool)(ops:Array Oper)(ms:List Nat):Nat→List Oper→Bool
 | _,[]=>true
 | i,o :: l=>backward i o && Fw ahead ops ms i o 0 ops.toList && Si ahead ops ms (Nat.succ i) l
def qV (ahead:Bool)(ops:Array Oper):Bool:=Si ahead ops (cK ops) 0 ops.toList
structure Note where
 tmps:T Value
 val:Value
 turned:Nat
 done:Bool
structure Trace where
 notes:List Note
 heaps:List Heap
 last:St
def cons (n:Note)(r:Option Trace):Option Trace:=match r with
 | some t=>some ⟨n :: t.notes,t.heaps,t.last⟩
 | none=>none
def Gg (H:Heap)(r:Option Trace):Option Trace:=match r with
 | some t=>some ⟨t.notes,H :: t.heaps,t.last⟩
 | none=>none
def noted (s:St)(d:Option Tmp)(k:Nat)(turns:Bool)(go:St→Nat→Option Trace)(r:Option (Value×Heap)):Option Trace:=match r with
 | none=>none
 | some (v,H)=>force v fun v=>match turns with
  | true=>Gg H (cons ⟨s.tmps,v,k,true⟩ (go (s.done d v H) (Nat.succ k)))
  | false=>cons ⟨s.tmps,v,k,true⟩ (go (s.keep d v) k)
def sH (r:dN):Option (Value×Heap):=match r with
 | .val v H=>some (v,H)
 | _=>none
def newAt (r:Nat)(x:New):Option Value:=match x with
 | some (f,_)=>some (f r)
 | none=>none
def uG (H:Heap)(v:Option Value):Option (Value×Heap):=match v with
 | some v=>some (v,H)
 | none=>none
def qW (as:List (Option Nat)):Option Nat:=match as with
 | []=>none
 | a :: _=>a
def nC (E:Env)(self:Self)(o:Oper)(ah:Bool)(ahead:Option Nat)(s:St)(k:Nat)(go:St→Nat→Option Trace):Option Trace:=match ah && lays o.op with
 | true=>match ahead with
  | some r=>noted s o.dst k false go (uG s.heap (newAt r (jw E s.tmps o.op)))
  | none=>none
 | false=>match fJ o.op with
  | true=>noted s o.dst k false go (sH (aop o.op E s.tmps s.heap o.type))
  | false=>noted s o.dst k true go (KO E self o s)
def trace (E:Env)(self:Self)(ah:Bool)(ops:Array Oper):List Oper→List (Option Nat)→St→Nat→Option Trace
 | [],_,s,_=>some ⟨[],[],s⟩
 | o :: l,as,s,k=>match nA ops s.tmps o.guard with
  | true=>nC E self o ah (qW as) s k (trace E self ah ops l as.tail)
  | false=>cons ⟨s.tmps,undef,k,false⟩ (trace E self ah ops l as.tail (s.keep o.dst undef) k)
def uH (r:List (Option Nat)×Heap):List (Option Nat)×Heap:=match r with
 | (as,H)=>(none :: as,H)
def BZ (n:Nat)(r:List (Option Nat)×Heap):List (Option Nat)×Heap:=match r with
 | (as,H)=>(some n :: as,H)
def P9 (o:Oper)(x:New)(go:Heap→List (Option Nat)×Heap)(H:Heap):List (Option Nat)×Heap:=match x with
 | some (_,ob)=>BZ H.next (go ⟨Nat.succ H.next,H.objs.put H.next ob⟩)
 | none=>uH (go H)
def layAll (E:Env):List Oper→List Note→Heap→List (Option Nat)×Heap
 | o :: l,n :: ns,H=>match n.done && lays o.op with
  | true=>P9 o (jw E n.tmps o.op) (layAll E l ns) H
  | false=>uH (layAll E l ns H)
 | _,_,H=>([],H)
def fD:Nat→Value→Value→Bool
 | _,.bool a,.bool b=>a == b
 | _,.int .i64 a,.int .i64 b=>eqI a b
 | _,.int k a,.int j b=>decide (k = j) && eqI a b
 | _,.string a,.string b=>a == b
 | _,.pointer a,.pointer b=>decide (a = b)
 | _,.slice a l c,.slice b m d=>decide (a = b) && Nat.beq l m && Nat.beq c d
 | _,.map a,.map b=>decide (a = b)
 | _,.nilFunc,.nilFunc=>true
 | _,.nilIface,.nilIface=>true
 | n + 1,.agg a,.agg b=>Nat.beq a.size b.size && (a.toList.zip b.toList).all fun p=>fD n p.1 p.2
 | n + 1,.tuple a,.tuple b=>Nat.beq a.size b.size && (a.toList.zip b.toList).all fun p=>fD n p.1 p.2
 | n + 1,.func f a b,.func g c d=>decide (f = g) && Nat.beq a.size c.size && Nat.beq b.size d.size && (a.toList.zip c.toList).all (fun p=>fD n p.1 p.2) && (b.toList.zip d.toList).all (fun p=>fD n p.1 p.2)
 | _,_,_=>false
def Fx (v:Value)(r:dN):Bool:=match r with
 | .val u _=>fD 4 v u
 | _=>false
def Ca (l m:List Value):Bool:=Nat.beq l.length m.length && (l.zip m).all fun p=>fD 3 p.1 p.2
def uI (n:Nat)(a b:T Value):Bool:=match a.read 0 n with
 | some l=>match b.read 0 n with
  | some m=>Ca l m
  | none=>false
 | none=>false
def vV (a:gV)(b:Option gV):Bool:=match a with
 | .row e n x cs=>match b with
  | some (.row e' n' x' cs')=>Nat.beq e e' && Nat.beq n n' && (x && x') && uI n cs cs'
  | _=>false
 | .map [] 0=>match b with
  | some (.map [] 0)=>true
  | _=>false
 | _=>false
def vW (n:Note)(r:Nat)(x:New)(H:Heap):Bool:=match x with
 | some (f,ob)=>fD 4 n.val (f r) && vV ob (H.objs.get r)
 | none=>false
def kS (E:Env)(o:Oper)(ahead:Option Nat)(n:Note)(H:Heap):Bool:=match ahead with
 | some r=>vW n r (jw E n.tmps o.op) H
 | none=>Fx n.val (aop o.op E n.tmps H o.type)
def jS (E:Env)(o:Oper)(ahead:Option Nat)(n:Note):List Heap→Bool
 | []=>true
 | H :: l=>kS E o ahead n H && jS E o ahead n l
def fE (ahead:Bool)(ms:List Nat)(i:Nat):Nat→List Oper→List Note→Nat
 | j,o :: l,n :: ns=>match n.done && chained ahead o && comes ms j i with
  | true=>Nat.succ (fE ahead ms i (Nat.succ j) l ns)
  | false=>fE ahead ms i (Nat.succ j) l ns
 | _,_,_=>0
def d9 (ahead:Bool)(ms:List Nat)(i:Nat):Nat→List Oper→List Note→Nat
 | j,o :: l,n :: ns=>match n.done && chained ahead o && !comes ms i j with
  | true=>Nat.succ (d9 ahead ms i (Nat.succ j) l ns)
  | false=>d9 ahead ms i (Nat.succ j) l ns
 | _,_,_=>0
def jN (E:Env)(o:Oper)(a:Option Nat)(n:Note)(laid:Bool)(l:List Heap):Bool:=match laid with
 | true=>jS E o a n l
 | false=>match l with
  | []=>true
  | H :: r=>match r with
   | []=>true
   | H' :: r=>jS E o a n (H :: H' :: r)
def qX (E:Env)(ahead:Bool)(ops:Array Oper)(ms:List Nat)(i:Nat)(o:Oper)(a:Option Nat)(n:Note)(notes:List Note)(heaps:List Heap):Bool:=match n.done && !chained ahead o with
 | false=>true
 | true =>
  jN E o a n (ahead && lays o.op) ((heaps.drop (fE ahead ms i 0 ops.toList notes)).take (Nat.succ (Nat.sub (d9 ahead ms i 0 ops.toList notes) (fE ahead ms i 0 ops.toList notes))))
def fG (E:Env)(ahead:Bool)(ops:Array Oper)(ms:List Nat)(notes:List Note)(heaps:List Heap):Nat→List Oper→List (Option Nat)→List Note→Bool
 | i,o :: l,as,n :: ns=>qX E ahead ops ms i o (qW as) n notes heaps && fG E ahead ops ms notes heaps (Nat.succ i) l as.tail ns
 | _,_,_,_=>true
def AJ (E:Env)(ops:Array Oper)(as:List (Option Nat))(H:Heap)(notes:List Note)(heaps:List Heap):Bool:=match heaps with
 | []=>true
 | H' :: l=>fG E false ops (cK ops) notes (H :: H' :: l) 0 ops.toList as notes
def stable (E:Env)(ahead:Bool)(ops:Array Oper)(as:List (Option Nat))(H:Heap)(t:Trace):Bool:=match ahead with
 | false=>AJ E ops as H t.notes t.heaps
 | true=>fG E true ops (cK ops) t.notes (H :: t.heaps) 0 ops.toList as t.notes
def settled (E:Env)(ahead:Bool)(ops:Array Oper)(as:List (Option Nat))(H:Heap)(t:Option Trace):Option (dU×St):=match t with
 | none=>none
 | some t=>match stable E ahead ops as H t with
  | true=>some (.normal,t.last)
  | false=>none
def kr (E:Env)(self:Self)(ahead:Bool)(ops:Array Oper)(s:St)(a:List (Option Nat)×Heap):Option (dU×St):=match a with
 | (as,H)=>settled E ahead ops as H (trace E self ahead ops ops.toList as (s.AB fun _=>H) 0)
def VW (E:Env)(self:Self)(ops:Array Oper)(s:St)(t:Option Trace):Option (dU×St):=match t with
 | none=>none
 | some t=>kr E self true ops s (layAll E ops.toList t.notes s.heap)
def JG (op:Op):Bool:=match op with
 | .alloc _=>true
 | .makeMap _ r=>match r with
  | none=>true
  | some _=>false
 | _=>false
def Sj (o:Oper):Bool:=match o.guard with
 | none=>true
 | some _=>false
def gQ:List Oper→Bool
 | []=>true
 | o :: l=>match lays o.op with
  | true=>JG o.op && Sj o && gQ l
  | false=>gQ l
def oq (t:T Value):List Oper→List Note
 | []=>[]
 | _ :: l=>⟨t,undef,0,true⟩ :: oq t l
def ow (E:Env)(self:Self)(ops:Array Oper)(s:St):Option (dU×St):=match qV false ops with
 | true=>@St.rec (fun _=>Option (dU×St)) (fun t z h r m=>kr E self false ops ⟨t,z,h,r,m⟩ ([],h)) s
 | false=>match qV true ops with
  | true=>match gQ ops.toList with
   | true=>kr E self true ops s (layAll E ops.toList (oq s.tmps ops.toList) s.heap)
   | false=>VW E self ops s (trace E self false ops ops.toList [] s 0)
  | false=>none
def Ng (E:Env)(self:Self)(ops:Array Oper)(draw:Bool)(s:St):Option (dU×St):=match draw with
 | true=>ow E self ops s
 | false=>wY E self ops ops.toList s
def xR (self:Self)(b:Code)(r:Option (dU×St)):Option (dU×St):=match r with
 | some (.normal,s)=>self b s
 | r=>r
def zG (r:Option (dU×St)):Option (dU×St):=match r with
 | some (.goto _,_)=>none
 | r=>r
def DK (self:Self)(a b:Code)(s:St)(v:Value):Option (dU×St):=match v with
 | .bool true=>self a s
 | .bool false=>self b s
 | _=>none
def vX (id:Nat)(r:Option (dU×St)):Option (dU×St):=match r with
 | some (.exit id',s)=>match Nat.beq id' id with
  | true=>some (.normal,s)
  | false=>some (.exit id',s)
 | r=>r
def JH (H:Heap)(x:Option gV):Option (Nat×List Nat×Heap):=match x with
 | some (.loop _ _ _ _ _ _ _ d)=>some (d,[],H)
 | _=>none
def around (H:Heap)(round:Option Nat):Option (Nat×List Nat×Heap):=match round with
 | some l=>JH H (H.objs.get l)
 | none=>some (H.next,[H.next],⟨Nat.succ H.next,H.objs.put H.next .dY⟩)
def xS (s:St)(params:Array Tmp)(assign body:Code)(d:Nat)(H:Heap):Heap :=
 ⟨Nat.succ H.next,H.objs.put H.next (.loop .ready none s.tmps s.size params assign body d)⟩
def Fy (st:LoopState):Bool:=match st with
 | .busy=>false
 | _=>true
def AL (H:Heap)(l:Nat)(x:Option gV):Option (Option Code×Heap):=match x with
 | some (.loop st p t z q a b d)=>match Fy st with
  | true=>some (p,H.set l (.loop .exhausted p t z q a b d))
  | false=>none
 | _=>none
def uJ (H:Heap)(l:Nat):Option (Option Code×Heap):=AL H l (H.objs.get l)
def AO (self:Self)(s:St)(r:Option (Option Code×Heap)):Option (dU×St):=match r with
 | none=>none
 | some (none,H)=>some (.normal,s.AB fun _=>H)
 | some (some c,H)=>self c (s.AB fun _=>H)
def vY (self:Self)(s:St)(l:Nat)(r:Option (Value×Heap)):Option (dU×St):=match r with
 | none=>none
 | some (_,H)=>AO self s (uJ H l)
def called (E:Env)(self:Self)(r:dN):Option (Value×Heap):=match r with
 | .call f args H=>enter E self f args H
 | _=>none
def lQ (l:Nat):Value:=.func (.yield l) #[] #[]
def rangeAt (E:Env)(self:Self)(f:Value)(params:Array Tmp)(assign body:Code)(s:St)(r:Option (Nat×List Nat×Heap)):Option (dU×St):=match r with
 | none=>none
 | some (d,m,H)=>vY self ⟨s.tmps,s.size,s.heap,s.round,m ++ s.marks⟩ H.next (called E self (sw E (xS s params assign body d H) f [lQ H.next]))
def Cb (E:Env)(self:Self)(f:Operand)(params:Array Tmp)(assign body:Code)(s:St):Option (dU×St) :=
 rangeAt E self (eval s.tmps f) params assign body s (around s.heap s.round)
def step (E:Env)(self:Self)(c:Code)(s:St):Option (dU×St):=match c with
 | .skip=>some (.normal,s)
 | .label _=>some (.normal,s)
 | .region _ ops draw=>Ng E self ops draw s
 | .seq a b=>xR self b (self a s)
 | .cond x a b=>DK self a b s (eval s.tmps x)
 | .block id b=>vX id (self b s)
 | .scope b=>zG (self b s)
 | .loop b=>xR self (.loop b) (self b s)
 | .rangeFunc f params assign body=>Cb E self f params assign body s
 | .exit id=>some (.exit id,s)
 | .goto l=>some (.goto l,s)
 | .ret=>some (.ret,s)
 | _=>none
def ev (E:Env):Nat→Self
 | 0=>fun _ _=>none
 | fuel + 1=>step E (ev E fuel)
def run (E:Env)(fuel:Nat)(f:FuncId)(args:List Value):Option (Value×Heap) :=
 zC E (ev E fuel) args ⟨0,T.empty⟩ (E.fn.get f)
def says (E:Env)(fuel:Nat)(f:FuncId)(args:List Value)(want:Value→Bool):Bool:=match run E fuel f args with
 | some (v,_)=>want v
 | none=>false
end
end Go.Rx
