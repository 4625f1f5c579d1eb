/- Contracts by what is to be shown of each step: a part of the engine. -/
import Derived.Test.YtljbibjnidccbabWxMono
set_option linter.unusedVariables false
set_option linter.unusedSectionVars false
set_option linter.unusedSimpArgs false
namespace Go.Rx
noncomputable section

/-! Memory with lists in the place of stores: what is known of it. -/

abbrev Frame:=Nat→Value

/-! Code, without what is not asked: its regions' guards name slots, and what is drawn goes in the order of the text. -/

inductive TOp where
 | mov (x:Operand)
 | pick (c a b:Operand)
 | alloc (e:TypeId) (cells:List Value)
 | box (e:TypeId) (x:Operand)
 | aggr (z:List Value) (ps:List (Nat×Nat×Operand))
 | slit (e:TypeId) (n:Nat) (z:List Value) (ps:List (Nat×Nat×Operand))
 | load1 (x:Operand)
 | loadN (m:Nat) (x:Operand)
 | store (m:Nat) (x y:Operand)
 | nilc (x:Operand)
 | ar (k:IntKind) (op:BinOp) (x y:Operand)
 | str (op:BinOp) (x y:Operand)
 | not (x:Operand)
 | cint (k:IntKind) (x:Operand)
 | toArr (n:Nat) (x:Operand)
 | func (fn:Fn) (a b:List Operand)
 | newMap
 | make (e:TypeId) (z:List Value) (bytes:Nat) (l c:Operand)
 | cutStr (x:Operand) (lo hi:Option Operand)
 | cutS (size:Nat) (x:Operand) (lo hi mx:Option Operand)
 | cutA (n size:Nat) (x:Operand) (lo hi mx:Option Operand)
 | fldA (off:Nat) (x:Operand)
 | fld1 (off:Nat) (x:Operand)
 | fldN (off m:Nat) (x:Operand)
 | idxA (n size:Nat) (x j:Operand)
 | idxS (size:Nat) (x j:Operand)
 | ix1 (n:Nat) (x j:Operand)
 | ixN (n m:Nat) (x j:Operand)
 | ixStr (x j:Operand)
 | ext (x:Operand) (i:Nat)
 | call (g:FuncId) (xs:List Operand)
 | callv (f:Operand) (xs:List Operand)
 | append (e size bytes:Nat) (x y:Operand)
 | copy (size:Nat) (x y:Operand)
 | lenS (x:Operand)
 | lenStr (x:Operand)
 | lenA (n:Nat)
 | raw (op:Op) (ty:TypeId)

def placesOf (place:Nat→Option (Nat×Nat)):List (Nat×Operand)→Option (List (Nat×Nat×Operand))
 | []=>some []
 | (i,x) :: l=>match place i with
  | some (off,size)=>match placesOf place l with
   | some ps=>some ((off,size,x) :: ps)
   | none=>none
  | none=>none

def orRaw (t:Option TOp) (op:Op) (ty:TypeId):TOp:=match t with
 | some t=>t
 | none=>.raw op ty

def typBuild (E:Env) (t:TypeId) (ps:List (Nat×Operand)):Option TOp:=match E.ty t with
 | some i=>match zeroCells i with
  | some z=>match i.desc with
   | .struct fields=>match allTyped E fields.toList with
    | true=>match placesOf (structPlace E fields) ps with
     | some qs=>some (.aggr z qs)
     | none=>none
    | false=>none
   | .array _ elem=>match E.ty elem with
    | some ei=>match placesOf (arrayPlace ei.size) ps with
     | some qs=>some (.aggr z qs)
     | none=>none
    | none=>none
   | _=>none
  | none=>none
 | none=>none

def typSlit (E:Env) (t:TypeId) (len:Nat) (ps:List (Nat×Operand)):Option TOp:=match sliceElem E t with
 | some (e,ei)=>match zeroCells ei with
  | some z=>match Nat.ble (Nat.mul len ei.size) 10000 && Nat.beq z.length ei.size with
   | true=>match placesOf (arrayPlace ei.size) ps with
    | some qs=>some (.slit e len (times z len) qs)
    | none=>none
   | false=>none
  | none=>none
 | none=>none

def typMake (E:Env) (t:TypeId) (l c:Operand):Option TOp:=match sliceElem E t with
 | some (e,ei)=>match zeroCells ei with
  | some z=>match Nat.beq z.length ei.size with
   | true=>some (.make e z ei.bytes l c)
   | false=>none
  | none=>none
 | none=>none

def typBin (E:Env) (op:BinOp) (t:TypeId) (x y:Operand):Option TOp:=match E.ty t with
 | some i=>match i.desc with
  | .int k=>some (.ar k op x y)
  | .string=>some (.str op x y)
  | _=>none
 | none=>none

def typConv (E:Env) (s d:TypeId) (x:Operand):Option TOp:=match E.ty s with
 | some _=>match E.ty d with
  | some i=>match i.desc with
   | .int k=>some (.cint k x)
   | _=>none
  | none=>none
 | none=>none

def typSlice (E:Env) (t:TypeId) (x:Operand) (lo hi mx:Option Operand):Option TOp:=match E.ty t with
 | some i=>match i.desc with
  | .string=>match mx with
   | none=>some (.cutStr x lo hi)
   | some _=>none
  | .slice e=>match E.ty e with
   | some ei=>some (.cutS ei.size x lo hi mx)
   | none=>none
  | .array n e=>match E.ty e with
   | some ei=>some (.cutA n ei.size x lo hi mx)
   | none=>none
  | _=>none
 | none=>none

def typFieldA (E:Env) (x:Operand) (fd:Option Field):Option TOp:=match fd with
 | some fd=>match E.ty fd.type with
  | some fi=>match Nat.beq fi.size 0 with
   | true=>none
   | false=>some (.fldA fd.offset x)
  | none=>none
 | none=>none
def typField (E:Env) (x:Operand) (fd:Option Field):Option TOp:=match fd with
 | some fd=>match E.ty fd.type with
  | some fi=>match fi.agg with
   | true=>some (.fldN fd.offset fi.size x)
   | false=>some (.fld1 fd.offset x)
  | none=>none
 | none=>none
def typIdxA (E:Env) (t:TypeId) (x j:Operand):Option TOp:=match E.ty t with
 | some i=>match i.desc with
  | .array n elem=>match E.ty elem with
   | some ei=>some (.idxA n ei.size x j)
   | none=>none
  | .slice elem=>match E.ty elem with
   | some ei=>some (.idxS ei.size x j)
   | none=>none
  | _=>none
 | none=>none
def typIdx (E:Env) (t:TypeId) (x j:Operand):Option TOp:=match E.ty t with
 | some i=>match i.desc with
  | .array n elem=>match E.ty elem with
   | some ei=>match ei.agg with
    | true=>some (.ixN n ei.size x j)
    | false=>match Nat.beq ei.size 1 with
     | true=>some (.ix1 n x j)
     | false=>none
   | none=>none
  | .string=>some (.ixStr x j)
  | _=>none
 | none=>none
def typAppend (E:Env) (ts:List TypeId) (xs:List Operand):Option TOp:=match ts with
 | [st,xt]=>match xs with
  | [x,y]=>match sliceElem E st with
   | some (e,ei)=>match E.ty xt with
    | some xi=>match isIntDesc xi.desc with
     | true=>none
     | false=>match Nat.ble 1 ei.size && zeroFits ei with
      | true=>some (.append e ei.size ei.bytes x y)
      | false=>none
    | none=>none
   | none=>none
  | _=>none
 | _=>none
def typCopy (E:Env) (ts:List TypeId) (xs:List Operand):Option TOp:=match ts with
 | dt :: _=>match xs with
  | [x,y]=>match sliceElem E dt with
   | some (_,ei)=>some (.copy ei.size x y)
   | none=>none
  | _=>none
 | _=>none
def typLen (E:Env) (ts:List TypeId) (xs:List Operand):Option TOp:=match ts with
 | t :: _=>match xs with
  | x :: _=>match E.ty t with
   | some i=>match i.desc with
    | .slice _=>some (.lenS x)
    | .string=>some (.lenStr x)
    | .array n _=>some (.lenA n)
    | _=>none
   | none=>none
  | _=>none
 | _=>none

def callable (E:Env) (g:FuncId):Bool:=match callFunc E g [] ⟨0,T.empty⟩ with
 | .call _ _ _=>true
 | _=>false
def typCall (E:Env) (f:Operand) (xs:List Operand):TOp:=match f with
 | .func g=>match callable E g with
  | true=>.call g xs
  | false=>.callv f xs
 | _=>.callv f xs

def typ (E:Env) (op:Op):Option TOp:=match op with
 | .move x=>some (.mov x)
 | .assign x=>some (.mov x)
 | .pick c a b=>some (.pick c a b)
 | .alloc t=>match zeroOf (E.ty t) with
  | some z=>match cellsOf z with
   | some cs=>some (.alloc t cs)
   | none=>none
  | none=>none
 | .box t x=>some (.box t x)
 | .build t ps=>typBuild E t ps.toList
 | .buildSlice t len ps=>typSlit E t len ps.toList
 | .load t x=>match E.ty t with
  | some i=>match i.agg with
   | true=>some (.loadN i.size x)
   | false=>some (.load1 x)
  | none=>none
 | .store t x y=>match E.ty t with
  | some i=>some (.store i.size x y)
  | none=>none
 | .nilCheck x=>some (.nilc x)
 | .binOp op t x y _=>typBin E op t x y
 | .unOp op _ x=>match op with
  | .not=>some (.not x)
  | _=>none
 | .convert s d x=>typConv E s d x
 | .sliceToArrayPointer t x=>match E.ty t with
  | some i=>match i.desc with
   | .array n _=>some (.toArr n x)
   | _=>none
  | none=>none
 | .makeFunc fn a b=>some (.func fn a.toList b.toList)
 | .makeMap _ none=>some .newMap
 | .makeSlice t l c=>typMake E t l c
 | .slice t x lo hi mx=>typSlice E t x lo hi mx
 | .fieldAddr t x f=>typFieldA E x (fieldOf (E.ty t) f)
 | .field t x f=>typField E x (fieldOf (E.ty t) f)
 | .indexAddr t x j=>typIdxA E t x j
 | .index t x j=>typIdx E t x j
 | .extract x i=>some (.ext x i)
 | .call c=>match c.callee with
  | .value f=>some (typCall E f c.args.toList)
  | .builtin b=>match b with
   | .append=>typAppend E c.argTypes.toList c.args.toList
   | .copy=>typCopy E c.argTypes.toList c.args.toList
   | .len=>typLen E c.argTypes.toList c.args.toList
   | _=>none
  | .invoke _ _=>none
 | _=>none

structure G where
 d:Option Nat
 op:TOp
 g:Option (Nat×Bool)

structure Dr where
 turns:Bool
 chk:Bool
 before:List Bool
 notBehind:List Bool

inductive C where
 | skip | ret
 | exit (id:Nat)
 | goto (l:Nat)
 | ops (l:List G)
 | draw (l:List G) (ds:List Dr)
 | seq (a b:C)
 | cond (x:Operand) (a b:C)
 | block (id:Nat) (b:C)
 | scope (b:C)
 | loop (b:C)
 | range (f:Operand) (params:Array Tmp) (assign body:C)
 | ahead (l:List G) (ds:List Dr) (ls:List Bool)
 | dry (l:List G) (df ds:List Dr) (ls:List Bool)

def gslot (ops:Array Oper) (g:Option (Nat×Bool)):Option (Option (Nat×Bool)):=match g with
 | none=>some none
 | some (j,want)=>match dstOf (lget ops.toList j) with
  | some d=>some (some (d,want))
  | none=>none

def dstIn (z:Nat) (d:Option Tmp):Bool:=match d with
 | some d=>Nat.ble (Nat.succ d) z
 | none=>true

def gOf (E:Env) (z:Nat) (ops:Array Oper) (o:Oper):Option G:=match dstIn z o.dst with
 | true=>match gslot ops o.guard with
  | some g=>some ⟨o.dst,orRaw (typ E o.op) o.op o.type,g⟩
  | none=>none
 | false=>none

def gsOf (E:Env) (z:Nat) (ops:Array Oper):List Oper→Option (List G)
 | []=>some []
 | o :: l=>match gOf E z ops o with
  | some g=>match gsOf E z ops l with
   | some gs=>some (g :: gs)
   | none=>none
  | none=>none

def consB (b:Bool) (l:List Bool):List Bool:=match b with
 | true=>true :: l
 | false=>false :: l
theorem consB_eq (b:Bool) (l:List Bool):consB b l = b :: l:=by cases b <;> rfl
def withB {α:Type} (b:Bool) (k:Bool→α):α:=match b with
 | true=>k true
 | false=>k false
theorem withB_eq {α:Type} (b:Bool) (k:Bool→α):withB b k = k b:=by cases b <;> rfl

def beforeOf (ms:List Nat) (i:Nat):Nat→List Oper→List Bool
 | _,[]=>[]
 | j,o :: l=>consB (chained false o && comes ms j i) (beforeOf ms i (Nat.succ j) l)
def notBehindOf (ms:List Nat) (i:Nat):Nat→List Oper→List Bool
 | _,[]=>[]
 | j,o :: l=>consB (chained false o && !comes ms i j) (notBehindOf ms i (Nat.succ j) l)
def drOf (ops:Array Oper) (ms:List Nat) (i:Nat) (o:Oper):Dr :=
 withB (chained false o) fun t=>withB (!t && !(beforeOf ms i 0 ops.toList == notBehindOf ms i 0 ops.toList)) fun c=>⟨t,c,beforeOf ms i 0 ops.toList,notBehindOf ms i 0 ops.toList⟩
theorem drOf_eq (ops:Array Oper) (ms:List Nat) (i:Nat) (o:Oper):drOf ops ms i o =
 ⟨chained false o,!chained false o && !(beforeOf ms i 0 ops.toList == notBehindOf ms i 0 ops.toList),beforeOf ms i 0 ops.toList,notBehindOf ms i 0 ops.toList⟩:=by
 unfold drOf; rw [withB_eq,withB_eq]
def drsOf (ops:Array Oper) (ms:List Nat):Nat→List Oper→List Dr
 | _,[]=>[]
 | i,o :: l=>drOf ops ms i o :: drsOf ops ms (Nat.succ i) l

/-! Regions that lay ahead. -/
def beforeOfA (ms:List Nat) (i:Nat):Nat→List Oper→List Bool
 | _,[]=>[]
 | j,o :: l=>consB (chained true o && comes ms j i) (beforeOfA ms i (Nat.succ j) l)
def notBehindOfA (ms:List Nat) (i:Nat):Nat→List Oper→List Bool
 | _,[]=>[]
 | j,o :: l=>consB (chained true o && !comes ms i j) (notBehindOfA ms i (Nat.succ j) l)
def drOfA (ops:Array Oper) (ms:List Nat) (i:Nat) (o:Oper):Dr :=
 withB (chained true o) fun t=>withB (!t && !(beforeOfA ms i 0 ops.toList == notBehindOfA ms i 0 ops.toList)) fun c=>⟨t,c,beforeOfA ms i 0 ops.toList,notBehindOfA ms i 0 ops.toList⟩
theorem drOfA_eq (ops:Array Oper) (ms:List Nat) (i:Nat) (o:Oper):drOfA ops ms i o =
 ⟨chained true o,!chained true o && !(beforeOfA ms i 0 ops.toList == notBehindOfA ms i 0 ops.toList),beforeOfA ms i 0 ops.toList,notBehindOfA ms i 0 ops.toList⟩:=by
 unfold drOfA; rw [withB_eq,withB_eq]
def drsOfA (ops:Array Oper) (ms:List Nat):Nat→List Oper→List Dr
 | _,[]=>[]
 | i,o :: l=>drOfA ops ms i o :: drsOfA ops ms (Nat.succ i) l
def isLayT (op:TOp):Bool:=match op with
 | .alloc _ _=>true
 | .newMap=>true
 | _=>false
def laysT:List G→List Bool→Bool
 | g :: l,b :: bs=>match b with
  | true=>isLayT g.op && laysT l bs
  | false=>laysT l bs
 | _,_=>true
def laysOf:List Oper→List Bool
 | []=>[]
 | o :: l=>consB (lays o.op) (laysOf l)

def stuckC:C:=.draw [⟨none,.lenA 0,none⟩] []
def comp (E:Env) (z:Nat):Code→Option C
 | .skip=>some .skip
 | .label _=>some .skip
 | .exit id=>some (.exit id)
 | .goto l=>some (.goto l)
 | .ret=>some .ret
 | .region _ ops false=>match gsOf E z ops ops.toList with
  | some l=>some (.ops l)
  | none=>none
 | .region _ ops true=>match drawOk false ops with
  | true=>match gsOf E z ops ops.toList with
   | some l=>match (drsOf ops (masksOf ops) 0 ops.toList).any Dr.chk with
    | true=>some (.draw l (drsOf ops (masksOf ops) 0 ops.toList))
    | false=>some (.ops l)
   | none=>none
  | false=>match drawOk true ops && laysClosed ops.toList with
   | true=>match gsOf E z ops ops.toList with
    | some l=>match laysT l (laysOf ops.toList) with
     | true=>some (.ahead l (drsOfA ops (masksOf ops) 0 ops.toList) (laysOf ops.toList))
     | false=>some stuckC
    | none=>none
   | false=>match drawOk true ops && !laysClosed ops.toList with
    | true=>match gsOf E z ops ops.toList with
     | some l=>some (.dry l (drsOf ops (masksOf ops) 0 ops.toList) (drsOfA ops (masksOf ops) 0 ops.toList) (laysOf ops.toList))
     | none=>none
    | false=>some stuckC
 | .seq a b=>match comp E z a with
  | some a=>match comp E z b with
   | some b=>some (.seq a b)
   | none=>none
  | none=>none
 | .cond x a b=>match comp E z a with
  | some a=>match comp E z b with
   | some b=>some (.cond x a b)
   | none=>none
  | none=>none
 | .block id b=>match comp E z b with
  | some b=>some (.block id b)
  | none=>none
 | .scope b=>match comp E z b with
  | some b=>some (.scope b)
  | none=>none
 | .loop b=>match comp E z b with
  | some b=>some (.loop b)
  | none=>none
 | .rangeFunc f ps a b=>match comp E z a with
  | some a=>match comp E z b with
   | some b=>some (.range f ps a b)
   | none=>none
  | none=>none
 | _=>some stuckC

def exitCode:Option AExit→Option Code
 | none=>none
 | some .ret=>some .ret
 | some (.exit id)=>some (.exit id)
 | some (.goto l)=>some (.goto l)
 | some .normal=>some .skip

inductive Obj where
 | row (elem:TypeId) (exact:Bool) (cells:List Value)
 | map (es:List Entry) (clock:Nat)
 | loop (env:Env) (state:LoopState) (pending:Option AExit) (φ:Frame) (size:Nat) (params:Array Tmp) (assign body:C) (defers:Nat)
 | noDefers
 | iter (s:ByteArray) (pos:Nat)
 | lent (cells:List Value)
 | dead

structure Hp where
 next:Nat
 raw:Nat→Option Obj

def Hp.at (h:Hp) (r:Nat):Option Obj:=if r < h.next then h.raw r else none
def Hp.set (h:Hp) (r:Nat) (o:Obj):Hp:=⟨h.next,fun k=>if k = r then some o else h.raw k⟩
def Hp.lay (h:Hp) (o:Obj):Hp:=⟨h.next + 1,fun k=>if k = h.next then some o else h.raw k⟩

theorem Hp.lt_of_at {h:Hp} {r:Nat} {o:Obj} (e:h.at r = some o):r < h.next:=by
 unfold Hp.at at e
 split at e
 ·assumption
 ·cases e

theorem Hp.at_lay (h:Hp) (o:Obj) (r:Nat):(h.lay o).at r = if r = h.next then some o else h.at r:=by
 unfold Hp.at Hp.lay
 by_cases e:r = h.next
 ·simp [e]
 ·by_cases l:r < h.next
  ·simp [e,l,Nat.lt_succ_of_lt l]
  ·have:¬ r < h.next + 1:=by omega
   simp [e,l,this]

theorem Hp.at_lay_self (h:Hp) (o:Obj):(h.lay o).at h.next = some o:=by simp [Hp.at_lay]
theorem Hp.at_lay_lt {h:Hp} {r:Nat} (o:Obj) (l:r < h.next):(h.lay o).at r = h.at r:=by
 rw [Hp.at_lay,if_neg (by omega)]
theorem Hp.at_lay_old {h:Hp} {r:Nat} {o':Obj} (o:Obj) (e:h.at r = some o'):(h.lay o).at r = some o':=by
 rw [Hp.at_lay_lt o (Hp.lt_of_at e),e]
theorem Hp.at_set_self {h:Hp} {r:Nat} (o:Obj) (l:r < h.next):(h.set r o).at r = some o:=by
 simp [Hp.at,Hp.set,l]
theorem Hp.at_set_ne {h:Hp} {r k:Nat} (o:Obj) (e:k≠r):(h.set r o).at k = h.at k:=by
 simp [Hp.at,Hp.set,e]
theorem Hp.next_lay (h:Hp) (o:Obj):(h.lay o).next = h.next + 1:=rfl
def FR (ρ:T Value) (φ:Frame):Prop:=∀ t,orUndef (ρ.get t) = φ t

def ORep:AObj→Obj→Prop
 | .row e n x cs,.row e' x' l=>e = e'∧x = x'∧l.length = n∧∀ k,k < n→cs.get k = l[k]?
 | .map es c,.map es' c'=>es = es'∧c = c'
 | .loop st p tm z ps a b d,.loop E st' p' φ z' ps' a' b' d'=>st = st'∧p = exitCode p'∧FR tm φ∧z = z'∧ps = ps'∧comp E z a = some a'∧comp E z b = some b'∧d = d'
 | .noDefers,.noDefers=>True
 | .iter s p,.iter s' p'=>s = s'∧p = p'
 | .lent n cs,.lent l=>l.length = n∧∀ k,k < n→cs.get k = l[k]?
 | .dead,.dead=>True
 | _,_=>False

structure HR (H:Heap) (h:Hp):Prop where
 next:H.next = h.next
 at_:∀ r o,h.at r = some o→∃ a,H.objs.get r = some a∧ORep a o

structure Hp.Le (h' h:Hp):Prop where
 next:h'.next = h.next
 at_:∀ r o,h'.at r = some o→h.at r = some o

theorem HR.weak {H:Heap} {h h':Hp} (a:HR H h) (l:h'.Le h):HR H h':=⟨a.next.trans l.next.symm,fun r o e=>a.at_ r o (l.at_ r o e)⟩
theorem Hp.Le.refl (h:Hp):h.Le h:=⟨rfl,fun _ _ e=>e⟩
theorem Hp.Le.trans {a b c:Hp} (x:a.Le b) (y:b.Le c):a.Le c:=⟨x.next.trans y.next,fun r o e=>y.at_ r o (x.at_ r o e)⟩

theorem HR.lay {H:Heap} {h:Hp} (a:HR H h) {ob:AObj} {o:Obj} (ho:ORep ob o):HR ⟨Nat.succ H.next,H.objs.put H.next ob⟩ (h.lay o):=by
 refine ⟨by rw [a.next]; rfl,fun r o' e=>?_⟩
 rw [Hp.at_lay] at e
 show ∃ a,(H.objs.put H.next ob).get r = some a∧_
 rw [T.get_put,a.next]
 by_cases hr:r = h.next
 ·simp only [hr,if_true] at e ⊢
  cases e
  exact ⟨ob,rfl,ho⟩
 ·simp only [hr,if_false] at e ⊢
  exact a.at_ r o' e

theorem HR.set {H:Heap} {h:Hp} (a:HR H h) {ob:AObj} {o:Obj} (r:Nat) (ho:ORep ob o):HR (H.set r ob) (h.set r o):=by
 refine ⟨a.next,fun k o' e=>?_⟩
 show ∃ a,(H.objs.put r ob).get k = some a∧_
 rw [T.get_put]
 by_cases hr:k = r
 ·subst hr
  have l:k < h.next:=Hp.lt_of_at (h:=h.set k o) e
  rw [Hp.at_set_self o l] at e
  cases e
  exact ⟨ob,by simp,ho⟩
 ·rw [Hp.at_set_ne o hr] at e
  simp only [hr,if_false]
  exact a.at_ k o' e

theorem ORep.rowOf (e:TypeId) (l:List Value) (x:Bool):ORep (rowOf e l x) (.row e x l) :=
 ⟨rfl,rfl,rfl,fun k hk=>by rw [T.get_ofList]; simp [hk]⟩

inductive HRes where
 | val (v:Value) (h:Hp)
 | call (f:FuncId) (args:List Value) (h:Hp)
 | yield (l:Nat) (args:List Value) (h:Hp)
 | fail

def Fits (r:ARes) (x:HRes):Prop:=match x with
 | .val v h=>∃ H,r = .val v H∧HR H h
 | .call f as h=>∃ H,r = .call f as H∧HR H h
 | .yield l as h=>∃ H,r = .yield l as H∧HR H h
 | .fail=>True

def evφ (φ:Frame) (x:Operand):Value:=match x with
 | .tmp t=>φ t
 | .const v=>constVal v
 | .global g=>.pointer (some ⟨g,0,some 0⟩)
 | .func f=>.func (.func f) #[] #[]

def evLφ (φ:Frame):List Operand→List Value
 | []=>[]
 | x :: l=>evφ φ x :: evLφ φ l
def evPφ (φ:Frame):List (Nat×Operand)→List (Nat×Value)
 | []=>[]
 | (i,x) :: l=>(i,evφ φ x) :: evPφ φ l
def evOφ (φ:Frame) (x:Option Operand):Option Value:=match x with
 | some x=>some (evφ φ x)
 | none=>none

theorem FR.eval {ρ:T Value} {φ:Frame} (h:FR ρ φ) (x:Operand):eval ρ x = evφ φ x:=by
 cases x <;> simp [Rx.eval,evφ,h _]
theorem FR.evals {ρ:T Value} {φ:Frame} (h:FR ρ φ):∀ l:List Operand,evals ρ l = evLφ φ l
 | []=>rfl
 | x :: l=>by simp [Rx.evals,evLφ,h.eval,h.evals l]
theorem FR.evalParts {ρ:T Value} {φ:Frame} (h:FR ρ φ):∀ l:List (Nat×Operand),evalParts ρ l = evPφ φ l
 | []=>rfl
 | (i,x) :: l=>by simp [Rx.evalParts,evPφ,h.eval,h.evalParts l]
theorem FR.evalOpt {ρ:T Value} {φ:Frame} (h:FR ρ φ) (x:Option Operand):evalOpt ρ x = evOφ φ x:=by
 cases x <;> simp [Rx.evalOpt,evOφ,h.eval]

def upd (φ:Frame) (d:Nat) (v:Value):Frame:=fun t=>if t = d then v else φ t
theorem FR.put {ρ:T Value} {φ:Frame} (h:FR ρ φ) (d:Nat) (v:Value):FR (ρ.put d v) (upd φ d v):=by
 intro t
 rw [T.get_put]
 by_cases e:t = d
 ·simp [e,upd,orUndef]
 ·simp [e,upd,h t]

/-! What operations come to over such a memory. -/

def cellAt (h:Hp) (r o:Nat):Option Value:=match h.at r with
 | some (.row _ _ cs)=>cs[o]?
 | some (.lent cs)=>cs[o]?
 | _=>none
def cellsIn (o m:Nat) (cs:List Value):Option (List Value):=if o + m≤cs.length then some ((cs.drop o).take m) else none
def cellsAt (h:Hp) (r o m:Nat):Option (List Value):=match h.at r with
 | some (.row _ _ cs)=>cellsIn o m cs
 | some (.lent cs)=>cellsIn o m cs
 | _=>none

theorem T.read_of {t:T Value} {cs:List Value} {n:Nat} (hn:cs.length = n) (h:∀ k,k < n→t.get k = cs[k]?):∀ (m o:Nat),o + m≤n→t.read o m = some ((cs.drop o).take m)
 | 0,o,_=>by simp [T.read]
 | m + 1,o,hom=>by
  have ho:o < cs.length:=by omega
  have e:=h o (by omega)
  rw [List.getElem?_eq_getElem ho] at e
  have hr:=T.read_of hn h m (o + 1) (by omega)
  simp only [T.read,e,Nat.succ_eq_add_one,hr]
  congr 1
  rw [List.drop_eq_getElem_cons ho,List.take_succ_cons]

theorem HR.load {H:Heap} {h:Hp} (a:HR H h) {r o m:Nat} {l:List Value} (e:cellsAt h r o m = some l):Rx.loadCells H r o m = some l:=by
 unfold cellsAt at e
 split at e
 ·rename_i e' x cs hr
  obtain ⟨ob,h1,h2⟩:=a.at_ r _ hr
  cases ob <;> simp only [ORep] at h2
  obtain ⟨rfl,rfl,h3,h4⟩:=h2
  unfold cellsIn at e
  split at e
  ·rename_i hl
   cases e
   have:Nat.ble (Nat.add o m) (cs.length) = true:=by rw [Nat.ble_eq]; exact hl
   unfold Rx.loadCells
   rw [h1]
   simp only [Rx.loadObj,Rx.loadIn]
   subst h3
   rw [this]
   exact T.read_of rfl h4 m o hl
  ·cases e
 ·rename_i cs hr
  obtain ⟨ob,h1,h2⟩:=a.at_ r _ hr
  cases ob <;> simp only [ORep] at h2
  obtain ⟨h3,h4⟩:=h2
  unfold cellsIn at e
  split at e
  ·rename_i hl
   cases e
   have:Nat.ble (Nat.add o m) (cs.length) = true:=by rw [Nat.ble_eq]; exact hl
   unfold Rx.loadCells
   rw [h1]
   simp only [Rx.loadObj,Rx.loadIn]
   subst h3
   rw [this]
   exact T.read_of rfl h4 m o hl
  ·cases e
 ·cases e

theorem cellsAt_one {h:Hp} {r o:Nat} {v:Value} (e:cellAt h r o = some v):cellsAt h r o 1 = some [v]:=by
 have k:∀ cs:List Value,cs[o]? = some v→cellsIn o 1 cs = some [v]:=by
  intro cs hc
  obtain ⟨ho,hv⟩:=List.getElem?_eq_some_iff.1 hc
  unfold cellsIn
  rw [if_pos (by omega),List.drop_eq_getElem_cons ho,hv]
  rfl
 unfold cellAt at e
 unfold cellsAt
 split at e
 ·exact k _ e
 ·exact k _ e
 ·cases e

def over (cs:List Value) (o:Nat):List Value→List Value
 | []=>cs
 | v :: vs=>over (cs.set o v) (o + 1) vs

theorem over_length:∀ (vs cs:List Value) (o:Nat),(over cs o vs).length = cs.length
 | [],cs,o=>rfl
 | v :: vs,cs,o=>by simp [over,over_length vs]

def storeAt (h:Hp) (r o:Nat) (vs:List Value):Option Hp:=match h.at r with
 | some (.row e x cs)=>if o + vs.length≤cs.length∧vs.all oneCell = true then some (h.set r (.row e x (over cs o vs))) else none
 | _=>none

theorem T.ofList_over:∀ (vs cs:List Value) (t:T Value) (o:Nat),o + vs.length≤cs.length→(∀ k,k < cs.length→t.get k = cs[k]?)→∀ k,k < cs.length→(T.ofList t o vs).get k = (over cs o vs)[k]?
 | [],cs,t,o,_,h,k,hk=>h k hk
 | v :: vs,cs,t,o,ho,h,k,hk=>by
  simp only [T.ofList,forceT_eq,over,Nat.succ_eq_add_one]
  have ho':o + 1 + vs.length≤(cs.set o v).length:=by simp at ho ⊢; omega
  refine T.ofList_over vs (cs.set o v) (t.put o v) (o + 1) ho' (fun j hj=>?_) k (by simpa using hk)
  rw [T.get_put]
  by_cases e:j = o
  ·subst e
   simp only [if_true]
   rw [List.getElem?_set_self (by simpa using hj)]
  ·simp only [e,if_false]
   rw [List.getElem?_set_ne (by omega)]
   exact h j (by simpa using hj)

theorem HR.store {H:Heap} {h h':Hp} (a:HR H h) {r o:Nat} {vs:List Value} (e:storeAt h r o vs = some h'):∃ H',Rx.storeCells H r o vs = some H'∧HR H' h':=by
 unfold storeAt at e
 split at e
 ·rename_i el x cs hr
  split at e
  ·rename_i hc
   cases e
   obtain ⟨ob,h1,h2⟩:=a.at_ r _ hr
   cases ob <;> simp only [ORep] at h2
   rename_i el' n x' cells
   obtain ⟨h5,h6,h3,h4⟩:=h2
   subst h3 h5 h6
   refine ⟨H.set r (.row el' cs.length x' (T.ofList cells o vs)),?_,a.set r (o:=.row el' x' (over cs o vs)) ⟨rfl,rfl,over_length _ _ _,?_⟩⟩
   rotate_left
   ·exact T.ofList_over vs cs cells o hc.1 h4
   ·unfold Rx.storeCells
    rw [h1]
    simp only [Rx.storeObj,Rx.storeIn]
    have:(Nat.ble (Nat.add o vs.length) cs.length && vs.all Rx.oneCell) = true:=by
     rw [Bool.and_eq_true]
     exact ⟨by rw [Nat.ble_eq]; exact hc.1,hc.2⟩
    rw [this]
  ·cases e
 ·cases e

end
end Go.Rx
