/- A part of the engine. -/
import Derived.Test.YtedneplaibmppaaWxMono
set_option linter.unusedVariables false
set_option linter.unusedSectionVars false
set_option linter.unusedSimpArgs false
namespace Go.Rx
noncomputable section
/-! Memory with lists in the place of stores: what is known of it. -/
abbrev Frame:=Nat→Value
/-! Code, without what is not asked: its regions' guards name slots, and what is drawn goes in the order of the text. -/
inductive TOp where
 | mov (x:Operand)
 | pick (c a b:Operand)
 | alloc (e:TypeId) (cells:List Value)
 | box (e:TypeId) (x:Operand)
 | iX (z:List Value) (ps:List (Nat×Nat×Operand))
 | fP (e:TypeId) (n:Nat) (z:List Value) (ps:List (Nat×Nat×Operand))
 | aQ (x:Operand)
 | bK (m:Nat) (x:Operand)
 | store (m:Nat) (x y:Operand)
 | WJ (x:Operand)
 | ar (k:IntKind) (op:BinOp) (x y:Operand)
 | str (op:BinOp) (x y:Operand)
 | not (x:Operand)
 | Cn (k:IntKind) (x:Operand)
 | GU (n:Nat) (x:Operand)
 | func (fn:Fn) (a b:List Operand)
 | iC
 | make (e:TypeId) (z:List Value) (bytes:Nat) (l c:Operand)
 | Qr (x:Operand) (lo hi:Option Operand)
 | Jq (size:Nat) (x:Operand) (lo hi mx:Option Operand)
 | aaJ (n size:Nat) (x:Operand) (lo hi mx:Option Operand)
 | bN (off:Nat) (x:Operand)
 | WK (off:Nat) (x:Operand)
 | WL (off m:Nat) (x:Operand)
 | GV (n size:Nat) (x j:Operand)
 | cZ (size:Nat) (x j:Operand)
 | ix1 (n:Nat) (x j:Operand)
 | ixN (n m:Nat) (x j:Operand)
 | NY (x j:Operand)
 | ext (x:Operand) (i:Nat)
 | call (g:FuncId) (xs:List Operand)
 | pK (f:Operand) (xs:List Operand)
 | append (e size bytes:Nat) (x y:Operand)
 | copy (size:Nat) (x y:Operand)
 | dX (x:Operand)
 | lenStr (x:Operand)
 | Uv (n:Nat)
 | raw (op:Op) (ty:TypeId)
def placesOf (place:Nat→Option (Nat×Nat)):List (Nat×Operand)→Option (List (Nat×Nat×Operand))
 | []=>some []
 | (i,x) :: l=>match place i with
  | some (off,size)=>match placesOf place l with
   | some ps=>some ((off,size,x) :: ps)
   | none=>none
  | none=>none
def lU (t:Option TOp)(op:Op)(ty:TypeId):TOp:=match t with
 | some t=>t
 | none=>.raw op ty
def GX (E:Env)(t:TypeId)(ps:List (Nat×Operand)):Option TOp:=match E.ty t with
 | some i=>match zeroCells i with
  | some z=>match i.desc with
   | .struct fields=>match uD E fields.toList with
    | true=>match placesOf (pF E fields) ps with
     | some qs=>some (.iX z qs)
     | none=>none
    | false=>none
   | .array _ elem=>match E.ty elem with
    | some ei=>match placesOf (iK ei.size) ps with
     | some qs=>some (.iX z qs)
     | none=>none
    | none=>none
   | _=>none
  | none=>none
 | none=>none
def Lf (E:Env)(t:TypeId)(len:Nat)(ps:List (Nat×Operand)):Option TOp:=match dK E t with
 | some (e,ei)=>match zeroCells ei with
  | some z=>match Nat.ble (Nat.mul len ei.size) 10000 && Nat.beq z.length ei.size with
   | true=>match placesOf (iK ei.size) ps with
    | some qs=>some (.fP e len (times z len) qs)
    | none=>none
   | false=>none
  | none=>none
 | none=>none
def Lg (E:Env)(t:TypeId)(l c:Operand):Option TOp:=match dK E t with
 | some (e,ei)=>match zeroCells ei with
  | some z=>match Nat.beq z.length ei.size with
   | true=>some (.make e z ei.bytes l c)
   | false=>none
  | none=>none
 | none=>none
def Qs (E:Env)(op:BinOp)(t:TypeId)(x y:Operand):Option TOp:=match E.ty t with
 | some i=>match i.desc with
  | .int k=>some (.ar k op x y)
  | .string=>some (.str op x y)
  | _=>none
 | none=>none
def Lh (E:Env)(s d:TypeId)(x:Operand):Option TOp:=match E.ty s with
 | some _=>match E.ty d with
  | some i=>match i.desc with
   | .int k=>some (.Cn k x)
   | _=>none
  | none=>none
 | none=>none
def GY (E:Env)(t:TypeId)(x:Operand)(lo hi mx:Option Operand):Option TOp:=match E.ty t with
 | some i=>match i.desc with
  | .string=>match mx with
   | none=>some (.Qr x lo hi)
   | some _=>none
  | .slice e=>match E.ty e with
   | some ei=>some (.Jq ei.size x lo hi mx)
   | none=>none
  | .array n e=>match E.ty e with
   | some ei=>some (.aaJ n ei.size x lo hi mx)
   | none=>none
  | _=>none
 | none=>none
def DW (E:Env)(x:Operand)(fd:Option Field):Option TOp:=match fd with
 | some fd=>match E.ty fd.type with
  | some fi=>match Nat.beq fi.size 0 with
   | true=>none
   | false=>some (.bN fd.offset x)
  | none=>none
 | none=>none
def GZ (E:Env)(x:Operand)(fd:Option Field):Option TOp:=match fd with
 | some fd=>match E.ty fd.type with
  | some fi=>match fi.agg with
   | true=>some (.WL fd.offset fi.size x)
   | false=>some (.WK fd.offset x)
  | none=>none
 | none=>none
def Li (E:Env)(t:TypeId)(x j:Operand):Option TOp:=match E.ty t with
 | some i=>match i.desc with
  | .array n elem=>match E.ty elem with
   | some ei=>some (.GV n ei.size x j)
   | none=>none
  | .slice elem=>match E.ty elem with
   | some ei=>some (.cZ ei.size x j)
   | none=>none
  | _=>none
 | none=>none
def Qt (E:Env)(t:TypeId)(x j:Operand):Option TOp:=match E.ty t with
 | some i=>match i.desc with
  | .array n elem=>match E.ty elem with
   | some ei=>match ei.agg with
    | true=>some (.ixN n ei.size x j)
    | false=>match Nat.beq ei.size 1 with
     | true=>some (.ix1 n x j)
     | false=>none
   | none=>none
  | .string=>some (.NY x j)
  | _=>none
 | none=>none
def DX (E:Env)(ts:List TypeId)(xs:List Operand):Option TOp:=match ts with
 | [st,xt]=>match xs with
  | [x,y]=>match dK E st with
   | some (e,ei)=>match E.ty xt with
    | some xi=>match og xi.desc with
     | true=>none
     | false=>match Nat.ble 1 ei.size && F3 ei with
      | true=>some (.append e ei.size ei.bytes x y)
      | false=>none
    | none=>none
   | none=>none
  | _=>none
 | _=>none
def Lj (E:Env)(ts:List TypeId)(xs:List Operand):Option TOp:=match ts with
 | dt :: _=>match xs with
  | [x,y]=>match dK E dt with
   | some (_,ei)=>some (.copy ei.size x y)
   | none=>none
  | _=>none
 | _=>none
def Qu (E:Env)(ts:List TypeId)(xs:List Operand):Option TOp:=match ts with
 | t :: _=>match xs with
  | x :: _=>match E.ty t with
   | some i=>match i.desc with
    | .slice _=>some (.dX x)
    | .string=>some (.lenStr x)
    | .array n _=>some (.Uv n)
    | _=>none
   | none=>none
  | _=>none
 | _=>none
def callable (E:Env)(g:FuncId):Bool:=match callFunc E g [] ⟨0,T.empty⟩ with
 | .call _ _ _=>true
 | _=>false
def Ll (E:Env)(f:Operand)(xs:List Operand):TOp:=match f with
 | .func g=>match callable E g with
  | true=>.call g xs
  | false=>.pK f xs
 | _=>.pK f xs
def typ (E:Env)(op:Op):Option TOp:=match op with
 | .move x=>some (.mov x)
 | .assign x=>some (.mov x)
 | .pick c a b=>some (.pick c a b)
 | .alloc t=>match zeroOf (E.ty t) with
  | some z=>match cellsOf z with
   | some cs=>some (.alloc t cs)
   | none=>none
  | none=>none
 | .box t x=>some (.box t x)
 | .build t ps=>GX E t ps.toList
 | .buildSlice t len ps=>Lf E t len ps.toList
 | .load t x=>match E.ty t with
  | some i=>match i.agg with
   | true=>some (.bK i.size x)
   | false=>some (.aQ x)
  | none=>none
 | .store t x y=>match E.ty t with
  | some i=>some (.store i.size x y)
  | none=>none
 | .nilCheck x=>some (.WJ x)
 | .binOp op t x y _=>Qs E op t x y
 | .unOp op _ x=>match op with
  | .not=>some (.not x)
  | _=>none
 | .convert s d x=>Lh E s d x
 | .sliceToArrayPointer t x=>match E.ty t with
  | some i=>match i.desc with
   | .array n _=>some (.GU n x)
   | _=>none
  | none=>none
 | .makeFunc fn a b=>some (.func fn a.toList b.toList)
 | .makeMap _ none=>some .iC
 | .makeSlice t l c=>Lg E t l c
 | .slice t x lo hi mx=>GY E t x lo hi mx
 | .fieldAddr t x f=>DW E x (mo (E.ty t) f)
 | .field t x f=>GZ E x (mo (E.ty t) f)
 | .indexAddr t x j=>Li E t x j
 | .index t x j=>Qt E t x j
 | .extract x i=>some (.ext x i)
 | .call c=>match c.callee with
  | .value f=>some (Ll E f c.args.toList)
  | .builtin b=>match b with
   | .append=>DX E c.argTypes.toList c.args.toList
   | .copy=>Lj E c.argTypes.toList c.args.toList
   | .len=>Qu E c.argTypes.toList c.args.toList
   | _=>none
  | .invoke _ _=>none
 | _=>none
structure G where
 d:Option Nat
 op:TOp
 g:Option (Nat×Bool)
structure Dr where
 turns:Bool
 chk:Bool
 before:List Bool
 DY:List Bool
inductive C where
 | skip | ret
 | exit (id:Nat)
 | goto (l:Nat)
 | ops (l:List G)
 | draw (l:List G) (ds:List Dr)
 | seq (a b:C)
 | cond (x:Operand) (a b:C)
 | block (id:Nat) (b:C)
 | scope (b:C)
 | loop (b:C)
 | range (f:Operand) (params:Array Tmp) (assign body:C)
 | ahead (l:List G) (ds:List Dr) (ls:List Bool)
 | dry (l:List G) (df ds:List Dr) (ls:List Bool)
def gslot (ops:Array Oper)(g:Option (Nat×Bool)):Option (Option (Nat×Bool)):=match g with
 | none=>some none
 | some (j,want)=>match Nc (lC ops.toList j) with
  | some d=>some (some (d,want))
  | none=>none
def SC (z:Nat)(d:Option Tmp):Bool:=match d with
 | some d=>Nat.ble (Nat.succ d) z
 | none=>true
def gOf (E:Env)(z:Nat)(ops:Array Oper)(o:Oper):Option G:=match SC z o.dst with
 | true=>match gslot ops o.guard with
  | some g=>some ⟨o.dst,lU (typ E o.op) o.op o.type,g⟩
  | none=>none
 | false=>none
def tV (E:Env)(z:Nat)(ops:Array Oper):List Oper→Option (List G)
 | []=>some []
 | o :: l=>match gOf E z ops o with
  | some g=>match tV E z ops l with
   | some gs=>some (g :: gs)
   | none=>none
  | none=>none
def JY (b:Bool)(l:List Bool):List Bool:=match b with
 | true=>true :: l
 | false=>false :: l
theorem iY (b:Bool)(l:List Bool):JY b l = b :: l:=by cases b <;> rfl
def NZ {α:Type}(b:Bool)(k:Bool→α):α:=match b with
 | true=>k true
 | false=>k false
theorem Co {α:Type}(b:Bool)(k:Bool→α):NZ b k = k b:=by cases b <;> rfl
def kU (ms:List Nat)(i:Nat):Nat→List Oper→List Bool
 | _,[]=>[]
 | j,o :: l=>JY (chained false o && comes ms j i) (kU ms i (Nat.succ j) l)
def gN (ms:List Nat)(i:Nat):Nat→List Oper→List Bool
 | _,[]=>[]
 | j,o :: l=>JY (chained false o && !comes ms i j) (gN ms i (Nat.succ j) l)
def Lm (ops:Array Oper)(ms:List Nat)(i:Nat)(o:Oper):Dr :=
 NZ (chained false o) fun t=>NZ (!t && !(kU ms i 0 ops.toList == gN ms i 0 ops.toList)) fun c=>⟨t,c,kU ms i 0 ops.toList,gN ms i 0 ops.toList⟩
theorem FE (ops:Array Oper)(ms:List Nat)(i:Nat)(o:Oper):Lm ops ms i o =
 ⟨chained false o,!chained false o && !(kU ms i 0 ops.toList == gN ms i 0 ops.toList),kU ms i 0 ops.toList,gN ms i 0 ops.toList⟩:=by
 unfold Lm; rw [Co,Co]
def jB (ops:Array Oper)(ms:List Nat):Nat→List Oper→List Dr
 | _,[]=>[]
 | i,o :: l=>Lm ops ms i o :: jB ops ms (Nat.succ i) l
/-! Regions that lay ahead. -/
def iy (ms:List Nat)(i:Nat):Nat→List Oper→List Bool
 | _,[]=>[]
 | j,o :: l=>JY (chained true o && comes ms j i) (iy ms i (Nat.succ j) l)
def dR (ms:List Nat)(i:Nat):Nat→List Oper→List Bool
 | _,[]=>[]
 | j,o :: l=>JY (chained true o && !comes ms i j) (dR ms i (Nat.succ j) l)
def G5 (ops:Array Oper)(ms:List Nat)(i:Nat)(o:Oper):Dr :=
 NZ (chained true o) fun t=>NZ (!t && !(iy ms i 0 ops.toList == dR ms i 0 ops.toList)) fun c=>⟨t,c,iy ms i 0 ops.toList,dR ms i 0 ops.toList⟩
theorem pO (ops:Array Oper)(ms:List Nat)(i:Nat)(o:Oper):G5 ops ms i o =
 ⟨chained true o,!chained true o && !(iy ms i 0 ops.toList == dR ms i 0 ops.toList),iy ms i 0 ops.toList,dR ms i 0 ops.toList⟩:=by
 unfold G5; rw [Co,Co]
def mK (ops:Array Oper)(ms:List Nat):Nat→List Oper→List Dr
 | _,[]=>[]
 | i,o :: l=>G5 ops ms i o :: mK ops ms (Nat.succ i) l
def WM (op:TOp):Bool:=match op with
 | .alloc _ _=>true
 | .iC=>true
 | _=>false
def Am:List G→List Bool→Bool
 | g :: l,b :: bs=>match b with
  | true=>WM g.op && Am l bs
  | false=>Am l bs
 | _,_=>true
def eX:List Oper→List Bool
 | []=>[]
 | o :: l=>JY (lays o.op) (eX l)
def Qv:C:=.draw [⟨none,.Uv 0,none⟩] []
def comp (E:Env)(z:Nat):Code→Option C
 | .skip=>some .skip
 | .label _=>some .skip
 | .exit id=>some (.exit id)
 | .goto l=>some (.goto l)
 | .ret=>some .ret
 | .region _ ops false=>match tV E z ops ops.toList with
  | some l=>some (.ops l)
  | none=>none
 | .region _ ops true=>match qV false ops with
  | true=>match tV E z ops ops.toList with
   | some l=>match (jB ops (cK ops) 0 ops.toList).any Dr.chk with
    | true=>some (.draw l (jB ops (cK ops) 0 ops.toList))
    | false=>some (.ops l)
   | none=>none
  | false=>match qV true ops && gQ ops.toList with
   | true=>match tV E z ops ops.toList with
    | some l=>match Am l (eX ops.toList) with
     | true=>some (.ahead l (mK ops (cK ops) 0 ops.toList) (eX ops.toList))
     | false=>some Qv
    | none=>none
   | false=>match qV true ops && !gQ ops.toList with
    | true=>match tV E z ops ops.toList with
     | some l=>some (.dry l (jB ops (cK ops) 0 ops.toList) (mK ops (cK ops) 0 ops.toList) (eX ops.toList))
     | none=>none
    | false=>some Qv
 | .seq a b=>match comp E z a with
  | some a=>match comp E z b with
   | some b=>some (.seq a b)
   | none=>none
  | none=>none
 | .cond x a b=>match comp E z a with
  | some a=>match comp E z b with
   | some b=>some (.cond x a b)
   | none=>none
  | none=>none
 | .block id b=>match comp E z b with
  | some b=>some (.block id b)
  | none=>none
 | .scope b=>match comp E z b with
  | some b=>some (.scope b)
  | none=>none
 | .loop b=>match comp E z b with
  | some b=>some (.loop b)
  | none=>none
 | .rangeFunc f ps a b=>match comp E z a with
  | some a=>match comp E z b with
   | some b=>some (.range f ps a b)
   | none=>none
  | none=>none
 | _=>some Qv
def exitCode:Option dU→Option Code
 | none=>none
 | some .ret=>some .ret
 | some (.exit id)=>some (.exit id)
 | some (.goto l)=>some (.goto l)
 | some .normal=>some .skip
inductive Obj where
 | row (elem:TypeId) (exact:Bool) (cells:List Value)
 | map (es:List Entry) (clock:Nat)
 | loop (env:Env) (state:LoopState) (pending:Option dU) (φ:Frame) (size:Nat) (params:Array Tmp) (assign body:C) (defers:Nat)
 | dY
 | iter (s:ByteArray) (pos:Nat)
 | qb (cells:List Value)
 | dead
structure Hp where
 next:Nat
 raw:Nat→Option Obj
def Hp.at (h:Hp)(r:Nat):Option Obj:=if r < h.next then h.raw r else none
def Hp.set (h:Hp)(r:Nat)(o:Obj):Hp:=⟨h.next,fun k=>if k = r then some o else h.raw k⟩
def Hp.lay (h:Hp)(o:Obj):Hp:=⟨h.next + 1,fun k=>if k = h.next then some o else h.raw k⟩
theorem Hp.aU {h:Hp}{r:Nat}{o:Obj}(e:h.at r = some o):r < h.next:=by
 unfold Hp.at at e;split at e
 ·assumption
 ·cases e
theorem Hp.Qw (h:Hp)(o:Obj)(r:Nat):(h.lay o).at r = if r = h.next then some o else h.at r:=by
 unfold Hp.at Hp.lay;by_cases e:r = h.next
 ·simp [e]
 ·by_cases l:r < h.next
  ·simp [e,l,Nat.lt_succ_of_lt l]
  ·have:¬ r < h.next + 1:=by omega
   simp [e,l,this]
theorem Hp.ak (h:Hp)(o:Obj):(h.lay o).at h.next = some o:=by simp [Hp.Qw]
theorem Hp.Uw {h:Hp}{r:Nat}(o:Obj)(l:r < h.next):(h.lay o).at r = h.at r:=by
 rw [Hp.Qw,if_neg (by omega)]
theorem Hp.bg {h:Hp}{r:Nat}{o':Obj}(o:Obj)(e:h.at r = some o'):(h.lay o).at r = some o':=by
 rw [Hp.Uw o (Hp.aU e),e]
theorem Hp.bB {h:Hp}{r:Nat}(o:Obj)(l:r < h.next):(h.set r o).at r = some o:=by
 simp [Hp.at,Hp.set,l]
theorem Hp.cu {h:Hp}{r k:Nat}(o:Obj)(e:k≠r):(h.set r o).at k = h.at k:=by
 simp [Hp.at,Hp.set,e]
theorem Hp.bF (h:Hp)(o:Obj):(h.lay o).next = h.next + 1:=rfl
theorem Hp.Cq (h:Hp)(r:Nat)(o:Obj):(h.set r o).next = h.next:=rfl
def FR (ρ:T Value)(φ:Frame):Prop:=∀ t,lD (ρ.get t) = φ t
def lI:gV→Obj→Prop
 | .row e n x cs,.row e' x' l=>e = e'∧x = x'∧l.length = n∧∀ k,k < n→cs.get k = l[k]?
 | .map es c,.map es' c'=>es = es'∧c = c'
 | .loop st p tm z ps a b d,.loop E st' p' φ z' ps' a' b' d'=>st = st'∧p = exitCode p'∧FR tm φ∧z = z'∧ps = ps'∧comp E z a = some a'∧comp E z b = some b'∧d = d'
 | .dY,.dY=>True
 | .iter s p,.iter s' p'=>s = s'∧p = p'
 | .qb n cs,.qb l=>l.length = n∧∀ k,k < n→cs.get k = l[k]?
 | .dead,.dead=>True
 | _,_=>False
structure HR (H:Heap) (h:Hp):Prop where
 next:H.next = h.next
 at_:∀ r o,h.at r = some o→∃ a,H.objs.get r = some a∧lI a o
structure Hp.Le (h' h:Hp):Prop where
 next:h'.next = h.next
 at_:∀ r o,h'.at r = some o→h.at r = some o
theorem HR.weak {H:Heap}{h h':Hp}(a:HR H h)(l:h'.Le h):HR H h':=⟨a.next.trans l.next.symm,fun r o e=>a.at_ r o (l.at_ r o e)⟩
theorem Hp.Le.refl (h:Hp):h.Le h:=⟨rfl,fun _ _ e=>e⟩
theorem Hp.Le.trans {a b c:Hp}(x:a.Le b)(y:b.Le c):a.Le c:=⟨x.next.trans y.next,fun r o e=>y.at_ r o (x.at_ r o e)⟩
theorem HR.lay {H:Heap}{h:Hp}(a:HR H h){ob:gV}{o:Obj}(ho:lI ob o):HR ⟨Nat.succ H.next,H.objs.put H.next ob⟩ (h.lay o):=by
 refine ⟨by rw [a.next]; rfl,fun r o' e=>?_⟩;rw [Hp.Qw] at e;show ∃ a,(H.objs.put H.next ob).get r = some a∧_;rw [T.get_put,a.next];by_cases hr:r = h.next
 ·simp only [hr,if_true] at e ⊢;cases e
  exact ⟨ob,rfl,ho⟩
 ·simp only [hr,if_false] at e ⊢;exact a.at_ r o' e
theorem HR.set {H:Heap}{h:Hp}(a:HR H h){ob:gV}{o:Obj}(r:Nat)(ho:lI ob o):HR (H.set r ob) (h.set r o):=by
 refine ⟨a.next,fun k o' e=>?_⟩;show ∃ a,(H.objs.put r ob).get k = some a∧_;rw [T.get_put];by_cases hr:k = r
 ·subst hr;have l:k < h.next:=Hp.aU (h:=h.set k o) e;rw [Hp.bB o l] at e;cases e
  exact ⟨ob,by simp,ho⟩
 ·rw [Hp.cu o hr] at e;simp only [hr,if_false];exact a.at_ k o' e
theorem lI.rowOf (e:TypeId)(l:List Value)(x:Bool):lI (rowOf e l x) (.row e x l) :=
 ⟨rfl,rfl,rfl,fun k hk=>by rw [T.fT]; simp [hk]⟩
inductive fV where
 | val (v:Value) (h:Hp)
 | call (f:FuncId) (args:List Value) (h:Hp)
 | yield (l:Nat) (args:List Value) (h:Hp)
 | fail
def Fits (r:dN)(x:fV):Prop:=match x with
 | .val v h=>∃ H,r = .val v H∧HR H h
 | .call f as h=>∃ H,r = .call f as H∧HR H h
 | .yield l as h=>∃ H,r = .yield l as H∧HR H h
 | .fail=>True
def bI (φ:Frame)(x:Operand):Value:=match x with
 | .tmp t=>φ t
 | .const v=>BK v
 | .global g=>.pointer (some ⟨g,0,some 0⟩)
 | .func f=>.func (.func f) #[] #[]
def jV (φ:Frame):List Operand→List Value
 | []=>[]
 | x :: l=>bI φ x :: jV φ l
def Cr (φ:Frame):List (Nat×Operand)→List (Nat×Value)
 | []=>[]
 | (i,x) :: l=>(i,bI φ x) :: Cr φ l
def pQ (φ:Frame)(x:Option Operand):Option Value:=match x with
 | some x=>some (bI φ x)
 | none=>none
theorem FR.eval {ρ:T Value}{φ:Frame}(h:FR ρ φ)(x:Operand):eval ρ x = bI φ x:=by
 cases x <;> simp [Rx.eval,bI,h _]
theorem FR.jH {ρ:T Value}{φ:Frame}(h:FR ρ φ):∀ l:List Operand,jH ρ l = jV φ l
 | []=>rfl
 | x :: l=>by simp [Rx.jH,jV,h.eval,h.jH l]
theorem FR.fU {ρ:T Value}{φ:Frame}(h:FR ρ φ):∀ l:List (Nat×Operand),fU ρ l = Cr φ l
 | []=>rfl
 | (i,x) :: l=>by simp [Rx.fU,Cr,h.eval,h.fU l]
theorem FR.fF {ρ:T Value}{φ:Frame}(h:FR ρ φ)(x:Option Operand):fF ρ x = pQ φ x:=by
 cases x <;> simp [Rx.fF,pQ,h.eval]
def upd (φ:Frame)(d:Nat)(v:Value):Frame:=fun t=>if t = d then v else φ t
theorem FR.put {ρ:T Value}{φ:Frame}(h:FR ρ φ)(d:Nat)(v:Value):FR (ρ.put d v) (upd φ d v):=by
 intro t;rw [T.get_put];by_cases e:t = d
 ·simp [e,upd,lD]
 ·simp [e,upd,h t]
/-! What operations come to over such a memory. -/
def cellAt (h:Hp)(r o:Nat):Option Value:=match h.at r with
 | some (.row _ _ cs)=>cs[o]?
 | some (.qb cs)=>cs[o]?
 | _=>none
def cellsIn (o m:Nat)(cs:List Value):Option (List Value):=if o + m≤cs.length then some ((cs.drop o).take m) else none
def bJ (h:Hp)(r o m:Nat):Option (List Value):=match h.at r with
 | some (.row _ _ cs)=>cellsIn o m cs
 | some (.qb cs)=>cellsIn o m cs
 | _=>none
theorem T.Lp {t:T Value}{cs:List Value}{n:Nat}(hn:cs.length = n)(h:∀ k,k < n→t.get k = cs[k]?):∀ (m o:Nat),o + m≤n→t.read o m = some ((cs.drop o).take m)
 | 0,o,_=>by simp [T.read]
 | m + 1,o,hom=>by
  have ho:o < cs.length:=by omega
  have e:=h o (by omega);rw [List.getElem?_eq_getElem ho] at e;have hr:=T.Lp hn h m (o + 1) (by omega);simp only [T.read,e,Nat.succ_eq_add_one,hr]
  congr 1
  rw [List.drop_eq_getElem_cons ho,List.take_succ_cons]
theorem HR.load {H:Heap}{h:Hp}(a:HR H h){r o m:Nat}{l:List Value}(e:bJ h r o m = some l):Rx.loadCells H r o m = some l:=by
 unfold bJ at e;split at e
 ·rename_i e' x cs hr;obtain ⟨ob,h1,h2⟩:=a.at_ r _ hr;cases ob <;> simp only [lI] at h2
  obtain ⟨rfl,rfl,h3,h4⟩:=h2;unfold cellsIn at e;split at e
  ·rename_i hl;cases e
   have:Nat.ble (Nat.add o m) (cs.length) = true:=by rw [Nat.ble_eq]; exact hl
   unfold Rx.loadCells;rw [h1];simp only [Rx.Bw,Rx.Az];subst h3;rw [this];exact T.Lp rfl h4 m o hl
  ·cases e
 ·rename_i cs hr;obtain ⟨ob,h1,h2⟩:=a.at_ r _ hr;cases ob <;> simp only [lI] at h2
  obtain ⟨h3,h4⟩:=h2;unfold cellsIn at e;split at e
  ·rename_i hl;cases e
   have:Nat.ble (Nat.add o m) (cs.length) = true:=by rw [Nat.ble_eq]; exact hl
   unfold Rx.loadCells;rw [h1];simp only [Rx.Bw,Rx.Az];subst h3;rw [this];exact T.Lp rfl h4 m o hl
  ·cases e
 ·cases e
theorem Oa {h:Hp}{r o:Nat}{v:Value}(e:cellAt h r o = some v):bJ h r o 1 = some [v]:=by
 have k:∀ cs:List Value,cs[o]? = some v→cellsIn o 1 cs = some [v]:=by
  intro cs hc;obtain ⟨ho,hv⟩:=List.getElem?_eq_some_iff.1 hc;unfold cellsIn;rw [if_pos (by omega),List.drop_eq_getElem_cons ho,hv];rfl
 unfold cellAt at e;unfold bJ;split at e
 ·exact k _ e
 ·exact k _ e
 ·cases e
def over (cs:List Value)(o:Nat):List Value→List Value
 | []=>cs
 | v :: vs=>over (cs.set o v) (o + 1) vs
theorem EI:∀ (vs cs:List Value) (o:Nat),(over cs o vs).length = cs.length
 | [],cs,o=>rfl
 | v :: vs,cs,o=>by simp [over,EI vs]
def storeAt (h:Hp)(r o:Nat)(vs:List Value):Option Hp:=match h.at r with
 | some (.row e x cs)=>if o + vs.length≤cs.length∧vs.all oneCell = true then some (h.set r (.row e x (over cs o vs))) else none
 | _=>none
theorem T.EJ:∀ (vs cs:List Value) (t:T Value) (o:Nat),o + vs.length≤cs.length→(∀ k,k < cs.length→t.get k = cs[k]?)→∀ k,k < cs.length→(T.ofList t o vs).get k = (over cs o vs)[k]?
 | [],cs,t,o,_,h,k,hk=>h k hk
 | v :: vs,cs,t,o,ho,h,k,hk=>by
  simp only [T.ofList,JF,over,Nat.succ_eq_add_one];have ho':o + 1 + vs.length≤(cs.set o v).length:=by simp at ho ⊢; omega
  refine T.EJ vs (cs.set o v) (t.put o v) (o + 1) ho' (fun j hj=>?_) k (by simpa using hk);rw [T.get_put];by_cases e:j = o
  ·subst e;simp only [if_true];rw [List.getElem?_set_self (by simpa using hj)]
  ·simp only [e,if_false];rw [List.getElem?_set_ne (by omega)];exact h j (by simpa using hj)
theorem HR.store {H:Heap}{h h':Hp}(a:HR H h){r o:Nat}{vs:List Value}(e:storeAt h r o vs = some h'):∃ H',Rx.storeCells H r o vs = some H'∧HR H' h':=by
 unfold storeAt at e;split at e
 ·rename_i el x cs hr;split at e
  ·rename_i hc;cases e
   obtain ⟨ob,h1,h2⟩:=a.at_ r _ hr;cases ob <;> simp only [lI] at h2
   rename_i el' n x' cells;obtain ⟨h5,h6,h3,h4⟩:=h2;subst h3 h5 h6;refine ⟨H.set r (.row el' cs.length x' (T.ofList cells o vs)),?_,a.set r (o:=.row el' x' (over cs o vs)) ⟨rfl,rfl,EI _ _ _,?_⟩⟩;rotate_left
   ·exact T.EJ vs cs cells o hc.1 h4
   ·unfold Rx.storeCells;rw [h1];simp only [Rx.FX,Rx.KD];have:(Nat.ble (Nat.add o vs.length) cs.length && vs.all Rx.oneCell) = true:=by
     rw [Bool.and_eq_true];exact ⟨by rw [Nat.ble_eq]; exact hc.1,hc.2⟩
    rw [this]
  ·cases e
 ·cases e
end
end Go.Rx
