/- Contracts by what is to be shown of each step: a part of the engine. -/
import Derived.Test.YtedneplaibmppaaWx1
set_option linter.unusedVariables false
set_option linter.unusedSectionVars false
set_option linter.unusedSimpArgs false
namespace Go.Rx
noncomputable section

def D0:Heap:=⟨0,T.empty⟩

def retag (r:dL) (H:Heap):dL:=match r with
 | .val v _=>.val v H
 | .call f as _=>.call f as H
 | .yield l as _=>.yield l as H
 | .fail=>.fail

def lift (r:dL) (h:Hp):fV:=match r with
 | .val v _=>.val v h
 | .call f as _=>.call f as h
 | .yield l as _=>.yield l as h
 | .fail=>.fail

theorem TJ {H:Heap} {h:Hp} (a:HR H h) (r:dL):Fits (retag r H) (lift r h):=by
 cases r <;> simp [retag,lift,Fits,a]

theorem eB {H:Heap} {h:Hp} (a:HR H h) {F:Heap→dL} (e:∀ H,F H = retag (F D0) H):Fits (F H) (lift (F D0) h):=by
 rw [e]; exact TJ a _

section
variable {E:Env}
theorem uz (v:Option Value) (H:Heap):lF H v = retag (lF D0 v) H:=by cases v <;> rfl
theorem GX (v:Value) (H:Heap):iA H v = retag (iA D0 v) H:=by
 cases v with
 | pointer a=>cases a <;> rfl
 | func fn a b=>cases fn <;> rfl
 | _=>rfl
theorem TK (v:Value) (r:Unit→Option Value) (H:Heap):wT H v r = retag (wT D0 v r) H:=by
 unfold wT; split
 ·exact uz _ _
 ·rfl
theorem Jl (v:Value) (i:Option TI) (H:Heap):jr H v i = retag (jr D0 v i) H:=by
 unfold jr
 cases i with
 | none=>rfl
 | some i =>
  dsimp only
  split
  ·unfold toArray
   split
   ·split <;> rfl
   ·rfl
  ·rfl
theorem Ns (t:TypeId) (v:Value) (i:Option TI) (H:Heap):oo H t v i = retag (oo D0 t v i) H:=by
 unfold oo
 cases i with
 | none=>rfl
 | some i=>dsimp only; split <;> rfl
theorem P6 (fn:Fn) (a b:List Value) (H:Heap):funcOf H fn a b = retag (funcOf D0 fn a b) H:=by cases fn <;> rfl
theorem GY (v:Value) (fd:Option Field) (H:Heap):iJ E H v fd = retag (iJ E D0 v fd) H:=by
 unfold iJ
 cases fd with
 | none=>rfl
 | some fd =>
  dsimp only
  split
  ·unfold tX
   split
   ·split <;> rfl
   ·rfl
  ·rfl
theorem P7 (v:Value) (fd:Option Field) (H:Heap):pK E H v fd = retag (pK E D0 v fd) H:=by
 unfold pK
 cases fd with
 | none=>rfl
 | some fd =>
  dsimp only
  split
  ·unfold partOf
   split
   ·exact uz _ _
   ·rfl
  ·rfl
theorem Ez (r o:Nat) (ei:Option TI) (j:Option Nat) (H:Heap):pV H r o ei j = retag (pV D0 r o ei j) H:=by
 unfold pV
 cases ei <;> cases j <;> rfl
theorem EX (v j:Value) (i:Option TI) (H:Heap):gy E H v j i = retag (gy E D0 v j i) H:=by
 unfold gy
 cases i with
 | none=>rfl
 | some i =>
  dsimp only
  split
  ·split
   ·exact Ez _ _ _ _ _
   ·rfl
  ·split
   ·split
    ·rfl
    ·exact Ez _ _ _ _ _
   ·rfl
  ·rfl
theorem Nu (v j:Value) (i:Option TI) (H:Heap):kY E H v j i = retag (kY E D0 v j i) H:=by
 unfold kY
 cases i with
 | none=>rfl
 | some i =>
  dsimp only
  split
  ·split
   ·unfold elemOf
    split
    ·split
     ·exact uz _ _
     ·rfl
    ·rfl
   ·rfl
  ·split
   ·unfold Dp
    split
    ·split <;> rfl
    ·rfl
   ·rfl
  ·rfl
theorem Jm (v:Value) (i:Nat) (H:Heap):extracted H v i = retag (extracted D0 v i) H:=by
 unfold extracted
 split
 ·exact uz _ _
 ·rfl
theorem JV (c:Option (List Value)) (H:Heap):El H c = retag (El D0 c) H:=by cases c <;> rfl
theorem P8 (ps:List (Nat×Value)) (i:TI) (H:Heap):pJ E H ps i = retag (pJ E D0 ps i) H:=by
 unfold pJ
 split
 ·unfold zA
  split
  ·split
   ·exact JV _ _
   ·rfl
  ·split
   ·exact JV _ _
   ·rfl
  ·rfl
 ·rfl
theorem Cv (f:FuncId) (as:List Value) (H:Heap):callFunc E f as H = retag (callFunc E f as D0) H:=by
 unfold callFunc
 split
 ·unfold F4
  split
  ·split <;> rfl
  ·rfl
 ·rfl
theorem TL (f:Value) (as:List Value) (H:Heap):rM E H f as = retag (rM E D0 f as) H:=by
 unfold rM
 split
 ·unfold Ky
  split
  ·exact Cv _ _ _
  ·rfl
  ·unfold Kw
   split
   ·unfold Dn
    split
    ·split
     ·split
      ·exact Cv _ _ _
      ·rfl
     ·rfl
    ·rfl
   ·rfl
  ·rfl
 ·rfl
theorem GZ (as:List Value) (r:Unit→Option Value) (H:Heap):mU H as r = retag (mU D0 as r) H:=by
 unfold mU; split
 ·exact uz _ _
 ·rfl
end

/-! What the operations on memory come to. -/

def Cw (E:Env) (t:TypeId):Option (List Value):=match zeroOf (E.ty t) with
 | some z=>cellsOf z
 | none=>none
def Nv (h:Hp) (t:TypeId) (cells:Option (List Value)):fV:=match cells with
 | some cells=>.val (xk h.next) (h.lay (.row t true cells))
 | none=>.fail
def hbuild (E:Env) (h:Hp) (t:TypeId) (ps:List (Nat×Value)):fV:=match E.ty t with
 | some i=>lift (pJ E D0 ps i) h
 | none=>.fail
def zN (E:Env) (t:TypeId) (len:Nat) (ps:List (Nat×Value)):Option (TypeId×List Value):=match dJ E t with
 | some (e,ei)=>match zeroCells ei with
  | some z=>match Nat.ble (Nat.mul len ei.size) 10000 && Nat.beq z.length ei.size with
   | true=>match fill (iI ei.size) (times z len) ps with
    | some cells=>some (e,cells)
    | none=>none
   | false=>none
  | none=>none
 | none=>none
def ZG (h:Hp) (len:Nat) (x:Option (TypeId×List Value)):fV:=match x with
 | some (e,cells)=>.val (slc h.next 0 len len) (h.lay (.row e true cells))
 | none=>.fail
def zO (h:Hp) (r o:Nat) (i:TI):Option Value:=match i.agg with
 | true=>gV (bM h r o i.size)
 | false=>cellAt h r o
def hload (E:Env) (h:Hp) (t:TypeId) (r o:Nat):Option Value:=match E.ty t with
 | some i=>zO h r o i
 | none=>none
def hval (h:Hp) (v:Option Value):fV:=match v with
 | some v=>.val v h
 | none=>.fail
def hmem (h:Option Hp):fV:=match h with
 | some h=>.val undef h
 | none=>.fail
def DK (v:Value) (k:Nat→Nat→fV):fV:=match v with
 | .pointer (some ⟨r,o,none⟩)=>k r o
 | _=>.fail
def Lc (E:Env) (h:Hp) (t:TypeId) (r o:Nat) (v:Value):Option Hp:=match E.ty t with
 | some i=>match cellsOf v with
  | some vs=>if vs.length = i.size then storeAt h r o vs else none
  | none=>none
 | none=>none

def bT (h:Hp) (r:Nat):Option (List Entry×Nat):=match h.at r with
 | some (.map es c)=>some (es,c)
 | _=>none
def Bc (h:Hp) (m:Value):Option (List Entry×Nat):=match m with
 | .map none=>some ([],0)
 | .map (some r)=>bT h r
 | _=>none
def vX (E:Env) (h:Hp) (t:TypeId) (m k:Value) (ok:Bool):Option Value:=match E.ty t with
 | none=>none
 | some i=>match i.desc with
  | .map kt et=>dP E kt et k ok (Bc h m)
  | _=>none
def dw (h:Hp) (r:Nat) (k v:Value) (es:List Entry) (c:Nat) (f:Option (Option (Nat×Entry))):Option Hp:=match f with
 | none=>none
 | some (some (i,k',_,b))=>match Instr.sameBits 10000 k' k with
  | true=>some (h.set r (.map (setAt es i (k,v,b)) c))
  | false=>none
 | some none=>some (h.set r (.map (es ++ [(k,v,c)]) (Nat.succ c)))
def uD (E:Env) (h:Hp) (kt:TypeId) (r:Nat) (k v:Value) (m:Option (List Entry×Nat)):Option Hp:=match eD E kt k with
 | false=>none
 | true=>match m with
  | none=>none
  | some (es,c)=>dw h r k v es c (findKey E.prog kt k es 0)
def rV (E:Env) (h:Hp) (t:TypeId) (m k v:Value):Option Hp:=match E.ty t with
 | none=>none
 | some i=>match i.desc with
  | .map kt _=>match m with
   | .map (some r)=>uD E h kt r k v (bT h r)
   | _=>none
  | _=>none
def Nw (h:Hp) (r:Nat) (k:Value) (ei:TI) (es:List Entry) (c:Nat) (f:Option (Option (Nat×Entry))):fV:=match f with
 | none=>.fail
 | some (some (i,k',v,b))=>match Instr.sameBits 10000 k' k with
  | true=>.val (.tuple #[v,.int .i64 (.ofNat b)]) (h.set r (.map (setAt es i (k,v,b)) c))
  | false=>.fail
 | some none=>match ei.zero with
  | some z=>.val (.tuple #[z,.int .i64 (.ofNat c)]) (h.set r (.map (es ++ [(k,z,c)]) (Nat.succ c)))
  | none=>.fail
def G8 (E:Env) (h:Hp) (kt et:TypeId) (r:Nat) (k:Value) (m:Option (List Entry×Nat)):fV:=match eD E kt k with
 | false=>.fail
 | true=>match m with
  | none=>.fail
  | some (es,c)=>match E.ty et with
   | none=>.fail
   | some ei=>Nw h r k ei es c (findKey E.prog kt k es 0)
def P9 (E:Env) (h:Hp) (t:TypeId) (m k:Value):fV:=match E.ty t with
 | none=>.fail
 | some i=>match i.desc with
  | .map kt et=>match m with
   | .map (some r)=>G8 E h kt et r k (bT h r)
   | _=>.fail
  | _=>.fail
def Ny (h:Hp) (r c:Nat) (es:Option (List Entry)):Option Hp:=match es with
 | some es=>some (h.set r (.map es c))
 | none=>none
def Cy (h:Hp) (r:Nat) (s v:Value) (m:Option (List Entry×Nat)):Option Hp:=match m with
 | none=>none
 | some (es,c)=>match s with
  | .int _ (.ofNat b)=>Ny h r c (zy b v es)
  | _=>none
def yx (h:Hp) (m s v:Value):Option Hp:=match m with
 | .map (some r)=>Cy h r s v (bT h r)
 | _=>none

def dz (h:Hp) (size n:Nat):Value→Option (List Value)
 | .slice (some ⟨r,o,sp⟩) _ _=>match sp with
  | some 2=>if n * size = 0 then some [] else none
  | _=>bM h r o (n * size)
 | .slice none _ _=>some []
 | .string s=>some ((s.data.toList.take n).map vE)
 | _=>none

def dI (h:Hp) (base:Option Addr) (e sc size:Nat):Option Hp:=match base with
 | none=>some h
 | some ⟨r,o,none⟩=>match h.at r with
  | some (.row e' x cs)=>match x with
   | true=>some h
   | false=>if e = e'∧o + sc * size≤cs.length then some (h.set r .dead) else none
  | _=>none
 | some ⟨_,_,some _⟩=>some h
def pO (e l:Nat) (cells:List Value) (h:Option Hp):fV:=match h with
 | some h=>.val (slc h.next 0 l l) (h.lay (.row e false cells))
 | none=>.fail
def Lf (h:Hp) (e:TypeId) (ei:TI) (base:Option Addr) (sc n l:Nat) (new:List Value) (old:Option (List Value)):fV:=match old with
 | none=>.fail
 | some old=>match nO ei n l new && Nat.ble 1 ei.size with
  | true=>pO e l (old ++ new) (dI h base e sc ei.size)
  | false=>.fail
def hfits (h:Hp) (ei:TI) (base:Option Addr) (sl sc l:Nat) (new:List Value):fV:=match base with
 | some ⟨r,o,s⟩=>match storeAt h r (o + sl * ei.size) new with
  | some h=>.val (.slice (some ⟨r,o,s⟩) l sc) h
  | none=>.fail
 | none=>match new with
  | []=>.val (.slice none l sc) h
  | _=>.fail
def zP (h:Hp) (e:TypeId) (ei:TI) (base:Option Addr) (sl sc n:Nat) (new:Option (List Value)):fV:=match new with
 | none=>.fail
 | some new=>if sl + n≤sc then hfits h ei base sl sc (sl + n) new else Lf h e ei base sc n (sl + n) new (dz h ei.size sl (.slice base sl sc))
def rW (E:Env) (h:Hp) (s x:Value) (xt:TypeId) (se:Option (TypeId×TI)):fV:=match se with
 | none=>.fail
 | some (e,ei)=>match E.ty xt with
  | none=>.fail
  | some xi=>match nP xi.desc with
   | true=>.fail
   | false=>match lenOf x with
    | none=>.fail
    | some n=>match s with
     | .slice base sl sc=>match jO base with
      | true=>.fail
      | false=>zP h e ei base sl sc n (dz h ei.size n x)
     | _=>.fail
def Fz (E:Env) (h:Hp) (ts:List TypeId) (as:List Value):fV:=match ts with
 | [st,xt]=>match as with
  | [s,x]=>rW E h s x xt (dJ E st)
  | _=>.fail
 | _=>.fail
def zQ (h:Hp) (base:Option Addr) (n:Nat) (new:Option (List Value)):fV:=match new with
 | none=>.fail
 | some new=>match base with
  | none=>.val (.int .i64 (.ofNat n)) h
  | some ⟨r,o,sp⟩=>match fT sp with
   | true=>.fail
   | false=>match storeAt h r o new with
    | some h=>.val (.int .i64 (.ofNat n)) h
    | none=>.fail
def zR (h:Hp) (s x:Value) (se:Option (TypeId×TI)):fV:=match se with
 | none=>.fail
 | some (_,ei)=>match s with
  | .slice base dl _=>match lenOf x with
   | none=>.fail
   | some sl=>zQ h base (min sl dl) (dz h ei.size (min sl dl) x)
  | _=>.fail
def hcopy (E:Env) (h:Hp) (ts:List TypeId) (as:List Value):fV:=match ts with
 | dt :: _=>match as with
  | [s,x]=>zR h s x (dJ E dt)
  | _=>.fail
 | _=>.fail
def Bd (E:Env) (h:Hp) (x:Value) (i:TI):Option Value:=match i.desc with
 | .map _ _=>FY (Bc h x)
 | _=>xu E D0 x i
def hlen (E:Env) (h:Hp) (ts:List TypeId) (as:List Value):Option Value:=match ts with
 | t :: _=>match as with
  | x :: _=>match E.ty t with
   | none=>none
   | some i=>Bd E h x i
  | _=>none
 | _=>none
def VU (n:Nat) (o:Option Obj):Option Value:=match o with
 | some (.row _ true _)=>xq n
 | _=>none
def Qa (h:Hp) (x:Value) (i:TI):Option Value:=match i.desc with
 | .slice _=>match x with
  | .slice none _ n=>xq n
  | .slice (some ⟨r,_,none⟩) _ n=>VU n (h.at r)
  | .slice (some ⟨_,_,some 1⟩) _ n=>xq n
  | _=>none
 | _=>none
def hcap (E:Env) (h:Hp) (ts:List TypeId) (as:List Value):Option Value:=match ts with
 | t :: _=>match as with
  | x :: _=>match E.ty t with
   | none=>none
   | some i=>Qa h x i
  | _=>none
 | _=>none
def uE (E:Env) (h:Hp) (b:Builtin) (ts:Array TypeId) (type:TypeId) (as:List Value):fV:=match b with
 | .append=>Fz E h ts.toList as
 | .copy=>hcopy E h ts.toList as
 | .len=>hval h (hlen E h ts.toList as)
 | .cap=>hval h (hcap E h ts.toList as)
 | .max=>lift (mU D0 as fun _=>bV E.prog (Builtin.max_ ts type ⟨as⟩)) h
 | .min=>lift (mU D0 as fun _=>bV E.prog (Builtin.min_ ts type ⟨as⟩)) h
 | _=>.fail
def vY (l c:Option Nat) (se:Option (TypeId×TI)):Option (TypeId×Nat×Nat×List Value):=match se with
 | some (e,ei)=>match zeroCells ei with
  | some z=>match l with
   | some l=>match c with
    | some c=>match Nat.ble l c && Nat.ble (Nat.mul ei.bytes c) 1073741824 && Nat.beq z.length ei.size with
     | true=>some (e,l,c,times z c)
     | false=>none
    | none=>none
   | none=>none
  | none=>none
 | none=>none
def ZH (h:Hp) (x:Option (TypeId×Nat×Nat×List Value)):fV:=match x with
 | some (e,l,c,cells)=>.val (slc h.next 0 l c) (h.lay (.row e true cells))
 | none=>.fail
def rX (h:Hp) (size r o:Nat) (BQ:Bool) (b:Option (Nat×Nat×Nat)) (x:Option Obj):fV:=match x with
 | some (.row _ x _)=>match x with
  | true=>lift (kH D0 size r o b) h
  | false=>lift (nJ D0 size r o BQ b) h
 | some (.pI _)=>lift (nJ D0 size r o BQ b) h
 | _=>.fail
def G9 (E:Env) (h:Hp) (v:Value) (lo hi mx:Option Value) (i:TI):fV:=match i.desc with
 | .slice elem=>match E.ty elem with
  | none=>.fail
  | some ei=>match v with
   | .slice (some ⟨r,o,none⟩) len cap=>rX h ei.size r o mx.isNone (bounds len cap lo hi mx) (h.at r)
   | _=>lift (fE E D0 v lo hi mx i) h
 | _=>lift (fE E D0 v lo hi mx i) h
def RN (x:New) (h:Hp):fV:=match x with
 | some _=>.val (bK h.next) (h.lay (.map [] 0))
 | none=>.fail
def hrange (h:Hp) (i:Option TI) (v:Value):fV:=match i with
 | some i=>match i.desc with
  | .string=>match v with
   | .string s=>.val (xk h.next) (h.lay (.iter s 0))
   | _=>.fail
  | _=>.fail
 | none=>.fail
def Lg (h:Hp) (r:Nat) (s:ByteArray) (pos:Nat) (p:Nat×Nat):fV :=
 .val (.tuple #[.bool true,.int .i64 (.ofNat pos),.int .i32 (.ofNat p.1)]) (h.set r (.iter s (pos + p.2)))
def hnext (h:Hp) (isString:Bool) (v:Value):fV:=match isString with
 | true=>match v with
  | .pointer (some ⟨r,0,none⟩)=>match h.at r with
   | some (.iter s pos)=>if pos < s.size then Lg h r s pos (Utf8.decode s pos) else .val (.tuple #[.bool false]) h
   | _=>.fail
  | _=>.fail
 | false=>.fail
def qP (E:Env) (h:Hp) (src dst:TypeId) (v:Value):fV:=match v with
 | .slice (some ⟨r,o,sp⟩) len _=>match isBytes E src && isStr E dst with
  | true=>match BU (dz h 1 len (.slice (some ⟨r,o,sp⟩) len len)) with
   | some bs=>.val (.string ⟨⟨bs⟩⟩) h
   | none=>.fail
  | false=>.fail
 | _=>.fail
def oO (E:Env) (h:Hp) (src dst:TypeId) (v:Value):fV:=match dQ 1 v with
 | true=>hval h (jq (bV E.prog (convert src dst v)))
 | false=>qP E h src dst v

def fP (E:Env) (op:Op) (type:TypeId) (φ:Frame) (h:Hp):fV:=match op with
 | .move x=>.val (bI φ x) h
 | .assign x=>.val (bI φ x) h
 | .pick c a b=>match bI φ c with
  | .bool true=>.val (bI φ a) h
  | .bool false=>.val (bI φ b) h
  | _=>.fail
 | .alloc t=>Nv h t (Cw E t)
 | .box t x=>Nv h t (cellsOf (bI φ x))
 | .build t ps=>hbuild E h t (Cu φ ps.toList)
 | .buildSlice t len ps=>ZG h len (zN E t len (Cu φ ps.toList))
 | .insert t m k x=>hmem (rV E h t (bI φ m) (bI φ k) (bI φ x))
 | .load t a=>DK (bI φ a) fun r o=>hval h (hload E h t r o)
 | .store t a x=>DK (bI φ a) fun r o=>hmem (Lc E h t r o (bI φ x))
 | .nilCheck x=>lift (iA D0 (bI φ x)) h
 | .binOp op t x y _=>hval h (Jc E op t x y (bI φ x) (bI φ y))
 | .unOp op _ x=>lift (wT D0 (bI φ x) fun _=>bV E.prog (Op.unary op (bI φ x))) h
 | .convert src dst x=>oO E h src dst (bI φ x)
 | .sliceToArrayPointer t x=>lift (jr D0 (bI φ x) (E.ty t)) h
 | .makeInterface t x=>lift (oo D0 t (bI φ x) (E.ty t)) h
 | .makeFunc fn a b=>lift (funcOf D0 fn (jS φ a.toList) (jS φ b.toList)) h
 | .makeMap t r=>RN (match r with | none=>gW | some x=>zB (E.ty t) (bI φ x)) h
 | .makeSlice t l c=>ZH h (vY (asNat 100000 (bI φ l)) (asNat 100000 (bI φ c)) (dJ E t))
 | .slice t x lo hi mx=>match E.ty t with
  | some i=>G9 E h (bI φ x) (oN φ lo) (oN φ hi) (oN φ mx) i
  | none=>.fail
 | .fieldAddr t x f=>lift (iJ E D0 (bI φ x) (lZ (E.ty t) f)) h
 | .field t x f=>lift (pK E D0 (bI φ x) (lZ (E.ty t) f)) h
 | .indexAddr t x j=>lift (gy E D0 (bI φ x) (bI φ j) (E.ty t)) h
 | .index t x j=>lift (kY E D0 (bI φ x) (bI φ j) (E.ty t)) h
 | .lookup t x j ok=>hval h (vX E h t (bI φ x) (bI φ j) ok)
 | .mapUpdate t m k x=>hmem (rV E h t (bI φ m) (bI φ k) (bI φ x))
 | .mapEntry t m k=>P9 E h t (bI φ m) (bI φ k)
 | .entryStore _ m s x=>hmem (yx h (bI φ m) (bI φ s) (bI φ x))
 | .range t x=>hrange h (E.ty t) (bI φ x)
 | .next x isString=>hnext h isString (bI φ x)
 | .extract x i=>lift (extracted D0 (bI φ x) i) h
 | .call c=>match c.callee with
  | .value f=>lift (rM E D0 (bI φ f) (jS φ c.args.toList)) h
  | .builtin b=>uE E h b c.argTypes type (jS φ c.args.toList)
  | .invoke _ _=>.fail
 | _=>.fail

end
end Go.Rx
