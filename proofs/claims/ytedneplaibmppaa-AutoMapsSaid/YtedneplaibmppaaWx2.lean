/- A part of the engine. -/
import Derived.Test.YtedneplaibmppaaWx1
set_option linter.unusedVariables false
set_option linter.unusedSectionVars false
set_option linter.unusedSimpArgs false
namespace Go.Rx
noncomputable section
def D0:Heap:=⟨0,T.empty⟩
def retag (r:dN)(H:Heap):dN:=match r with
 | .val v _=>.val v H
 | .call f as _=>.call f as H
 | .yield l as _=>.yield l as H
 | .fail=>.fail
def lift (r:dN)(h:Hp):fV:=match r with
 | .val v _=>.val v h
 | .call f as _=>.call f as h
 | .yield l as _=>.yield l as h
 | .fail=>.fail
theorem Ux {H:Heap}{h:Hp}(a:HR H h)(r:dN):Fits (retag r H) (lift r h):=by
 cases r <;> simp [retag,lift,Fits,a]
theorem fq {H:Heap}{h:Hp}(a:HR H h){F:Heap→dN}(e:∀ H,F H = retag (F D0) H):Fits (F H) (lift (F D0) h):=by
 rw [e]; exact Ux a _
section
variable {E:Env}
theorem uP (v:Option Value)(H:Heap):lM H v = retag (lM D0 v) H:=by cases v <;> rfl
theorem G6 (v:Value)(H:Heap):iB H v = retag (iB D0 v) H:=by
 cases v with
 | pointer a=>cases a <;> rfl
 | func fn a b=>cases fn <;> rfl
 | _=>rfl
theorem Uy (v:Value)(r:Unit→Option Value)(H:Heap):wX H v r = retag (wX D0 v r) H:=by
 unfold wX; split
 ·exact uP _ _
 ·rfl
theorem Jr (v:Value)(i:Option TI)(H:Heap):jv H v i = retag (jv D0 v i) H:=by
 unfold jv
 cases i with
 | none=>rfl
 | some i =>
  dsimp only;split
  ·unfold toArray;split
   ·split <;> rfl
   ·rfl
  ·rfl
theorem Ob (t:TypeId)(v:Value)(i:Option TI)(H:Heap):oO H t v i = retag (oO D0 t v i) H:=by
 unfold oO
 cases i with
 | none=>rfl
 | some i=>dsimp only; split <;> rfl
theorem Qx (fn:Fn)(a b:List Value)(H:Heap):funcOf H fn a b = retag (funcOf D0 fn a b) H:=by cases fn <;> rfl
theorem G7 (v:Value)(fd:Option Field)(H:Heap):iL E H v fd = retag (iL E D0 v fd) H:=by
 unfold iL
 cases fd with
 | none=>rfl
 | some fd =>
  dsimp only;split
  ·unfold uE;split
   ·split <;> rfl
   ·rfl
  ·rfl
theorem Qy (v:Value)(fd:Option Field)(H:Heap):qd E H v fd = retag (qd E D0 v fd) H:=by
 unfold qd
 cases fd with
 | none=>rfl
 | some fd =>
  dsimp only;split
  ·unfold partOf;split
   ·exact uP _ _
   ·rfl
  ·rfl
theorem EK (r o:Nat)(ei:Option TI)(j:Option Nat)(H:Heap):qo H r o ei j = retag (qo D0 r o ei j) H:=by
 unfold qo;cases ei <;> cases j <;> rfl
theorem Fe (v j:Value)(i:Option TI)(H:Heap):gM E H v j i = retag (gM E D0 v j i) H:=by
 unfold gM
 cases i with
 | none=>rfl
 | some i =>
  dsimp only;split
  ·split
   ·exact EK _ _ _ _ _
   ·rfl
  ·split
   ·split
    ·rfl
    ·exact EK _ _ _ _ _
   ·rfl
  ·rfl
theorem Oc (v j:Value)(i:Option TI)(H:Heap):lF E H v j i = retag (lF E D0 v j i) H:=by
 unfold lF
 cases i with
 | none=>rfl
 | some i =>
  dsimp only;split
  ·split
   ·unfold elemOf;split
    ·split
     ·exact uP _ _
     ·rfl
    ·rfl
   ·rfl
  ·split
   ·unfold DF;split
    ·split <;> rfl
    ·rfl
   ·rfl
  ·rfl
theorem Js (v:Value)(i:Nat)(H:Heap):extracted H v i = retag (extracted D0 v i) H:=by
 unfold extracted;split
 ·exact uP _ _
 ·rfl
theorem JZ (c:Option (List Value))(H:Heap):Ey H c = retag (Ey D0 c) H:=by cases c <;> rfl
theorem Qz (ps:List (Nat×Value))(i:TI)(H:Heap):qc E H ps i = retag (qc E D0 ps i) H:=by
 unfold qc;split
 ·unfold zw;split
  ·split
   ·exact JZ _ _
   ·rfl
  ·split
   ·exact JZ _ _
   ·rfl
  ·rfl
 ·rfl
theorem Ct (f:FuncId)(as:List Value)(H:Heap):callFunc E f as H = retag (callFunc E f as D0) H:=by
 unfold callFunc;split
 ·unfold F7;split
  ·split <;> rfl
  ·rfl
 ·rfl
theorem Uz (f:Value)(as:List Value)(H:Heap):sw E H f as = retag (sw E D0 f as) H:=by
 unfold sw;split
 ·unfold KH;split
  ·exact Ct _ _ _
  ·rfl
  ·unfold KG;split
   ·unfold DC;split
    ·split
     ·split
      ·exact Ct _ _ _
      ·rfl
     ·rfl
    ·rfl
   ·rfl
  ·rfl
 ·rfl
theorem G8 (as:List Value)(r:Unit→Option Value)(H:Heap):nk H as r = retag (nk D0 as r) H:=by
 unfold nk; split
 ·exact uP _ _
 ·rfl
end
/-! What the operations on memory come to. -/
def Cu (E:Env)(t:TypeId):Option (List Value):=match zeroOf (E.ty t) with
 | some z=>cellsOf z
 | none=>none
def Od (h:Hp)(t:TypeId)(cells:Option (List Value)):fV:=match cells with
 | some cells=>.val (xC h.next) (h.lay (.row t true cells))
 | none=>.fail
def hbuild (E:Env)(h:Hp)(t:TypeId)(ps:List (Nat×Value)):fV:=match E.ty t with
 | some i=>lift (qc E D0 ps i) h
 | none=>.fail
def zK (E:Env)(t:TypeId)(len:Nat)(ps:List (Nat×Value)):Option (TypeId×List Value):=match dK E t with
 | some (e,ei)=>match zeroCells ei with
  | some z=>match Nat.ble (Nat.mul len ei.size) 10000 && Nat.beq z.length ei.size with
   | true=>match fill (iK ei.size) (times z len) ps with
    | some cells=>some (e,cells)
    | none=>none
   | false=>none
  | none=>none
 | none=>none
def aak (h:Hp)(len:Nat)(x:Option (TypeId×List Value)):fV:=match x with
 | some (e,cells)=>.val (slc h.next 0 len len) (h.lay (.row e true cells))
 | none=>.fail
def zL (h:Hp)(r o:Nat)(i:TI):Option Value:=match i.agg with
 | true=>dw (bJ h r o i.size)
 | false=>cellAt h r o
def hload (E:Env)(h:Hp)(t:TypeId)(r o:Nat):Option Value:=match E.ty t with
 | some i=>zL h r o i
 | none=>none
def hval (h:Hp)(v:Option Value):fV:=match v with
 | some v=>.val v h
 | none=>.fail
def hmem (h:Option Hp):fV:=match h with
 | some h=>.val undef h
 | none=>.fail
def DZ (v:Value)(k:Nat→Nat→fV):fV:=match v with
 | .pointer (some ⟨r,o,none⟩)=>k r o
 | _=>.fail
def Lr (E:Env)(h:Hp)(t:TypeId)(r o:Nat)(v:Value):Option Hp:=match E.ty t with
 | some i=>match cellsOf v with
  | some vs=>if vs.length = i.size then storeAt h r o vs else none
  | none=>none
 | none=>none
def bP (h:Hp)(r:Nat):Option (List Entry×Nat):=match h.at r with
 | some (.map es c)=>some (es,c)
 | _=>none
def A9 (h:Hp)(m:Value):Option (List Entry×Nat):=match m with
 | .map none=>some ([],0)
 | .map (some r)=>bP h r
 | _=>none
def wF (E:Env)(h:Hp)(t:TypeId)(m k:Value)(ok:Bool):Option Value:=match E.ty t with
 | none=>none
 | some i=>match i.desc with
  | .map kt et=>dO E kt et k ok (A9 h m)
  | _=>none
def cO (h:Hp)(r:Nat)(k v:Value)(es:List Entry)(c:Nat)(f:Option (Option (Nat×Entry))):Option Hp:=match f with
 | none=>none
 | some (some (i,k',_,b))=>match Instr.sameBits 10000 k' k with
  | true=>some (h.set r (.map (setAt es i (k,v,b)) c))
  | false=>none
 | some none=>some (h.set r (.map (es ++ [(k,v,c)]) (Nat.succ c)))
def uQ (E:Env)(h:Hp)(kt:TypeId)(r:Nat)(k v:Value)(m:Option (List Entry×Nat)):Option Hp:=match dZ E kt k with
 | false=>none
 | true=>match m with
  | none=>none
  | some (es,c)=>cO h r k v es c (findKey E.prog kt k es 0)
def sK (E:Env)(h:Hp)(t:TypeId)(m k v:Value):Option Hp:=match E.ty t with
 | none=>none
 | some i=>match i.desc with
  | .map kt _=>match m with
   | .map (some r)=>uQ E h kt r k v (bP h r)
   | _=>none
  | _=>none
def Oe (h:Hp)(r:Nat)(k:Value)(ei:TI)(es:List Entry)(c:Nat)(f:Option (Option (Nat×Entry))):fV:=match f with
 | none=>.fail
 | some (some (i,k',v,b))=>match Instr.sameBits 10000 k' k with
  | true=>.val (.tuple #[v,.int .i64 (.ofNat b)]) (h.set r (.map (setAt es i (k,v,b)) c))
  | false=>.fail
 | some none=>match ei.zero with
  | some z=>.val (.tuple #[z,.int .i64 (.ofNat c)]) (h.set r (.map (es ++ [(k,z,c)]) (Nat.succ c)))
  | none=>.fail
def G9 (E:Env)(h:Hp)(kt et:TypeId)(r:Nat)(k:Value)(m:Option (List Entry×Nat)):fV:=match dZ E kt k with
 | false=>.fail
 | true=>match m with
  | none=>.fail
  | some (es,c)=>match E.ty et with
   | none=>.fail
   | some ei=>Oe h r k ei es c (findKey E.prog kt k es 0)
def QA (E:Env)(h:Hp)(t:TypeId)(m k:Value):fV:=match E.ty t with
 | none=>.fail
 | some i=>match i.desc with
  | .map kt et=>match m with
   | .map (some r)=>G9 E h kt et r k (bP h r)
   | _=>.fail
  | _=>.fail
def Og (h:Hp)(r c:Nat)(es:Option (List Entry)):Option Hp:=match es with
 | some es=>some (h.set r (.map es c))
 | none=>none
def Cv (h:Hp)(r:Nat)(s v:Value)(m:Option (List Entry×Nat)):Option Hp:=match m with
 | none=>none
 | some (es,c)=>match s with
  | .int _ (.ofNat b)=>Og h r c (zu b v es)
  | _=>none
def yF (h:Hp)(m s v:Value):Option Hp:=match m with
 | .map (some r)=>Cv h r s v (bP h r)
 | _=>none
def dh (h:Hp)(size n:Nat):Value→Option (List Value)
 | .slice (some ⟨r,o,sp⟩) _ _=>match sp with
  | some 2=>if n * size = 0 then some [] else none
  | _=>bJ h r o (n * size)
 | .slice none _ _=>some []
 | .string s=>some ((s.data.toList.take n).map vR)
 | _=>none
def dG (h:Hp)(base:Option Addr)(e sc size:Nat):Option Hp:=match base with
 | none=>some h
 | some ⟨r,o,none⟩=>match h.at r with
  | some (.row e' x cs)=>match x with
   | true=>some h
   | false=>if e = e'∧o + sc * size≤cs.length then some (h.set r .dead) else none
  | _=>none
 | some ⟨_,_,some _⟩=>some h
def qg (e l:Nat)(cells:List Value)(h:Option Hp):fV:=match h with
 | some h=>.val (slc h.next 0 l l) (h.lay (.row e false cells))
 | none=>.fail
def Ls (h:Hp)(e:TypeId)(ei:TI)(base:Option Addr)(sc n l:Nat)(new:List Value)(old:Option (List Value)):fV:=match old with
 | none=>.fail
 | some old=>match nZ ei n l new && Nat.ble 1 ei.size with
  | true=>qg e l (old ++ new) (dG h base e sc ei.size)
  | false=>.fail
def hfits (h:Hp)(ei:TI)(base:Option Addr)(sl sc l:Nat)(new:List Value):fV:=match base with
 | some ⟨r,o,s⟩=>match storeAt h r (o + sl * ei.size) new with
  | some h=>.val (.slice (some ⟨r,o,s⟩) l sc) h
  | none=>.fail
 | none=>match new with
  | []=>.val (.slice none l sc) h
  | _=>.fail
def zM (h:Hp)(e:TypeId)(ei:TI)(base:Option Addr)(sl sc n:Nat)(new:Option (List Value)):fV:=match new with
 | none=>.fail
 | some new=>if sl + n≤sc then hfits h ei base sl sc (sl + n) new else Ls h e ei base sc n (sl + n) new (dh h ei.size sl (.slice base sl sc))
def sM (E:Env)(h:Hp)(s x:Value)(xt:TypeId)(se:Option (TypeId×TI)):fV:=match se with
 | none=>.fail
 | some (e,ei)=>match E.ty xt with
  | none=>.fail
  | some xi=>match og xi.desc with
   | true=>.fail
   | false=>match lenOf x with
    | none=>.fail
    | some n=>match s with
     | .slice base sl sc=>match jR base with
      | true=>.fail
      | false=>zM h e ei base sl sc n (dh h ei.size n x)
     | _=>.fail
def FH (E:Env)(h:Hp)(ts:List TypeId)(as:List Value):fV:=match ts with
 | [st,xt]=>match as with
  | [s,x]=>sM E h s x xt (dK E st)
  | _=>.fail
 | _=>.fail
def zN (h:Hp)(base:Option Addr)(n:Nat)(new:Option (List Value)):fV:=match new with
 | none=>.fail
 | some new=>match base with
  | none=>.val (.int .i64 (.ofNat n)) h
  | some ⟨r,o,sp⟩=>match fA sp with
   | true=>.fail
   | false=>match storeAt h r o new with
    | some h=>.val (.int .i64 (.ofNat n)) h
    | none=>.fail
def zO (h:Hp)(s x:Value)(se:Option (TypeId×TI)):fV:=match se with
 | none=>.fail
 | some (_,ei)=>match s with
  | .slice base dl _=>match lenOf x with
   | none=>.fail
   | some sl=>zN h base (min sl dl) (dh h ei.size (min sl dl) x)
  | _=>.fail
def hcopy (E:Env)(h:Hp)(ts:List TypeId)(as:List Value):fV:=match ts with
 | dt :: _=>match as with
  | [s,x]=>zO h s x (dK E dt)
  | _=>.fail
 | _=>.fail
def Ba (E:Env)(h:Hp)(x:Value)(i:TI):Option Value:=match i.desc with
 | .map _ _=>F4 (A9 h x)
 | _=>xE E D0 x i
def hlen (E:Env)(h:Hp)(ts:List TypeId)(as:List Value):Option Value:=match ts with
 | t :: _=>match as with
  | x :: _=>match E.ty t with
   | none=>none
   | some i=>Ba E h x i
  | _=>none
 | _=>none
def WO (n:Nat)(o:Option Obj):Option Value:=match o with
 | some (.row _ true _)=>xD n
 | _=>none
def QB (h:Hp)(x:Value)(i:TI):Option Value:=match i.desc with
 | .slice _=>match x with
  | .slice none _ n=>xD n
  | .slice (some ⟨r,_,none⟩) _ n=>WO n (h.at r)
  | .slice (some ⟨_,_,some 1⟩) _ n=>xD n
  | _=>none
 | _=>none
def hcap (E:Env)(h:Hp)(ts:List TypeId)(as:List Value):Option Value:=match ts with
 | t :: _=>match as with
  | x :: _=>match E.ty t with
   | none=>none
   | some i=>QB h x i
  | _=>none
 | _=>none
def uR (E:Env)(h:Hp)(b:Builtin)(ts:Array TypeId)(type:TypeId)(as:List Value):fV:=match b with
 | .append=>FH E h ts.toList as
 | .copy=>hcopy E h ts.toList as
 | .len=>hval h (hlen E h ts.toList as)
 | .cap=>hval h (hcap E h ts.toList as)
 | .max=>lift (nk D0 as fun _=>bR E.prog (Builtin.max_ ts type ⟨as⟩)) h
 | .min=>lift (nk D0 as fun _=>bR E.prog (Builtin.min_ ts type ⟨as⟩)) h
 | _=>.fail
def wG (l c:Option Nat)(se:Option (TypeId×TI)):Option (TypeId×Nat×Nat×List Value):=match se with
 | some (e,ei)=>match zeroCells ei with
  | some z=>match l with
   | some l=>match c with
    | some c=>match Nat.ble l c && Nat.ble (Nat.mul ei.bytes c) 1073741824 && Nat.beq z.length ei.size with
     | true=>some (e,l,c,times z c)
     | false=>none
    | none=>none
   | none=>none
  | none=>none
 | none=>none
def aal (h:Hp)(x:Option (TypeId×Nat×Nat×List Value)):fV:=match x with
 | some (e,l,c,cells)=>.val (slc h.next 0 l c) (h.lay (.row e true cells))
 | none=>.fail
def nK (h:Hp)(size r o:Nat)(BL:Bool)(b:Option (Nat×Nat×Nat))(x:Option Obj):fV:=match x with
 | some (.row _ x _)=>match x with
  | true=>lift (kQ D0 size r o b) h
  | false=>lift (nW D0 size r o BL b) h
 | some (.qb _)=>lift (nW D0 size r o BL b) h
 | _=>.fail
def He (E:Env)(h:Hp)(v:Value)(lo hi mx:Option Value)(i:TI):fV:=match i.desc with
 | .slice elem=>match E.ty elem with
  | none=>.fail
  | some ei=>match v with
   | .slice (some ⟨r,o,none⟩) len cap=>nK h ei.size r o mx.isNone (bounds len cap lo hi mx) (h.at r)
   | _=>lift (fI E D0 v lo hi mx i) h
 | _=>lift (fI E D0 v lo hi mx i) h
def SE (x:New)(h:Hp):fV:=match x with
 | some _=>.val (bL h.next) (h.lay (.map [] 0))
 | none=>.fail
def hrange (h:Hp)(i:Option TI)(v:Value):fV:=match i with
 | some i=>match i.desc with
  | .string=>match v with
   | .string s=>.val (xC h.next) (h.lay (.iter s 0))
   | _=>.fail
  | _=>.fail
 | none=>.fail
def Lu (h:Hp)(r:Nat)(s:ByteArray)(pos:Nat)(p:Nat×Nat):fV :=
 .val (.tuple #[.bool true,.int .i64 (.ofNat pos),.int .i32 (.ofNat p.1)]) (h.set r (.iter s (pos + p.2)))
def hnext (h:Hp)(isString:Bool)(v:Value):fV:=match isString with
 | true=>match v with
  | .pointer (some ⟨r,0,none⟩)=>match h.at r with
   | some (.iter s pos)=>if pos < s.size then Lu h r s pos (Utf8.decode s pos) else .val (.tuple #[.bool false]) h
   | _=>.fail
  | _=>.fail
 | false=>.fail
def q8 (E:Env)(h:Hp)(src dst:TypeId)(v:Value):fV:=match v with
 | .slice (some ⟨r,o,sp⟩) len _=>match isBytes E src && isStr E dst with
  | true=>match BP (dh h 1 len (.slice (some ⟨r,o,sp⟩) len len)) with
   | some bs=>.val (.string ⟨⟨bs⟩⟩) h
   | none=>.fail
  | false=>.fail
 | _=>.fail
def pR (E:Env)(h:Hp)(src dst:TypeId)(v:Value):fV:=match dP 1 v with
 | true=>hval h (jr (bR E.prog (convert src dst v)))
 | false=>q8 E h src dst v
def fQ (E:Env)(op:Op)(type:TypeId)(φ:Frame)(h:Hp):fV:=match op with
 | .move x=>.val (bI φ x) h
 | .assign x=>.val (bI φ x) h
 | .pick c a b=>match bI φ c with
  | .bool true=>.val (bI φ a) h
  | .bool false=>.val (bI φ b) h
  | _=>.fail
 | .alloc t=>Od h t (Cu E t)
 | .box t x=>Od h t (cellsOf (bI φ x))
 | .build t ps=>hbuild E h t (Cr φ ps.toList)
 | .buildSlice t len ps=>aak h len (zK E t len (Cr φ ps.toList))
 | .insert t m k x=>hmem (sK E h t (bI φ m) (bI φ k) (bI φ x))
 | .load t a=>DZ (bI φ a) fun r o=>hval h (hload E h t r o)
 | .store t a x=>DZ (bI φ a) fun r o=>hmem (Lr E h t r o (bI φ x))
 | .nilCheck x=>lift (iB D0 (bI φ x)) h
 | .binOp op t x y _=>hval h (PY E op t x y (bI φ x) (bI φ y))
 | .unOp op _ x=>lift (wX D0 (bI φ x) fun _=>bR E.prog (Op.unary op (bI φ x))) h
 | .convert src dst x=>pR E h src dst (bI φ x)
 | .sliceToArrayPointer t x=>lift (jv D0 (bI φ x) (E.ty t)) h
 | .makeInterface t x=>lift (oO D0 t (bI φ x) (E.ty t)) h
 | .makeFunc fn a b=>lift (funcOf D0 fn (jV φ a.toList) (jV φ b.toList)) h
 | .makeMap t r=>SE (match r with | none=>iC | some x=>zx (E.ty t) (bI φ x)) h
 | .makeSlice t l c=>aal h (wG (asNat 100000 (bI φ l)) (asNat 100000 (bI φ c)) (dK E t))
 | .slice t x lo hi mx=>match E.ty t with
  | some i=>He E h (bI φ x) (pQ φ lo) (pQ φ hi) (pQ φ mx) i
  | none=>.fail
 | .fieldAddr t x f=>lift (iL E D0 (bI φ x) (mo (E.ty t) f)) h
 | .field t x f=>lift (qd E D0 (bI φ x) (mo (E.ty t) f)) h
 | .indexAddr t x j=>lift (gM E D0 (bI φ x) (bI φ j) (E.ty t)) h
 | .index t x j=>lift (lF E D0 (bI φ x) (bI φ j) (E.ty t)) h
 | .lookup t x j ok=>hval h (wF E h t (bI φ x) (bI φ j) ok)
 | .mapUpdate t m k x=>hmem (sK E h t (bI φ m) (bI φ k) (bI φ x))
 | .mapEntry t m k=>QA E h t (bI φ m) (bI φ k)
 | .entryStore _ m s x=>hmem (yF h (bI φ m) (bI φ s) (bI φ x))
 | .range t x=>hrange h (E.ty t) (bI φ x)
 | .next x isString=>hnext h isString (bI φ x)
 | .extract x i=>lift (extracted D0 (bI φ x) i) h
 | .call c=>match c.callee with
  | .value f=>lift (sw E D0 (bI φ f) (jV φ c.args.toList)) h
  | .builtin b=>uR E h b c.argTypes type (jV φ c.args.toList)
  | .invoke _ _=>.fail
 | _=>.fail
end
end Go.Rx
