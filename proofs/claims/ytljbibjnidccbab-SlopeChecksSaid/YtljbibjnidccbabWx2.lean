/- Contracts by what is to be shown of each step: a part of the engine. -/
import Derived.Test.YtljbibjnidccbabWx1
set_option linter.unusedVariables false
set_option linter.unusedSectionVars false
set_option linter.unusedSimpArgs false
namespace Go.Rx
noncomputable section

def D0:Heap:=⟨0,T.empty⟩

def retag (r:ARes) (H:Heap):ARes:=match r with
 | .val v _=>.val v H
 | .call f as _=>.call f as H
 | .yield l as _=>.yield l as H
 | .fail=>.fail

def lift (r:ARes) (h:Hp):HRes:=match r with
 | .val v _=>.val v h
 | .call f as _=>.call f as h
 | .yield l as _=>.yield l as h
 | .fail=>.fail

theorem fits_lift {H:Heap} {h:Hp} (a:HR H h) (r:ARes):Fits (retag r H) (lift r h):=by
 cases r <;> simp [retag,lift,Fits,a]

theorem fits_retag {H:Heap} {h:Hp} (a:HR H h) {F:Heap→ARes} (e:∀ H,F H = retag (F D0) H):Fits (F H) (lift (F D0) h):=by
 rw [e]; exact fits_lift a _

section
variable {E:Env}
theorem ofVal_tag (v:Option Value) (H:Heap):ofVal H v = retag (ofVal D0 v) H:=by cases v <;> rfl
theorem nilChecked_tag (v:Value) (H:Heap):nilChecked H v = retag (nilChecked D0 v) H:=by
 cases v with
 | pointer a=>cases a <;> rfl
 | func fn a b=>cases fn <;> rfl
 | _=>rfl
theorem onOne_tag (v:Value) (r:Unit→Option Value) (H:Heap):onOne H v r = retag (onOne D0 v r) H:=by
 unfold onOne; split
 ·exact ofVal_tag _ _
 ·rfl
theorem toArrayTI_tag (v:Value) (i:Option TI) (H:Heap):toArrayTI H v i = retag (toArrayTI D0 v i) H:=by
 unfold toArrayTI
 cases i with
 | none=>rfl
 | some i =>
  dsimp only
  split
  ·unfold toArray
   split
   ·split <;> rfl
   ·rfl
  ·rfl
theorem ifaceOf_tag (t:TypeId) (v:Value) (i:Option TI) (H:Heap):ifaceOf H t v i = retag (ifaceOf D0 t v i) H:=by
 unfold ifaceOf
 cases i with
 | none=>rfl
 | some i=>dsimp only; split <;> rfl
theorem funcOf_tag (fn:Fn) (a b:List Value) (H:Heap):funcOf H fn a b = retag (funcOf D0 fn a b) H:=by cases fn <;> rfl
theorem fieldAddrF_tag (v:Value) (fd:Option Field) (H:Heap):fieldAddrF E H v fd = retag (fieldAddrF E D0 v fd) H:=by
 unfold fieldAddrF
 cases fd with
 | none=>rfl
 | some fd =>
  dsimp only
  split
  ·unfold fieldPtr
   split
   ·split <;> rfl
   ·rfl
  ·rfl
theorem fieldF_tag (v:Value) (fd:Option Field) (H:Heap):fieldF E H v fd = retag (fieldF E D0 v fd) H:=by
 unfold fieldF
 cases fd with
 | none=>rfl
 | some fd =>
  dsimp only
  split
  ·unfold partOf
   split
   ·exact ofVal_tag _ _
   ·rfl
  ·rfl
theorem elemPtr_tag (r o:Nat) (ei:Option TI) (j:Option Nat) (H:Heap):elemPtr H r o ei j = retag (elemPtr D0 r o ei j) H:=by
 unfold elemPtr
 cases ei <;> cases j <;> rfl
theorem indexAddrTI_tag (v j:Value) (i:Option TI) (H:Heap):indexAddrTI E H v j i = retag (indexAddrTI E D0 v j i) H:=by
 unfold indexAddrTI
 cases i with
 | none=>rfl
 | some i =>
  dsimp only
  split
  ·split
   ·exact elemPtr_tag _ _ _ _ _
   ·rfl
  ·split
   ·split
    ·rfl
    ·exact elemPtr_tag _ _ _ _ _
   ·rfl
  ·rfl
theorem indexTI_tag (v j:Value) (i:Option TI) (H:Heap):indexTI E H v j i = retag (indexTI E D0 v j i) H:=by
 unfold indexTI
 cases i with
 | none=>rfl
 | some i =>
  dsimp only
  split
  ·split
   ·unfold elemOf
    split
    ·split
     ·exact ofVal_tag _ _
     ·rfl
    ·rfl
   ·rfl
  ·split
   ·unfold byteAt
    split
    ·split <;> rfl
    ·rfl
   ·rfl
  ·rfl
theorem extracted_tag (v:Value) (i:Nat) (H:Heap):extracted H v i = retag (extracted D0 v i) H:=by
 unfold extracted
 split
 ·exact ofVal_tag _ _
 ·rfl
theorem aggIs_tag (c:Option (List Value)) (H:Heap):aggIs H c = retag (aggIs D0 c) H:=by cases c <;> rfl
theorem buildZ_tag (ps:List (Nat×Value)) (i:TI) (H:Heap):buildZ E H ps i = retag (buildZ E D0 ps i) H:=by
 unfold buildZ
 split
 ·unfold buildTI
  split
  ·split
   ·exact aggIs_tag _ _
   ·rfl
  ·split
   ·exact aggIs_tag _ _
   ·rfl
  ·rfl
 ·rfl
theorem callFunc_tag (f:FuncId) (as:List Value) (H:Heap):callFunc E f as H = retag (callFunc E f as D0) H:=by
 unfold callFunc
 split
 ·unfold callFn
  split
  ·split <;> rfl
  ·rfl
 ·rfl
theorem aCall_tag (f:Value) (as:List Value) (H:Heap):aCall E H f as = retag (aCall E D0 f as) H:=by
 unfold aCall
 split
 ·unfold aCallFn
  split
  ·exact callFunc_tag _ _ _
  ·rfl
  ·unfold callVia
   split
   ·unfold callViaAt
    split
    ·split
     ·split
      ·exact callFunc_tag _ _ _
      ·rfl
     ·rfl
    ·rfl
   ·rfl
  ·rfl
 ·rfl
theorem onData_tag (as:List Value) (r:Unit→Option Value) (H:Heap):onData H as r = retag (onData D0 as r) H:=by
 unfold onData; split
 ·exact ofVal_tag _ _
 ·rfl
end

/-! What the operations on memory come to. -/

def newCells (E:Env) (t:TypeId):Option (List Value):=match zeroOf (E.ty t) with
 | some z=>cellsOf z
 | none=>none
def hbox (h:Hp) (t:TypeId) (cells:Option (List Value)):HRes:=match cells with
 | some cells=>.val (ptr0 h.next) (h.lay (.row t true cells))
 | none=>.fail
def hbuild (E:Env) (h:Hp) (t:TypeId) (ps:List (Nat×Value)):HRes:=match E.ty t with
 | some i=>lift (buildZ E D0 ps i) h
 | none=>.fail
def slitCells (E:Env) (t:TypeId) (len:Nat) (ps:List (Nat×Value)):Option (TypeId×List Value):=match sliceElem E t with
 | some (e,ei)=>match zeroCells ei with
  | some z=>match Nat.ble (Nat.mul len ei.size) 10000 && Nat.beq z.length ei.size with
   | true=>match fill (arrayPlace ei.size) (times z len) ps with
    | some cells=>some (e,cells)
    | none=>none
   | false=>none
  | none=>none
 | none=>none
def hslit (h:Hp) (len:Nat) (x:Option (TypeId×List Value)):HRes:=match x with
 | some (e,cells)=>.val (slc h.next 0 len len) (h.lay (.row e true cells))
 | none=>.fail
def hloadTI (h:Hp) (r o:Nat) (i:TI):Option Value:=match i.agg with
 | true=>aggOf (cellsAt h r o i.size)
 | false=>cellAt h r o
def hload (E:Env) (h:Hp) (t:TypeId) (r o:Nat):Option Value:=match E.ty t with
 | some i=>hloadTI h r o i
 | none=>none
def hval (h:Hp) (v:Option Value):HRes:=match v with
 | some v=>.val v h
 | none=>.fail
def hmem (h:Option Hp):HRes:=match h with
 | some h=>.val undef h
 | none=>.fail
def hptr (v:Value) (k:Nat→Nat→HRes):HRes:=match v with
 | .pointer (some ⟨r,o,none⟩)=>k r o
 | _=>.fail
def hstore (E:Env) (h:Hp) (t:TypeId) (r o:Nat) (v:Value):Option Hp:=match E.ty t with
 | some i=>match cellsOf v with
  | some vs=>if vs.length = i.size then storeAt h r o vs else none
  | none=>none
 | none=>none

def hentries (h:Hp) (r:Nat):Option (List Entry×Nat):=match h.at r with
 | some (.map es c)=>some (es,c)
 | _=>none
def hmapOf (h:Hp) (m:Value):Option (List Entry×Nat):=match m with
 | .map none=>some ([],0)
 | .map (some r)=>hentries h r
 | _=>none
def hlookup (E:Env) (h:Hp) (t:TypeId) (m k:Value) (ok:Bool):Option Value:=match E.ty t with
 | none=>none
 | some i=>match i.desc with
  | .map kt et=>lookIn E kt et k ok (hmapOf h m)
  | _=>none
def hupdated (h:Hp) (r:Nat) (k v:Value) (es:List Entry) (c:Nat) (f:Option (Option (Nat×Entry))):Option Hp:=match f with
 | none=>none
 | some (some (i,k',_,b))=>match Instr.sameBits 10000 k' k with
  | true=>some (h.set r (.map (setAt es i (k,v,b)) c))
  | false=>none
 | some none=>some (h.set r (.map (es ++ [(k,v,c)]) (Nat.succ c)))
def hupdateAt (E:Env) (h:Hp) (kt:TypeId) (r:Nat) (k v:Value) (m:Option (List Entry×Nat)):Option Hp:=match keyOk E kt k with
 | false=>none
 | true=>match m with
  | none=>none
  | some (es,c)=>hupdated h r k v es c (findKey E.prog kt k es 0)
def hupdate (E:Env) (h:Hp) (t:TypeId) (m k v:Value):Option Hp:=match E.ty t with
 | none=>none
 | some i=>match i.desc with
  | .map kt _=>match m with
   | .map (some r)=>hupdateAt E h kt r k v (hentries h r)
   | _=>none
  | _=>none
def hentered (h:Hp) (r:Nat) (k:Value) (ei:TI) (es:List Entry) (c:Nat) (f:Option (Option (Nat×Entry))):HRes:=match f with
 | none=>.fail
 | some (some (i,k',v,b))=>match Instr.sameBits 10000 k' k with
  | true=>.val (.tuple #[v,.int .i64 (.ofNat b)]) (h.set r (.map (setAt es i (k,v,b)) c))
  | false=>.fail
 | some none=>match ei.zero with
  | some z=>.val (.tuple #[z,.int .i64 (.ofNat c)]) (h.set r (.map (es ++ [(k,z,c)]) (Nat.succ c)))
  | none=>.fail
def hentryAt (E:Env) (h:Hp) (kt et:TypeId) (r:Nat) (k:Value) (m:Option (List Entry×Nat)):HRes:=match keyOk E kt k with
 | false=>.fail
 | true=>match m with
  | none=>.fail
  | some (es,c)=>match E.ty et with
   | none=>.fail
   | some ei=>hentered h r k ei es c (findKey E.prog kt k es 0)
def hentry (E:Env) (h:Hp) (t:TypeId) (m k:Value):HRes:=match E.ty t with
 | none=>.fail
 | some i=>match i.desc with
  | .map kt et=>match m with
   | .map (some r)=>hentryAt E h kt et r k (hentries h r)
   | _=>.fail
  | _=>.fail
def hbornSet (h:Hp) (r c:Nat) (es:Option (List Entry)):Option Hp:=match es with
 | some es=>some (h.set r (.map es c))
 | none=>none
def hentryStored (h:Hp) (r:Nat) (s v:Value) (m:Option (List Entry×Nat)):Option Hp:=match m with
 | none=>none
 | some (es,c)=>match s with
  | .int _ (.ofNat b)=>hbornSet h r c (setBorn b v es)
  | _=>none
def hentryStore (h:Hp) (m s v:Value):Option Hp:=match m with
 | .map (some r)=>hentryStored h r s v (hentries h r)
 | _=>none

def helems (h:Hp) (size n:Nat):Value→Option (List Value)
 | .slice (some ⟨r,o,sp⟩) _ _=>match sp with
  | some 2=>if n * size = 0 then some [] else none
  | _=>cellsAt h r o (n * size)
 | .slice none _ _=>some []
 | .string s=>some ((s.data.toList.take n).map byteVal)
 | _=>none

def hmoved (h:Hp) (base:Option Addr) (e sc size:Nat):Option Hp:=match base with
 | none=>some h
 | some ⟨r,o,none⟩=>match h.at r with
  | some (.row e' x cs)=>match x with
   | true=>some h
   | false=>if e = e'∧o + sc * size≤cs.length then some (h.set r .dead) else none
  | _=>none
 | some ⟨_,_,some _⟩=>some h
def hgrown (e l:Nat) (cells:List Value) (h:Option Hp):HRes:=match h with
 | some h=>.val (slc h.next 0 l l) (h.lay (.row e false cells))
 | none=>.fail
def hgrows (h:Hp) (e:TypeId) (ei:TI) (base:Option Addr) (sc n l:Nat) (new:List Value) (old:Option (List Value)):HRes:=match old with
 | none=>.fail
 | some old=>match smallCells ei n l new && Nat.ble 1 ei.size with
  | true=>hgrown e l (old ++ new) (hmoved h base e sc ei.size)
  | false=>.fail
def hfits (h:Hp) (ei:TI) (base:Option Addr) (sl sc l:Nat) (new:List Value):HRes:=match base with
 | some ⟨r,o,s⟩=>match storeAt h r (o + sl * ei.size) new with
  | some h=>.val (.slice (some ⟨r,o,s⟩) l sc) h
  | none=>.fail
 | none=>match new with
  | []=>.val (.slice none l sc) h
  | _=>.fail
def happendTo (h:Hp) (e:TypeId) (ei:TI) (base:Option Addr) (sl sc n:Nat) (new:Option (List Value)):HRes:=match new with
 | none=>.fail
 | some new=>if sl + n≤sc then hfits h ei base sl sc (sl + n) new else hgrows h e ei base sc n (sl + n) new (helems h ei.size sl (.slice base sl sc))
def happendMade (h:Hp) (e:TypeId) (ei:TI) (s:Value) (n:Option Nat):HRes:=match n with
 | none=>.fail
 | some n=>match Nat.ble (Nat.mul n ei.bytes) 1073741824 with
  | false=>.fail
  | true=>match s with
   | .slice base sl sc=>match voidBase base with
    | true=>.fail
    | false=>happendTo h e ei base sl sc n (zeroElems ei n)
   | _=>.fail
def happendArgs (E:Env) (h:Hp) (s x:Value) (xt:TypeId) (se:Option (TypeId×TI)):HRes:=match se with
 | none=>.fail
 | some (e,ei)=>match E.ty xt with
  | none=>.fail
  | some xi=>match isIntDesc xi.desc with
   | true=>happendMade h e ei s (asNat 100000 x)
   | false=>match lenOf x with
    | none=>.fail
    | some n=>match s with
     | .slice base sl sc=>match voidBase base with
      | true=>.fail
      | false=>happendTo h e ei base sl sc n (helems h ei.size n x)
     | _=>.fail
def happend (E:Env) (h:Hp) (ts:List TypeId) (as:List Value):HRes:=match ts with
 | [st,xt]=>match as with
  | [s,x]=>happendArgs E h s x xt (sliceElem E st)
  | _=>.fail
 | _=>.fail
def hcopyInto (h:Hp) (base:Option Addr) (n:Nat) (new:Option (List Value)):HRes:=match new with
 | none=>.fail
 | some new=>match base with
  | none=>.val (.int .i64 (.ofNat n)) h
  | some ⟨r,o,sp⟩=>match voidSp sp with
   | true=>.fail
   | false=>match storeAt h r o new with
    | some h=>.val (.int .i64 (.ofNat n)) h
    | none=>.fail
def hcopyArgs (h:Hp) (s x:Value) (se:Option (TypeId×TI)):HRes:=match se with
 | none=>.fail
 | some (_,ei)=>match s with
  | .slice base dl _=>match lenOf x with
   | none=>.fail
   | some sl=>hcopyInto h base (min sl dl) (helems h ei.size (min sl dl) x)
  | _=>.fail
def hcopy (E:Env) (h:Hp) (ts:List TypeId) (as:List Value):HRes:=match ts with
 | dt :: _=>match as with
  | [s,x]=>hcopyArgs h s x (sliceElem E dt)
  | _=>.fail
 | _=>.fail
def hlenTI (E:Env) (h:Hp) (x:Value) (i:TI):Option Value:=match i.desc with
 | .map _ _=>lenOfMap (hmapOf h x)
 | _=>lenTI E D0 x i
def hlen (E:Env) (h:Hp) (ts:List TypeId) (as:List Value):Option Value:=match ts with
 | t :: _=>match as with
  | x :: _=>match E.ty t with
   | none=>none
   | some i=>hlenTI E h x i
  | _=>none
 | _=>none
def hcapOf (n:Nat) (o:Option Obj):Option Value:=match o with
 | some (.row _ true _)=>lenIs n
 | _=>none
def hcapTI (h:Hp) (x:Value) (i:TI):Option Value:=match i.desc with
 | .slice _=>match x with
  | .slice none _ n=>lenIs n
  | .slice (some ⟨r,_,none⟩) _ n=>hcapOf n (h.at r)
  | .slice (some ⟨_,_,some 1⟩) _ n=>lenIs n
  | _=>none
 | _=>none
def hcap (E:Env) (h:Hp) (ts:List TypeId) (as:List Value):Option Value:=match ts with
 | t :: _=>match as with
  | x :: _=>match E.ty t with
   | none=>none
   | some i=>hcapTI h x i
  | _=>none
 | _=>none
def hbuiltin (E:Env) (h:Hp) (b:Builtin) (ts:Array TypeId) (type:TypeId) (as:List Value):HRes:=match b with
 | .append=>happend E h ts.toList as
 | .copy=>hcopy E h ts.toList as
 | .len=>hval h (hlen E h ts.toList as)
 | .cap=>hval h (hcap E h ts.toList as)
 | .max=>lift (onData D0 as fun _=>pureRun E.prog (Builtin.max_ ts type ⟨as⟩)) h
 | .min=>lift (onData D0 as fun _=>pureRun E.prog (Builtin.min_ ts type ⟨as⟩)) h
 | _=>.fail
def hmakeCells (l c:Option Nat) (se:Option (TypeId×TI)):Option (TypeId×Nat×Nat×List Value):=match se with
 | some (e,ei)=>match zeroCells ei with
  | some z=>match l with
   | some l=>match c with
    | some c=>match Nat.ble l c && Nat.ble (Nat.mul ei.bytes c) 1073741824 && Nat.beq z.length ei.size with
     | true=>some (e,l,c,times z c)
     | false=>none
    | none=>none
   | none=>none
  | none=>none
 | none=>none
def hmake (h:Hp) (x:Option (TypeId×Nat×Nat×List Value)):HRes:=match x with
 | some (e,l,c,cells)=>.val (slc h.next 0 l c) (h.lay (.row e true cells))
 | none=>.fail
def hcutObj (h:Hp) (size r o:Nat) (noMax:Bool) (b:Option (Nat×Nat×Nat)) (x:Option Obj):HRes:=match x with
 | some (.row _ x _)=>match x with
  | true=>lift (cutExact D0 size r o b) h
  | false=>lift (cutOf D0 size r o noMax b) h
 | some (.lent _)=>lift (cutOf D0 size r o noMax b) h
 | _=>.fail
def hslice (E:Env) (h:Hp) (v:Value) (lo hi mx:Option Value) (i:TI):HRes:=match i.desc with
 | .slice elem=>match E.ty elem with
  | none=>.fail
  | some ei=>match v with
   | .slice (some ⟨r,o,none⟩) len cap=>hcutObj h ei.size r o mx.isNone (bounds len cap lo hi mx) (h.at r)
   | _=>lift (sliceTI E D0 v lo hi mx i) h
 | _=>lift (sliceTI E D0 v lo hi mx i) h
def hmapNew (x:New) (h:Hp):HRes:=match x with
 | some _=>.val (mapAt h.next) (h.lay (.map [] 0))
 | none=>.fail
def hrange (h:Hp) (i:Option TI) (v:Value):HRes:=match i with
 | some i=>match i.desc with
  | .string=>match v with
   | .string s=>.val (ptr0 h.next) (h.lay (.iter s 0))
   | _=>.fail
  | _=>.fail
 | none=>.fail
def hnextAt (h:Hp) (r:Nat) (s:ByteArray) (pos:Nat) (p:Nat×Nat):HRes :=
 .val (.tuple #[.bool true,.int .i64 (.ofNat pos),.int .i32 (.ofNat p.1)]) (h.set r (.iter s (pos + p.2)))
def hnext (h:Hp) (isString:Bool) (v:Value):HRes:=match isString with
 | true=>match v with
  | .pointer (some ⟨r,0,none⟩)=>match h.at r with
   | some (.iter s pos)=>if pos < s.size then hnextAt h r s pos (Utf8.decode s pos) else .val (.tuple #[.bool false]) h
   | _=>.fail
  | _=>.fail
 | false=>.fail
def hconvSlice (E:Env) (h:Hp) (src dst:TypeId) (v:Value):HRes:=match v with
 | .slice (some ⟨r,o,sp⟩) len _=>match isBytes E src && isStr E dst with
  | true=>match bytesIn (helems h 1 len (.slice (some ⟨r,o,sp⟩) len len)) with
   | some bs=>.val (.string ⟨⟨bs⟩⟩) h
   | none=>.fail
  | false=>.fail
 | _=>.fail
def hconvert (E:Env) (h:Hp) (src dst:TypeId) (v:Value):HRes:=match isData 1 v with
 | true=>hval h (dataOnly (pureRun E.prog (convert src dst v)))
 | false=>hconvSlice E h src dst v

def runφ (E:Env) (op:Op) (type:TypeId) (φ:Frame) (h:Hp):HRes:=match op with
 | .move x=>.val (evφ φ x) h
 | .assign x=>.val (evφ φ x) h
 | .pick c a b=>match evφ φ c with
  | .bool true=>.val (evφ φ a) h
  | .bool false=>.val (evφ φ b) h
  | _=>.fail
 | .alloc t=>hbox h t (newCells E t)
 | .box t x=>hbox h t (cellsOf (evφ φ x))
 | .build t ps=>hbuild E h t (evPφ φ ps.toList)
 | .buildSlice t len ps=>hslit h len (slitCells E t len (evPφ φ ps.toList))
 | .insert t m k x=>hmem (hupdate E h t (evφ φ m) (evφ φ k) (evφ φ x))
 | .load t a=>hptr (evφ φ a) fun r o=>hval h (hload E h t r o)
 | .store t a x=>hptr (evφ φ a) fun r o=>hmem (hstore E h t r o (evφ φ x))
 | .nilCheck x=>lift (nilChecked D0 (evφ φ x)) h
 | .binOp op t x y _=>hval h (aBin E op t x y (evφ φ x) (evφ φ y))
 | .unOp op _ x=>lift (onOne D0 (evφ φ x) fun _=>pureRun E.prog (Op.unary op (evφ φ x))) h
 | .convert src dst x=>hconvert E h src dst (evφ φ x)
 | .sliceToArrayPointer t x=>lift (toArrayTI D0 (evφ φ x) (E.ty t)) h
 | .makeInterface t x=>lift (ifaceOf D0 t (evφ φ x) (E.ty t)) h
 | .makeFunc fn a b=>lift (funcOf D0 fn (evLφ φ a.toList) (evLφ φ b.toList)) h
 | .makeMap t r=>hmapNew (match r with | none=>newMap | some x=>mapHint (E.ty t) (evφ φ x)) h
 | .makeSlice t l c=>hmake h (hmakeCells (asNat 100000 (evφ φ l)) (asNat 100000 (evφ φ c)) (sliceElem E t))
 | .slice t x lo hi mx=>match E.ty t with
  | some i=>hslice E h (evφ φ x) (evOφ φ lo) (evOφ φ hi) (evOφ φ mx) i
  | none=>.fail
 | .fieldAddr t x f=>lift (fieldAddrF E D0 (evφ φ x) (fieldOf (E.ty t) f)) h
 | .field t x f=>lift (fieldF E D0 (evφ φ x) (fieldOf (E.ty t) f)) h
 | .indexAddr t x j=>lift (indexAddrTI E D0 (evφ φ x) (evφ φ j) (E.ty t)) h
 | .index t x j=>lift (indexTI E D0 (evφ φ x) (evφ φ j) (E.ty t)) h
 | .lookup t x j ok=>hval h (hlookup E h t (evφ φ x) (evφ φ j) ok)
 | .mapUpdate t m k x=>hmem (hupdate E h t (evφ φ m) (evφ φ k) (evφ φ x))
 | .mapEntry t m k=>hentry E h t (evφ φ m) (evφ φ k)
 | .entryStore _ m s x=>hmem (hentryStore h (evφ φ m) (evφ φ s) (evφ φ x))
 | .range t x=>hrange h (E.ty t) (evφ φ x)
 | .next x isString=>hnext h isString (evφ φ x)
 | .extract x i=>lift (extracted D0 (evφ φ x) i) h
 | .call c=>match c.callee with
  | .value f=>lift (aCall E D0 (evφ φ f) (evLφ φ c.args.toList)) h
  | .builtin b=>hbuiltin E h b c.argTypes type (evLφ φ c.args.toList)
  | .invoke _ _=>.fail
 | _=>.fail

end
end Go.Rx
