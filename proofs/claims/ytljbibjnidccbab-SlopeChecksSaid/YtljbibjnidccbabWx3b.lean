/- Contracts by what is to be shown of each step: a part of the engine. -/
import Derived.Test.YtljbibjnidccbabWx3
set_option linter.unusedVariables false
set_option linter.unusedSectionVars false
set_option linter.unusedSimpArgs false
namespace Go.Rx
noncomputable section

/-! What operations come to whose types are known. -/

@[irreducible] def wrapI (k:IntKind) (n:Int):Int:=k.wrap n
def arBits (k:IntKind) (op:BinOp) (m n:Int):Int:=match op with
 | .and=>k.wrap (BitVec.toNat (BitVec.ofInt k.bits m &&& BitVec.ofInt k.bits n))
 | .or=>k.wrap (BitVec.toNat (BitVec.ofInt k.bits m ||| BitVec.ofInt k.bits n))
 | .xor=>k.wrap (BitVec.toNat (BitVec.ofInt k.bits m ^^^ BitVec.ofInt k.bits n))
 | _=>k.wrap (BitVec.toNat (BitVec.ofInt k.bits m &&& ~~~ BitVec.ofInt k.bits n))
def arK (k:IntKind) (op:BinOp) (m n:Int):Option Value:=match op with
 | .add=>some (.int k (wrapI k (m + n)))
 | .sub=>some (.int k (wrapI k (m - n)))
 | .mul=>some (.int k (wrapI k (m * n)))
 | .quo=>if n = 0 then none else some (.int k (wrapI k (m.tdiv n)))
 | .rem=>if n = 0 then none else some (.int k (m.tmod n))
 | .and=>some (.int k (arBits k .and m n))
 | .or=>some (.int k (arBits k .or m n))
 | .xor=>some (.int k (arBits k .xor m n))
 | .andNot=>some (.int k (arBits k .andNot m n))
 | .eql=>some (.bool (decide (m = n)))
 | .neq=>some (.bool (decide (m≠n)))
 | .lss=>some (.bool (decide (m < n)))
 | .leq=>some (.bool (decide (m≤n)))
 | .gtr=>some (.bool (decide (n < m)))
 | .geq=>some (.bool (decide (n≤m)))
 | .shl=>none
 | .shr=>none
def shK (k:IntKind) (op:BinOp) (m n:Int):Option Value:=match op with
 | .shl=>if n < 0 then none else some (.int k (wrapI k (m * 2 ^ (min n.toNat k.bits))))
 | .shr=>if n < 0 then none else some (.int k (m.fdiv (2 ^ (min n.toNat k.bits))))
 | _=>none
def isShift:BinOp→Bool
 | .shl=>true
 | .shr=>true
 | _=>false
def arV (k:IntKind) (op:BinOp) (a b:Value):Option Value:=match a with
 | .int k1 m=>match b with
  | .int k2 n=>match isShift op with
   | true=>if k1 = k then shK k op m n else none
   | false=>if k1 = k∧k2 = k then arK k op m n else none
  | _=>none
 | _=>none
def strV (op:BinOp) (a b:Value):Option Value:=match a with
 | .string s=>match b with
  | .string t=>match op with
   | .add=>if s.size + t.size≤9223372036854775807 then some (.string (s ++ t)) else none
   | .eql=>some (.bool (s.toList == t.toList))
   | .neq=>some (.bool !(s.toList == t.toList))
   | .lss=>some (.bool (Op.bytesLess s.toList t.toList))
   | .leq=>some (.bool (Op.bytesLess s.toList t.toList || s.toList == t.toList))
   | .gtr=>some (.bool !(Op.bytesLess s.toList t.toList || s.toList == t.toList))
   | .geq=>some (.bool !(Op.bytesLess s.toList t.toList))
   | _=>none
  | _=>none
 | _=>none
def notV (a:Value):Option Value:=match a with
 | .bool b=>some (.bool !b)
 | _=>none
def cintV (k:IntKind) (a:Value):Option Value:=match a with
 | .int _ n=>some (.int k (wrapI k n))
 | _=>none

def fillφ (φ:Frame) (cells:List Value):List (Nat×Nat×Operand)→Option (List Value)
 | []=>some cells
 | (off,size,x) :: rest=>match cellsOf (evφ φ x) with
  | none=>none
  | some vs=>match Nat.beq vs.length size with
   | false=>none
   | true=>match lay cells off vs with
    | none=>none
    | some cells=>fillφ φ cells rest
def aggV (c:Option (List Value)):Option Value:=match c with
 | some cells=>some (.agg ⟨cells⟩)
 | none=>none
def hslitT (h:Hp) (e len:Nat) (c:Option (List Value)):HRes:=match c with
 | some cells=>.val (slc h.next 0 len len) (h.lay (.row e true cells))
 | none=>.fail
def hmakeT (h:Hp) (e:TypeId) (z:List Value) (bytes:Nat) (l c:Option Nat):HRes:=match l with
 | some l=>match c with
  | some c=>match Nat.ble l c && Nat.ble (Nat.mul bytes c) 1073741824 with
   | true=>.val (slc h.next 0 l c) (h.lay (.row e true (times z c)))
   | false=>.fail
  | none=>.fail
 | none=>.fail
def hstoreT (h:Hp) (m r o:Nat) (v:Value):HRes:=match cellsOf v with
 | some vs=>if vs.length = m then hmem (storeAt h r o vs) else .fail
 | none=>.fail
def hcutStr (h:Hp) (v:Value) (lo hi:Option Value):HRes:=match v with
 | .string s=>match bounds s.size s.size lo hi none with
  | some (l,e,_)=>.val (.string (s.extract l e)) h
  | none=>.fail
 | _=>.fail
def hcutS (h:Hp) (size:Nat) (v:Value) (lo hi mx:Option Value):HRes:=match v with
 | .slice none len cap=>lift (cutNil D0 (bounds len cap lo hi mx)) h
 | .slice (some ⟨r,o,none⟩) len cap=>hcutObj h size r o mx.isNone (bounds len cap lo hi mx) (h.at r)
 | .slice (some ⟨r,o,some 1⟩) len cap=>lift (cutLim D0 size r o (bounds len cap lo hi mx)) h
 | .slice (some ⟨_,_,some 2⟩) _ _=>lift (cutVoid D0 mx.isNone (bounds 0 0 lo hi mx)) h
 | _=>.fail
def hcutA (h:Hp) (n size:Nat) (v:Value) (lo hi mx:Option Value):HRes:=match v with
 | .pointer (some ⟨r,o,none⟩)=>lift (cutLim D0 size r o (bounds n n lo hi mx)) h
 | _=>.fail
def fldAV (off:Nat) (v:Value):Option Value:=match v with
 | .pointer (some ⟨r,o,none⟩)=>some (ptr r (o + off))
 | _=>none
def fld1V (off:Nat) (v:Value):Option Value:=match v with
 | .agg cs=>cs.toList[off]?
 | _=>none
def fldNV (off m:Nat) (v:Value):Option Value:=match v with
 | .agg cs=>if off + m≤cs.toList.length then some (.agg ⟨(cs.toList.drop off).take m⟩) else none
 | _=>none
def idxN (n:Nat) (j:Value):Option Nat:=match j with
 | .int _ j=>if 0≤j∧j < (n:Int) then some j.toNat else none
 | _=>none
def idxAV (n size:Nat) (v:Value) (j:Value):Option Value:=match v with
 | .pointer (some ⟨r,o,none⟩)=>match idxN n j with
  | some j=>some (ptr r (o + j * size))
  | none=>none
 | _=>none
def idxSV (size:Nat) (v:Value) (j:Value):Option Value:=match v with
 | .slice (some ⟨r,o,sp⟩) n _=>match voidSp sp with
  | true=>none
  | false=>match idxN n j with
   | some j=>some (ptr r (o + j * size))
   | none=>none
 | _=>none
def ix1V (n:Nat) (v j:Value):Option Value:=match v with
 | .agg cs=>match idxN n j with
  | some j=>cs.toList[j]?
  | none=>none
 | _=>none
def ixNV (n m:Nat) (v j:Value):Option Value:=match v with
 | .agg cs=>match idxN n j with
  | some j=>if j * m + m≤cs.toList.length then some (.agg ⟨(cs.toList.drop (j * m)).take m⟩) else none
  | none=>none
 | _=>none
def ixStrV (v j:Value):Option Value:=match v with
 | .string s=>match idxN s.size j with
  | some j=>match s.data.toList[j]? with
   | some b=>some (byteVal b)
   | none=>none
  | none=>none
 | _=>none
def extV (v:Value) (i:Nat):Option Value:=match v with
 | .tuple vs=>vs.toList[i]?
 | _=>none
def lenSV (v:Value):Option Value:=match v with
 | .slice _ n _=>some (.int .i64 (n:Int))
 | _=>none
def lenStrV (v:Value):Option Value:=match v with
 | .string s=>some (.int .i64 (s.size:Int))
 | _=>none
def toArrV (n:Nat) (v:Value):Option Value:=match v with
 | .slice (some ⟨r,o,sp⟩) len _=>match Nat.ble n len && !voidSp sp with
  | true=>some (ptr r o)
  | false=>none
 | _=>none
def funcV (fn:Fn) (a b:List Value):Option Value:=match fn with
 | .func _=>some (.func fn ⟨a⟩ ⟨b⟩)
 | .via _ _ _ _=>some (.func fn ⟨a⟩ ⟨b⟩)
 | _=>none
def nilcV (v:Value):Option Value:=match v with
 | .pointer (some a)=>some (.pointer (some a))
 | .func fn a b=>match fn with
  | .func _=>some (.func fn a b)
  | .yield _=>some (.func fn a b)
  | .via _ _ _ _=>some (.func fn a b)
  | _=>none
 | .iface t v=>some (.iface t v)
 | _=>none
def smallN (size bytes n l:Nat) (new:List Value):Bool:=Nat.ble (Nat.mul l bytes) 1073741824 && Nat.ble l 1073741824 && new.all oneCell && Nat.beq new.length (Nat.mul n size)
def hgrowsT (h:Hp) (e size bytes:Nat) (base:Option Addr) (sc n l:Nat) (new:List Value) (old:Option (List Value)):HRes:=match old with
 | none=>.fail
 | some old=>match smallN size bytes n l new with
  | true=>hgrown e l (old ++ new) (hmoved h base e sc size)
  | false=>.fail
def hfitsT (h:Hp) (size:Nat) (base:Option Addr) (sl sc l:Nat) (new:List Value):HRes:=match base with
 | some ⟨r,o,s⟩=>match storeAt h r (o + sl * size) new with
  | some h=>.val (.slice (some ⟨r,o,s⟩) l sc) h
  | none=>.fail
 | none=>match new with
  | []=>.val (.slice none l sc) h
  | _=>.fail
def happT (h:Hp) (e size bytes:Nat) (s x:Value):HRes:=match s with
 | .slice base sl sc=>match voidBase base with
  | true=>.fail
  | false=>match lenOf x with
   | none=>.fail
   | some n=>match helems h size n x with
    | none=>.fail
    | some new=>if sl + n≤sc then hfitsT h size base sl sc (sl + n) new else hgrowsT h e size bytes base sc n (sl + n) new (helems h size sl (.slice base sl sc))
 | _=>.fail
def hcopyT (h:Hp) (size:Nat) (s x:Value):HRes:=match s with
 | .slice base dl _=>match lenOf x with
  | none=>.fail
  | some sl=>hcopyInto h base (min sl dl) (helems h size (min sl dl) x)
 | _=>.fail

def callV (E:Env) (h:Hp) (f:Value) (xs:List Value):HRes:=match f with
 | .func fn first captured=>match fn with
  | .func g=>match callable E g with
   | true=>.call g (first.toList ++ xs ++ captured.toList) h
   | false=>.fail
  | .yield l=>.yield l (first.toList ++ xs) h
  | _=>lift (aCall E D0 (.func fn first captured) xs) h
 | _=>.fail

def runT (E:Env) (op:TOp) (φ:Frame) (h:Hp):HRes:=match op with
 | .mov x=>.val (evφ φ x) h
 | .pick c a b=>match evφ φ c with
  | .bool true=>.val (evφ φ a) h
  | .bool false=>.val (evφ φ b) h
  | _=>.fail
 | .alloc e cells=>.val (ptr0 h.next) (h.lay (.row e true cells))
 | .box e x=>hbox h e (cellsOf (evφ φ x))
 | .aggr z ps=>hval h (aggV (fillφ φ z ps))
 | .slit e n z ps=>hslitT h e n (fillφ φ z ps)
 | .load1 x=>hptr (evφ φ x) fun r o=>hval h (cellAt h r o)
 | .loadN m x=>hptr (evφ φ x) fun r o=>hval h (aggOf (cellsAt h r o m))
 | .store m x y=>hptr (evφ φ x) fun r o=>hstoreT h m r o (evφ φ y)
 | .nilc x=>hval h (nilcV (evφ φ x))
 | .ar k op x y=>hval h (arV k op (evφ φ x) (evφ φ y))
 | .str op x y=>hval h (strV op (evφ φ x) (evφ φ y))
 | .not x=>hval h (notV (evφ φ x))
 | .cint k x=>hval h (cintV k (evφ φ x))
 | .toArr n x=>hval h (toArrV n (evφ φ x))
 | .func fn a b=>hval h (funcV fn (evLφ φ a) (evLφ φ b))
 | .newMap=>.val (mapAt h.next) (h.lay (.map [] 0))
 | .make e z bytes l c=>hmakeT h e z bytes (asNat 100000 (evφ φ l)) (asNat 100000 (evφ φ c))
 | .cutStr x lo hi=>hcutStr h (evφ φ x) (evOφ φ lo) (evOφ φ hi)
 | .cutS size x lo hi mx=>hcutS h size (evφ φ x) (evOφ φ lo) (evOφ φ hi) (evOφ φ mx)
 | .cutA n size x lo hi mx=>hcutA h n size (evφ φ x) (evOφ φ lo) (evOφ φ hi) (evOφ φ mx)
 | .fldA off x=>hval h (fldAV off (evφ φ x))
 | .fld1 off x=>hval h (fld1V off (evφ φ x))
 | .fldN off m x=>hval h (fldNV off m (evφ φ x))
 | .idxA n size x j=>hval h (idxAV n size (evφ φ x) (evφ φ j))
 | .idxS size x j=>hval h (idxSV size (evφ φ x) (evφ φ j))
 | .ix1 n x j=>hval h (ix1V n (evφ φ x) (evφ φ j))
 | .ixN n m x j=>hval h (ixNV n m (evφ φ x) (evφ φ j))
 | .ixStr x j=>hval h (ixStrV (evφ φ x) (evφ φ j))
 | .ext x i=>hval h (extV (evφ φ x) i)
 | .call g xs=>.call g (evLφ φ xs) h
 | .callv f xs=>callV E h (evφ φ f) (evLφ φ xs)
 | .append e size bytes x y=>happT h e size bytes (evφ φ x) (evφ φ y)
 | .copy size x y=>hcopyT h size (evφ φ x) (evφ φ y)
 | .lenS x=>hval h (lenSV (evφ φ x))
 | .lenStr x=>hval h (lenStrV (evφ φ x))
 | .lenA n=>.val (.int .i64 (n:Int)) h
 | .raw op ty=>runφ E op ty φ h

def HLe (a b:HRes):Prop:=a = .fail∨a = b

theorem HLe.refl (a:HRes):HLe a a:=.inr rfl
theorem HLe.fail (b:HRes):HLe .fail b:=.inl rfl
theorem HLe.fits {r:ARes} {a b:HRes} (h:HLe a b) (f:Fits r b):Fits r a:=by
 rcases h with rfl | rfl
 ·trivial
 ·exact f

theorem hle_val {h:Hp} {a b:Option Value} (k:∀ v,a = some v→b = some v):HLe (hval h a) (hval h b):=by
 cases a with
 | none=>exact .fail _
 | some v=>rw [k v rfl]; exact .refl _
theorem hle_lift {h:Hp} {a:Option Value} {r:ARes} (k:∀ v,a = some v→∃ H,r = .val v H):HLe (hval h a) (lift r h):=by
 cases a with
 | none=>exact .fail _
 | some v=>obtain ⟨H,e⟩:=k v rfl; rw [e]; exact .refl _

section
variable {E:Env} {φ:Frame} {h:Hp}

theorem fill_of {place:Nat→Option (Nat×Nat)}:∀ {ps:List (Nat×Operand)} {qs:List (Nat×Nat×Operand)} {z:List Value},placesOf place ps = some qs→fillφ φ z qs = fill place z (evPφ φ ps)
 | [],qs,z,e=>by cases e; rfl
 | (i,x) :: ps,qs,z,e=>by
  unfold placesOf at e
  cases hp:place i with
  | none=>rw [hp] at e; cases e
  | some q =>
   obtain ⟨off,size⟩:=q
   rw [hp] at e
   dsimp only at e
   cases hq:placesOf place ps with
   | none=>rw [hq] at e; cases e
   | some qs' =>
    rw [hq] at e
    cases e
    simp only [fillφ,evPφ,fill,hp]
    cases cellsOf (evφ φ x) with
    | none=>rfl
    | some vs =>
     dsimp only
     cases Nat.beq vs.length size with
     | false=>rfl
     | true =>
      dsimp only
      cases lay z off vs with
      | none=>rfl
      | some cells=>exact fill_of hq

theorem wrap_fwrap (n:Int):fwrap n = IntKind.i64.wrap n:=@fwrap_eq ⟨fun _=>.nilFunc,fun _ _ h=>by cases h⟩ n

theorem ltI_dec (x y:Int):ltI x y = decide (x < y):=by
 cases x <;> cases y <;> simp only [ltI]
 ·rename_i m n
  rw [Bool.eq_iff_iff,Nat.ble_eq]; simp; omega
 ·symm; simp; omega
 ·symm; simp; omega
 ·rename_i m n
  rw [Bool.eq_iff_iff,Nat.ble_eq]; simp; omega
theorem eqI_dec (x y:Int):eqI x y = decide (x = y):=by
 cases x <;> cases y <;> simp only [eqI]
 ·rename_i m n
  rw [Bool.eq_iff_iff,Nat.beq_eq]; simp; omega
 ·symm; simp
 ·symm; simp
 ·rename_i m n
  rw [Bool.eq_iff_iff,Nat.beq_eq]; simp
theorem isZero_dec (x:Int):isZero x = decide (x = 0):=by
 cases x <;> simp only [isZero]
 ·rename_i m
  rw [Bool.eq_iff_iff,Nat.beq_eq]; simp
 ·symm; simp

theorem arK_fast {op:BinOp} {m n:Int} {w:Value} (e:intBin op m n = some w):arK .i64 op m n = some w:=by
 unfold arK wrapI
 cases op with
 | add=>simp only [intBin,wrap_fwrap] at e; exact e
 | sub=>simp only [intBin,wrap_fwrap] at e; exact e
 | mul=>simp only [intBin,wrap_fwrap] at e; exact e
 | quo =>
  simp only [intBin,quoI,isZero_dec,wrap_fwrap] at e ⊢
  by_cases hn:n = 0
  ·rw [decide_eq_true hn] at e; cases e
  ·rw [decide_eq_false hn] at e; rw [if_neg hn]; exact e
 | rem =>
  simp only [intBin,remI,isZero_dec] at e ⊢
  by_cases hn:n = 0
  ·rw [decide_eq_true hn] at e; cases e
  ·rw [decide_eq_false hn] at e; rw [if_neg hn]; exact e
 | eql=>simp only [intBin,eqI_dec] at e; exact e
 | neq=>simp only [intBin,eqI_dec] at e; rw [← e]; simp
 | lss=>simp only [intBin,ltI_dec] at e; exact e
 | leq=>simp only [intBin,ltI_dec] at e; rw [← e]; show some (Value.bool (decide (m≤n))) = _; congr 2; rw [Bool.eq_iff_iff]; simp
 | gtr=>simp only [intBin,ltI_dec] at e; exact e
 | geq=>simp only [intBin,ltI_dec] at e; rw [← e]; show some (Value.bool (decide (n≤m))) = _; congr 2; rw [Bool.eq_iff_iff]; simp
 | _=>cases e

theorem arK_data {k:IntKind} {op:BinOp} {t:TypeId} {x y:Operand} {m n:Int} {v:Value} (e:arK k op m n = some v):binData E op t x y (.int k m) (.int k n) = some v:=by
 have hk:¬ (k≠k):=by simp
 have go : ∀ (w : Value) (s : Sem Value), isData 3 w = true → pureRun E.prog s = some w → (pureRun E.prog (do eqGuard op t x y (.int k m) (.int k n); binOp op t (.int k m) (.int k n)) = pureRun E.prog (if k ≠ k then stuck "BinOp: operands of different kinds" else s)) → binData E op t x y (.int k m) (.int k n) = some w := by
  intro w s hd hs hr
  unfold binData
  rw [hr,if_neg hk,hs]
  unfold dataOnly
  dsimp only
  rw [hd]
 unfold arK wrapI at e
 cases op with
 | add=>cases e; exact go _ (Op.intArith .add k m n) rfl rfl rfl
 | sub=>cases e; exact go _ (Op.intArith .sub k m n) rfl rfl rfl
 | mul=>cases e; exact go _ (Op.intArith .mul k m n) rfl rfl rfl
 | quo =>
  dsimp only at e
  split at e
  ·cases e
  ·rename_i hn
   cases e
   refine go _ (Op.intDiv .quo k m n) rfl ?_ rfl
   unfold Op.intDiv
   rw [if_neg hn]; rfl
 | rem =>
  dsimp only at e
  split at e
  ·cases e
  ·rename_i hn
   cases e
   refine go _ (Op.intDiv .rem k m n) rfl ?_ rfl
   unfold Op.intDiv
   rw [if_neg hn]; rfl
 | and=>cases e; exact go _ (Op.intBits .and k m n) rfl rfl rfl
 | or=>cases e; exact go _ (Op.intBits .or k m n) rfl rfl rfl
 | xor=>cases e; exact go _ (Op.intBits .xor k m n) rfl rfl rfl
 | andNot=>cases e; exact go _ (Op.intBits .andNot k m n) rfl rfl rfl
 | eql=>cases e; exact go _ (Op.intCmp .eql m n) rfl rfl rfl
 | neq =>
  cases e
  refine go _ (Op.intCmp .neq m n) rfl ?_ rfl
  show some (Value.bool (m != n)) = _
  simp [bne,BEq.beq]
 | lss=>cases e; exact go _ (Op.intCmp .lss m n) rfl rfl rfl
 | leq=>cases e; exact go _ (Op.intCmp .leq m n) rfl rfl rfl
 | gtr=>cases e; exact go _ (Op.intCmp .gtr m n) rfl rfl rfl
 | geq=>cases e; exact go _ (Op.intCmp .geq m n) rfl rfl rfl
 | shl=>cases e
 | shr=>cases e

theorem shK_data {k k2:IntKind} {op:BinOp} {t:TypeId} {x y:Operand} {m n:Int} {v:Value} (e:shK k op m n = some v):binData E op t x y (.int k m) (.int k2 n) = some v:=by
 have go:∀ (w:Value) (s:Sem Value),isData 3 w = true→pureRun E.prog s = some w→(pureRun E.prog (do eqGuard op t x y (.int k m) (.int k2 n); binOp op t (.int k m) (.int k2 n)) = pureRun E.prog s)→binData E op t x y (.int k m) (.int k2 n) = some w:=by
  intro w s hd hs hr
  unfold binData
  rw [hr,hs]
  unfold dataOnly
  dsimp only
  rw [hd]
 unfold shK wrapI at e
 cases op with
 | shl =>
  dsimp only at e
  split at e
  ·cases e
  ·rename_i hn
   cases e
   refine go _ (Op.shift .shl k m k2 n) rfl ?_ rfl
   unfold Op.shift
   rw [if_neg hn]; rfl
 | shr =>
  dsimp only at e
  split at e
  ·cases e
  ·rename_i hn
   cases e
   refine go _ (Op.shift .shr k m k2 n) rfl ?_ rfl
   unfold Op.shift
   rw [if_neg hn]; rfl
 | _=>cases e

theorem arV_ok {k:IntKind} {op:BinOp} {t:TypeId} {x y:Operand} {a b v:Value} (e:arV k op a b = some v):aBin E op t x y a b = some v:=by
 unfold arV at e
 split at e
 ·rename_i k1 m
  split at e
  ·rename_i k2 n
   show binInts E op t x y k1 k2 m n = some v
   have data:binData E op t x y (.int k1 m) (.int k2 n) = some v→(∀ w,k1 = .i64→k2 = .i64→intBin op m n = some w→w = v)→binInts E op t x y k1 k2 m n = some v:=by
    intro hd hf
    unfold binInts
    cases k1 <;> first | exact hd | skip
    cases k2 <;> first | exact hd | skip
    dsimp only
    cases hi:intBin op m n with
    | none=>exact hd
    | some w=>rw [hf w rfl rfl hi]; rfl
   split at e
   ·rename_i hs
    split at e
    ·rename_i hk
     subst hk
     refine data (shK_data e) fun w _ _ hi=>?_
     cases op <;> first | (cases hi; done) | (cases hs; done)
    ·cases e
   ·split at e
    ·rename_i hk
     obtain ⟨h1,h2⟩:=hk
     subst h1 h2
     refine data (arK_data e) fun w h1 _ hi=>?_
     subst h1
     have:=arK_fast hi
     rw [this] at e
     exact Option.some.inj e
    ·cases e
  ·cases e
 ·cases e

theorem strV_ok {op:BinOp} {t:TypeId} {x y:Operand} {a b v:Value} (e:strV op a b = some v):aBin E op t x y a b = some v:=by
 unfold strV at e
 split at e
 ·rename_i s
  split at e
  ·rename_i u
   show binData E op t x y (.string s) (.string u) = some v
   have go:∀ (w:Value),isData 3 w = true→pureRun E.prog (Op.stringOp op s u) = some w→(pureRun E.prog (do eqGuard op t x y (.string s) (.string u); binOp op t (.string s) (.string u)) = pureRun E.prog (Op.stringOp op s u))→binData E op t x y (.string s) (.string u) = some w:=by
    intro w hd hs hr
    unfold binData
    rw [hr,hs]
    unfold dataOnly
    dsimp only
    rw [hd]
   split at e
   ·split at e
    ·rename_i hl
     cases e
     refine go _ rfl ?_ rfl
     unfold Op.stringOp
     dsimp only
     rw [if_neg (by have:IntKind.i64.max = 9223372036854775807:=rfl; rw [this]; omega)]
     rfl
    ·cases e
   ·cases e; exact go _ rfl rfl rfl
   ·cases e; exact go _ rfl rfl rfl
   ·cases e; exact go _ rfl rfl rfl
   ·cases e; exact go _ rfl rfl rfl
   ·cases e; exact go _ rfl rfl rfl
   ·cases e; exact go _ rfl rfl rfl
   ·cases e
  ·cases e
 ·cases e

theorem pureRun_underlying {α:Type} {P:Program} {t:TypeId} {D:TypeDesc} (hu:P.underlying t = some D) (f:TypeDesc→Sem α):pureRun P (underlying t >>= f) = pureRun P (f D):=by
 have e : pureRun P (underlying t >>= f) = pureRun P ((match P.underlying t with | some d => pure d | none => stuck "no such type") >>= f) := rfl
 rw [e,hu]
 rfl

theorem cintV_ok {s d:TypeId} {k:IntKind} {i j:TI} {v w:Value} (hs:E.prog.underlying s = some i.desc) (hd:E.prog.underlying d = some (.int k)) (e:cintV k v = some w):hconvert E h s d v = .val w h:=by
 unfold cintV at e
 split at e
 ·rename_i k' n
  cases e
  unfold hconvert
  show hval h (dataOnly (pureRun E.prog (convert s d (.int k' n)))) = _
  have:pureRun E.prog (convert s d (.int k' n)) = some (.int k (wrapI k n)):=by
   unfold convert wrapI
   rw [pureRun_underlying hs,pureRun_underlying hd]
   cases i.desc <;> rfl
  rw [this]
  rfl
 ·cases e

theorem callable_ok {g:FuncId} (hc:callable E g = true) (as:List Value) (H:Heap):callFunc E g as H = .call g as H:=by
 unfold callable at hc
 unfold callFunc at hc ⊢
 cases hf:E.fn.get g with
 | none=>rw [hf] at hc; cases hc
 | some fn =>
  rw [hf] at hc
  dsimp only at hc ⊢
  unfold callFn at hc ⊢
  cases hb:fn.body with
  | none=>rw [hb] at hc; cases hc
  | some b =>
   rw [hb] at hc
   dsimp only at hc ⊢
   cases hn : (fn.name == "runtime.NumGoroutine") with
   | true=>rw [hn] at hc; cases hc
   | false=>rfl

theorem idx_ok {n:Nat} {j:Value} {k:Nat} (e:idxN n j = some k):indexOf n j = some k:=by
 unfold idxN at e
 split at e
 ·rename_i _ j
  split at e
  ·rename_i hj
   cases e
   unfold indexOf below
   obtain ⟨m,rfl⟩:=Int.eq_ofNat_of_zero_le hj.1
   dsimp only
   show (match Nat.ble (Nat.succ m) n with | true=>some m | false=>none) = _
   rw [show Nat.ble (Nat.succ m) n = true from by rw [Nat.ble_eq]; omega]
   rfl
  ·cases e
 ·cases e

theorem lget_list {β:Type} (l:List β) (k:Nat):lget l k = l[k]?:=lget_eq l k

theorem typ_ok (hE:∀ t i,E.ty t = some i→E.prog.underlying t = some i.desc) {op:Op} {ty:TypeId} {x:TOp} (hx:typ E op = some x):HLe (runT E x φ h) (runφ E op ty φ h):=by
 cases op with
 | move x=>cases hx; exact .refl _
 | assign x=>cases hx; exact .refl _
 | pick c a b=>cases hx; exact .refl _
 | alloc t =>
  unfold typ at hx
  dsimp only at hx
  split at hx
  ·rename_i z hz
   split at hx
   ·rename_i cs hcs
    cases hx
    refine .inr ?_
    simp only [runT,runφ,newCells,hz,hcs,hbox]
   ·cases hx
  ·cases hx
 | box t x=>cases hx; exact .refl _
 | build t ps =>
  have hx:typBuild E t ps.toList = some x:=hx
  unfold typBuild at hx
  simp only [runφ,hbuild]
  cases hi:E.ty t with
  | none=>rw [hi] at hx; cases hx
  | some i =>
   rw [hi] at hx
   dsimp only at hx ⊢
   cases hz:zeroCells i with
   | none=>rw [hz] at hx; cases hx
   | some z =>
    rw [hz] at hx
    dsimp only at hx
    unfold buildZ
    rw [hz]
    dsimp only
    unfold buildTI
    split at hx
    ·rename_i fields hd
     rw [hd]
     dsimp only
     cases ha:allTyped E fields.toList with
     | false=>rw [ha] at hx; cases hx
     | true =>
      rw [ha] at hx
      dsimp only at hx ⊢
      cases hp:placesOf (structPlace E fields) ps.toList with
      | none=>rw [hp] at hx; cases hx
      | some qs =>
       rw [hp] at hx
       cases hx
       simp only [runT]
       rw [fill_of hp]
       refine hle_lift fun v hv=>?_
       unfold aggV at hv
       split at hv
       ·rename_i cells hc
        cases hv
        exact ⟨D0,by rw [hc]; rfl⟩
       ·cases hv
    ·rename_i n elem hd
     rw [hd]
     dsimp only
     cases he:E.ty elem with
     | none=>rw [he] at hx; cases hx
     | some ei =>
      rw [he] at hx
      dsimp only at hx ⊢
      cases hp:placesOf (arrayPlace ei.size) ps.toList with
      | none=>rw [hp] at hx; cases hx
      | some qs =>
       rw [hp] at hx
       cases hx
       simp only [runT]
       rw [fill_of hp]
       refine hle_lift fun v hv=>?_
       unfold aggV at hv
       split at hv
       ·rename_i cells hc
        cases hv
        exact ⟨D0,by rw [hc]; rfl⟩
       ·cases hv
    ·cases hx
 | buildSlice t len ps =>
  have hx:typSlit E t len ps.toList = some x:=hx
  unfold typSlit at hx
  simp only [runφ]
  unfold slitCells
  cases hse:sliceElem E t with
  | none=>rw [hse] at hx; cases hx
  | some q =>
   obtain ⟨e,ei⟩:=q
   rw [hse] at hx
   dsimp only at hx ⊢
   cases hz:zeroCells ei with
   | none=>rw [hz] at hx; cases hx
   | some z =>
    rw [hz] at hx
    dsimp only at hx ⊢
    cases hb:Nat.ble (Nat.mul len ei.size) 10000 && Nat.beq z.length ei.size with
    | false=>rw [hb] at hx; cases hx
    | true =>
     rw [hb] at hx
     dsimp only at hx ⊢
     cases hp:placesOf (arrayPlace ei.size) ps.toList with
     | none=>rw [hp] at hx; cases hx
     | some qs =>
      rw [hp] at hx
      cases hx
      simp only [runT]
      rw [fill_of hp]
      cases fill (arrayPlace ei.size) (times z len) (evPφ φ ps.toList) <;> exact .refl _
 | load t a =>
  unfold typ at hx
  dsimp only at hx
  split at hx
  ·rename_i i hi
   split at hx
   ·rename_i ha
    cases hx
    simp only [runT,runφ,hload,hloadTI,hi,ha]
    exact .refl _
   ·rename_i ha
    cases hx
    simp only [runT,runφ,hload,hloadTI,hi,ha]
    exact .refl _
  ·cases hx
 | store t a b =>
  unfold typ at hx
  dsimp only at hx
  split at hx
  ·rename_i i hi
   cases hx
   simp only [runT,runφ,hptr]
   split
   ·rename_i r o hp
    unfold hstoreT hstore
    rw [hi]
    dsimp only
    cases cellsOf (evφ φ b) with
    | none=>exact .fail _
    | some vs =>
     dsimp only
     split
     ·exact .refl _
     ·exact .fail _
   ·exact .refl _
  ·cases hx
 | nilCheck a =>
  cases hx
  simp only [runT,runφ]
  refine hle_lift fun v hv=>?_
  unfold nilcV at hv
  unfold nilChecked
  cases hq:evφ φ a <;> rw [hq] at hv <;> first | cases hv | skip
  ·rename_i a
   cases a with
   | none=>cases hv
   | some a=>cases hv; exact ⟨_,rfl⟩
  ·rename_i fn a b
   cases fn <;> first | cases hv | skip
   all_goals exact ⟨_,rfl⟩
  ·exact ⟨_,rfl⟩
 | binOp op t a b yt =>
  have hx:typBin E op t a b = some x:=hx
  unfold typBin at hx
  split at hx
  ·rename_i i hi
   split at hx
   ·cases hx
    exact hle_val fun v hv=>arV_ok hv
   ·cases hx
    exact hle_val fun v hv=>strV_ok hv
   ·cases hx
  ·cases hx
 | unOp op t a =>
  cases op <;> first | cases hx | skip
  simp only [runT,runφ]
  refine hle_lift fun v hv=>?_
  unfold notV at hv
  split at hv
  ·rename_i b hb
   cases hv
   rw [hb]
   exact ⟨D0,rfl⟩
  ·cases hv
 | convert s d a =>
  have hx:typConv E s d a = some x:=hx
  unfold typConv at hx
  split at hx
  ·rename_i i hi
   split at hx
   ·rename_i j hj
    split at hx
    ·rename_i k hk
     cases hx
     simp only [runT,runφ]
     cases hc:cintV k (evφ φ a) with
     | none=>exact .fail _
     | some v=>exact .inr (cintV_ok (i:=i) (j:=j) (hE _ _ hi) (by rw [hE _ _ hj,hk]) hc).symm
    ·cases hx
   ·cases hx
  ·cases hx
 | sliceToArrayPointer t a =>
  unfold typ at hx
  dsimp only at hx
  split at hx
  ·rename_i i hi
   split at hx
   ·rename_i n e hd
    cases hx
    simp only [runT,runφ]
    refine hle_lift fun v hv=>?_
    unfold toArrayTI
    rw [hi]
    dsimp only
    rw [hd]
    dsimp only
    unfold toArrV at hv
    split at hv
    ·rename_i r o sp len cap hp
     rw [hp]
     unfold toArray
     dsimp only
     split at hv
     ·rename_i hb
      cases hv
      rw [hb]
      exact ⟨D0,rfl⟩
     ·cases hv
    ·cases hv
   ·cases hx
  ·cases hx
 | makeFunc fn a b =>
  cases hx
  simp only [runT,runφ]
  refine hle_lift fun v hv=>?_
  unfold funcV at hv
  cases fn <;> first | (cases hv; done) | (cases hv; exact ⟨D0,rfl⟩)
 | makeMap t r =>
  cases r with
  | none=>cases hx; exact .refl _
  | some r=>cases hx
 | makeSlice t l c =>
  have hx:typMake E t l c = some x:=hx
  unfold typMake at hx
  simp only [runφ]
  unfold hmakeCells
  cases hse:sliceElem E t with
  | none=>rw [hse] at hx; cases hx
  | some q =>
   obtain ⟨e,ei⟩:=q
   rw [hse] at hx
   dsimp only at hx ⊢
   cases hz:zeroCells ei with
   | none=>rw [hz] at hx; cases hx
   | some z =>
    rw [hz] at hx
    dsimp only at hx ⊢
    cases hb:Nat.beq z.length ei.size with
    | false=>rw [hb] at hx; cases hx
    | true =>
     rw [hb] at hx
     cases hx
     simp only [runT,hmakeT]
     cases asNat 100000 (evφ φ l) with
     | none=>exact .fail _
     | some l =>
      dsimp only
      cases asNat 100000 (evφ φ c) with
      | none=>exact .fail _
      | some c =>
       dsimp only
       rw [Bool.and_true]
       cases Nat.ble l c && Nat.ble (Nat.mul ei.bytes c) 1073741824 <;> exact .refl _
 | slice t a lo hi mx =>
  have hx:typSlice E t a lo hi mx = some x:=hx
  unfold typSlice at hx
  simp only [runφ]
  split at hx
  ·rename_i i hi'
   rw [hi']
   dsimp only
   unfold hslice
   split at hx
   ·rename_i hd
    split at hx
    ·cases hx
     rw [hd]
     dsimp only
     simp only [runT,evOφ]
     unfold hcutStr
     split
     ·rename_i s hs
      split
      ·rename_i l e m hb
       refine .inr ?_
       unfold sliceTI
       rw [hd,hs]
       dsimp only
       rw [hb]
       rfl
      ·exact .fail _
     ·exact .fail _
    ·cases hx
   ·rename_i e hd
    split at hx
    ·rename_i ei hei
     cases hx
     rw [hd]
     dsimp only
     rw [hei]
     dsimp only
     simp only [runT]
     unfold hcutS
     split
     ·rename_i len cap hv
      rw [hv]
      refine .inr ?_
      dsimp only
      unfold sliceTI
      rw [hd]
      dsimp only
      rw [hei]
     ·rename_i r o len cap hv
      rw [hv]
      exact .refl _
     ·rename_i r o len cap hv
      rw [hv]
      refine .inr ?_
      dsimp only
      unfold sliceTI
      rw [hd]
      dsimp only
      rw [hei]
      rfl
     ·rename_i r o len cap hv
      rw [hv]
      refine .inr ?_
      dsimp only
      unfold sliceTI
      rw [hd]
      dsimp only
      rw [hei]
      rfl
     ·exact .fail _
    ·cases hx
   ·rename_i n e hd
    split at hx
    ·rename_i ei hei
     cases hx
     rw [hd]
     dsimp only
     simp only [runT]
     unfold hcutA
     split
     ·rename_i r o hv
      rw [hv]
      refine .inr ?_
      unfold sliceTI
      rw [hd]
      dsimp only
      rw [hei]
     ·exact .fail _
    ·cases hx
   ·cases hx
  ·cases hx
 | fieldAddr t a f =>
  have hx:typFieldA E a (fieldOf (E.ty t) f) = some x:=hx
  unfold typFieldA at hx
  simp only [runφ]
  split at hx
  ·rename_i fd hfd
   rw [hfd]
   split at hx
   ·rename_i fi hfi
    split at hx
    ·cases hx
    ·rename_i hz
     cases hx
     simp only [runT]
     refine hle_lift fun v hv=>?_
     unfold fldAV at hv
     split at hv
     ·rename_i r o hp
      cases hv
      rw [hp]
      unfold fieldAddrF
      dsimp only
      unfold fieldPtr
      rw [hfi]
      dsimp only
      rw [hz]
      exact ⟨D0,rfl⟩
     ·cases hv
   ·cases hx
  ·cases hx
 | field t a f =>
  have hx:typField E a (fieldOf (E.ty t) f) = some x:=hx
  unfold typField at hx
  simp only [runφ]
  split at hx
  ·rename_i fd hfd
   rw [hfd]
   split at hx
   ·rename_i fi hfi
    split at hx
    ·rename_i ha
     cases hx
     simp only [runT]
     refine hle_lift fun v hv=>?_
     unfold fldNV at hv
     split at hv
     ·rename_i cs hp
      split at hv
      ·rename_i hl
       cases hv
       rw [hp]
       unfold fieldF
       dsimp only
       unfold partOf part
       rw [hfi]
       dsimp only
       rw [ha]
       dsimp only
       rw [show Nat.ble (Nat.add fd.offset fi.size) cs.toList.length = true from by rw [Nat.ble_eq]; exact hl]
       exact ⟨D0,rfl⟩
      ·cases hv
     ·cases hv
    ·rename_i ha
     cases hx
     simp only [runT]
     refine hle_lift fun v hv=>?_
     unfold fld1V at hv
     split at hv
     ·rename_i cs hp
      rw [hp]
      unfold fieldF
      dsimp only
      unfold partOf part
      rw [hfi]
      dsimp only
      rw [ha]
      dsimp only
      rw [lget_list,hv]
      exact ⟨D0,rfl⟩
     ·cases hv
   ·cases hx
  ·cases hx
 | indexAddr t a j =>
  have hx:typIdxA E t a j = some x:=hx
  unfold typIdxA at hx
  simp only [runφ]
  split at hx
  ·rename_i i hi
   rw [hi]
   split at hx
   ·rename_i n elem hd
    split at hx
    ·rename_i ei hei
     cases hx
     simp only [runT]
     refine hle_lift fun v hv=>?_
     unfold idxAV at hv
     unfold indexAddrTI
     dsimp only
     rw [hd]
     dsimp only
     split at hv
     ·rename_i r o hp
      split at hv
      ·rename_i k hk
       cases hv
       rw [hp]
       dsimp only
       rw [idx_ok hk,hei]
       exact ⟨D0,rfl⟩
      ·cases hv
     ·cases hv
    ·cases hx
   ·rename_i elem hd
    split at hx
    ·rename_i ei hei
     cases hx
     simp only [runT]
     refine hle_lift fun v hv=>?_
     unfold idxSV at hv
     unfold indexAddrTI
     dsimp only
     rw [hd]
     dsimp only
     split at hv
     ·rename_i r o sp n cap hp
      split at hv
      ·cases hv
      ·rename_i hsp
       split at hv
       ·rename_i k hk
        cases hv
        rw [hp]
        dsimp only
        rw [hsp]
        dsimp only
        rw [idx_ok hk,hei]
        exact ⟨D0,rfl⟩
       ·cases hv
     ·cases hv
    ·cases hx
   ·cases hx
  ·cases hx
 | index t a j =>
  have hx:typIdx E t a j = some x:=hx
  unfold typIdx at hx
  simp only [runφ]
  split at hx
  ·rename_i i hi
   rw [hi]
   split at hx
   ·rename_i n elem hd
    split at hx
    ·rename_i ei hei
     split at hx
     ·rename_i ha
      cases hx
      simp only [runT]
      refine hle_lift fun v hv=>?_
      unfold ixNV at hv
      unfold indexTI
      dsimp only
      rw [hd]
      dsimp only
      split at hv
      ·rename_i cs hp
       split at hv
       ·rename_i k hk
        split at hv
        ·rename_i hl
         cases hv
         rw [hp]
         dsimp only
         unfold elemOf part
         rw [idx_ok hk,hei]
         dsimp only
         rw [ha]
         dsimp only
         rw [show Nat.ble (Nat.add (Nat.mul k ei.size) ei.size) cs.toList.length = true from by rw [Nat.ble_eq]; exact hl]
         exact ⟨D0,rfl⟩
        ·cases hv
       ·cases hv
      ·cases hv
     ·rename_i ha
      split at hx
      ·rename_i h1
       cases hx
       simp only [runT]
       refine hle_lift fun v hv=>?_
       unfold ix1V at hv
       unfold indexTI
       dsimp only
       rw [hd]
       dsimp only
       split at hv
       ·rename_i cs hp
        split at hv
        ·rename_i k hk
         rw [hp]
         dsimp only
         unfold elemOf part
         rw [idx_ok hk,hei]
         dsimp only
         rw [ha,Nat.eq_of_beq_eq_true h1]
         dsimp only
         rw [show Nat.mul k 1 = k from Nat.mul_one k,lget_list,hv]
         exact ⟨D0,rfl⟩
        ·cases hv
       ·cases hv
      ·cases hx
    ·cases hx
   ·rename_i hd
    cases hx
    simp only [runT]
    refine hle_lift fun v hv=>?_
    unfold ixStrV at hv
    unfold indexTI
    dsimp only
    rw [hd]
    dsimp only
    split at hv
    ·rename_i s hp
     split at hv
     ·rename_i k hk
      split at hv
      ·rename_i b hb
       cases hv
       rw [hp]
       dsimp only
       unfold byteAt
       rw [idx_ok hk]
       dsimp only
       rw [lget_list,hb]
       exact ⟨D0,rfl⟩
      ·cases hv
     ·cases hv
    ·cases hv
   ·cases hx
  ·cases hx
 | extract a i =>
  cases hx
  simp only [runT,runφ]
  refine hle_lift fun v hv=>?_
  unfold extV at hv
  unfold extracted
  split at hv
  ·rename_i vs hp
   rw [hp]
   dsimp only
   rw [lget_list,hv]
   exact ⟨D0,rfl⟩
  ·cases hv
 | call c =>
  obtain ⟨callee,args,ts⟩:=c
  cases callee with
  | value f =>
   have hx:some (typCall E f args.toList) = some x:=hx
   have hv:HLe (callV E h (evφ φ f) (evLφ φ args.toList)) (runφ E (.call ⟨.value f,args,ts⟩) ty φ h):=by
    show HLe _ (lift (aCall E D0 (evφ φ f) (evLφ φ args.toList)) h)
    unfold callV
    split
    ·rename_i fn first captured hf
     rw [hf]
     split
     ·rename_i g
      cases hc:callable E g with
      | false=>exact .fail _
      | true =>
       refine .inr ?_
       show _ = lift (callFunc E g (first.toList ++ evLφ φ args.toList ++ captured.toList) D0) h
       rw [callable_ok hc]
       rfl
     ·exact .refl _
     ·exact .refl _
    ·exact .fail _
   cases hx
   unfold typCall
   split
   ·rename_i g
    split
    ·rename_i hc
     refine .inr ?_
     show HRes.call g (evLφ φ args.toList) h = lift (callFunc E g ((#[]:Array Value).toList ++ evLφ φ args.toList ++ (#[]:Array Value).toList) D0) h
     rw [callable_ok hc]
     simp [lift]
    ·exact hv
   ·exact hv
  | invoke r m=>cases hx
  | builtin b =>
   cases b <;> first | (cases hx; done) | skip
   ·have hx:typAppend E ts.toList args.toList = some x:=hx
    unfold typAppend at hx
    simp only [runφ,hbuiltin]
    split at hx
    ·rename_i st xt hts
     split at hx
     ·rename_i a b hab
      split at hx
      ·rename_i e ei hse
       split at hx
       ·rename_i xi hxi
        split at hx
        ·cases hx
        ·rename_i hint
         split at hx
         ·rename_i hb
          cases hx
          rw [Bool.and_eq_true] at hb
          rw [hts,hab]
          simp only [runT,evLφ,happend,happendArgs,hse,hxi,hint]
          unfold happT
          split
          ·rename_i base sl sc hs
           rw [hs]
           cases hvb:voidBase base with
           | true=>exact .fail _
           | false =>
            dsimp only
            cases lenOf (evφ φ b) with
            | none=>exact .fail _
            | some n =>
             dsimp only
             rw [hvb]
             dsimp only
             unfold happendTo
             cases helems h ei.size n (evφ φ b) with
             | none=>exact .fail _
             | some new =>
              dsimp only
              split
              ·exact .refl _
              ·unfold hgrowsT hgrows
               cases helems h ei.size sl (.slice base sl sc) with
               | none=>exact .fail _
               | some old =>
                dsimp only
                have:(smallCells ei n (sl + n) new && Nat.ble 1 ei.size) = smallN ei.size ei.bytes n (sl + n) new:=by
                 unfold smallCells smallN
                 rw [hb.1,hb.2]
                 simp
                rw [this]
                exact .refl _
          ·exact .fail _
         ·cases hx
       ·cases hx
      ·cases hx
     ·cases hx
    ·cases hx
   ·have hx:typCopy E ts.toList args.toList = some x:=hx
    unfold typCopy at hx
    simp only [runφ,hbuiltin]
    split at hx
    ·rename_i dt rest hts
     split at hx
     ·rename_i a b hab
      split at hx
      ·rename_i e ei hse
       cases hx
       rw [hts,hab]
       simp only [runT,evLφ,hcopy,hcopyArgs,hse]
       unfold hcopyT
       split
       ·rename_i base dl c hs
        rw [hs]
        exact .refl _
       ·exact .fail _
      ·cases hx
     ·cases hx
    ·cases hx
   ·have hx:typLen E ts.toList args.toList = some x:=hx
    unfold typLen at hx
    simp only [runφ,hbuiltin]
    split at hx
    ·rename_i t rest hts
     split at hx
     ·rename_i a rest' hab
      split at hx
      ·rename_i i hi
       split at hx
       ·rename_i e hd
        cases hx
        rw [hts,hab]
        simp only [runT,evLφ,hlen,hi,hlenTI,hd]
        refine hle_val fun v hv=>?_
        unfold lenSV at hv
        unfold lenTI
        rw [hd]
        dsimp only
        split at hv
        ·rename_i hs
         cases hv
         rw [hs]
         rfl
        ·cases hv
       ·rename_i hd
        cases hx
        rw [hts,hab]
        simp only [runT,evLφ,hlen,hi,hlenTI,hd]
        refine hle_val fun v hv=>?_
        unfold lenStrV at hv
        unfold lenTI
        rw [hd]
        dsimp only
        split at hv
        ·rename_i hs
         cases hv
         rw [hs]
         rfl
        ·cases hv
       ·rename_i n e hd
        cases hx
        rw [hts,hab]
        simp only [runT,evLφ,hlen,hi,hlenTI,hd]
        refine .inr ?_
        unfold lenTI
        rw [hd]
        rfl
       ·cases hx
      ·cases hx
     ·cases hx
    ·cases hx
 | _=>cases hx

theorem runT_ok (hE:∀ t i,E.ty t = some i→E.prog.underlying t = some i.desc) (op:Op) (ty:TypeId):HLe (runT E (orRaw (typ E op) op ty) φ h) (runφ E op ty φ h):=by
 cases ht:typ E op with
 | none=>exact .refl _
 | some x=>exact typ_ok hE ht

end
end
end Go.Rx
