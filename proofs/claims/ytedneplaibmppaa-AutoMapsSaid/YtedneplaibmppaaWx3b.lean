/- A part of the engine. -/
import Derived.Test.YtedneplaibmppaaWx3
set_option linter.unusedVariables false
set_option linter.unusedSectionVars false
set_option linter.unusedSimpArgs false
namespace Go.Rx
noncomputable section
/-! What operations come to whose types are known. -/
@[irreducible] def jW (k:IntKind)(n:Int):Int:=k.wrap n
def dL (k:IntKind)(op:BinOp)(m n:Int):Int:=match op with
 | .and=>k.wrap (BitVec.toNat (BitVec.ofInt k.bits m &&& BitVec.ofInt k.bits n))
 | .or=>k.wrap (BitVec.toNat (BitVec.ofInt k.bits m ||| BitVec.ofInt k.bits n))
 | .xor=>k.wrap (BitVec.toNat (BitVec.ofInt k.bits m ^^^ BitVec.ofInt k.bits n))
 | _=>k.wrap (BitVec.toNat (BitVec.ofInt k.bits m &&& ~~~ BitVec.ofInt k.bits n))
def arK (k:IntKind)(op:BinOp)(m n:Int):Option Value:=match op with
 | .add=>some (.int k (jW k (m + n)))
 | .sub=>some (.int k (jW k (m - n)))
 | .mul=>some (.int k (jW k (m * n)))
 | .quo=>if n = 0 then none else some (.int k (jW k (m.tdiv n)))
 | .rem=>if n = 0 then none else some (.int k (m.tmod n))
 | .and=>some (.int k (dL k .and m n))
 | .or=>some (.int k (dL k .or m n))
 | .xor=>some (.int k (dL k .xor m n))
 | .andNot=>some (.int k (dL k .andNot m n))
 | .eql=>some (.bool (decide (m = n)))
 | .neq=>some (.bool (decide (m≠n)))
 | .lss=>some (.bool (decide (m < n)))
 | .leq=>some (.bool (decide (m≤n)))
 | .gtr=>some (.bool (decide (n < m)))
 | .geq=>some (.bool (decide (n≤m)))
 | .shl=>none
 | .shr=>none
def shK (k:IntKind)(op:BinOp)(m n:Int):Option Value:=match op with
 | .shl=>if n < 0 then none else some (.int k (jW k (m * 2 ^ (min n.toNat k.bits))))
 | .shr=>if n < 0 then none else some (.int k (m.fdiv (2 ^ (min n.toNat k.bits))))
 | _=>none
def FI:BinOp→Bool
 | .shl=>true
 | .shr=>true
 | _=>false
def arV (k:IntKind)(op:BinOp)(a b:Value):Option Value:=match a with
 | .int k1 m=>match b with
  | .int k2 n=>match FI op with
   | true=>if k1 = k then shK k op m n else none
   | false=>if k1 = k∧k2 = k then arK k op m n else none
  | _=>none
 | _=>none
def UK (op:BinOp)(a b:Value):Option Value:=match a with
 | .string s=>match b with
  | .string t=>match op with
   | .add=>if s.size + t.size≤9223372036854775807 then some (.string (s ++ t)) else none
   | .eql=>some (.bool (s.toList == t.toList))
   | .neq=>some (.bool !(s.toList == t.toList))
   | .lss=>some (.bool (Op.bytesLess s.toList t.toList))
   | .leq=>some (.bool (Op.bytesLess s.toList t.toList || s.toList == t.toList))
   | .gtr=>some (.bool !(Op.bytesLess s.toList t.toList || s.toList == t.toList))
   | .geq=>some (.bool !(Op.bytesLess s.toList t.toList))
   | _=>none
  | _=>none
 | _=>none
def aaK (a:Value):Option Value:=match a with
 | .bool b=>some (.bool !b)
 | _=>none
def Oq (k:IntKind)(a:Value):Option Value:=match a with
 | .int _ n=>some (.int k (jW k n))
 | _=>none
def qh (φ:Frame)(cells:List Value):List (Nat×Nat×Operand)→Option (List Value)
 | []=>some cells
 | (off,size,x) :: rest=>match cellsOf (bI φ x) with
  | none=>none
  | some vs=>match Nat.beq vs.length size with
   | false=>none
   | true=>match lay cells off vs with
    | none=>none
    | some cells=>qh φ cells rest
def Y9 (c:Option (List Value)):Option Value:=match c with
 | some cells=>some (.agg ⟨cells⟩)
 | none=>none
def QG (h:Hp)(e len:Nat)(c:Option (List Value)):fV:=match c with
 | some cells=>.val (slc h.next 0 len len) (h.lay (.row e true cells))
 | none=>.fail
def D5 (h:Hp)(e:TypeId)(z:List Value)(bytes:Nat)(l c:Option Nat):fV:=match l with
 | some l=>match c with
  | some c=>match Nat.ble l c && Nat.ble (Nat.mul bytes c) 1073741824 with
   | true=>.val (slc h.next 0 l c) (h.lay (.row e true (times z c)))
   | false=>.fail
  | none=>.fail
 | none=>.fail
def FJ (h:Hp)(m r o:Nat)(v:Value):fV:=match cellsOf v with
 | some vs=>if vs.length = m then hmem (storeAt h r o vs) else .fail
 | none=>.fail
def SF (h:Hp)(v:Value)(lo hi:Option Value):fV:=match v with
 | .string s=>match bounds s.size s.size lo hi none with
  | some (l,e,_)=>.val (.string (s.extract l e)) h
  | none=>.fail
 | _=>.fail
def lN (h:Hp)(size:Nat)(v:Value)(lo hi mx:Option Value):fV:=match v with
 | .slice none len cap=>lift (xI D0 (bounds len cap lo hi mx)) h
 | .slice (some ⟨r,o,none⟩) len cap=>nK h size r o mx.isNone (bounds len cap lo hi mx) (h.at r)
 | .slice (some ⟨r,o,some 1⟩) len cap=>lift (mH D0 size r o (bounds len cap lo hi mx)) h
 | .slice (some ⟨_,_,some 2⟩) _ _=>lift (sD D0 mx.isNone (bounds 0 0 lo hi mx)) h
 | _=>.fail
def aam (h:Hp)(n size:Nat)(v:Value)(lo hi mx:Option Value):fV:=match v with
 | .pointer (some ⟨r,o,none⟩)=>lift (mH D0 size r o (bounds n n lo hi mx)) h
 | _=>.fail
def WW (off:Nat)(v:Value):Option Value:=match v with
 | .pointer (some ⟨r,o,none⟩)=>some (ptr r (o + off))
 | _=>none
def WX (off:Nat)(v:Value):Option Value:=match v with
 | .agg cs=>cs.toList[off]?
 | _=>none
def WY (off m:Nat)(v:Value):Option Value:=match v with
 | .agg cs=>if off + m≤cs.toList.length then some (.agg ⟨(cs.toList.drop off).take m⟩) else none
 | _=>none
def iJ (n:Nat)(j:Value):Option Nat:=match j with
 | .int _ j=>if 0≤j∧j < (n:Int) then some j.toNat else none
 | _=>none
def WZ (n size:Nat)(v:Value)(j:Value):Option Value:=match v with
 | .pointer (some ⟨r,o,none⟩)=>match iJ n j with
  | some j=>some (ptr r (o + j * size))
  | none=>none
 | _=>none
def kI (size:Nat)(v:Value)(j:Value):Option Value:=match v with
 | .slice (some ⟨r,o,sp⟩) n _=>match fA sp with
  | true=>none
  | false=>match iJ n j with
   | some j=>some (ptr r (o + j * size))
   | none=>none
 | _=>none
def aaL (n:Nat)(v j:Value):Option Value:=match v with
 | .agg cs=>match iJ n j with
  | some j=>cs.toList[j]?
  | none=>none
 | _=>none
def aaM (n m:Nat)(v j:Value):Option Value:=match v with
 | .agg cs=>match iJ n j with
  | some j=>if j * m + m≤cs.toList.length then some (.agg ⟨(cs.toList.drop (j * m)).take m⟩) else none
  | none=>none
 | _=>none
def QH (v j:Value):Option Value:=match v with
 | .string s=>match iJ s.size j with
  | some j=>match s.data.toList[j]? with
   | some b=>some (vR b)
   | none=>none
  | none=>none
 | _=>none
def aaN (v:Value)(i:Nat):Option Value:=match v with
 | .tuple vs=>vs.toList[i]?
 | _=>none
def W9 (v:Value):Option Value:=match v with
 | .slice _ n _=>some (.int .i64 (n:Int))
 | _=>none
def LC (v:Value):Option Value:=match v with
 | .string s=>some (.int .i64 (s.size:Int))
 | _=>none
def Ho (n:Nat)(v:Value):Option Value:=match v with
 | .slice (some ⟨r,o,sp⟩) len _=>match Nat.ble n len && !fA sp with
  | true=>some (ptr r o)
  | false=>none
 | _=>none
def Xa (fn:Fn)(a b:List Value):Option Value:=match fn with
 | .func _=>some (.func fn ⟨a⟩ ⟨b⟩)
 | .via _ _ _ _=>some (.func fn ⟨a⟩ ⟨b⟩)
 | _=>none
def Xb (v:Value):Option Value:=match v with
 | .pointer (some a)=>some (.pointer (some a))
 | .func fn a b=>match fn with
  | .func _=>some (.func fn a b)
  | .yield _=>some (.func fn a b)
  | .via _ _ _ _=>some (.func fn a b)
  | _=>none
 | .iface t v=>some (.iface t v)
 | _=>none
def Bb (size bytes n l:Nat)(new:List Value):Bool:=Nat.ble (Nat.mul l bytes) 1073741824 && Nat.ble l 1073741824 && new.all oneCell && Nat.beq new.length (Nat.mul n size)
def sN (h:Hp)(e size bytes:Nat)(base:Option Addr)(sc n l:Nat)(new:List Value)(old:Option (List Value)):fV:=match old with
 | none=>.fail
 | some old=>match Bb size bytes n l new with
  | true=>qg e l (old ++ new) (dG h base e sc size)
  | false=>.fail
def Hq (h:Hp)(size:Nat)(base:Option Addr)(sl sc l:Nat)(new:List Value):fV:=match base with
 | some ⟨r,o,s⟩=>match storeAt h r (o + sl * size) new with
  | some h=>.val (.slice (some ⟨r,o,s⟩) l sc) h
  | none=>.fail
 | none=>match new with
  | []=>.val (.slice none l sc) h
  | _=>.fail
def J3 (h:Hp)(e size bytes:Nat)(s x:Value):fV:=match s with
 | .slice base sl sc=>match jR base with
  | true=>.fail
  | false=>match lenOf x with
   | none=>.fail
   | some n=>match dh h size n x with
    | none=>.fail
    | some new=>if sl + n≤sc then Hq h size base sl sc (sl + n) new else sN h e size bytes base sc n (sl + n) new (dh h size sl (.slice base sl sc))
 | _=>.fail
def Xc (h:Hp)(size:Nat)(s x:Value):fV:=match s with
 | .slice base dl _=>match lenOf x with
  | none=>.fail
  | some sl=>zN h base (min sl dl) (dh h size (min sl dl) x)
 | _=>.fail
def SG (E:Env)(h:Hp)(f:Value)(xs:List Value):fV:=match f with
 | .func fn first captured=>match fn with
  | .func g=>match callable E g with
   | true=>.call g (first.toList ++ xs ++ captured.toList) h
   | false=>.fail
  | .yield l=>.yield l (first.toList ++ xs) h
  | _=>lift (sw E D0 (.func fn first captured) xs) h
 | _=>.fail
def runT (E:Env)(op:TOp)(φ:Frame)(h:Hp):fV:=match op with
 | .mov x=>.val (bI φ x) h
 | .pick c a b=>match bI φ c with
  | .bool true=>.val (bI φ a) h
  | .bool false=>.val (bI φ b) h
  | _=>.fail
 | .alloc e cells=>.val (xC h.next) (h.lay (.row e true cells))
 | .box e x=>Od h e (cellsOf (bI φ x))
 | .iX z ps=>hval h (Y9 (qh φ z ps))
 | .fP e n z ps=>QG h e n (qh φ z ps)
 | .aQ x=>DZ (bI φ x) fun r o=>hval h (cellAt h r o)
 | .bK m x=>DZ (bI φ x) fun r o=>hval h (dw (bJ h r o m))
 | .store m x y=>DZ (bI φ x) fun r o=>FJ h m r o (bI φ y)
 | .WJ x=>hval h (Xb (bI φ x))
 | .ar k op x y=>hval h (arV k op (bI φ x) (bI φ y))
 | .str op x y=>hval h (UK op (bI φ x) (bI φ y))
 | .not x=>hval h (aaK (bI φ x))
 | .Cn k x=>hval h (Oq k (bI φ x))
 | .GU n x=>hval h (Ho n (bI φ x))
 | .func fn a b=>hval h (Xa fn (jV φ a) (jV φ b))
 | .iC=>.val (bL h.next) (h.lay (.map [] 0))
 | .make e z bytes l c=>D5 h e z bytes (asNat 100000 (bI φ l)) (asNat 100000 (bI φ c))
 | .Qr x lo hi=>SF h (bI φ x) (pQ φ lo) (pQ φ hi)
 | .Jq size x lo hi mx=>lN h size (bI φ x) (pQ φ lo) (pQ φ hi) (pQ φ mx)
 | .aaJ n size x lo hi mx=>aam h n size (bI φ x) (pQ φ lo) (pQ φ hi) (pQ φ mx)
 | .bN off x=>hval h (WW off (bI φ x))
 | .WK off x=>hval h (WX off (bI φ x))
 | .WL off m x=>hval h (WY off m (bI φ x))
 | .GV n size x j=>hval h (WZ n size (bI φ x) (bI φ j))
 | .cZ size x j=>hval h (kI size (bI φ x) (bI φ j))
 | .ix1 n x j=>hval h (aaL n (bI φ x) (bI φ j))
 | .ixN n m x j=>hval h (aaM n m (bI φ x) (bI φ j))
 | .NY x j=>hval h (QH (bI φ x) (bI φ j))
 | .ext x i=>hval h (aaN (bI φ x) i)
 | .call g xs=>.call g (jV φ xs) h
 | .pK f xs=>SG E h (bI φ f) (jV φ xs)
 | .append e size bytes x y=>J3 h e size bytes (bI φ x) (bI φ y)
 | .copy size x y=>Xc h size (bI φ x) (bI φ y)
 | .dX x=>hval h (W9 (bI φ x))
 | .lenStr x=>hval h (LC (bI φ x))
 | .Uv n=>.val (.int .i64 (n:Int)) h
 | .raw op ty=>fQ E op ty φ h
def HLe (a b:fV):Prop:=a = .fail∨a = b
theorem HLe.refl (a:fV):HLe a a:=.inr rfl
theorem HLe.fail (b:fV):HLe .fail b:=.inl rfl
theorem HLe.fits {r:dN}{a b:fV}(h:HLe a b)(f:Fits r b):Fits r a:=by
 rcases h with rfl | rfl
 ·trivial
 ·exact f
theorem FK {h:Hp}{a b:Option Value}(k:∀ v,a = some v→b = some v):HLe (hval h a) (hval h b):=by
 cases a with
 | none=>exact .fail _
 | some v=>rw [k v rfl]; exact .refl _
theorem iN {h:Hp}{a:Option Value}{r:dN}(k:∀ v,a = some v→∃ H,r = .val v H):HLe (hval h a) (lift r h):=by
 cases a with
 | none=>exact .fail _
 | some v=>obtain ⟨H,e⟩:=k v rfl; rw [e]; exact .refl _
section
variable {E:Env} {φ:Frame} {h:Hp}
theorem FL {place:Nat→Option (Nat×Nat)}:∀ {ps:List (Nat×Operand)} {qs:List (Nat×Nat×Operand)} {z:List Value},placesOf place ps = some qs→qh φ z qs = fill place z (Cr φ ps)
 | [],qs,z,e=>by cases e; rfl
 | (i,x) :: ps,qs,z,e=>by
  unfold placesOf at e
  cases hp:place i with
  | none=>rw [hp] at e; cases e
  | some q =>
   obtain ⟨off,size⟩:=q;rw [hp] at e;dsimp only at e
   cases hq:placesOf place ps with
   | none=>rw [hq] at e; cases e
   | some qs' =>
    rw [hq] at e;cases e
    simp only [qh,Cr,fill,hp]
    cases cellsOf (bI φ x) with
    | none=>rfl
    | some vs =>
     dsimp only
     cases Nat.beq vs.length size with
     | false=>rfl
     | true =>
      dsimp only
      cases lay z off vs with
      | none=>rfl
      | some cells=>exact FL hq
theorem wI (n:Int):FY n = IntKind.i64.wrap n:=@xW ⟨fun _=>.nilFunc,fun _ _ h=>by cases h⟩ n
theorem FM (x y:Int):ltI x y = decide (x < y):=by
 cases x <;> cases y <;> simp only [ltI]
 ·rename_i m n;rw [Bool.eq_iff_iff,Nat.ble_eq]; simp; omega
 ·symm; simp; omega
 ·symm; simp; omega
 ·rename_i m n;rw [Bool.eq_iff_iff,Nat.ble_eq]; simp; omega
theorem SH (x y:Int):eqI x y = decide (x = y):=by
 cases x <;> cases y <;> simp only [eqI]
 ·rename_i m n;rw [Bool.eq_iff_iff,Nat.beq_eq]; simp; omega
 ·symm; simp
 ·symm; simp
 ·rename_i m n;rw [Bool.eq_iff_iff,Nat.beq_eq]; simp
theorem Hr (x:Int):isZero x = decide (x = 0):=by
 cases x <;> simp only [isZero]
 ·rename_i m;rw [Bool.eq_iff_iff,Nat.beq_eq]; simp
 ·symm; simp
theorem Xd {op:BinOp}{m n:Int}{w:Value}(e:jM op m n = some w):arK .i64 op m n = some w:=by
 unfold arK jW
 cases op with
 | add=>simp only [jM,wI] at e; exact e
 | sub=>simp only [jM,wI] at e; exact e
 | mul=>simp only [jM,wI] at e; exact e
 | quo =>
  simp only [jM,YO,Hr,wI] at e ⊢;by_cases hn:n = 0
  ·rw [decide_eq_true hn] at e; cases e
  ·rw [decide_eq_false hn] at e; rw [if_neg hn]; exact e
 | rem =>
  simp only [jM,YP,Hr] at e ⊢;by_cases hn:n = 0
  ·rw [decide_eq_true hn] at e; cases e
  ·rw [decide_eq_false hn] at e; rw [if_neg hn]; exact e
 | eql=>simp only [jM,SH] at e; exact e
 | neq=>simp only [jM,SH] at e; rw [← e]; simp
 | lss=>simp only [jM,FM] at e; exact e
 | leq=>simp only [jM,FM] at e; rw [← e]; show some (Value.bool (decide (m≤n))) = _; congr 2; rw [Bool.eq_iff_iff]; simp
 | gtr=>simp only [jM,FM] at e; exact e
 | geq=>simp only [jM,FM] at e; rw [← e]; show some (Value.bool (decide (n≤m))) = _; congr 2; rw [Bool.eq_iff_iff]; simp
 | _=>cases e
theorem Xe {k:IntKind}{op:BinOp}{t:TypeId}{x y:Operand}{m n:Int}{v:Value}(e:arK k op m n = some v):iQ E op t x y (.int k m) (.int k n) = some v:=by
 have hk:¬ (k≠k):=by simp
 have go : ∀ (w : Value) (s : Sem Value), dP 3 w = true → bR E.prog s = some w → (bR E.prog (do eqGuard op t x y (.int k m) (.int k n); binOp op t (.int k m) (.int k n)) = bR E.prog (if k ≠ k then stuck "BinOp: operands of different kinds" else s)) → iQ E op t x y (.int k m) (.int k n) = some w := by
  intro w s hd hs hr;unfold iQ;rw [hr,if_neg hk,hs];unfold jr;dsimp only;rw [hd]
 unfold arK jW at e
 cases op with
 | add=>cases e; exact go _ (Op.intArith .add k m n) rfl rfl rfl
 | sub=>cases e; exact go _ (Op.intArith .sub k m n) rfl rfl rfl
 | mul=>cases e; exact go _ (Op.intArith .mul k m n) rfl rfl rfl
 | quo =>
  dsimp only at e;split at e
  ·cases e
  ·rename_i hn;cases e
   refine go _ (Op.intDiv .quo k m n) rfl ?_ rfl;unfold Op.intDiv;rw [if_neg hn]; rfl
 | rem =>
  dsimp only at e;split at e
  ·cases e
  ·rename_i hn;cases e
   refine go _ (Op.intDiv .rem k m n) rfl ?_ rfl;unfold Op.intDiv;rw [if_neg hn]; rfl
 | and=>cases e; exact go _ (Op.intBits .and k m n) rfl rfl rfl
 | or=>cases e; exact go _ (Op.intBits .or k m n) rfl rfl rfl
 | xor=>cases e; exact go _ (Op.intBits .xor k m n) rfl rfl rfl
 | andNot=>cases e; exact go _ (Op.intBits .andNot k m n) rfl rfl rfl
 | eql=>cases e; exact go _ (Op.intCmp .eql m n) rfl rfl rfl
 | neq =>
  cases e
  refine go _ (Op.intCmp .neq m n) rfl ?_ rfl;show some (Value.bool (m != n)) = _;simp [bne,BEq.beq]
 | lss=>cases e; exact go _ (Op.intCmp .lss m n) rfl rfl rfl
 | leq=>cases e; exact go _ (Op.intCmp .leq m n) rfl rfl rfl
 | gtr=>cases e; exact go _ (Op.intCmp .gtr m n) rfl rfl rfl
 | geq=>cases e; exact go _ (Op.intCmp .geq m n) rfl rfl rfl
 | shl=>cases e
 | shr=>cases e
theorem Xf {k k2:IntKind}{op:BinOp}{t:TypeId}{x y:Operand}{m n:Int}{v:Value}(e:shK k op m n = some v):iQ E op t x y (.int k m) (.int k2 n) = some v:=by
 have go:∀ (w:Value) (s:Sem Value),dP 3 w = true→bR E.prog s = some w→(bR E.prog (do eqGuard op t x y (.int k m) (.int k2 n); binOp op t (.int k m) (.int k2 n)) = bR E.prog s)→iQ E op t x y (.int k m) (.int k2 n) = some w:=by
  intro w s hd hs hr;unfold iQ;rw [hr,hs];unfold jr;dsimp only;rw [hd]
 unfold shK jW at e
 cases op with
 | shl =>
  dsimp only at e;split at e
  ·cases e
  ·rename_i hn;cases e
   refine go _ (Op.shift .shl k m k2 n) rfl ?_ rfl;unfold Op.shift;rw [if_neg hn]; rfl
 | shr =>
  dsimp only at e;split at e
  ·cases e
  ·rename_i hn;cases e
   refine go _ (Op.shift .shr k m k2 n) rfl ?_ rfl;unfold Op.shift;rw [if_neg hn]; rfl
 | _=>cases e
theorem aaO {k:IntKind}{op:BinOp}{t:TypeId}{x y:Operand}{a b v:Value}(e:arV k op a b = some v):PY E op t x y a b = some v:=by
 unfold arV at e;split at e
 ·rename_i k1 m;split at e
  ·rename_i k2 n;show BA E op t x y k1 k2 m n = some v;have data:iQ E op t x y (.int k1 m) (.int k2 n) = some v→(∀ w,k1 = .i64→k2 = .i64→jM op m n = some w→w = v)→BA E op t x y k1 k2 m n = some v:=by
    intro hd hf;unfold BA;cases k1 <;> first | exact hd | skip
    cases k2 <;> first | exact hd | skip
    dsimp only
    cases hi:jM op m n with
    | none=>exact hd
    | some w=>rw [hf w rfl rfl hi]; rfl
   split at e
   ·rename_i hs;split at e
    ·rename_i hk;subst hk;refine data (Xf e) fun w _ _ hi=>?_;cases op <;> first | (cases hi; done) | (cases hs; done)
    ·cases e
   ·split at e
    ·rename_i hk;obtain ⟨h1,h2⟩:=hk;subst h1 h2;refine data (Xe e) fun w h1 _ hi=>?_;subst h1;have:=Xd hi;rw [this] at e;exact Option.some.inj e
    ·cases e
  ·cases e
 ·cases e
theorem Za {op:BinOp}{t:TypeId}{x y:Operand}{a b v:Value}(e:UK op a b = some v):PY E op t x y a b = some v:=by
 unfold UK at e;split at e
 ·rename_i s;split at e
  ·rename_i u;show iQ E op t x y (.string s) (.string u) = some v;have go:∀ (w:Value),dP 3 w = true→bR E.prog (Op.stringOp op s u) = some w→(bR E.prog (do eqGuard op t x y (.string s) (.string u); binOp op t (.string s) (.string u)) = bR E.prog (Op.stringOp op s u))→iQ E op t x y (.string s) (.string u) = some w:=by
    intro w hd hs hr;unfold iQ;rw [hr,hs];unfold jr;dsimp only;rw [hd]
   split at e
   ·split at e
    ·rename_i hl;cases e
     refine go _ rfl ?_ rfl;unfold Op.stringOp;dsimp only;rw [if_neg (by have:IntKind.i64.max = 9223372036854775807:=rfl; rw [this]; omega)];rfl
    ·cases e
   ·cases e; exact go _ rfl rfl rfl
   ·cases e; exact go _ rfl rfl rfl
   ·cases e; exact go _ rfl rfl rfl
   ·cases e; exact go _ rfl rfl rfl
   ·cases e; exact go _ rfl rfl rfl
   ·cases e; exact go _ rfl rfl rfl
   ·cases e
  ·cases e
 ·cases e
theorem mM {α:Type}{P:Program}{t:TypeId}{D:TypeDesc}(hu:P.underlying t = some D)(f:TypeDesc→Sem α):bR P (underlying t >>= f) = bR P (f D):=by
 have e : bR P (underlying t >>= f) = bR P ((match P.underlying t with | some d => pure d | none => stuck "no such type") >>= f) := rfl
 rw [e,hu];rfl
theorem Xg {s d:TypeId}{k:IntKind}{i j:TI}{v w:Value}(hs:E.prog.underlying s = some i.desc)(hd:E.prog.underlying d = some (.int k))(e:Oq k v = some w):pR E h s d v = .val w h:=by
 unfold Oq at e;split at e
 ·rename_i k' n;cases e
  unfold pR;show hval h (jr (bR E.prog (convert s d (.int k' n)))) = _;have:bR E.prog (convert s d (.int k' n)) = some (.int k (jW k n)):=by
   unfold convert jW;rw [mM hs,mM hd];cases i.desc <;> rfl
  rw [this];rfl
 ·cases e
theorem yG {g:FuncId}(hc:callable E g = true)(as:List Value)(H:Heap):callFunc E g as H = .call g as H:=by
 unfold callable at hc;unfold callFunc at hc ⊢
 cases hf:E.fn.get g with
 | none=>rw [hf] at hc; cases hc
 | some fn =>
  rw [hf] at hc;dsimp only at hc ⊢;unfold F7 at hc ⊢
  cases hb:fn.body with
  | none=>rw [hb] at hc; cases hc
  | some b =>
   rw [hb] at hc;dsimp only at hc ⊢
   cases hn : (fn.name == "runtime.NumGoroutine") with
   | true=>rw [hn] at hc; cases hc
   | false=>rfl
theorem Ht {n:Nat}{j:Value}{k:Nat}(e:iJ n j = some k):indexOf n j = some k:=by
 unfold iJ at e;split at e
 ·rename_i _ j;split at e
  ·rename_i hj;cases e
   unfold indexOf below;obtain ⟨m,rfl⟩:=Int.eq_ofNat_of_zero_le hj.1;dsimp only;show (match Nat.ble (Nat.succ m) n with | true=>some m | false=>none) = _;rw [show Nat.ble (Nat.succ m) n = true from by rw [Nat.ble_eq]; omega];rfl
  ·cases e
 ·cases e
theorem zR {β:Type}(l:List β)(k:Nat):lC l k = l[k]?:=jK l k
theorem aaP (hE:∀ t i,E.ty t = some i→E.prog.underlying t = some i.desc){op:Op}{ty:TypeId}{x:TOp}(hx:typ E op = some x):HLe (runT E x φ h) (fQ E op ty φ h):=by
 cases op with
 | move x=>cases hx; exact .refl _
 | assign x=>cases hx; exact .refl _
 | pick c a b=>cases hx; exact .refl _
 | alloc t =>
  unfold typ at hx;dsimp only at hx;split at hx
  ·rename_i z hz;split at hx
   ·rename_i cs hcs;cases hx
    refine .inr ?_;simp only [runT,fQ,Cu,hz,hcs,Od]
   ·cases hx
  ·cases hx
 | box t x=>cases hx; exact .refl _
 | build t ps =>
  have hx:GX E t ps.toList = some x:=hx;unfold GX at hx;simp only [fQ,hbuild]
  cases hi:E.ty t with
  | none=>rw [hi] at hx; cases hx
  | some i =>
   rw [hi] at hx;dsimp only at hx ⊢
   cases hz:zeroCells i with
   | none=>rw [hz] at hx; cases hx
   | some z =>
    rw [hz] at hx;dsimp only at hx;unfold qc;rw [hz];dsimp only;unfold zw;split at hx
    ·rename_i fields hd;rw [hd];dsimp only
     cases ha:uD E fields.toList with
     | false=>rw [ha] at hx; cases hx
     | true =>
      rw [ha] at hx;dsimp only at hx ⊢
      cases hp:placesOf (pF E fields) ps.toList with
      | none=>rw [hp] at hx; cases hx
      | some qs =>
       rw [hp] at hx;cases hx
       simp only [runT];rw [FL hp];refine iN fun v hv=>?_;unfold Y9 at hv;split at hv
       ·rename_i cells hc;cases hv
        exact ⟨D0,by rw [hc]; rfl⟩
       ·cases hv
    ·rename_i n elem hd;rw [hd];dsimp only
     cases he:E.ty elem with
     | none=>rw [he] at hx; cases hx
     | some ei =>
      rw [he] at hx;dsimp only at hx ⊢
      cases hp:placesOf (iK ei.size) ps.toList with
      | none=>rw [hp] at hx; cases hx
      | some qs =>
       rw [hp] at hx;cases hx
       simp only [runT];rw [FL hp];refine iN fun v hv=>?_;unfold Y9 at hv;split at hv
       ·rename_i cells hc;cases hv
        exact ⟨D0,by rw [hc]; rfl⟩
       ·cases hv
    ·cases hx
 | buildSlice t len ps =>
  have hx:Lf E t len ps.toList = some x:=hx;unfold Lf at hx;simp only [fQ];unfold zK
  cases hse:dK E t with
  | none=>rw [hse] at hx; cases hx
  | some q =>
   obtain ⟨e,ei⟩:=q;rw [hse] at hx;dsimp only at hx ⊢
   cases hz:zeroCells ei with
   | none=>rw [hz] at hx; cases hx
   | some z =>
    rw [hz] at hx;dsimp only at hx ⊢
    cases hb:Nat.ble (Nat.mul len ei.size) 10000 && Nat.beq z.length ei.size with
    | false=>rw [hb] at hx; cases hx
    | true =>
     rw [hb] at hx;dsimp only at hx ⊢
     cases hp:placesOf (iK ei.size) ps.toList with
     | none=>rw [hp] at hx; cases hx
     | some qs =>
      rw [hp] at hx;cases hx
      simp only [runT];rw [FL hp];cases fill (iK ei.size) (times z len) (Cr φ ps.toList) <;> exact .refl _
 | load t a =>
  unfold typ at hx;dsimp only at hx;split at hx
  ·rename_i i hi;split at hx
   ·rename_i ha;cases hx
    simp only [runT,fQ,hload,zL,hi,ha];exact .refl _
   ·rename_i ha;cases hx
    simp only [runT,fQ,hload,zL,hi,ha];exact .refl _
  ·cases hx
 | store t a b =>
  unfold typ at hx;dsimp only at hx;split at hx
  ·rename_i i hi;cases hx
   simp only [runT,fQ,DZ];split
   ·rename_i r o hp;unfold FJ Lr;rw [hi];dsimp only
    cases cellsOf (bI φ b) with
    | none=>exact .fail _
    | some vs =>
     dsimp only;split
     ·exact .refl _
     ·exact .fail _
   ·exact .refl _
  ·cases hx
 | nilCheck a =>
  cases hx
  simp only [runT,fQ];refine iN fun v hv=>?_;unfold Xb at hv;unfold iB;cases hq:bI φ a <;> rw [hq] at hv <;> first | cases hv | skip
  ·rename_i a
   cases a with
   | none=>cases hv
   | some a=>cases hv; exact ⟨_,rfl⟩
  ·rename_i fn a b;cases fn <;> first | cases hv | skip
   all_goals exact ⟨_,rfl⟩
  ·exact ⟨_,rfl⟩
 | binOp op t a b yt =>
  have hx:Qs E op t a b = some x:=hx;unfold Qs at hx;split at hx
  ·rename_i i hi;split at hx
   ·cases hx
    exact FK fun v hv=>aaO hv
   ·cases hx
    exact FK fun v hv=>Za hv
   ·cases hx
  ·cases hx
 | unOp op t a =>
  cases op <;> first | cases hx | skip
  simp only [runT,fQ];refine iN fun v hv=>?_;unfold aaK at hv;split at hv
  ·rename_i b hb;cases hv
   rw [hb];exact ⟨D0,rfl⟩
  ·cases hv
 | convert s d a =>
  have hx:Lh E s d a = some x:=hx;unfold Lh at hx;split at hx
  ·rename_i i hi;split at hx
   ·rename_i j hj;split at hx
    ·rename_i k hk;cases hx
     simp only [runT,fQ]
     cases hc:Oq k (bI φ a) with
     | none=>exact .fail _
     | some v=>exact .inr (Xg (i:=i) (j:=j) (hE _ _ hi) (by rw [hE _ _ hj,hk]) hc).symm
    ·cases hx
   ·cases hx
  ·cases hx
 | sliceToArrayPointer t a =>
  unfold typ at hx;dsimp only at hx;split at hx
  ·rename_i i hi;split at hx
   ·rename_i n e hd;cases hx
    simp only [runT,fQ];refine iN fun v hv=>?_;unfold jv;rw [hi];dsimp only;rw [hd];dsimp only;unfold Ho at hv;split at hv
    ·rename_i r o sp len cap hp;rw [hp];unfold toArray;dsimp only;split at hv
     ·rename_i hb;cases hv
      rw [hb];exact ⟨D0,rfl⟩
     ·cases hv
    ·cases hv
   ·cases hx
  ·cases hx
 | makeFunc fn a b =>
  cases hx
  simp only [runT,fQ];refine iN fun v hv=>?_;unfold Xa at hv;cases fn <;> first | (cases hv; done) | (cases hv; exact ⟨D0,rfl⟩)
 | makeMap t r =>
  cases r with
  | none=>cases hx; exact .refl _
  | some r=>cases hx
 | makeSlice t l c =>
  have hx:Lg E t l c = some x:=hx;unfold Lg at hx;simp only [fQ];unfold wG
  cases hse:dK E t with
  | none=>rw [hse] at hx; cases hx
  | some q =>
   obtain ⟨e,ei⟩:=q;rw [hse] at hx;dsimp only at hx ⊢
   cases hz:zeroCells ei with
   | none=>rw [hz] at hx; cases hx
   | some z =>
    rw [hz] at hx;dsimp only at hx ⊢
    cases hb:Nat.beq z.length ei.size with
    | false=>rw [hb] at hx; cases hx
    | true =>
     rw [hb] at hx;cases hx
     simp only [runT,D5]
     cases asNat 100000 (bI φ l) with
     | none=>exact .fail _
     | some l =>
      dsimp only
      cases asNat 100000 (bI φ c) with
      | none=>exact .fail _
      | some c =>
       dsimp only;rw [Bool.and_true];cases Nat.ble l c && Nat.ble (Nat.mul ei.bytes c) 1073741824 <;> exact .refl _
 | slice t a lo hi mx =>
  have hx:GY E t a lo hi mx = some x:=hx;unfold GY at hx;simp only [fQ];split at hx
  ·rename_i i hi';rw [hi'];dsimp only;unfold He;split at hx
   ·rename_i hd;split at hx
    ·cases hx
     rw [hd];dsimp only;simp only [runT,pQ];unfold SF;split
     ·rename_i s hs;split
      ·rename_i l e m hb;refine .inr ?_;unfold fI;rw [hd,hs];dsimp only;rw [hb];rfl
      ·exact .fail _
     ·exact .fail _
    ·cases hx
   ·rename_i e hd;split at hx
    ·rename_i ei hei;cases hx
     rw [hd];dsimp only;rw [hei];dsimp only;simp only [runT];unfold lN;split
     ·rename_i len cap hv;rw [hv];refine .inr ?_;dsimp only;unfold fI;rw [hd];dsimp only;rw [hei]
     ·rename_i r o len cap hv;rw [hv];exact .refl _
     ·rename_i r o len cap hv;rw [hv];refine .inr ?_;dsimp only;unfold fI;rw [hd];dsimp only;rw [hei];rfl
     ·rename_i r o len cap hv;rw [hv];refine .inr ?_;dsimp only;unfold fI;rw [hd];dsimp only;rw [hei];rfl
     ·exact .fail _
    ·cases hx
   ·rename_i n e hd;split at hx
    ·rename_i ei hei;cases hx
     rw [hd];dsimp only;simp only [runT];unfold aam;split
     ·rename_i r o hv;rw [hv];refine .inr ?_;unfold fI;rw [hd];dsimp only;rw [hei]
     ·exact .fail _
    ·cases hx
   ·cases hx
  ·cases hx
 | fieldAddr t a f =>
  have hx:DW E a (mo (E.ty t) f) = some x:=hx;unfold DW at hx;simp only [fQ];split at hx
  ·rename_i fd hfd;rw [hfd];split at hx
   ·rename_i fi hfi;split at hx
    ·cases hx
    ·rename_i hz;cases hx
     simp only [runT];refine iN fun v hv=>?_;unfold WW at hv;split at hv
     ·rename_i r o hp;cases hv
      rw [hp];unfold iL;dsimp only;unfold uE;rw [hfi];dsimp only;rw [hz];exact ⟨D0,rfl⟩
     ·cases hv
   ·cases hx
  ·cases hx
 | field t a f =>
  have hx:GZ E a (mo (E.ty t) f) = some x:=hx;unfold GZ at hx;simp only [fQ];split at hx
  ·rename_i fd hfd;rw [hfd];split at hx
   ·rename_i fi hfi;split at hx
    ·rename_i ha;cases hx
     simp only [runT];refine iN fun v hv=>?_;unfold WY at hv;split at hv
     ·rename_i cs hp;split at hv
      ·rename_i hl;cases hv
       rw [hp];unfold qd;dsimp only;unfold partOf part;rw [hfi];dsimp only;rw [ha];dsimp only;rw [show Nat.ble (Nat.add fd.offset fi.size) cs.toList.length = true from by rw [Nat.ble_eq]; exact hl];exact ⟨D0,rfl⟩
      ·cases hv
     ·cases hv
    ·rename_i ha;cases hx
     simp only [runT];refine iN fun v hv=>?_;unfold WX at hv;split at hv
     ·rename_i cs hp;rw [hp];unfold qd;dsimp only;unfold partOf part;rw [hfi];dsimp only;rw [ha];dsimp only;rw [zR,hv];exact ⟨D0,rfl⟩
     ·cases hv
   ·cases hx
  ·cases hx
 | indexAddr t a j =>
  have hx:Li E t a j = some x:=hx;unfold Li at hx;simp only [fQ];split at hx
  ·rename_i i hi;rw [hi];split at hx
   ·rename_i n elem hd;split at hx
    ·rename_i ei hei;cases hx
     simp only [runT];refine iN fun v hv=>?_;unfold WZ at hv;unfold gM;dsimp only;rw [hd];dsimp only;split at hv
     ·rename_i r o hp;split at hv
      ·rename_i k hk;cases hv
       rw [hp];dsimp only;rw [Ht hk,hei];exact ⟨D0,rfl⟩
      ·cases hv
     ·cases hv
    ·cases hx
   ·rename_i elem hd;split at hx
    ·rename_i ei hei;cases hx
     simp only [runT];refine iN fun v hv=>?_;unfold kI at hv;unfold gM;dsimp only;rw [hd];dsimp only;split at hv
     ·rename_i r o sp n cap hp;split at hv
      ·cases hv
      ·rename_i hsp;split at hv
       ·rename_i k hk;cases hv
        rw [hp];dsimp only;rw [hsp];dsimp only;rw [Ht hk,hei];exact ⟨D0,rfl⟩
       ·cases hv
     ·cases hv
    ·cases hx
   ·cases hx
  ·cases hx
 | index t a j =>
  have hx:Qt E t a j = some x:=hx;unfold Qt at hx;simp only [fQ];split at hx
  ·rename_i i hi;rw [hi];split at hx
   ·rename_i n elem hd;split at hx
    ·rename_i ei hei;split at hx
     ·rename_i ha;cases hx
      simp only [runT];refine iN fun v hv=>?_;unfold aaM at hv;unfold lF;dsimp only;rw [hd];dsimp only;split at hv
      ·rename_i cs hp;split at hv
       ·rename_i k hk;split at hv
        ·rename_i hl;cases hv
         rw [hp];dsimp only;unfold elemOf part;rw [Ht hk,hei];dsimp only;rw [ha];dsimp only;rw [show Nat.ble (Nat.add (Nat.mul k ei.size) ei.size) cs.toList.length = true from by rw [Nat.ble_eq]; exact hl];exact ⟨D0,rfl⟩
        ·cases hv
       ·cases hv
      ·cases hv
     ·rename_i ha;split at hx
      ·rename_i h1;cases hx
       simp only [runT];refine iN fun v hv=>?_;unfold aaL at hv;unfold lF;dsimp only;rw [hd];dsimp only;split at hv
       ·rename_i cs hp;split at hv
        ·rename_i k hk;rw [hp];dsimp only;unfold elemOf part;rw [Ht hk,hei];dsimp only;rw [ha,Nat.eq_of_beq_eq_true h1];dsimp only;rw [show Nat.mul k 1 = k from Nat.mul_one k,zR,hv];exact ⟨D0,rfl⟩
        ·cases hv
       ·cases hv
      ·cases hx
    ·cases hx
   ·rename_i hd;cases hx
    simp only [runT];refine iN fun v hv=>?_;unfold QH at hv;unfold lF;dsimp only;rw [hd];dsimp only;split at hv
    ·rename_i s hp;split at hv
     ·rename_i k hk;split at hv
      ·rename_i b hb;cases hv
       rw [hp];dsimp only;unfold DF;rw [Ht hk];dsimp only;rw [zR,hb];exact ⟨D0,rfl⟩
      ·cases hv
     ·cases hv
    ·cases hv
   ·cases hx
  ·cases hx
 | extract a i =>
  cases hx
  simp only [runT,fQ];refine iN fun v hv=>?_;unfold aaN at hv;unfold extracted;split at hv
  ·rename_i vs hp;rw [hp];dsimp only;rw [zR,hv];exact ⟨D0,rfl⟩
  ·cases hv
 | call c =>
  obtain ⟨callee,args,ts⟩:=c
  cases callee with
  | value f =>
   have hx:some (Ll E f args.toList) = some x:=hx;have hv:HLe (SG E h (bI φ f) (jV φ args.toList)) (fQ E (.call ⟨.value f,args,ts⟩) ty φ h):=by
    show HLe _ (lift (sw E D0 (bI φ f) (jV φ args.toList)) h);unfold SG;split
    ·rename_i fn first captured hf;rw [hf];split
     ·rename_i g
      cases hc:callable E g with
      | false=>exact .fail _
      | true =>
       refine .inr ?_;show _ = lift (callFunc E g (first.toList ++ jV φ args.toList ++ captured.toList) D0) h;rw [yG hc];rfl
     ·exact .refl _
     ·exact .refl _
    ·exact .fail _
   cases hx
   unfold Ll;split
   ·rename_i g;split
    ·rename_i hc;refine .inr ?_;show fV.call g (jV φ args.toList) h = lift (callFunc E g ((#[]:Array Value).toList ++ jV φ args.toList ++ (#[]:Array Value).toList) D0) h;rw [yG hc];simp [lift]
    ·exact hv
   ·exact hv
  | invoke r m=>cases hx
  | builtin b =>
   cases b <;> first | (cases hx; done) | skip
   ·have hx:DX E ts.toList args.toList = some x:=hx;unfold DX at hx;simp only [fQ,uR];split at hx
    ·rename_i st xt hts;split at hx
     ·rename_i a b hab;split at hx
      ·rename_i e ei hse;split at hx
       ·rename_i xi hxi;split at hx
        ·cases hx
        ·rename_i hint;split at hx
         ·rename_i hb;cases hx
          rw [Bool.and_eq_true] at hb;rw [hts,hab];simp only [runT,jV,FH,sM,hse,hxi,hint];unfold J3;split
          ·rename_i base sl sc hs;rw [hs]
           cases hvb:jR base with
           | true=>exact .fail _
           | false =>
            dsimp only
            cases lenOf (bI φ b) with
            | none=>exact .fail _
            | some n =>
             dsimp only;rw [hvb];dsimp only;unfold zM
             cases dh h ei.size n (bI φ b) with
             | none=>exact .fail _
             | some new =>
              dsimp only;split
              ·exact .refl _
              ·unfold sN Ls
               cases dh h ei.size sl (.slice base sl sc) with
               | none=>exact .fail _
               | some old =>
                dsimp only;have:(nZ ei n (sl + n) new && Nat.ble 1 ei.size) = Bb ei.size ei.bytes n (sl + n) new:=by
                 unfold nZ Bb;rw [hb.1,hb.2];simp
                rw [this];exact .refl _
          ·exact .fail _
         ·cases hx
       ·cases hx
      ·cases hx
     ·cases hx
    ·cases hx
   ·have hx:Lj E ts.toList args.toList = some x:=hx;unfold Lj at hx;simp only [fQ,uR];split at hx
    ·rename_i dt rest hts;split at hx
     ·rename_i a b hab;split at hx
      ·rename_i e ei hse;cases hx
       rw [hts,hab];simp only [runT,jV,hcopy,zO,hse];unfold Xc;split
       ·rename_i base dl c hs;rw [hs];exact .refl _
       ·exact .fail _
      ·cases hx
     ·cases hx
    ·cases hx
   ·have hx:Qu E ts.toList args.toList = some x:=hx;unfold Qu at hx;simp only [fQ,uR];split at hx
    ·rename_i t rest hts;split at hx
     ·rename_i a rest' hab;split at hx
      ·rename_i i hi;split at hx
       ·rename_i e hd;cases hx
        rw [hts,hab];simp only [runT,jV,hlen,hi,Ba,hd];refine FK fun v hv=>?_;unfold W9 at hv;unfold xE;rw [hd];dsimp only;split at hv
        ·rename_i hs;cases hv
         rw [hs];rfl
        ·cases hv
       ·rename_i hd;cases hx
        rw [hts,hab];simp only [runT,jV,hlen,hi,Ba,hd];refine FK fun v hv=>?_;unfold LC at hv;unfold xE;rw [hd];dsimp only;split at hv
        ·rename_i hs;cases hv
         rw [hs];rfl
        ·cases hv
       ·rename_i n e hd;cases hx
        rw [hts,hab];simp only [runT,jV,hlen,hi,Ba,hd];refine .inr ?_;unfold xE;rw [hd];rfl
       ·cases hx
      ·cases hx
     ·cases hx
    ·cases hx
 | _=>cases hx
theorem SI (hE:∀ t i,E.ty t = some i→E.prog.underlying t = some i.desc)(op:Op)(ty:TypeId):HLe (runT E (lU (typ E op) op ty) φ h) (fQ E op ty φ h):=by
 cases ht:typ E op with
 | none=>exact .refl _
 | some x=>exact aaP hE ht
end
end
end Go.Rx
