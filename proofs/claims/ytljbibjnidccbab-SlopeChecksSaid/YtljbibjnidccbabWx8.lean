/- Contracts by what is to be shown of each step: a part of the engine. -/
import Derived.Test.YtljbibjnidccbabWx7
set_option maxRecDepth 100000
set_option linter.unusedVariables false
set_option linter.unusedSectionVars false
set_option linter.unusedSimpArgs false
namespace Go.Rx
noncomputable section

/-! The same for use: what is asked stands as it is to be shown. -/

def BoolOf (b:Bool) (p:Prop):Prop:=b = true↔p
theorem BoolOf.t {p:Prop} (h:BoolOf true p):p:=h.1 rfl
theorem BoolOf.f {p:Prop} (h:BoolOf false p):¬ p:=fun hp=>by cases h.2 hp
theorem BoolOf.of_t {b:Bool} {p:Prop} (h:BoolOf b p) (hp:p):b = true:=h.2 hp
theorem BoolOf.of_f {b:Bool} {p:Prop} (h:BoolOf b p) (hp:¬ p):b = false:=by cases b <;> first | rfl | exact absurd (h.1 rfl) hp
theorem cmpT {p:Prop} {K:Bool→Prop} (hp:p) (k:K true):∀ b,BoolOf b p→K b:=fun b hb=>by rw [hb.of_t hp]; exact k
theorem cmpF {p:Prop} {K:Bool→Prop} (hp:¬ p) (k:K false):∀ b,BoolOf b p→K b:=fun b hb=>by rw [hb.of_f hp]; exact k
theorem cmpB {p:Prop} {K:Bool→Prop} (kt:p→K true) (kf:¬ p→K false):∀ b,BoolOf b p→K b:=fun b hb=>by cases b; exact kf hb.f; exact kt hb.t
def IsWrap (k:IntKind) (n r:Int):Prop:=r = wrapI k n

theorem wid {n:Int} (h:-9223372036854775808≤n∧n < 9223372036854775808):IsWrap .i64 n n:=(wrapI_id h).symm

theorem wie {n r:Int} (e:n = r) (h:-9223372036854775808≤r∧r < 9223372036854775808):IsWrap .i64 n r:=e ▸ wid (by rw [e]; exact h)

def arP (k:IntKind) (op:BinOp) (m n:Int) (K:Value→Prop):Prop:=match op with
 | .add=>∃ r,IsWrap k (m + n) r∧K (.int k r)
 | .sub=>∃ r,IsWrap k (m - n) r∧K (.int k r)
 | .mul=>∃ r,IsWrap k (m * n) r∧K (.int k r)
 | .quo=>n≠0∧∃ r,IsWrap k (m.tdiv n) r∧K (.int k r)
 | .rem=>n≠0∧K (.int k (m.tmod n))
 | .and=>K (.int k (arBits k .and m n))
 | .or=>K (.int k (arBits k .or m n))
 | .xor=>K (.int k (arBits k .xor m n))
 | .andNot=>K (.int k (arBits k .andNot m n))
 | .eql=>∀ b,BoolOf b (m = n)→K (.bool b)
 | .neq=>∀ b,BoolOf b (m≠n)→K (.bool b)
 | .lss=>∀ b,BoolOf b (m < n)→K (.bool b)
 | .leq=>∀ b,BoolOf b (m≤n)→K (.bool b)
 | .gtr=>∀ b,BoolOf b (n < m)→K (.bool b)
 | .geq=>∀ b,BoolOf b (n≤m)→K (.bool b)
 | .shl=>False
 | .shr=>False
def shP (k:IntKind) (op:BinOp) (m n:Int) (K:Value→Prop):Prop:=match op with
 | .shl=>0≤n∧∃ r,IsWrap k (m * 2 ^ (min n.toNat k.bits)) r∧K (.int k r)
 | .shr=>0≤n∧K (.int k (m.fdiv (2 ^ (min n.toNat k.bits))))
 | _=>False
def arVP (k:IntKind) (op:BinOp) (a b:Value) (K:Value→Prop):Prop:=match a with
 | .int k1 m=>match b with
  | .int k2 n=>match isShift op with
   | true=>match decide (k1 = k) with
    | true=>shP k op m n K
    | false=>False
   | false=>match decide (k1 = k) && decide (k2 = k) with
    | true=>arP k op m n K
    | false=>False
  | _=>False
 | _=>False
def pickP (c a b:Value) (K:Value→Prop):Prop:=match c with
 | .bool c=>match c with
  | true=>K a
  | false=>K b
 | _=>False
def someP (v:Option Value) (K:Value→Prop):Prop:=match v with
 | some v=>K v
 | none=>False
def ptrP (v:Value) (K:Nat→Nat→Prop):Prop:=match v with
 | .pointer (some ⟨r,o,none⟩)=>K r o
 | _=>False
def isP (x:Option Value) (K:Value→Prop):Prop:=∃ v,x = some v∧K v
def isLP (x:Option (List Value)) (K:List Value→Prop):Prop:=∃ v,x = some v∧K v
def isHP (x:Option Hp) (K:Hp→Prop):Prop:=∃ v,x = some v∧K v
def idxP (n:Nat) (j:Value) (K:Nat→Prop):Prop:=match j with
 | .int _ j=>(0≤j∧j < (n:Int))∧K j.toNat
 | _=>False
def offAt (o j size:Nat):Nat:=match size with
 | 1=>j + o
 | s=>j * s + o
theorem offAt_eq (o j size:Nat):offAt o j size = o + j * size:=by
 unfold offAt; split
 ·omega
 ·exact Nat.add_comm _ _
def idxAP (n size:Nat) (v j:Value) (K:Value→Prop):Prop:=match v with
 | .pointer (some ⟨r,o,none⟩)=>idxP n j fun j=>K (ptr r (offAt o j size))
 | _=>False
def idxSP (size:Nat) (v j:Value) (K:Value→Prop):Prop:=match v with
 | .slice (some ⟨r,o,sp⟩) n _=>voidSp sp = false∧idxP n j fun j=>K (ptr r (offAt o j size))
 | _=>False
def ix1P (n:Nat) (v j:Value) (K:Value→Prop):Prop:=match v with
 | .agg cs=>idxP n j fun j=>isP (cs.toList[j]?) K
 | _=>False
def ixNP (n m:Nat) (v j:Value) (K:Value→Prop):Prop:=match v with
 | .agg cs=>idxP n j fun j=>j * m + m≤cs.toList.length∧K (.agg ⟨(cs.toList.drop (j * m)).take m⟩)
 | _=>False
def ixStrP (v j:Value) (K:Value→Prop):Prop:=match v with
 | .string s=>idxP s.size j fun j=>∃ b,s.data.toList[j]? = some b∧K (byteVal b)
 | _=>False
def storeP (h:Hp) (m r o:Nat) (v:Value) (K:Hp→Prop):Prop:=match cellsOf v with
 | some vs=>vs.length = m∧isHP (storeAt h r o vs) K
 | none=>False
def cellsP (x:Option (List Value)) (K:List Value→Prop):Prop:=match x with
 | some l=>K l
 | none=>False

def callQ (E:Env) (h:Hp) (f:Value) (xs:List Value) (K:Value→Hp→Prop):Prop:=match f with
 | .func fn first captured=>match fn with
  | .func g=>callable E g = true∧CallP E g (first.toList ++ xs ++ captured.toList) h K
  | .yield l=>YieldP E l (first.toList ++ xs) h K
  | fn=>ResP E (lift (aCall E D0 (.func fn first captured) xs) h) K
 | _=>False

def AppP (E:Env) (h:Hp) (e size bytes:Nat) (s x:Value) (K:Value→Hp→Prop):Prop:=ResP E (happT h e size bytes s x) K

def CutP (E:Env) (h:Hp) (size:Nat) (v:Value) (lo hi mx:Option Value) (K:Value→Hp→Prop):Prop:=ResP E (hcutS h size v lo hi mx) K

structure MapP (E:Env) (op:TOp) (φ:Frame) (h:Hp) (K:Value→Hp→Prop):Prop where
 out:ResP E (runT E op φ h) K
def isMapOp:Op→Bool
 | .lookup _ _ _ _ | .mapUpdate _ _ _ _ | .mapEntry _ _ _ | .entryStore _ _ _ _ | .insert _ _ _ _=>true
 | .call c=>match c.callee with
  | .builtin .len=>true
  | .builtin .append=>true
  | _=>false
 | _=>false

def opP (E:Env) (op:TOp) (φ:Frame) (h:Hp) (K:Value→Hp→Prop):Prop:=match op with
 | .mov x=>K (evφ φ x) h
 | .pick c a b=>pickP (evφ φ c) (evφ φ a) (evφ φ b) fun v=>K v h
 | .alloc e cells=>K (ptr0 h.next) (h.lay (.row e true cells))
 | .box e x=>cellsP (cellsOf (evφ φ x)) fun cells=>K (ptr0 h.next) (h.lay (.row e true cells))
 | .aggr z ps=>someP (aggV (fillφ φ z ps)) fun v=>K v h
 | .slit e n z ps=>cellsP (fillφ φ z ps) fun cells=>K (slc h.next 0 n n) (h.lay (.row e true cells))
 | .load1 x=>ptrP (evφ φ x) fun r o=>isP (cellAt h r o) fun v=>K v h
 | .loadN m x=>ptrP (evφ φ x) fun r o=>isLP (cellsAt h r o m) fun l=>K (.agg ⟨l⟩) h
 | .store m x y=>ptrP (evφ φ x) fun r o=>storeP h m r o (evφ φ y) fun h'=>K undef h'
 | .nilc x=>someP (nilcV (evφ φ x)) fun v=>K v h
 | .ar k op x y=>arVP k op (evφ φ x) (evφ φ y) fun v=>K v h
 | .str op x y=>isP (strV op (evφ φ x) (evφ φ y)) fun v=>K v h
 | .not x=>someP (notV (evφ φ x)) fun v=>K v h
 | .cint k x=>match evφ φ x with
  | .int _ n=>∃ r,IsWrap k n r∧K (.int k r) h
  | _=>False
 | .toArr n x=>isP (toArrV n (evφ φ x)) fun v=>K v h
 | .func fn a b=>someP (funcV fn (evLφ φ a) (evLφ φ b)) fun v=>K v h
 | .newMap=>K (mapAt h.next) (h.lay (.map [] 0))
 | .lenS x=>someP (lenSV (evφ φ x)) fun v=>K v h
 | .lenStr x=>someP (lenStrV (evφ φ x)) fun v=>K v h
 | .lenA n=>K (.int .i64 (n:Int)) h
 | .fldA off x=>someP (fldAV off (evφ φ x)) fun v=>K v h
 | .fld1 off x=>someP (fld1V off (evφ φ x)) fun v=>K v h
 | .fldN off m x=>someP (fldNV off m (evφ φ x)) fun v=>K v h
 | .idxA n size x j=>idxAP n size (evφ φ x) (evφ φ j) fun v=>K v h
 | .idxS size x j=>idxSP size (evφ φ x) (evφ φ j) fun v=>K v h
 | .ix1 n x j=>ix1P n (evφ φ x) (evφ φ j) fun v=>K v h
 | .ixN n m x j=>ixNP n m (evφ φ x) (evφ φ j) fun v=>K v h
 | .ixStr x j=>ixStrP (evφ φ x) (evφ φ j) fun v=>K v h
 | .ext x i=>someP (extV (evφ φ x) i) fun v=>K v h
 | .make e z bytes l c=>makeP h e z bytes (evφ φ l) (evφ φ c) K
 | .append e size bytes x y=>AppP E h e size bytes (evφ φ x) (evφ φ y) K
 | .cutS size x lo hi mx=>CutP E h size (evφ φ x) (evOφ φ lo) (evOφ φ hi) (evOφ φ mx) K
 | .call g xs=>CallP E g (evLφ φ xs) h K
 | .callv f xs=>callQ E h (evφ φ f) (evLφ φ xs) K
 | .raw op ty=>match isMapOp op with
  | true=>MapP E (.raw op ty) φ h K
  | false=>ResP E (runT E (.raw op ty) φ h) K
 | op=>ResP E (runT E op φ h) K

section
variable {E:Env}

theorem someP_ok {v:Option Value} {h:Hp} {K:Value→Hp→Prop} (w:someP v fun v=>K v h):ResP E (hval h v) K:=by
 cases v with
 | none=>exact w.elim
 | some v=>exact w
theorem isP_ok {v:Option Value} {h:Hp} {K:Value→Hp→Prop} (w:isP v fun v=>K v h):ResP E (hval h v) K:=by
 obtain ⟨u,e,w⟩:=w
 rw [e]; exact w

theorem arP_ok {k:IntKind} {op:BinOp} {m n:Int} {K:Value→Prop} (w:arP k op m n K):∃ v,arK k op m n = some v∧K v:=by
 unfold arP at w
 unfold arK
 cases op with
 | add=>obtain ⟨r,e,w⟩:=w; exact ⟨_,rfl,by rw [← show r = _ from e]; exact w⟩
 | sub=>obtain ⟨r,e,w⟩:=w; exact ⟨_,rfl,by rw [← show r = _ from e]; exact w⟩
 | mul=>obtain ⟨r,e,w⟩:=w; exact ⟨_,rfl,by rw [← show r = _ from e]; exact w⟩
 | quo=>obtain ⟨hn,r,e,w⟩:=w; exact ⟨_,if_neg hn,by rw [← show r = _ from e]; exact w⟩
 | rem=>obtain ⟨hn,w⟩:=w; exact ⟨_,if_neg hn,w⟩
 | and=>exact ⟨_,rfl,w⟩
 | or=>exact ⟨_,rfl,w⟩
 | xor=>exact ⟨_,rfl,w⟩
 | andNot=>exact ⟨_,rfl,w⟩
 | eql=>exact ⟨_,rfl,w _ (by unfold BoolOf; simp)⟩
 | neq=>exact ⟨_,rfl,w _ (by unfold BoolOf; simp)⟩
 | lss=>exact ⟨_,rfl,w _ (by unfold BoolOf; simp)⟩
 | leq=>exact ⟨_,rfl,w _ (by unfold BoolOf; simp)⟩
 | gtr=>exact ⟨_,rfl,w _ (by unfold BoolOf; simp)⟩
 | geq=>exact ⟨_,rfl,w _ (by unfold BoolOf; simp)⟩
 | shl=>exact w.elim
 | shr=>exact w.elim

theorem arVP_ok {k:IntKind} {op:BinOp} {a b:Value} {K:Value→Prop} (w:arVP k op a b K):∃ v,arV k op a b = some v∧K v:=by
 unfold arVP at w
 unfold arV
 cases a <;> dsimp only at w ⊢ <;> first | exact w.elim | skip
 cases b <;> dsimp only at w ⊢ <;> first | exact w.elim | skip
 rename_i k1 m k2 n
 cases hs:isShift op with
 | true =>
  rw [hs] at w
  dsimp only at w ⊢
  cases h1:decide (k1 = k) with
  | false=>rw [h1] at w; exact w.elim
  | true =>
  rw [h1] at w
  rw [if_pos (of_decide_eq_true h1)]
  dsimp only at w
  unfold shP at w
  unfold shK
  cases op <;> dsimp only at w ⊢ <;> first | exact w.elim | skip
  ·obtain ⟨hn,r,e,w⟩:=w
   exact ⟨_,if_neg (by omega),by rw [← show r = _ from e]; exact w⟩
  ·obtain ⟨hn,w⟩:=w
   exact ⟨_,if_neg (by omega),w⟩
 | false =>
  rw [hs] at w
  dsimp only at w ⊢
  cases h1:decide (k1 = k) && decide (k2 = k) with
  | false=>rw [h1] at w; exact w.elim
  | true =>
  rw [h1] at w
  rw [Bool.and_eq_true] at h1
  rw [if_pos ⟨of_decide_eq_true h1.1,of_decide_eq_true h1.2⟩]
  exact arP_ok w

theorem idxP_ok {n:Nat} {j:Value} {K:Nat→Prop} (w:idxP n j K):∃ k,idxN n j = some k∧K k:=by
 unfold idxP at w
 cases j <;> dsimp only at w <;> first | exact w.elim | skip
 obtain ⟨h,w⟩:=w
 exact ⟨_,idxN_ok h,w⟩

theorem storeP_ok {h:Hp} {m r o:Nat} {v:Value} {K:Value→Hp→Prop} (w:storeP h m r o v fun h'=>K undef h'):ResP E (hstoreT h m r o v) K:=by
 unfold storeP at w
 unfold hstoreT
 cases hc:cellsOf v with
 | none=>rw [hc] at w; exact w.elim
 | some vs =>
  rw [hc] at w
  obtain ⟨h1,h',e,w⟩:=w
  dsimp only
  rw [if_pos h1,e]
  exact w

theorem ptrP_ok {v:Value} {k:Nat→Nat→HRes} {K:Value→Hp→Prop} (w:ptrP v fun r o=>ResP E (k r o) K):ResP E (hptr v k) K:=by
 unfold ptrP at w
 unfold hptr
 split
 ·exact w
 ·rename_i hne
  split at w
  ·exact absurd rfl (hne _ _)
  ·exact w.elim

theorem ptrP_mono {v:Value} {K K':Nat→Nat→Prop} (k:∀ r o,K r o→K' r o) (w:ptrP v K):ptrP v K':=by
 unfold ptrP at w ⊢
 split
 ·exact k _ _ w
 ·rename_i hne
  split at w
  ·exact absurd rfl (hne _ _)
  ·exact w.elim

theorem opP_ok {op:TOp} {φ:Frame} {h:Hp} {K:Value→Hp→Prop} (w:opP E op φ h K):ResP E (runT E op φ h) K:=by
 cases op with
 | mov x=>exact w
 | pick c a b =>
  simp only [opP,pickP] at w
  simp only [runT]
  cases hc:evφ φ c <;> rw [hc] at w <;> dsimp only at w ⊢ <;> first | exact w.elim | skip
  rename_i b
  cases b <;> exact w
 | alloc e cells=>exact w
 | box e x =>
  simp only [opP,cellsP] at w
  simp only [runT,hbox]
  cases hc:cellsOf (evφ φ x) with
  | none=>rw [hc] at w; exact w.elim
  | some cs=>rw [hc] at w; exact w
 | aggr z ps=>exact someP_ok w
 | slit e n z ps =>
  simp only [opP,cellsP] at w
  simp only [runT,hslitT]
  cases hc:fillφ φ z ps with
  | none=>rw [hc] at w; exact w.elim
  | some cs=>rw [hc] at w; exact w
 | load1 x=>exact ptrP_ok (ptrP_mono (fun r o w=>isP_ok w) w)
 | loadN m x =>
  refine ptrP_ok (ptrP_mono (fun r o w=>?_) w)
  obtain ⟨l,e,w⟩:=w
  rw [e]; exact w
 | store m x y=>exact ptrP_ok (ptrP_mono (fun r o w=>storeP_ok w) w)
 | nilc x=>exact someP_ok w
 | ar k op x y=>exact isP_ok (arVP_ok (K:=fun v=>K v h) w)
 | str op x y=>exact isP_ok w
 | not x=>exact someP_ok w
 | cint k x =>
  simp only [opP] at w
  simp only [runT,cintV]
  cases hc:evφ φ x <;> rw [hc] at w <;> dsimp only at w ⊢ <;> first | exact w.elim | skip
  obtain ⟨r,e,w⟩:=w
  rw [← show r = _ from e]; exact w
 | toArr n x=>exact isP_ok w
 | func fn a b=>exact someP_ok w
 | newMap=>exact w
 | lenS x=>exact someP_ok w
 | lenStr x=>exact someP_ok w
 | lenA n=>exact w
 | fldA off x=>exact someP_ok w
 | fld1 off x=>exact someP_ok w
 | fldN off m x=>exact someP_ok w
 | idxA n size x j =>
  refine isP_ok ?_
  simp only [opP,idxAP] at w
  unfold idxAV
  split
  ·rename_i r o hp
   rw [hp] at w
   obtain ⟨k,e,w⟩:=idxP_ok w
   rw [offAt_eq] at w
   rw [e]
   exact ⟨_,rfl,w⟩
  ·rename_i hne
   split at w
   ·rename_i hp; exact absurd hp (hne _ _)
   ·exact w.elim
 | idxS size x j =>
  refine isP_ok ?_
  simp only [opP,idxSP] at w
  unfold idxSV
  split
  ·rename_i r o sp n c hp
   rw [hp] at w
   obtain ⟨hs,w⟩:=w
   obtain ⟨k,e,w⟩:=idxP_ok w
   rw [offAt_eq] at w
   rw [hs,e]
   exact ⟨_,rfl,w⟩
  ·rename_i hne
   split at w
   ·rename_i hp; exact absurd hp (hne _ _ _ _ _)
   ·exact w.elim
 | ix1 n x j =>
  refine isP_ok ?_
  simp only [opP,ix1P] at w
  unfold ix1V
  split
  ·rename_i cs hp
   rw [hp] at w
   obtain ⟨k,e,w⟩:=idxP_ok w
   rw [e]
   exact w
  ·rename_i hne
   split at w
   ·rename_i hp; exact absurd hp (hne _)
   ·exact w.elim
 | ixN n m x j =>
  refine isP_ok ?_
  simp only [opP,ixNP] at w
  unfold ixNV
  split
  ·rename_i cs hp
   rw [hp] at w
   obtain ⟨k,e,w⟩:=idxP_ok w
   rw [e]
   dsimp only
   rw [if_pos w.1]
   exact ⟨_,rfl,w.2⟩
  ·rename_i hne
   split at w
   ·rename_i hp; exact absurd hp (hne _)
   ·exact w.elim
 | ixStr x j =>
  refine isP_ok ?_
  simp only [opP,ixStrP] at w
  unfold ixStrV
  split
  ·rename_i s hp
   rw [hp] at w
   obtain ⟨k,e,b,eb,w⟩:=idxP_ok w
   rw [e]
   dsimp only
   rw [eb]
   exact ⟨_,rfl,w⟩
  ·rename_i hne
   split at w
   ·rename_i hp; exact absurd hp (hne _)
   ·exact w.elim
 | ext x i=>exact someP_ok w
 | make e z bytes l c=>exact makeP_ok w
 | append e size bytes x y=>exact w
 | cutS size x lo hi mx=>exact w
 | call g xs=>exact w
 | callv f xs =>
  simp only [opP,callQ] at w
  simp only [runT,callV]
  split
  ·rename_i fn first captured hf
   rw [hf] at w
   dsimp only at w
   split
   ·obtain ⟨hc,w⟩:=w
    rw [hc]; exact w
   ·exact w
   ·rename_i h1 h2
    split at w
    ·exact absurd rfl (h1 _)
    ·exact absurd rfl (h2 _)
    ·exact w
  ·rename_i hne
   split at w
   ·rename_i hp; exact absurd hp (hne _ _ _)
   ·exact w.elim
 | raw op ty =>
  simp only [opP] at w
  cases hm:isMapOp op with
  | true=>rw [hm] at w; exact w.out
  | false=>rw [hm] at w; exact w
 | _=>exact w
end

/-! Code. -/

abbrev Pq:=AExit→Frame→Hp→List Nat→Prop
def Pq.at (Q:Pq):Pst:=fun e s=>Q e s.φ s.h s.m

section
variable (E:Env)

def guardQ (v:Value) (want:Bool) (A B:Prop):Prop:=match v with
 | .bool b=>match b == want with
  | true=>A
  | false=>B
 | _=>B
def stepQ (g:G) (K:Frame→Hp→(Frame→Hp→Prop)→Prop) (φ:Frame) (h:Hp) (Q:Frame→Hp→Prop):Prop:=match g.g with
 | none=>opP E g.op φ h fun v h'=>K (put φ g.d v) h' Q
 | some (t,want)=>guardQ (φ t) want (opP E g.op φ h fun v h'=>K (put φ g.d v) h' Q) (K (put φ g.d undef) h Q)
def wqOps (l:List G):Frame→Hp→(Frame→Hp→Prop)→Prop :=
 List.rec (motive:=fun _=>Frame→Hp→(Frame→Hp→Prop)→Prop) (fun φ h Q=>Q φ h) (fun g _ K φ h Q=>stepQ E g K φ h Q) l
theorem wqOps_cons (d:Option Nat) (op:TOp) (g:Option (Nat×Bool)) (l:List G) (φ:Frame) (h:Hp) (Q:Frame→Hp→Prop):wqOps E (⟨d,op,g⟩ :: l) φ h Q = match g with
  | none=>opP E op φ h fun v h'=>wqOps E l (put φ d v) h' Q
  | some (t,want)=>match φ t with
   | .bool b=>match b == want with
    | true=>opP E op φ h fun v h'=>wqOps E l (put φ d v) h' Q
    | false=>wqOps E l (put φ d undef) h Q
   | _=>wqOps E l (put φ d undef) h Q:=by
 cases g with
 | none=>rfl
 | some q=>rfl

def seqQ (Q:Pq) (K:Frame→Hp→List Nat→Prop):Pq:=fun e φ h m=>match e with
 | .normal=>K φ h m
 | e=>Q e φ h m
def blockQ (id:Nat) (Q:Pq):Pq:=fun e φ h m=>match e with
 | .exit id'=>match Nat.beq id' id with
  | true=>Q .normal φ h m
  | false=>Q (.exit id') φ h m
 | e=>Q e φ h m
def scopeQ (Q:Pq):Pq:=fun e φ h m=>match e with
 | .goto _=>False
 | e=>Q e φ h m
def jumpQ (φ:Frame) (m:List Nat) (Q:Pq) (h:Hp) (l:Nat):Prop:=jumpP φ m Q.at h l
def condQ (v:Value) (A B:Prop):Prop:=match v with
 | .bool b=>match b with
  | true=>A
  | false=>B
 | _=>False
def rangeQ (z:Nat) (f:Value) (ps:Array Tmp) (a b:C) (φ:Frame) (m0:List Nat) (Q:Pq) (d:Nat) (m:List Nat) (h:Hp):Prop:=match f with
 | .func fn first captured=>match fn with
  | .func g=>callable E g = true∧CallP E g (first.toList ++ [yieldVal h.next] ++ captured.toList) (h.lay (.loop E .ready none φ z ps a b d)) fun _ h2=>jumpQ φ (m ++ m0) Q h2 h.next
  | _=>False
 | _=>False
def roundQ (z:Nat) (f:Value) (ps:Array Tmp) (a b:C) (φ:Frame) (h:Hp) (m0:List Nat) (Q:Pq) (rd:Option Nat):Prop:=match rd with
 | some l=>∃ E' st p φ' z' ps' a' b' d,h.at l = some (.loop E' st p φ' z' ps' a' b' d)∧rangeQ E z f ps a b φ m0 Q d [] h
 | none=>rangeQ E z f ps a b φ m0 Q h.next [h.next] (h.lay .noDefers)

def callFree:TOp→Bool
 | .call _ _ | .callv _ _ | .raw _ _ | .box _ _ | .slit _ _ _ _ | .store _ _ _ | .make _ _ _ _ _ | .cutStr _ _ _ | .cutA _ _ _ _ _ _ | .append _ _ _ _ _ | .copy _ _ _=>false
 | _=>true
def drOpP (turns:Bool) (op:TOp) (φ:Frame) (h:Hp) (K:Value→Hp→Prop):Prop:=match turns || callFree op with
 | true=>opP E op φ h K
 | false=>DrP E false (runT E op φ h) K
def wqDraw (gs:List G):List Dr→Frame→Hp→(List Nt→List Hp→Frame→Hp→Prop)→Prop :=
 List.rec (motive:=fun _=>List Dr→Frame→Hp→(List Nt→List Hp→Frame→Hp→Prop)→Prop) (fun _ φ h K=>K [] [] φ h)
  (fun g _ A ds φ h K=>match ds with
   | []=>False
   | d :: ds=>match gok φ g.g with
    | true=>drOpP E d.turns g.op φ h fun v h'=>A ds (put φ g.d v) h' fun ns hs=>K (⟨φ,v,true⟩ :: ns) (consH d.turns h' hs)
    | false=>A ds (put φ g.d undef) h fun ns hs=>K (⟨φ,undef,false⟩ :: ns) hs) gs
def wqAhead (gs:List G):List Dr→List Bool→Nat→Frame→Hp→(List Nt→List Hp→Frame→Hp→Prop)→Prop :=
 List.rec (motive:=fun _=>List Dr→List Bool→Nat→Frame→Hp→(List Nt→List Hp→Frame→Hp→Prop)→Prop) (fun _ _ _ φ h K=>K [] [] φ h)
  (fun g _ A ds bs n φ h K=>match ds with
   | []=>False
   | d :: ds=>match bs with
    | []=>False
    | b :: bs=>match b with
     | true=>layP g.op n fun v=>A ds bs (Nat.succ n) (put φ g.d v) h fun ns hs=>K (⟨φ,v,true⟩ :: ns) hs
     | false=>match gok φ g.g with
      | true=>drOpP E d.turns g.op φ h fun v h'=>A ds bs n (put φ g.d v) h' fun ns hs=>K (⟨φ,v,true⟩ :: ns) (consH d.turns h' hs)
      | false=>A ds bs n (put φ g.d undef) h fun ns hs=>K (⟨φ,undef,false⟩ :: ns) hs) gs
def wqLays (gs:List G):List Bool→List Nt→Hp→(List (Option Nat)→Hp→Prop)→Prop :=
 List.rec (motive:=fun _=>List Bool→List Nt→Hp→(List (Option Nat)→Hp→Prop)→Prop) (fun _ _ h K=>K [] h)
  (fun g _ A bs ns h K=>match bs with
   | []=>K [] h
   | b :: bs=>match ns with
    | []=>K [] h
    | n :: ns=>match b with
     | true=>match n.done with
      | true=>lay2P g.op n.φ fun _ e cells=>A bs ns (h.lay (.row e true cells)) fun as h'=>K (some h.next :: as) h'
      | false=>A bs ns h fun as h'=>K (none :: as) h'
     | false=>A bs ns h fun as h'=>K (none :: as) h') gs
def dryStep (b:Bool) (as:List (Option Nat)) (A:Nat→List (Option Nat)→Prop) (B:List (Option Nat)→Prop):Prop:=match b with
 | true=>match as with
  | []=>False
  | a :: as=>match a with
   | some r=>A r as
   | none=>False
 | false=>match as with
  | []=>False
  | a :: as=>match a with
   | some _=>False
   | none=>B as
theorem dryStep_mono {b:Bool} {as:List (Option Nat)} {A A':Nat→List (Option Nat)→Prop} {B B':List (Option Nat)→Prop} (ka:∀ r as,A r as→A' r as) (kb:∀ as,B as→B' as) (w:dryStep b as A B):dryStep b as A' B':=by
 cases b with
 | true =>
  cases as with
  | nil=>exact (show False from w).elim
  | cons a as =>
   cases a with
   | none=>exact (show False from w).elim
   | some r=>exact ka _ _ w
 | false =>
  cases as with
  | nil=>exact (show False from w).elim
  | cons a as =>
   cases a with
   | some r=>exact (show False from w).elim
   | none=>exact kb _ w
def wqDryA (gs:List G):List Dr→List Bool→List (Option Nat)→Frame→Hp→(List Nt→List Ld→List Hp→Frame→Hp→Prop)→Prop :=
 List.rec (motive:=fun _=>List Dr→List Bool→List (Option Nat)→Frame→Hp→(List Nt→List Ld→List Hp→Frame→Hp→Prop)→Prop) (fun _ _ _ φ h K=>K [] [] [] φ h)
  (fun g _ A ds bs as φ h K=>match ds with
   | []=>False
   | d :: ds=>match bs with
    | []=>False
    | b :: bs=>match gok φ g.g with
     | true=>dryStep b as (fun r as=>lay2P g.op φ fun f e cells=>A ds bs as (put φ g.d (f r)) h fun ns os hs=>K (⟨φ,f r,true⟩ :: ns) (some (r,e,cells) :: os) hs) (fun as=>drOpP E d.turns g.op φ h fun v h'=>A ds bs as (put φ g.d v) h' fun ns os hs=>K (⟨φ,v,true⟩ :: ns) (none :: os) (consH d.turns h' hs))
     | false=>A ds bs as.tail (put φ g.d undef) h fun ns os hs=>K (⟨φ,undef,false⟩ :: ns) (none :: os) hs) gs
def LoopP (z:Nat) (rd:Option Nat) (b:C) (B:Frame→Hp→List Nat→Pq→Prop) (φ:Frame) (h:Hp) (m:List Nat) (Q:Pq):Prop :=
 ∃ (I:Nat→Frame→Hp→List Nat→Prop) (n:Nat) (h0:Hp),h0.Le h∧I n φ h0 m∧∀ n φ h m,I n φ h m→B φ h m (seqQ Q fun φ' h' m'=>∃ n' h'',n' < n∧h''.Le h'∧I n' φ' h'' m')
structure SeqP (z:Nat) (rd:Option Nat) (a b:C) (A B:Frame→Hp→List Nat→Pq→Prop) (φ:Frame) (h:Hp) (m:List Nat) (Q:Pq):Prop where
 out:A φ h m (seqQ Q fun φ h m=>B φ h m Q)
def wq (z:Nat) (rd:Option Nat) (c:C):Frame→Hp→List Nat→Pq→Prop :=
 C.rec (motive:=fun _=>Frame→Hp→List Nat→Pq→Prop)
  (fun φ h m Q=>Q .normal φ h m)
  (fun φ h m Q=>Q .ret φ h m)
  (fun id φ h m Q=>Q (.exit id) φ h m)
  (fun l φ h m Q=>Q (.goto l) φ h m)
  (fun l φ h m Q=>wqOps E l φ h fun φ h=>Q .normal φ h m)
  (fun l ds φ h m Q=>wqDraw E l ds φ h fun ns hs φ h'=>okAll E ns (h :: hs) l ds ns∧Q .normal φ h' m)
  (fun a b A B φ h m Q=>SeqP z rd a b A B φ h m Q)
  (fun x _ _ A B φ h m Q=>condQ (evφ φ x) (A φ h m Q) (B φ h m Q))
  (fun id _ B φ h m Q=>B φ h m (blockQ id Q))
  (fun _ B φ h m Q=>B φ h m (scopeQ Q))
  (fun b B φ h m Q=>LoopP z rd b B φ h m Q)
  (fun f ps a b _ _ φ h m Q=>roundQ E z (evφ φ f) ps a b φ h m Q rd)
  (fun l ds ls φ h m Q=>wqAhead E l ds ls h.next φ (laysH l ls h) fun ns hs φ h'=>okAllA E ns (laysH l ls h :: hs) l ds ls ns∧Q .normal φ h' m)
  (fun l df ds ls φ h m Q=>wqDraw E l df φ h fun n1 _ _ _=>wqLays l ls n1 h fun as h0=>wqDryA E l ds ls as φ h0 fun ns os hs φ h'=>okAllD E ns (h0 :: hs) l ds os ns∧Q .normal φ h' m)
  c
theorem wq_cond (z:Nat) (rd:Option Nat) (x:Operand) (a b:C) (φ:Frame) (h:Hp) (m:List Nat) (Q:Pq):wq E z rd (.cond x a b) φ h m Q = condQ (evφ φ x) (wq E z rd a φ h m Q) (wq E z rd b φ h m Q):=rfl
theorem wq_range (z:Nat) (rd:Option Nat) (f:Operand) (ps:Array Tmp) (a b:C) (φ:Frame) (h:Hp) (m:List Nat) (Q:Pq):wq E z rd (.range f ps a b) φ h m Q = roundQ E z (evφ φ f) ps a b φ h m Q rd:=rfl

def leaveQ (rs:List ResultVar) (Q:Value→Hp→Prop):Pq:=fun e φ h m=>match e with
 | .normal=>finP E rs ⟨φ,h,m⟩ Q
 | .ret=>finP E rs ⟨φ,h,m⟩ Q
 | _=>False
end

section
variable {E:Env} {z:Nat} {rd:Option Nat} [TyOk E]

theorem wqOps_ok:∀ {gs:List G} {φ:Frame} {h:Hp} {Q:Frame→Hp→Prop},wqOps E gs φ h Q→wpOps E gs φ h Q
 | [],φ,h,Q,w=>w
 | ⟨d,op,g⟩ :: l,φ,h,Q,w=>by
  unfold wpOps
  rw [wqOps_cons] at w
  cases g with
  | none=>exact ResP_mono (fun v h' hy=>wqOps_ok hy) (opP_ok w)
  | some q =>
   obtain ⟨t,want⟩:=q
   dsimp only at w ⊢
   unfold gok boolAt
   dsimp only
   cases hv:φ t <;> rw [hv] at w <;> dsimp only at w ⊢ <;> first | exact wqOps_ok w | skip
   rename_i b
   cases hb:b == want with
   | true=>rw [hb] at w; exact ResP_mono (fun v h' hy=>wqOps_ok hy) (opP_ok w)
   | false=>rw [hb] at w; exact wqOps_ok w

theorem callFree_vf {op:TOp} (hc:callFree op = true) (φ:Frame) (h:Hp):VFφ (runT E op φ h):=by
 cases op <;> first | (cases hc; done) | exact vf_hval _ _ | trivial | skip
 all_goals simp only [runT]
 ·repeat' split
  all_goals trivial
 ·unfold hptr; split <;> first | exact vf_hval _ _ | trivial
 ·unfold hptr; split <;> first | exact vf_hval _ _ | trivial
 ·unfold hcutS
  split
  ·exact VF.lift (by unfold cutNil; repeat' (first | trivial | split)) _
  ·unfold hcutObj
   split
   ·split
    ·exact VF.lift (vf_cutExact _ _ _ _ _) _
    ·exact VF.lift (vf_cutOf _ _ _ _ _ _) _
   ·exact VF.lift (vf_cutOf _ _ _ _ _ _) _
   ·trivial
  ·exact VF.lift (by unfold cutLim; repeat' (first | trivial | split)) _
  ·exact VF.lift (by unfold cutVoid; repeat' (first | trivial | split)) _
  ·trivial
theorem drOpP_ok {turns:Bool} {op:TOp} {φ:Frame} {h:Hp} {K:Value→Hp→Prop} (w:drOpP E turns op φ h K):DrP E turns (runT E op φ h) K:=by
 unfold drOpP at w
 cases turns with
 | true=>exact opP_ok w
 | false =>
  rw [Bool.false_or] at w
  cases hc:callFree op with
  | false=>rw [hc] at w; exact w
  | true =>
   rw [hc] at w
   have h1:=opP_ok w
   have h2:=callFree_vf (E:=E) hc φ h
   revert h1 h2
   generalize runT E op φ h = r
   intro h1 h2
   cases r with
   | val v h'=>exact h1
   | fail=>exact h1.elim
   | _=>exact h2.elim
theorem wqDraw_ok:∀ {gs:List G} {ds:List Dr} {φ:Frame} {h:Hp} {K:List Nt→List Hp→Frame→Hp→Prop},wqDraw E gs ds φ h K→wpDraw E gs ds φ h K
 | [],ds,φ,h,K,w=>by unfold wpDraw; exact w
 | g :: l,[],φ,h,K,w=>by cases w
 | g :: l,d :: ds,φ,h,K,w=>by
  have w:(match gok φ g.g with
    | true=>drOpP E d.turns g.op φ h fun v h'=>wqDraw E l ds (put φ g.d v) h' fun ns hs=>K (⟨φ,v,true⟩ :: ns) (consH d.turns h' hs)
    | false=>wqDraw E l ds (put φ g.d undef) h fun ns hs=>K (⟨φ,undef,false⟩ :: ns) hs):=w
  unfold wpDraw
  cases hb:gok φ g.g with
  | true =>
   rw [hb] at w
   exact DrP_mono (fun v h' hy=>wqDraw_ok hy) (drOpP_ok w)
  | false =>
   rw [hb] at w
   exact wqDraw_ok w

theorem wqAhead_ok:∀ {gs:List G} {ds:List Dr} {ls:List Bool} {n:Nat} {φ:Frame} {h:Hp} {K:List Nt→List Hp→Frame→Hp→Prop},wqAhead E gs ds ls n φ h K→wpAhead E gs ds ls n φ h K
 | [],ds,ls,n,φ,h,K,w=>by unfold wpAhead; exact w
 | g :: l,[],ls,n,φ,h,K,w=>by cases w
 | g :: l,d :: ds,[],n,φ,h,K,w=>by cases w
 | g :: l,d :: ds,b :: bs,n,φ,h,K,w=>by
  unfold wpAhead
  cases b with
  | true =>
   have w:layP g.op n fun v=>wqAhead E l ds bs (Nat.succ n) (put φ g.d v) h fun ns hs=>K (⟨φ,v,true⟩ :: ns) hs:=w
   exact layP_mono (fun v hy=>wqAhead_ok hy) w
  | false =>
   have w : (match gok φ g.g with
         | true => drOpP E d.turns g.op φ h fun v h' => wqAhead E l ds bs n (put φ g.d v) h' fun ns hs => K (⟨φ, v, true⟩ :: ns) (consH d.turns h' hs)
         | false => wqAhead E l ds bs n (put φ g.d undef) h fun ns hs => K (⟨φ, undef, false⟩ :: ns) hs) := w
   dsimp only
   cases hb:gok φ g.g with
   | true =>
    rw [hb] at w
    exact DrP_mono (fun v h' hy=>wqAhead_ok hy) (drOpP_ok w)
   | false =>
    rw [hb] at w
    exact wqAhead_ok w

theorem wqLays_ok:∀ {gs:List G} {ls:List Bool} {ns:List Nt} {h:Hp} {K:List (Option Nat)→Hp→Prop},wqLays gs ls ns h K→wpLays gs ls ns h K
 | [],ls,ns,h,K,w=>by unfold wpLays; exact w
 | g :: l,[],ns,h,K,w=>by unfold wpLays; exact w
 | g :: l,b :: bs,[],h,K,w=>by unfold wpLays; exact w
 | g :: l,b :: bs,n :: ns,h,K,w=>by
  unfold wpLays
  cases b with
  | false=>exact wqLays_ok w
  | true =>
   have w : (match n.done with
         | true => lay2P g.op n.φ fun _ e cells => wqLays l bs ns (h.lay (.row e true cells)) fun as h' => K (some h.next :: as) h'
         | false => wqLays l bs ns h fun as h' => K (none :: as) h') := w
   dsimp only
   cases hn:n.done with
   | true=>rw [hn] at w; exact lay2P_mono (fun f e c hy=>wqLays_ok hy) w
   | false=>rw [hn] at w; exact wqLays_ok w
theorem wqDryA_ok:∀ {gs:List G} {ds:List Dr} {ls:List Bool} {as:List (Option Nat)} {φ:Frame} {h:Hp} {K:List Nt→List Ld→List Hp→Frame→Hp→Prop},wqDryA E gs ds ls as φ h K→wpDryA E gs ds ls as φ h K
 | [],ds,ls,as,φ,h,K,w=>by unfold wpDryA; exact w
 | g :: l,[],ls,as,φ,h,K,w=>by cases w
 | g :: l,d :: ds,[],as,φ,h,K,w=>by cases w
 | g :: l,d :: ds,b :: bs,as,φ,h,K,w=>by
  have w : (match gok φ g.g with
        | true => dryStep b as (fun r as => lay2P g.op φ fun f e cells => wqDryA E l ds bs as (put φ g.d (f r)) h fun ns os hs => K (⟨φ, f r, true⟩ :: ns) (some (r, e, cells) :: os) hs) (fun as => drOpP E d.turns g.op φ h fun v h' => wqDryA E l ds bs as (put φ g.d v) h' fun ns os hs => K (⟨φ, v, true⟩ :: ns) (none :: os) (consH d.turns h' hs))
        | false => wqDryA E l ds bs as.tail (put φ g.d undef) h fun ns os hs => K (⟨φ, undef, false⟩ :: ns) (none :: os) hs) := w
  unfold wpDryA
  dsimp only
  cases hb:gok φ g.g with
  | false=>rw [hb] at w; exact wqDryA_ok w
  | true =>
   rw [hb] at w
   dsimp only at w ⊢
   cases b with
   | true =>
    cases as with
    | nil=>exact (show False from w).elim
    | cons a as =>
     cases a with
     | none=>exact (show False from w).elim
     | some r=>exact lay2P_mono (fun f e c hy=>wqDryA_ok hy) w
   | false =>
    cases as with
    | nil=>exact (show False from w).elim
    | cons a as =>
     cases a with
     | some r=>exact (show False from w).elim
     | none=>exact DrP_mono (fun v h' hy=>wqDryA_ok hy) (drOpP_ok w)
theorem wq_wp:∀ {c:C} {φ:Frame} {h:Hp} {m:List Nat} {Q:Pq},wq E z rd c φ h m Q→wp E z rd c ⟨φ,h,m⟩ Q.at:=by
 intro c
 induction c with
 | skip=>intro φ h m Q w; exact w
 | ret=>intro φ h m Q w; exact w
 | exit id=>intro φ h m Q w; exact w
 | goto l=>intro φ h m Q w; exact w
 | ops l=>intro φ h m Q w; exact wqOps_ok w
 | draw l ds=>intro φ h m Q w; exact wqDraw_ok w
 | ahead l ds ls=>intro φ h m Q w; exact wqAhead_ok w
 | dry l df ds ls=>intro φ h m Q w; exact wpDraw_mono (fun n1 _ _ _ hy=>wpLays_mono (fun as h0 hy=>wqDryA_ok hy) (wqLays_ok hy)) (wqDraw_ok w)
 | seq a b iha ihb =>
  intro φ h m Q w
  show wp E z rd a _ _
  refine wp_mono (fun e s hy=>?_) (iha w.out)
  cases e with
  | normal=>exact ihb hy
  | _=>exact hy
 | cond x a b iha ihb =>
  intro φ h m Q w
  rw [wq_cond] at w
  simp only [condQ] at w
  simp only [wp,CondP]
  split
  ·rename_i bb hbb
   rw [hbb] at w
   cases bb with
   | true=>exact ⟨fun _=>iha w,fun e=>(by cases e)⟩
   | false=>exact ⟨fun e=>(by cases e),fun _=>ihb w⟩
  ·rename_i hne
   split at w
   ·rename_i hbb; exact absurd hbb (hne _)
   ·exact w
 | block id b ih =>
  intro φ h m Q w
  show wp E z rd b _ _
  refine wp_mono (fun e s hy=>?_) (ih w)
  cases e with
  | exit id' =>
   unfold Pq.at blockQ at hy
   unfold blockP
   dsimp only at hy ⊢
   cases hid:Nat.beq id' id with
   | true=>rw [hid] at hy; exact hy
   | false=>rw [hid] at hy; exact hy
  | _=>exact hy
 | scope b ih =>
  intro φ h m Q w
  show wp E z rd b _ _
  refine wp_mono (fun e s hy=>?_) (ih w)
  cases e <;> exact hy
 | loop b ih =>
  intro φ h m Q w
  obtain ⟨I,n,h0,hl,hn,hI⟩:=w
  refine ⟨fun n s=>I n s.φ s.h s.m,n,h0,hl,hn,fun n s hs=>?_⟩
  refine wp_mono (fun e s hy=>?_) (ih (hI n s.φ s.h s.m hs))
  cases e with
  | normal=>exact hy
  | _=>exact hy
 | range f ps a b _ _ =>
  intro φ h m Q w
  rw [wq_range] at w
  simp only [roundQ] at w
  simp only [wp]
  have main:∀ {d:Nat} {mk:List Nat} {h':Hp},rangeQ E z (evφ φ f) ps a b φ m Q d mk h'→rangeP E z (evφ φ f) ps a b ⟨φ,h,m⟩ Q.at (some (d,mk,h')):=by
   intro d mk h' w
   unfold rangeQ at w
   unfold rangeP
   dsimp only
   exact w
  cases rd with
  | none=>exact main w
  | some l =>
   obtain ⟨E',st,p,φ',z',ps',a',b',d,hl,w⟩:=w
   unfold aroundφ
   dsimp only
   rw [hl]
   exact main w

theorem leaveQ_at {rs:List ResultVar} {Q:Value→Hp→Prop}:(leaveQ E rs Q).at = leaveP E rs Q:=by
 funext e s
 cases e <;> rfl

theorem arP_mono {k:IntKind} {op:BinOp} {m n:Int} {K K':Value→Prop} (f:∀ v,K v→K' v) (w:arP k op m n K):arP k op m n K':=by
 unfold arP at w ⊢
 cases op <;> first | exact w.elim | (obtain ⟨r,e,w⟩:=w; exact ⟨r,e,f _ w⟩) | (obtain ⟨hn,r,e,w⟩:=w; exact ⟨hn,r,e,f _ w⟩) | exact ⟨w.1,f _ w.2⟩ | exact fun b hb=>f _ (w b hb) | exact f _ w
theorem arVP_mono {k:IntKind} {op:BinOp} {a b:Value} {K K':Value→Prop} (f:∀ v,K v→K' v) (w:arVP k op a b K):arVP k op a b K':=by
 unfold arVP at w ⊢
 cases a <;> dsimp only at w ⊢ <;> first | exact w.elim | skip
 cases b <;> dsimp only at w ⊢ <;> first | exact w.elim | skip
 rename_i k1 m k2 n
 cases hs:isShift op with
 | true =>
  rw [hs] at w
  dsimp only at w ⊢
  cases h1:decide (k1 = k) with
  | false=>rw [h1] at w; exact w.elim
  | true =>
  rw [h1] at w
  dsimp only at w ⊢
  unfold shP at w ⊢
  cases op <;> dsimp only at w ⊢ <;> first | exact w.elim | skip
  ·obtain ⟨hn,r,e,w⟩:=w; exact ⟨hn,r,e,f _ w⟩
  ·exact ⟨w.1,f _ w.2⟩
 | false =>
  rw [hs] at w
  dsimp only at w ⊢
  cases h1:decide (k1 = k) && decide (k2 = k) with
  | false=>rw [h1] at w; exact w.elim
  | true=>rw [h1] at w; exact arP_mono f w
theorem someP_mono {v:Option Value} {K K':Value→Prop} (f:∀ v,K v→K' v) (w:someP v K):someP v K':=by
 cases v with
 | none=>exact w
 | some v=>exact f _ w
theorem isP_mono {v:Option Value} {K K':Value→Prop} (f:∀ v,K v→K' v) (w:isP v K):isP v K':=let ⟨u,e,w⟩:=w; ⟨u,e,f _ w⟩
theorem idxP_mono {n:Nat} {j:Value} {K K':Nat→Prop} (f:∀ v,K v→K' v) (w:idxP n j K):idxP n j K':=by
 unfold idxP at w ⊢
 cases j <;> dsimp only at w ⊢ <;> first | exact w.elim | exact ⟨w.1,f _ w.2⟩
theorem cellsP_mono {v:Option (List Value)} {K K':List Value→Prop} (f:∀ v,K v→K' v) (w:cellsP v K):cellsP v K':=by
 cases v with
 | none=>exact w
 | some v=>exact f _ w
theorem opP_mono {op:TOp} {φ:Frame} {h:Hp} {K K':Value→Hp→Prop} (f:∀ v h,K v h→K' v h) (w:opP E op φ h K):opP E op φ h K':=by
 cases op with
 | mov x=>exact f _ _ w
 | pick c a b =>
  simp only [opP,pickP] at w ⊢
  cases hc:evφ φ c <;> rw [hc] at w <;> dsimp only at w ⊢ <;> first | exact w.elim | skip
  rename_i b
  cases b <;> exact f _ _ w
 | alloc e cells=>exact f _ _ w
 | box e x=>exact cellsP_mono (fun _ w=>f _ _ w) w
 | aggr z ps=>exact someP_mono (fun _ w=>f _ _ w) w
 | slit e n z ps=>exact cellsP_mono (fun _ w=>f _ _ w) w
 | load1 x=>exact ptrP_mono (fun r o w=>isP_mono (fun _ w=>f _ _ w) w) w
 | loadN m x=>exact ptrP_mono (fun r o w=>let ⟨u,e,w⟩:=w; ⟨u,e,f _ _ w⟩) w
 | store m x y =>
  refine ptrP_mono (fun r o w=>?_) w
  unfold storeP at w ⊢
  cases hc:cellsOf (evφ φ y) with
  | none=>rw [hc] at w; exact w
  | some vs=>rw [hc] at w; obtain ⟨h1,h',e,w⟩:=w; exact ⟨h1,h',e,f _ _ w⟩
 | nilc x=>exact someP_mono (fun _ w=>f _ _ w) w
 | ar k op x y=>exact arVP_mono (fun _ w=>f _ _ w) w
 | str op x y=>exact isP_mono (fun _ w=>f _ _ w) w
 | not x=>exact someP_mono (fun _ w=>f _ _ w) w
 | cint k x =>
  simp only [opP] at w ⊢
  cases hc:evφ φ x <;> rw [hc] at w <;> dsimp only at w ⊢ <;> first | exact w.elim | skip
  obtain ⟨r,e,w⟩:=w
  exact ⟨r,e,f _ _ w⟩
 | toArr n x=>exact isP_mono (fun _ w=>f _ _ w) w
 | func fn a b=>exact someP_mono (fun _ w=>f _ _ w) w
 | newMap=>exact f _ _ w
 | lenS x=>exact someP_mono (fun _ w=>f _ _ w) w
 | lenStr x=>exact someP_mono (fun _ w=>f _ _ w) w
 | lenA n=>exact f _ _ w
 | fldA off x=>exact someP_mono (fun _ w=>f _ _ w) w
 | fld1 off x=>exact someP_mono (fun _ w=>f _ _ w) w
 | fldN off m x=>exact someP_mono (fun _ w=>f _ _ w) w
 | idxA n size x j =>
  simp only [opP,idxAP] at w ⊢
  split
  ·rename_i hp; rw [hp] at w; exact idxP_mono (fun _ w=>f _ _ w) w
  ·rename_i hne
   split at w
   ·rename_i hp; exact absurd hp (hne _ _)
   ·exact w
 | idxS size x j =>
  simp only [opP,idxSP] at w ⊢
  split
  ·rename_i hp; rw [hp] at w; exact ⟨w.1,idxP_mono (fun _ w=>f _ _ w) w.2⟩
  ·rename_i hne
   split at w
   ·rename_i hp; exact absurd hp (hne _ _ _ _ _)
   ·exact w
 | ix1 n x j =>
  simp only [opP,ix1P] at w ⊢
  split
  ·rename_i hp; rw [hp] at w; exact idxP_mono (fun _ w=>isP_mono (fun _ w=>f _ _ w) w) w
  ·rename_i hne
   split at w
   ·rename_i hp; exact absurd hp (hne _)
   ·exact w
 | ixN n m x j =>
  simp only [opP,ixNP] at w ⊢
  split
  ·rename_i hp; rw [hp] at w; exact idxP_mono (fun _ w=>⟨w.1,f _ _ w.2⟩) w
  ·rename_i hne
   split at w
   ·rename_i hp; exact absurd hp (hne _)
   ·exact w
 | ixStr x j =>
  simp only [opP,ixStrP] at w ⊢
  split
  ·rename_i hp; rw [hp] at w; exact idxP_mono (fun _ w=>let ⟨b,e,w⟩:=w; ⟨b,e,f _ _ w⟩) w
  ·rename_i hne
   split at w
   ·rename_i hp; exact absurd hp (hne _)
   ·exact w
 | ext x i=>exact someP_mono (fun _ w=>f _ _ w) w
 | make e z bytes l c =>
  simp only [opP,makeP] at w ⊢
  cases hl:evφ φ l <;> rw [hl] at w <;> dsimp only at w ⊢ <;> first | exact w.elim | skip
  cases hc:evφ φ c <;> rw [hc] at w <;> dsimp only at w ⊢ <;> first | exact w.elim | exact ⟨w.1,f _ _ w.2⟩
 | call g xs=>exact CallP.mono w f
 | callv fv xs =>
  simp only [opP,callQ] at w ⊢
  split
  ·rename_i hf
   rw [hf] at w
   dsimp only at w
   split
   ·exact ⟨w.1,w.2.mono f⟩
   ·exact w.mono f
   ·rename_i h1 h2
    split at w
    ·exact absurd rfl (h1 _)
    ·exact absurd rfl (h2 _)
    ·exact ResP_mono f w
  ·rename_i hne
   split at w
   ·rename_i hp; exact absurd hp (hne _ _ _)
   ·exact w
 | raw op ty =>
  simp only [opP] at w ⊢
  cases hm:isMapOp op with
  | true=>rw [hm] at w; exact ⟨ResP_mono f w.out⟩
  | false=>rw [hm] at w; exact ResP_mono f w
 | _=>exact ResP_mono f w

theorem wqOps_mono:∀ {gs:List G} {φ:Frame} {h:Hp} {Q Q':Frame→Hp→Prop},(∀ φ h,Q φ h→Q' φ h)→wqOps E gs φ h Q→wqOps E gs φ h Q'
 | [],φ,h,Q,Q',k,w=>k _ _ w
 | ⟨d,op,g⟩ :: l,φ,h,Q,Q',k,w=>by
  rw [wqOps_cons] at w ⊢
  cases g with
  | none=>exact opP_mono (fun v h' hy=>wqOps_mono k hy) w
  | some q =>
   obtain ⟨t,want⟩:=q
   dsimp only at w ⊢
   cases hv:φ t <;> rw [hv] at w <;> dsimp only at w ⊢ <;> first | exact wqOps_mono k w | skip
   rename_i b
   cases hb:b == want with
   | true=>rw [hb] at w; exact opP_mono (fun v h' hy=>wqOps_mono k hy) w
   | false=>rw [hb] at w; exact wqOps_mono k w

theorem drOpP_mono {turns:Bool} {op:TOp} {φ:Frame} {h:Hp} {K K':Value→Hp→Prop} (f:∀ v h,K v h→K' v h) (w:drOpP E turns op φ h K):drOpP E turns op φ h K':=by
 unfold drOpP at w ⊢
 cases hc:turns || callFree op with
 | true=>rw [hc] at w; exact opP_mono f w
 | false=>rw [hc] at w; exact DrP_mono f w
theorem wqDraw_mono:∀ {gs:List G} {ds:List Dr} {φ:Frame} {h:Hp} {K K':List Nt→List Hp→Frame→Hp→Prop},(∀ ns hs φ h,K ns hs φ h→K' ns hs φ h)→wqDraw E gs ds φ h K→wqDraw E gs ds φ h K'
 | [],ds,φ,h,K,K',k,w=>k _ _ _ _ w
 | g :: l,[],φ,h,K,K',k,w=>by cases w
 | g :: l,d :: ds,φ,h,K,K',k,w=>by
  have w:(match gok φ g.g with
    | true=>drOpP E d.turns g.op φ h fun v h'=>wqDraw E l ds (put φ g.d v) h' fun ns hs=>K (⟨φ,v,true⟩ :: ns) (consH d.turns h' hs)
    | false=>wqDraw E l ds (put φ g.d undef) h fun ns hs=>K (⟨φ,undef,false⟩ :: ns) hs):=w
  show (match gok φ g.g with
    | true=>drOpP E d.turns g.op φ h fun v h'=>wqDraw E l ds (put φ g.d v) h' fun ns hs=>K' (⟨φ,v,true⟩ :: ns) (consH d.turns h' hs)
    | false=>wqDraw E l ds (put φ g.d undef) h fun ns hs=>K' (⟨φ,undef,false⟩ :: ns) hs)
  cases hb:gok φ g.g with
  | true =>
   rw [hb] at w
   exact drOpP_mono (fun v h' hy=>wqDraw_mono (fun ns hs φ h hz=>k _ _ _ _ hz) hy) w
  | false =>
   rw [hb] at w
   exact wqDraw_mono (fun ns hs φ h hz=>k _ _ _ _ hz) w

theorem wqAhead_mono:∀ {gs:List G} {ds:List Dr} {ls:List Bool} {n:Nat} {φ:Frame} {h:Hp} {K K':List Nt→List Hp→Frame→Hp→Prop},(∀ ns hs φ h,K ns hs φ h→K' ns hs φ h)→wqAhead E gs ds ls n φ h K→wqAhead E gs ds ls n φ h K'
 | [],ds,ls,n,φ,h,K,K',k,w=>k _ _ _ _ w
 | g :: l,[],ls,n,φ,h,K,K',k,w=>by cases w
 | g :: l,d :: ds,[],n,φ,h,K,K',k,w=>by cases w
 | g :: l,d :: ds,b :: bs,n,φ,h,K,K',k,w=>by
  cases b with
  | true =>
   have w:layP g.op n fun v=>wqAhead E l ds bs (Nat.succ n) (put φ g.d v) h fun ns hs=>K (⟨φ,v,true⟩ :: ns) hs:=w
   show layP g.op n fun v=>wqAhead E l ds bs (Nat.succ n) (put φ g.d v) h fun ns hs=>K' (⟨φ,v,true⟩ :: ns) hs
   exact layP_mono (fun v hy=>wqAhead_mono (fun ns hs φ h hz=>k _ _ _ _ hz) hy) w
  | false =>
   have w : (match gok φ g.g with
         | true => drOpP E d.turns g.op φ h fun v h' => wqAhead E l ds bs n (put φ g.d v) h' fun ns hs => K (⟨φ, v, true⟩ :: ns) (consH d.turns h' hs)
         | false => wqAhead E l ds bs n (put φ g.d undef) h fun ns hs => K (⟨φ, undef, false⟩ :: ns) hs) := w
   show (match gok φ g.g with
         | true => drOpP E d.turns g.op φ h fun v h' => wqAhead E l ds bs n (put φ g.d v) h' fun ns hs => K' (⟨φ, v, true⟩ :: ns) (consH d.turns h' hs)
         | false => wqAhead E l ds bs n (put φ g.d undef) h fun ns hs => K' (⟨φ, undef, false⟩ :: ns) hs)
   cases hb:gok φ g.g with
   | true =>
    rw [hb] at w
    exact drOpP_mono (fun v h' hy=>wqAhead_mono (fun ns hs φ h hz=>k _ _ _ _ hz) hy) w
   | false =>
    rw [hb] at w
    exact wqAhead_mono (fun ns hs φ h hz=>k _ _ _ _ hz) w

theorem wqLays_mono:∀ {gs:List G} {ls:List Bool} {ns:List Nt} {h:Hp} {K K':List (Option Nat)→Hp→Prop},(∀ as h,K as h→K' as h)→wqLays gs ls ns h K→wqLays gs ls ns h K'
 | [],ls,ns,h,K,K',k,w=>k _ _ w
 | g :: l,[],ns,h,K,K',k,w=>k _ _ w
 | g :: l,b :: bs,[],h,K,K',k,w=>k _ _ w
 | g :: l,b :: bs,n :: ns,h,K,K',k,w=>by
  cases b with
  | false=>exact wqLays_mono (gs:=l) (fun as h hy=>k _ _ hy) w
  | true =>
   have w : (match n.done with
         | true => lay2P g.op n.φ fun _ e cells => wqLays l bs ns (h.lay (.row e true cells)) fun as h' => K (some h.next :: as) h'
         | false => wqLays l bs ns h fun as h' => K (none :: as) h') := w
   show (match n.done with
         | true => lay2P g.op n.φ fun _ e cells => wqLays l bs ns (h.lay (.row e true cells)) fun as h' => K' (some h.next :: as) h'
         | false => wqLays l bs ns h fun as h' => K' (none :: as) h')
   cases hn:n.done with
   | true=>rw [hn] at w; exact lay2P_mono (fun f e c hy=>wqLays_mono (fun as h hz=>k _ _ hz) hy) w
   | false=>rw [hn] at w; exact wqLays_mono (fun as h hy=>k _ _ hy) w
theorem wqDryA_mono:∀ {gs:List G} {ds:List Dr} {ls:List Bool} {as:List (Option Nat)} {φ:Frame} {h:Hp} {K K':List Nt→List Ld→List Hp→Frame→Hp→Prop},(∀ ns os hs φ h,K ns os hs φ h→K' ns os hs φ h)→wqDryA E gs ds ls as φ h K→wqDryA E gs ds ls as φ h K'
 | [],ds,ls,as,φ,h,K,K',k,w=>k _ _ _ _ _ w
 | g :: l,[],ls,as,φ,h,K,K',k,w=>by cases w
 | g :: l,d :: ds,[],as,φ,h,K,K',k,w=>by cases w
 | g :: l,d :: ds,b :: bs,as,φ,h,K,K',k,w=>by
  have w : (match gok φ g.g with
        | true => dryStep b as (fun r as => lay2P g.op φ fun f e cells => wqDryA E l ds bs as (put φ g.d (f r)) h fun ns os hs => K (⟨φ, f r, true⟩ :: ns) (some (r, e, cells) :: os) hs) (fun as => drOpP E d.turns g.op φ h fun v h' => wqDryA E l ds bs as (put φ g.d v) h' fun ns os hs => K (⟨φ, v, true⟩ :: ns) (none :: os) (consH d.turns h' hs))
        | false => wqDryA E l ds bs as.tail (put φ g.d undef) h fun ns os hs => K (⟨φ, undef, false⟩ :: ns) (none :: os) hs) := w
  show (match gok φ g.g with
        | true => dryStep b as (fun r as => lay2P g.op φ fun f e cells => wqDryA E l ds bs as (put φ g.d (f r)) h fun ns os hs => K' (⟨φ, f r, true⟩ :: ns) (some (r, e, cells) :: os) hs) (fun as => drOpP E d.turns g.op φ h fun v h' => wqDryA E l ds bs as (put φ g.d v) h' fun ns os hs => K' (⟨φ, v, true⟩ :: ns) (none :: os) (consH d.turns h' hs))
        | false => wqDryA E l ds bs as.tail (put φ g.d undef) h fun ns os hs => K' (⟨φ, undef, false⟩ :: ns) (none :: os) hs)
  cases hb:gok φ g.g with
  | false=>rw [hb] at w; exact wqDryA_mono (fun ns os hs φ h hz=>k _ _ _ _ _ hz) w
  | true =>
   rw [hb] at w
   exact dryStep_mono (fun r as w=>lay2P_mono (fun f e c hy=>wqDryA_mono (fun ns os hs φ h hz=>k _ _ _ _ _ hz) hy) w) (fun as w=>drOpP_mono (fun v h' hy=>wqDryA_mono (fun ns os hs φ h hz=>k _ _ _ _ _ hz) hy) w) w
theorem wq_mono:∀ {c:C} {φ:Frame} {h:Hp} {m:List Nat} {Q Q':Pq},(∀ e φ h m,Q e φ h m→Q' e φ h m)→wq E z rd c φ h m Q→wq E z rd c φ h m Q':=by
 intro c
 induction c with
 | skip=>intro φ h m Q Q' k w; exact k _ _ _ _ w
 | ret=>intro φ h m Q Q' k w; exact k _ _ _ _ w
 | exit id=>intro φ h m Q Q' k w; exact k _ _ _ _ w
 | goto l=>intro φ h m Q Q' k w; exact k _ _ _ _ w
 | ops l=>intro φ h m Q Q' k w; exact wqOps_mono (fun φ h hy=>k _ _ _ _ hy) w
 | draw l ds=>intro φ h m Q Q' k w; exact wqDraw_mono (fun ns hs φ h hy=>⟨hy.1,k _ _ _ _ hy.2⟩) w
 | ahead l ds ls=>intro φ h m Q Q' k w; exact wqAhead_mono (fun ns hs φ h hy=>⟨hy.1,k _ _ _ _ hy.2⟩) w
 | dry l df ds ls=>intro φ h m Q Q' k w; exact wqDraw_mono (fun n1 _ _ _ hy=>wqLays_mono (fun as h0 hy=>wqDryA_mono (fun ns os hs φ h hy=>⟨hy.1,k _ _ _ _ hy.2⟩) hy) hy) w
 | seq a b iha ihb =>
  intro φ h m Q Q' k w
  refine SeqP.mk (iha (fun e φ h m hy=>?_) w.out)
  cases e with
  | normal=>exact ihb k hy
  | _=>exact k _ _ _ _ hy
 | cond x a b iha ihb =>
  intro φ h m Q Q' k w
  rw [wq_cond] at w ⊢
  simp only [condQ] at w ⊢
  cases hv:evφ φ x <;> rw [hv] at w <;> dsimp only at w ⊢ <;> first | exact w.elim | skip
  rename_i b
  cases b with
  | true=>exact iha k w
  | false=>exact ihb k w
 | block id b ih =>
  intro φ h m Q Q' k w
  refine ih (fun e φ h m hy=>?_) w
  cases e with
  | exit id' =>
   unfold blockQ at hy ⊢
   dsimp only at hy ⊢
   cases hid:Nat.beq id' id with
   | true=>rw [hid] at hy; exact k _ _ _ _ hy
   | false=>rw [hid] at hy; exact k _ _ _ _ hy
  | _=>exact k _ _ _ _ hy
 | scope b ih =>
  intro φ h m Q Q' k w
  refine ih (fun e φ h m hy=>?_) w
  cases e with
  | goto l=>exact hy
  | _=>exact k _ _ _ _ hy
 | loop b ih =>
  intro φ h m Q Q' k w
  obtain ⟨I,n,h0,hl,hn,hI⟩:=w
  refine ⟨I,n,h0,hl,hn,fun n φ h m hs=>ih (fun e φ h m hy=>?_) (hI n φ h m hs)⟩
  cases e with
  | normal=>exact hy
  | _=>exact k _ _ _ _ hy
 | range f ps a b _ _ =>
  intro φ h m Q Q' k w
  rw [wq_range] at w ⊢
  simp only [roundQ] at w ⊢
  have main:∀ {d:Nat} {mk:List Nat} {h':Hp},rangeQ E z (evφ φ f) ps a b φ m Q d mk h'→rangeQ E z (evφ φ f) ps a b φ m Q' d mk h':=by
   intro d mk h' w
   unfold rangeQ at w ⊢
   split
   ·rename_i fn first captured hf
    rw [hf] at w
    dsimp only at w
    split
    ·exact ⟨w.1,w.2.mono fun v h2 q=>jumpP_mono (fun e s hy=>k _ _ _ _ hy) q⟩
    ·rename_i hne
     split at w
     ·exact absurd rfl (hne _)
     ·exact w
   ·rename_i hne
    split at w
    ·rename_i hp; exact absurd hp (hne _ _ _)
    ·exact w
  cases rd with
  | none=>exact main w
  | some l =>
   obtain ⟨E',st,p,φ',z',ps',a',b',d,hl,w⟩:=w
   exact ⟨E',st,p,φ',z',ps',a',b',d,hl,main w⟩

def Rnd {α:Type} (L:α→List (Nat×Value)) (H:α→Hp) (P:α→Prop) (μ:α→Nat) (a:α) (m:List Nat) (φ':Frame) (h':Hp) (m':List Nat):Prop :=
 ∃ a',P a'∧μ a' < μ a∧FrEq φ' (L a')∧(H a').Le h'∧m' = m
theorem Rnd.mk {α:Type} {L:α→List (Nat×Value)} {H:α→Hp} {P:α→Prop} {μ:α→Nat} {a:α} {m:List Nat} {φ':Frame} {h':Hp} {m':List Nat} (a':α) (h1:P a') (h2:μ a' < μ a) (h3:FrEq φ' (L a')) (h4:(H a').Le h') (h5:m' = m):Rnd L H P μ a m φ' h' m':=⟨a',h1,h2,h3,h4,h5⟩

theorem loop_inv {α:Type} {b:C} {φ:Frame} {h:Hp} {m:List Nat} {Q:Pq} (L:α→List (Nat×Value)) (H:α→Hp) (P:α→Prop) (μ:α→Nat) (a₀:α) (h0:P a₀) (hφ:FrEq φ (L a₀)) (hh:(H a₀).Le h)
  (hr:∀ a φ,P a→wq E z rd b (upds φ (L a)) (H a) m (seqQ Q (Rnd L H P μ a m))):LoopP z rd b (wq E z rd b) φ h m Q:=by
 refine ⟨fun n φ' h' m'=>∃ a φ0,P a∧n = μ a∧φ' = upds φ0 (L a)∧h' = H a∧m' = m,μ a₀,H a₀,hh,⟨a₀,φ,h0,rfl,(upds_eta hφ).symm,rfl,rfl⟩,?_⟩
 rintro n φ' h' m' ⟨a,φ0,hP,rfl,rfl,rfl,rfl⟩
 refine wq_mono (fun e φ' h' m' hq=>?_) (hr a φ0 hP)
 cases e with
 | normal =>
  obtain ⟨a',h1,h2,h3,h4,h5⟩:=hq
  exact ⟨μ a',H a',h2,h4,a',φ',h1,rfl,(upds_eta h3).symm,rfl,h5⟩
 | _=>exact hq

theorem SeqP.go {a b:C} {A B:Frame→Hp→List Nat→Pq→Prop} {φ:Frame} {h:Hp} {m:List Nat} {Q:Pq} (k:A φ h m (seqQ Q fun φ h m=>B φ h m Q)):SeqP z rd a b A B φ h m Q:=⟨k⟩
theorem SeqP.cut {α:Type} {a b:C} {φ:Frame} {h:Hp} {m:List Nat} {Q:Pq} (L:α→List (Nat×Value)) (P:α→Hp→Prop)
  (k1:wq E z rd a φ h m (seqQ Q fun φ' h' m'=>∃ x,FrEq φ' (L x)∧P x h'∧m' = m))
  (k2:∀ x φ h',P x h'→wq E z rd b (upds φ (L x)) h' m Q):SeqP z rd a b (wq E z rd a) (wq E z rd b) φ h m Q:=by
 refine SeqP.mk ?_
 refine wq_mono (fun e φ' h' m' hq=>?_) k1
 cases e with
 | normal =>
  obtain ⟨x,h1,h2,rfl⟩:=hq
  have:=k2 x φ' h' h2
  rw [upds_eta h1] at this
  exact this
 | _=>exact hq

theorem CallP.enterQ [Unknowns] {f:FuncId} {fn:Func} {code:Code} {c:C} {z:Nat} {rs:List ResultVar} (hfn:E.fn.get f = some fn) (hb:fn.body = some code) (hz:fn.ntmps = z) (hrs:fn.results.toList = rs) (hc:comp E z code = some c)
  {xs:List Value} (hm:E.memo f xs = none) (hM:∀ H,E.memoM f xs H = none) (hl:xs.length≤z) {h:Hp} {Q:Value→Hp→Prop} (w:wq E z none c (frameOf xs) h [] (leaveQ E rs Q)):CallP E f xs h Q :=
 CallP.enter hfn hb hz hrs hc hm hM hl (by rw [← leaveQ_at]; exact wq_wp w)
end
end
end Go.Rx
