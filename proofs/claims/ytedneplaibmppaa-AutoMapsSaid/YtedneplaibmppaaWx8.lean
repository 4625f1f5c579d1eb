/- A part of the engine. -/
import Derived.Test.YtedneplaibmppaaWx7
set_option maxRecDepth 100000
set_option linter.unusedVariables false
set_option linter.unusedSectionVars false
set_option linter.unusedSimpArgs false
namespace Go.Rx
noncomputable section
/-! The same for use: what is asked stands as it is to be shown. -/
def bO (b:Bool)(p:Prop):Prop:=b = true↔p
theorem bO.t {p:Prop}(h:bO true p):p:=h.1 rfl
theorem bO.f {p:Prop}(h:bO false p):¬ p:=fun hp=>by cases h.2 hp
theorem bO.adC {b:Bool}{p:Prop}(h:bO b p)(hp:p):b = true:=h.2 hp
theorem bO.adD {b:Bool}{p:Prop}(h:bO b p)(hp:¬ p):b = false:=by cases b <;> first | rfl | exact absurd (h.1 rfl) hp
theorem mO {p:Prop}{K:Bool→Prop}(hp:p)(k:K true):∀ b,bO b p→K b:=fun b hb=>by rw [hb.adC hp]; exact k
theorem Ag {p:Prop}{K:Bool→Prop}(hp:¬ p)(k:K false):∀ b,bO b p→K b:=fun b hb=>by rw [hb.adD hp]; exact k
theorem dJ {p:Prop}{K:Bool→Prop}(kt:p→K true)(kf:¬ p→K false):∀ b,bO b p→K b:=fun b hb=>by cases b; exact kf hb.f; exact kt hb.t
def dz (k:IntKind)(n r:Int):Prop:=r = jW k n
theorem wid {n:Int}(h:-9223372036854775808≤n∧n < 9223372036854775808):dz .i64 n n:=(uW h).symm
theorem wie {n r:Int}(e:n = r)(h:-9223372036854775808≤r∧r < 9223372036854775808):dz .i64 n r:=e ▸ wid (by rw [e]; exact h)
def arP (k:IntKind)(op:BinOp)(m n:Int)(K:Value→Prop):Prop:=match op with
 | .add=>∃ r,dz k (m + n) r∧K (.int k r)
 | .sub=>∃ r,dz k (m - n) r∧K (.int k r)
 | .mul=>∃ r,dz k (m * n) r∧K (.int k r)
 | .quo=>n≠0∧∃ r,dz k (m.tdiv n) r∧K (.int k r)
 | .rem=>n≠0∧K (.int k (m.tmod n))
 | .and=>K (.int k (dL k .and m n))
 | .or=>K (.int k (dL k .or m n))
 | .xor=>K (.int k (dL k .xor m n))
 | .andNot=>K (.int k (dL k .andNot m n))
 | .eql=>∀ b,bO b (m = n)→K (.bool b)
 | .neq=>∀ b,bO b (m≠n)→K (.bool b)
 | .lss=>∀ b,bO b (m < n)→K (.bool b)
 | .leq=>∀ b,bO b (m≤n)→K (.bool b)
 | .gtr=>∀ b,bO b (n < m)→K (.bool b)
 | .geq=>∀ b,bO b (n≤m)→K (.bool b)
 | .shl=>False
 | .shr=>False
def shP (k:IntKind)(op:BinOp)(m n:Int)(K:Value→Prop):Prop:=match op with
 | .shl=>0≤n∧∃ r,dz k (m * 2 ^ (min n.toNat k.bits)) r∧K (.int k r)
 | .shr=>0≤n∧K (.int k (m.fdiv (2 ^ (min n.toNat k.bits))))
 | _=>False
def UO (k:IntKind)(op:BinOp)(a b:Value)(K:Value→Prop):Prop:=match a with
 | .int k1 m=>match b with
  | .int k2 n=>match FI op with
   | true=>match decide (k1 = k) with
    | true=>shP k op m n K
    | false=>False
   | false=>match decide (k1 = k) && decide (k2 = k) with
    | true=>arP k op m n K
    | false=>False
  | _=>False
 | _=>False
def XB (c a b:Value)(K:Value→Prop):Prop:=match c with
 | .bool c=>match c with
  | true=>K a
  | false=>K b
 | _=>False
def uX (v:Option Value)(K:Value→Prop):Prop:=match v with
 | some v=>K v
 | none=>False
def OC (v:Value)(K:Nat→Nat→Prop):Prop:=match v with
 | .pointer (some ⟨r,o,none⟩)=>K r o
 | _=>False
def isP (x:Option Value)(K:Value→Prop):Prop:=∃ v,x = some v∧K v
def adE (x:Option (List Value))(K:List Value→Prop):Prop:=∃ v,x = some v∧K v
def adF (x:Option Hp)(K:Hp→Prop):Prop:=∃ v,x = some v∧K v
def Jt (n:Nat)(j:Value)(K:Nat→Prop):Prop:=match j with
 | .int _ j=>(0≤j∧j < (n:Int))∧K j.toNat
 | _=>False
def gU (o j size:Nat):Nat:=match size with
 | 1=>j + o
 | s=>j * s + o
theorem ig (o j size:Nat):gU o j size = o + j * size:=by
 unfold gU; split
 ·omega
 ·exact Nat.add_comm _ _
def XC (n size:Nat)(v j:Value)(K:Value→Prop):Prop:=match v with
 | .pointer (some ⟨r,o,none⟩)=>Jt n j fun j=>K (ptr r (gU o j size))
 | _=>False
def XD (size:Nat)(v j:Value)(K:Value→Prop):Prop:=match v with
 | .slice (some ⟨r,o,sp⟩) n _=>fA sp = false∧Jt n j fun j=>K (ptr r (gU o j size))
 | _=>False
def aaW (n:Nat)(v j:Value)(K:Value→Prop):Prop:=match v with
 | .agg cs=>Jt n j fun j=>isP (cs.toList[j]?) K
 | _=>False
def aaX (n m:Nat)(v j:Value)(K:Value→Prop):Prop:=match v with
 | .agg cs=>Jt n j fun j=>j * m + m≤cs.toList.length∧K (.agg ⟨(cs.toList.drop (j * m)).take m⟩)
 | _=>False
def QO (v j:Value)(K:Value→Prop):Prop:=match v with
 | .string s=>Jt s.size j fun j=>∃ b,s.data.toList[j]? = some b∧K (vR b)
 | _=>False
def LQ (h:Hp)(m r o:Nat)(v:Value)(K:Hp→Prop):Prop:=match cellsOf v with
 | some vs=>vs.length = m∧adF (storeAt h r o vs) K
 | none=>False
def Eb (x:Option (List Value))(K:List Value→Prop):Prop:=match x with
 | some l=>K l
 | none=>False
def XE (E:Env)(h:Hp)(f:Value)(xs:List Value)(K:Value→Hp→Prop):Prop:=match f with
 | .func fn first captured=>match fn with
  | .func g=>callable E g = true∧aJ E g (first.toList ++ xs ++ captured.toList) h K
  | .yield l=>dx E l (first.toList ++ xs) h K
  | fn=>kV E (lift (sw E D0 (.func fn first captured) xs) h) K
 | _=>False
def fB (E:Env)(h:Hp)(e size bytes:Nat)(s x:Value)(K:Value→Hp→Prop):Prop:=kV E (J3 h e size bytes s x) K
def gY (E:Env)(h:Hp)(size:Nat)(v:Value)(lo hi mx:Option Value)(K:Value→Hp→Prop):Prop:=kV E (lN h size v lo hi mx) K
structure Bf (E:Env) (op:TOp) (φ:Frame) (h:Hp) (K:Value→Hp→Prop):Prop where
 out:kV E (runT E op φ h) K
def LU:Op→Bool
 | .lookup _ _ _ _ | .mapUpdate _ _ _ _ | .mapEntry _ _ _ | .entryStore _ _ _ _ | .insert _ _ _ _=>true
 | .call c=>match c.callee with
  | .builtin .len=>true
  | _=>false
 | _=>false
def opP (E:Env)(op:TOp)(φ:Frame)(h:Hp)(K:Value→Hp→Prop):Prop:=match op with
 | .mov x=>K (bI φ x) h
 | .pick c a b=>XB (bI φ c) (bI φ a) (bI φ b) fun v=>K v h
 | .alloc e cells=>K (xC h.next) (h.lay (.row e true cells))
 | .box e x=>Eb (cellsOf (bI φ x)) fun cells=>K (xC h.next) (h.lay (.row e true cells))
 | .iX z ps=>uX (Y9 (qh φ z ps)) fun v=>K v h
 | .fP e n z ps=>Eb (qh φ z ps) fun cells=>K (slc h.next 0 n n) (h.lay (.row e true cells))
 | .aQ x=>OC (bI φ x) fun r o=>isP (cellAt h r o) fun v=>K v h
 | .bK m x=>OC (bI φ x) fun r o=>adE (bJ h r o m) fun l=>K (.agg ⟨l⟩) h
 | .store m x y=>OC (bI φ x) fun r o=>LQ h m r o (bI φ y) fun h'=>K undef h'
 | .WJ x=>uX (Xb (bI φ x)) fun v=>K v h
 | .ar k op x y=>UO k op (bI φ x) (bI φ y) fun v=>K v h
 | .str op x y=>isP (UK op (bI φ x) (bI φ y)) fun v=>K v h
 | .not x=>uX (aaK (bI φ x)) fun v=>K v h
 | .Cn k x=>match bI φ x with
  | .int _ n=>∃ r,dz k n r∧K (.int k r) h
  | _=>False
 | .GU n x=>isP (Ho n (bI φ x)) fun v=>K v h
 | .func fn a b=>uX (Xa fn (jV φ a) (jV φ b)) fun v=>K v h
 | .iC=>K (bL h.next) (h.lay (.map [] 0))
 | .dX x=>uX (W9 (bI φ x)) fun v=>K v h
 | .lenStr x=>uX (LC (bI φ x)) fun v=>K v h
 | .Uv n=>K (.int .i64 (n:Int)) h
 | .bN off x=>uX (WW off (bI φ x)) fun v=>K v h
 | .WK off x=>uX (WX off (bI φ x)) fun v=>K v h
 | .WL off m x=>uX (WY off m (bI φ x)) fun v=>K v h
 | .GV n size x j=>XC n size (bI φ x) (bI φ j) fun v=>K v h
 | .cZ size x j=>XD size (bI φ x) (bI φ j) fun v=>K v h
 | .ix1 n x j=>aaW n (bI φ x) (bI φ j) fun v=>K v h
 | .ixN n m x j=>aaX n m (bI φ x) (bI φ j) fun v=>K v h
 | .NY x j=>QO (bI φ x) (bI φ j) fun v=>K v h
 | .ext x i=>uX (aaN (bI φ x) i) fun v=>K v h
 | .make e z bytes l c=>SL h e z bytes (bI φ l) (bI φ c) K
 | .append e size bytes x y=>fB E h e size bytes (bI φ x) (bI φ y) K
 | .Jq size x lo hi mx=>gY E h size (bI φ x) (pQ φ lo) (pQ φ hi) (pQ φ mx) K
 | .call g xs=>aJ E g (jV φ xs) h K
 | .pK f xs=>XE E h (bI φ f) (jV φ xs) K
 | .raw op ty=>match LU op with
  | true=>Bf E (.raw op ty) φ h K
  | false=>kV E (runT E (.raw op ty) φ h) K
 | op=>kV E (runT E op φ h) K
section
variable {E:Env}
theorem lX {v:Option Value}{h:Hp}{K:Value→Hp→Prop}(w:uX v fun v=>K v h):kV E (hval h v) K:=by
 cases v with
 | none=>exact w.elim
 | some v=>exact w
theorem wK {v:Option Value}{h:Hp}{K:Value→Hp→Prop}(w:isP v fun v=>K v h):kV E (hval h v) K:=by
 obtain ⟨u,e,w⟩:=w;rw [e]; exact w
theorem aaY {k:IntKind}{op:BinOp}{m n:Int}{K:Value→Prop}(w:arP k op m n K):∃ v,arK k op m n = some v∧K v:=by
 unfold arP at w;unfold arK
 cases op with
 | add=>obtain ⟨r,e,w⟩:=w; exact ⟨_,rfl,by rw [← show r = _ from e]; exact w⟩
 | sub=>obtain ⟨r,e,w⟩:=w; exact ⟨_,rfl,by rw [← show r = _ from e]; exact w⟩
 | mul=>obtain ⟨r,e,w⟩:=w; exact ⟨_,rfl,by rw [← show r = _ from e]; exact w⟩
 | quo=>obtain ⟨hn,r,e,w⟩:=w; exact ⟨_,if_neg hn,by rw [← show r = _ from e]; exact w⟩
 | rem=>obtain ⟨hn,w⟩:=w; exact ⟨_,if_neg hn,w⟩
 | and=>exact ⟨_,rfl,w⟩
 | or=>exact ⟨_,rfl,w⟩
 | xor=>exact ⟨_,rfl,w⟩
 | andNot=>exact ⟨_,rfl,w⟩
 | eql=>exact ⟨_,rfl,w _ (by unfold bO; simp)⟩
 | neq=>exact ⟨_,rfl,w _ (by unfold bO; simp)⟩
 | lss=>exact ⟨_,rfl,w _ (by unfold bO; simp)⟩
 | leq=>exact ⟨_,rfl,w _ (by unfold bO; simp)⟩
 | gtr=>exact ⟨_,rfl,w _ (by unfold bO; simp)⟩
 | geq=>exact ⟨_,rfl,w _ (by unfold bO; simp)⟩
 | shl=>exact w.elim
 | shr=>exact w.elim
theorem Ze {k:IntKind}{op:BinOp}{a b:Value}{K:Value→Prop}(w:UO k op a b K):∃ v,arV k op a b = some v∧K v:=by
 unfold UO at w;unfold arV;cases a <;> dsimp only at w ⊢ <;> first | exact w.elim | skip
 cases b <;> dsimp only at w ⊢ <;> first | exact w.elim | skip
 rename_i k1 m k2 n
 cases hs:FI op with
 | true =>
  rw [hs] at w;dsimp only at w ⊢
  cases h1:decide (k1 = k) with
  | false=>rw [h1] at w; exact w.elim
  | true =>
  rw [h1] at w;rw [if_pos (of_decide_eq_true h1)];dsimp only at w;unfold shP at w;unfold shK;cases op <;> dsimp only at w ⊢ <;> first | exact w.elim | skip
  ·obtain ⟨hn,r,e,w⟩:=w;exact ⟨_,if_neg (by omega),by rw [← show r = _ from e]; exact w⟩
  ·obtain ⟨hn,w⟩:=w;exact ⟨_,if_neg (by omega),w⟩
 | false =>
  rw [hs] at w;dsimp only at w ⊢
  cases h1:decide (k1 = k) && decide (k2 = k) with
  | false=>rw [h1] at w; exact w.elim
  | true =>
  rw [h1] at w;rw [Bool.and_eq_true] at h1;rw [if_pos ⟨of_decide_eq_true h1.1,of_decide_eq_true h1.2⟩];exact aaY w
theorem CJ {n:Nat}{j:Value}{K:Nat→Prop}(w:Jt n j K):∃ k,iJ n j = some k∧K k:=by
 unfold Jt at w;cases j <;> dsimp only at w <;> first | exact w.elim | skip
 obtain ⟨h,w⟩:=w;exact ⟨_,SS h,w⟩
theorem UQ {h:Hp}{m r o:Nat}{v:Value}{K:Value→Hp→Prop}(w:LQ h m r o v fun h'=>K undef h'):kV E (FJ h m r o v) K:=by
 unfold LQ at w;unfold FJ
 cases hc:cellsOf v with
 | none=>rw [hc] at w; exact w.elim
 | some vs =>
  rw [hc] at w;obtain ⟨h1,h',e,w⟩:=w;dsimp only;rw [if_pos h1,e];exact w
theorem LV {v:Value}{k:Nat→Nat→fV}{K:Value→Hp→Prop}(w:OC v fun r o=>kV E (k r o) K):kV E (DZ v k) K:=by
 unfold OC at w;unfold DZ;split
 ·exact w
 ·rename_i hne;split at w
  ·exact absurd rfl (hne _ _)
  ·exact w.elim
theorem qM {v:Value}{K K':Nat→Nat→Prop}(k:∀ r o,K r o→K' r o)(w:OC v K):OC v K':=by
 unfold OC at w ⊢;split
 ·exact k _ _ w
 ·rename_i hne;split at w
  ·exact absurd rfl (hne _ _)
  ·exact w.elim
theorem LW {op:TOp}{φ:Frame}{h:Hp}{K:Value→Hp→Prop}(w:opP E op φ h K):kV E (runT E op φ h) K:=by
 cases op with
 | mov x=>exact w
 | pick c a b =>
  simp only [opP,XB] at w;simp only [runT];cases hc:bI φ c <;> rw [hc] at w <;> dsimp only at w ⊢ <;> first | exact w.elim | skip
  rename_i b;cases b <;> exact w
 | alloc e cells=>exact w
 | box e x =>
  simp only [opP,Eb] at w;simp only [runT,Od]
  cases hc:cellsOf (bI φ x) with
  | none=>rw [hc] at w; exact w.elim
  | some cs=>rw [hc] at w; exact w
 | iX z ps=>exact lX w
 | fP e n z ps =>
  simp only [opP,Eb] at w;simp only [runT,QG]
  cases hc:qh φ z ps with
  | none=>rw [hc] at w; exact w.elim
  | some cs=>rw [hc] at w; exact w
 | aQ x=>exact LV (qM (fun r o w=>wK w) w)
 | bK m x =>
  refine LV (qM (fun r o w=>?_) w);obtain ⟨l,e,w⟩:=w;rw [e]; exact w
 | store m x y=>exact LV (qM (fun r o w=>UQ w) w)
 | WJ x=>exact lX w
 | ar k op x y=>exact wK (Ze (K:=fun v=>K v h) w)
 | str op x y=>exact wK w
 | not x=>exact lX w
 | Cn k x =>
  simp only [opP] at w;simp only [runT,Oq];cases hc:bI φ x <;> rw [hc] at w <;> dsimp only at w ⊢ <;> first | exact w.elim | skip
  obtain ⟨r,e,w⟩:=w;rw [← show r = _ from e]; exact w
 | GU n x=>exact wK w
 | func fn a b=>exact lX w
 | iC=>exact w
 | dX x=>exact lX w
 | lenStr x=>exact lX w
 | Uv n=>exact w
 | bN off x=>exact lX w
 | WK off x=>exact lX w
 | WL off m x=>exact lX w
 | GV n size x j =>
  refine wK ?_;simp only [opP,XC] at w;unfold WZ;split
  ·rename_i r o hp;rw [hp] at w;obtain ⟨k,e,w⟩:=CJ w;rw [ig] at w;rw [e];exact ⟨_,rfl,w⟩
  ·rename_i hne;split at w
   ·rename_i hp; exact absurd hp (hne _ _)
   ·exact w.elim
 | cZ size x j =>
  refine wK ?_;simp only [opP,XD] at w;unfold kI;split
  ·rename_i r o sp n c hp;rw [hp] at w;obtain ⟨hs,w⟩:=w;obtain ⟨k,e,w⟩:=CJ w;rw [ig] at w;rw [hs,e];exact ⟨_,rfl,w⟩
  ·rename_i hne;split at w
   ·rename_i hp; exact absurd hp (hne _ _ _ _ _)
   ·exact w.elim
 | ix1 n x j =>
  refine wK ?_;simp only [opP,aaW] at w;unfold aaL;split
  ·rename_i cs hp;rw [hp] at w;obtain ⟨k,e,w⟩:=CJ w;rw [e];exact w
  ·rename_i hne;split at w
   ·rename_i hp; exact absurd hp (hne _)
   ·exact w.elim
 | ixN n m x j =>
  refine wK ?_;simp only [opP,aaX] at w;unfold aaM;split
  ·rename_i cs hp;rw [hp] at w;obtain ⟨k,e,w⟩:=CJ w;rw [e];dsimp only;rw [if_pos w.1];exact ⟨_,rfl,w.2⟩
  ·rename_i hne;split at w
   ·rename_i hp; exact absurd hp (hne _)
   ·exact w.elim
 | NY x j =>
  refine wK ?_;simp only [opP,QO] at w;unfold QH;split
  ·rename_i s hp;rw [hp] at w;obtain ⟨k,e,b,eb,w⟩:=CJ w;rw [e];dsimp only;rw [eb];exact ⟨_,rfl,w⟩
  ·rename_i hne;split at w
   ·rename_i hp; exact absurd hp (hne _)
   ·exact w.elim
 | ext x i=>exact lX w
 | make e z bytes l c=>exact Ou w
 | append e size bytes x y=>exact w
 | Jq size x lo hi mx=>exact w
 | call g xs=>exact w
 | pK f xs =>
  simp only [opP,XE] at w;simp only [runT,SG];split
  ·rename_i fn first captured hf;rw [hf] at w;dsimp only at w;split
   ·obtain ⟨hc,w⟩:=w;rw [hc]; exact w
   ·exact w
   ·rename_i h1 h2;split at w
    ·exact absurd rfl (h1 _)
    ·exact absurd rfl (h2 _)
    ·exact w
  ·rename_i hne;split at w
   ·rename_i hp; exact absurd hp (hne _ _ _)
   ·exact w.elim
 | raw op ty =>
  simp only [opP] at w
  cases hm:LU op with
  | true=>rw [hm] at w; exact w.out
  | false=>rw [hm] at w; exact w
 | _=>exact w
end
/-! Code. -/
abbrev Pq:=dU→Frame→Hp→List Nat→Prop
def Pq.at (Q:Pq):Pst:=fun e s=>Q e s.φ s.h s.m
section
variable (E:Env)
def aaZ (v:Value)(want:Bool)(A B:Prop):Prop:=match v with
 | .bool b=>match b == want with
  | true=>A
  | false=>B
 | _=>B
def ab5 (g:G)(K:Frame→Hp→(Frame→Hp→Prop)→Prop)(φ:Frame)(h:Hp)(Q:Frame→Hp→Prop):Prop:=match g.g with
 | none=>opP E g.op φ h fun v h'=>K (put φ g.d v) h' Q
 | some (t,want)=>aaZ (φ t) want (opP E g.op φ h fun v h'=>K (put φ g.d v) h' Q) (K (put φ g.d undef) h Q)
def CK (l:List G):Frame→Hp→(Frame→Hp→Prop)→Prop :=
 List.rec (motive:=fun _=>Frame→Hp→(Frame→Hp→Prop)→Prop) (fun φ h Q=>Q φ h) (fun g _ K φ h Q=>ab5 E g K φ h Q) l
theorem HV (d:Option Nat)(op:TOp)(g:Option (Nat×Bool))(l:List G)(φ:Frame)(h:Hp)(Q:Frame→Hp→Prop):CK E (⟨d,op,g⟩ :: l) φ h Q = match g with
  | none=>opP E op φ h fun v h'=>CK E l (put φ d v) h' Q
  | some (t,want)=>match φ t with
   | .bool b=>match b == want with
    | true=>opP E op φ h fun v h'=>CK E l (put φ d v) h' Q
    | false=>CK E l (put φ d undef) h Q
   | _=>CK E l (put φ d undef) h Q:=by
 cases g with
 | none=>rfl
 | some q=>rfl
def UR (Q:Pq)(K:Frame→Hp→List Nat→Prop):Pq:=fun e φ h m=>match e with
 | .normal=>K φ h m
 | e=>Q e φ h m
def QS (id:Nat)(Q:Pq):Pq:=fun e φ h m=>match e with
 | .exit id'=>match Nat.beq id' id with
  | true=>Q .normal φ h m
  | false=>Q (.exit id') φ h m
 | e=>Q e φ h m
def aa0 (Q:Pq):Pq:=fun e φ h m=>match e with
 | .goto _=>False
 | e=>Q e φ h m
def SV (φ:Frame)(m:List Nat)(Q:Pq)(h:Hp)(l:Nat):Prop:=EM φ m Q.at h l
def SX (v:Value)(A B:Prop):Prop:=match v with
 | .bool b=>match b with
  | true=>A
  | false=>B
 | _=>False
def wL (z:Nat)(f:Value)(ps:Array Tmp)(a b:C)(φ:Frame)(m0:List Nat)(Q:Pq)(d:Nat)(m:List Nat)(h:Hp):Prop:=match f with
 | .func fn first captured=>match fn with
  | .func g=>callable E g = true∧aJ E g (first.toList ++ [lQ h.next] ++ captured.toList) (h.lay (.loop E .ready none φ z ps a b d)) fun _ h2=>SV φ (m ++ m0) Q h2 h.next
  | _=>False
 | _=>False
def LX (z:Nat)(f:Value)(ps:Array Tmp)(a b:C)(φ:Frame)(h:Hp)(m0:List Nat)(Q:Pq)(rd:Option Nat):Prop:=match rd with
 | some l=>∃ E' st p φ' z' ps' a' b' d,h.at l = some (.loop E' st p φ' z' ps' a' b' d)∧wL E z f ps a b φ m0 Q d [] h
 | none=>wL E z f ps a b φ m0 Q h.next [h.next] (h.lay .dY)
def CO:TOp→Bool
 | .call _ _ | .pK _ _ | .raw _ _ | .box _ _ | .fP _ _ _ _ | .store _ _ _ | .make _ _ _ _ _ | .Qr _ _ _ | .aaJ _ _ _ _ _ _ | .append _ _ _ _ _ | .copy _ _ _=>false
 | _=>true
def pW (turns:Bool)(op:TOp)(φ:Frame)(h:Hp)(K:Value→Hp→Prop):Prop:=match turns || CO op with
 | true=>opP E op φ h K
 | false=>DrP E false (runT E op φ h) K
def rC (gs:List G):List Dr→Frame→Hp→(List Nt→List Hp→Frame→Hp→Prop)→Prop :=
 List.rec (motive:=fun _=>List Dr→Frame→Hp→(List Nt→List Hp→Frame→Hp→Prop)→Prop) (fun _ φ h K=>K [] [] φ h)
  (fun g _ A ds φ h K=>match ds with
   | []=>False
   | d :: ds=>match gok φ g.g with
    | true=>pW E d.turns g.op φ h fun v h'=>A ds (put φ g.d v) h' fun ns hs=>K (⟨φ,v,true⟩ :: ns) (q9 d.turns h' hs)
    | false=>A ds (put φ g.d undef) h fun ns hs=>K (⟨φ,undef,false⟩ :: ns) hs) gs
def lK (gs:List G):List Dr→List Bool→Nat→Frame→Hp→(List Nt→List Hp→Frame→Hp→Prop)→Prop :=
 List.rec (motive:=fun _=>List Dr→List Bool→Nat→Frame→Hp→(List Nt→List Hp→Frame→Hp→Prop)→Prop) (fun _ _ _ φ h K=>K [] [] φ h)
  (fun g _ A ds bs n φ h K=>match ds with
   | []=>False
   | d :: ds=>match bs with
    | []=>False
    | b :: bs=>match b with
     | true=>LD g.op n fun v=>A ds bs (Nat.succ n) (put φ g.d v) h fun ns hs=>K (⟨φ,v,true⟩ :: ns) hs
     | false=>match gok φ g.g with
      | true=>pW E d.turns g.op φ h fun v h'=>A ds bs n (put φ g.d v) h' fun ns hs=>K (⟨φ,v,true⟩ :: ns) (q9 d.turns h' hs)
      | false=>A ds bs n (put φ g.d undef) h fun ns hs=>K (⟨φ,undef,false⟩ :: ns) hs) gs
def tZ (gs:List G):List Bool→List Nt→Hp→(List (Option Nat)→Hp→Prop)→Prop :=
 List.rec (motive:=fun _=>List Bool→List Nt→Hp→(List (Option Nat)→Hp→Prop)→Prop) (fun _ _ h K=>K [] h)
  (fun g _ A bs ns h K=>match bs with
   | []=>K [] h
   | b :: bs=>match ns with
    | []=>K [] h
    | n :: ns=>match b with
     | true=>match n.done with
      | true=>mZ g.op n.φ fun _ e cells=>A bs ns (h.lay (.row e true cells)) fun as h'=>K (some h.next :: as) h'
      | false=>A bs ns h fun as h'=>K (none :: as) h'
     | false=>A bs ns h fun as h'=>K (none :: as) h') gs
def zT (b:Bool)(as:List (Option Nat))(A:Nat→List (Option Nat)→Prop)(B:List (Option Nat)→Prop):Prop:=match b with
 | true=>match as with
  | []=>False
  | a :: as=>match a with
   | some r=>A r as
   | none=>False
 | false=>match as with
  | []=>False
  | a :: as=>match a with
   | some _=>False
   | none=>B as
theorem LY {b:Bool}{as:List (Option Nat)}{A A':Nat→List (Option Nat)→Prop}{B B':List (Option Nat)→Prop}(ka:∀ r as,A r as→A' r as)(kb:∀ as,B as→B' as)(w:zT b as A B):zT b as A' B':=by
 cases b with
 | true =>
  cases as with
  | nil=>exact (show False from w).elim
  | cons a as =>
   cases a with
   | none=>exact (show False from w).elim
   | some r=>exact ka _ _ w
 | false =>
  cases as with
  | nil=>exact (show False from w).elim
  | cons a as =>
   cases a with
   | some r=>exact (show False from w).elim
   | none=>exact kb _ w
def oG (gs:List G):List Dr→List Bool→List (Option Nat)→Frame→Hp→(List Nt→List Ld→List Hp→Frame→Hp→Prop)→Prop :=
 List.rec (motive:=fun _=>List Dr→List Bool→List (Option Nat)→Frame→Hp→(List Nt→List Ld→List Hp→Frame→Hp→Prop)→Prop) (fun _ _ _ φ h K=>K [] [] [] φ h)
  (fun g _ A ds bs as φ h K=>match ds with
   | []=>False
   | d :: ds=>match bs with
    | []=>False
    | b :: bs=>match gok φ g.g with
     | true=>zT b as (fun r as=>mZ g.op φ fun f e cells=>A ds bs as (put φ g.d (f r)) h fun ns os hs=>K (⟨φ,f r,true⟩ :: ns) (some (r,e,cells) :: os) hs) (fun as=>pW E d.turns g.op φ h fun v h'=>A ds bs as (put φ g.d v) h' fun ns os hs=>K (⟨φ,v,true⟩ :: ns) (none :: os) (q9 d.turns h' hs))
     | false=>A ds bs as.tail (put φ g.d undef) h fun ns os hs=>K (⟨φ,undef,false⟩ :: ns) (none :: os) hs) gs
def gq (z:Nat)(rd:Option Nat)(b:C)(B:Frame→Hp→List Nat→Pq→Prop)(φ:Frame)(h:Hp)(m:List Nat)(Q:Pq):Prop :=
 ∃ (I:Nat→Frame→Hp→List Nat→Prop) (n:Nat) (h0:Hp),h0.Le h∧I n φ h0 m∧∀ n φ h m,I n φ h m→B φ h m (UR Q fun φ' h' m'=>∃ n' h'',n' < n∧h''.Le h'∧I n' φ' h'' m')
structure aC (z:Nat) (rd:Option Nat) (a b:C) (A B:Frame→Hp→List Nat→Pq→Prop) (φ:Frame) (h:Hp) (m:List Nat) (Q:Pq):Prop where
 out:A φ h m (UR Q fun φ h m=>B φ h m Q)
def wq (z:Nat)(rd:Option Nat)(c:C):Frame→Hp→List Nat→Pq→Prop :=
 C.rec (motive:=fun _=>Frame→Hp→List Nat→Pq→Prop)
  (fun φ h m Q=>Q .normal φ h m)
  (fun φ h m Q=>Q .ret φ h m)
  (fun id φ h m Q=>Q (.exit id) φ h m)
  (fun l φ h m Q=>Q (.goto l) φ h m)
  (fun l φ h m Q=>CK E l φ h fun φ h=>Q .normal φ h m)
  (fun l ds φ h m Q=>rC E l ds φ h fun ns hs φ h'=>uS E ns (h :: hs) l ds ns∧Q .normal φ h' m)
  (fun a b A B φ h m Q=>aC z rd a b A B φ h m Q)
  (fun x _ _ A B φ h m Q=>SX (bI φ x) (A φ h m Q) (B φ h m Q))
  (fun id _ B φ h m Q=>B φ h m (QS id Q))
  (fun _ B φ h m Q=>B φ h m (aa0 Q))
  (fun b B φ h m Q=>gq z rd b B φ h m Q)
  (fun f ps a b _ _ φ h m Q=>LX E z (bI φ f) ps a b φ h m Q rd)
  (fun l ds ls φ h m Q=>lK E l ds ls h.next φ (Ao l ls h) fun ns hs φ h'=>D6 E ns (Ao l ls h :: hs) l ds ls ns∧Q .normal φ h' m)
  (fun l df ds ls φ h m Q=>rC E l df φ h fun n1 _ _ _=>tZ l ls n1 h fun as h0=>oG E l ds ls as φ h0 fun ns os hs φ h'=>D7 E ns (h0 :: hs) l ds os ns∧Q .normal φ h' m)
  c
theorem SY (z:Nat)(rd:Option Nat)(x:Operand)(a b:C)(φ:Frame)(h:Hp)(m:List Nat)(Q:Pq):wq E z rd (.cond x a b) φ h m Q = SX (bI φ x) (wq E z rd a φ h m Q) (wq E z rd b φ h m Q):=rfl
theorem OD (z:Nat)(rd:Option Nat)(f:Operand)(ps:Array Tmp)(a b:C)(φ:Frame)(h:Hp)(m:List Nat)(Q:Pq):wq E z rd (.range f ps a b) φ h m Q = LX E z (bI φ f) ps a b φ h m Q rd:=rfl
def bU (rs:List ResultVar)(Q:Value→Hp→Prop):Pq:=fun e φ h m=>match e with
 | .normal=>j6 E rs ⟨φ,h,m⟩ Q
 | .ret=>j6 E rs ⟨φ,h,m⟩ Q
 | _=>False
end
section
variable {E:Env} {z:Nat} {rd:Option Nat} [Af E]
theorem yM:∀ {gs:List G} {φ:Frame} {h:Hp} {Q:Frame→Hp→Prop},CK E gs φ h Q→wpOps E gs φ h Q
 | [],φ,h,Q,w=>w
 | ⟨d,op,g⟩ :: l,φ,h,Q,w=>by
  unfold wpOps;rw [HV] at w
  cases g with
  | none=>exact lJ (fun v h' hy=>yM hy) (LW w)
  | some q =>
   obtain ⟨t,want⟩:=q;dsimp only at w ⊢;unfold gok QI;dsimp only;cases hv:φ t <;> rw [hv] at w <;> dsimp only at w ⊢ <;> first | exact yM w | skip
   rename_i b
   cases hb:b == want with
   | true=>rw [hb] at w; exact lJ (fun v h' hy=>yM hy) (LW w)
   | false=>rw [hb] at w; exact yM w
theorem OE {op:TOp}(hc:CO op = true)(φ:Frame)(h:Hp):UL (runT E op φ h):=by
 cases op <;> first | (cases hc; done) | exact sP _ _ | trivial | skip
 all_goals simp only [runT]
 ·repeat' split
  all_goals trivial
 ·unfold DZ; split <;> first | exact sP _ _ | trivial
 ·unfold DZ; split <;> first | exact sP _ _ | trivial
 ·unfold lN;split
  ·exact VF.lift (by unfold xI; repeat' (first | trivial | split)) _
  ·unfold nK;split
   ·split
    ·exact VF.lift (EN _ _ _ _ _) _
    ·exact VF.lift (Hw _ _ _ _ _ _) _
   ·exact VF.lift (Hw _ _ _ _ _ _) _
   ·trivial
  ·exact VF.lift (by unfold mH; repeat' (first | trivial | split)) _
  ·exact VF.lift (by unfold sD; repeat' (first | trivial | split)) _
  ·trivial
theorem HY {turns:Bool}{op:TOp}{φ:Frame}{h:Hp}{K:Value→Hp→Prop}(w:pW E turns op φ h K):DrP E turns (runT E op φ h) K:=by
 unfold pW at w
 cases turns with
 | true=>exact LW w
 | false =>
  rw [Bool.false_or] at w
  cases hc:CO op with
  | false=>rw [hc] at w; exact w
  | true =>
   rw [hc] at w;have h1:=LW w;have h2:=OE (E:=E) hc φ h
   revert h1 h2
   generalize runT E op φ h = r;intro h1 h2
   cases r with
   | val v h'=>exact h1
   | fail=>exact h1.elim
   | _=>exact h2.elim
theorem zU:∀ {gs:List G} {ds:List Dr} {φ:Frame} {h:Hp} {K:List Nt→List Hp→Frame→Hp→Prop},rC E gs ds φ h K→iV E gs ds φ h K
 | [],ds,φ,h,K,w=>by unfold iV; exact w
 | g :: l,[],φ,h,K,w=>by cases w
 | g :: l,d :: ds,φ,h,K,w=>by
  have w:(match gok φ g.g with
    | true=>pW E d.turns g.op φ h fun v h'=>rC E l ds (put φ g.d v) h' fun ns hs=>K (⟨φ,v,true⟩ :: ns) (q9 d.turns h' hs)
    | false=>rC E l ds (put φ g.d undef) h fun ns hs=>K (⟨φ,undef,false⟩ :: ns) hs):=w
  unfold iV
  cases hb:gok φ g.g with
  | true =>
   rw [hb] at w;exact ru (fun v h' hy=>zU hy) (HY w)
  | false =>
   rw [hb] at w;exact zU w
theorem wM:∀ {gs:List G} {ds:List Dr} {ls:List Bool} {n:Nat} {φ:Frame} {h:Hp} {K:List Nt→List Hp→Frame→Hp→Prop},lK E gs ds ls n φ h K→jq E gs ds ls n φ h K
 | [],ds,ls,n,φ,h,K,w=>by unfold jq; exact w
 | g :: l,[],ls,n,φ,h,K,w=>by cases w
 | g :: l,d :: ds,[],n,φ,h,K,w=>by cases w
 | g :: l,d :: ds,b :: bs,n,φ,h,K,w=>by
  unfold jq
  cases b with
  | true =>
   have w:LD g.op n fun v=>lK E l ds bs (Nat.succ n) (put φ g.d v) h fun ns hs=>K (⟨φ,v,true⟩ :: ns) hs:=w;exact D9 (fun v hy=>wM hy) w
  | false =>
   have w : (match gok φ g.g with
         | true => pW E d.turns g.op φ h fun v h' => lK E l ds bs n (put φ g.d v) h' fun ns hs => K (⟨φ, v, true⟩ :: ns) (q9 d.turns h' hs)
         | false => lK E l ds bs n (put φ g.d undef) h fun ns hs => K (⟨φ, undef, false⟩ :: ns) hs) := w
   dsimp only
   cases hb:gok φ g.g with
   | true =>
    rw [hb] at w;exact ru (fun v h' hy=>wM hy) (HY w)
   | false =>
    rw [hb] at w;exact wM w
theorem zV:∀ {gs:List G} {ls:List Bool} {ns:List Nt} {h:Hp} {K:List (Option Nat)→Hp→Prop},tZ gs ls ns h K→j5 gs ls ns h K
 | [],ls,ns,h,K,w=>by unfold j5; exact w
 | g :: l,[],ns,h,K,w=>by unfold j5; exact w
 | g :: l,b :: bs,[],h,K,w=>by unfold j5; exact w
 | g :: l,b :: bs,n :: ns,h,K,w=>by
  unfold j5
  cases b with
  | false=>exact zV w
  | true =>
   have w : (match n.done with
         | true => mZ g.op n.φ fun _ e cells => tZ l bs ns (h.lay (.row e true cells)) fun as h' => K (some h.next :: as) h'
         | false => tZ l bs ns h fun as h' => K (none :: as) h') := w
   dsimp only
   cases hn:n.done with
   | true=>rw [hn] at w; exact oF (fun f e c hy=>zV hy) w
   | false=>rw [hn] at w; exact zV w
theorem zW:∀ {gs:List G} {ds:List Dr} {ls:List Bool} {as:List (Option Nat)} {φ:Frame} {h:Hp} {K:List Nt→List Ld→List Hp→Frame→Hp→Prop},oG E gs ds ls as φ h K→kW E gs ds ls as φ h K
 | [],ds,ls,as,φ,h,K,w=>by unfold kW; exact w
 | g :: l,[],ls,as,φ,h,K,w=>by cases w
 | g :: l,d :: ds,[],as,φ,h,K,w=>by cases w
 | g :: l,d :: ds,b :: bs,as,φ,h,K,w=>by
  have w : (match gok φ g.g with
        | true => zT b as (fun r as => mZ g.op φ fun f e cells => oG E l ds bs as (put φ g.d (f r)) h fun ns os hs => K (⟨φ, f r, true⟩ :: ns) (some (r, e, cells) :: os) hs) (fun as => pW E d.turns g.op φ h fun v h' => oG E l ds bs as (put φ g.d v) h' fun ns os hs => K (⟨φ, v, true⟩ :: ns) (none :: os) (q9 d.turns h' hs))
        | false => oG E l ds bs as.tail (put φ g.d undef) h fun ns os hs => K (⟨φ, undef, false⟩ :: ns) (none :: os) hs) := w
  unfold kW;dsimp only
  cases hb:gok φ g.g with
  | false=>rw [hb] at w; exact zW w
  | true =>
   rw [hb] at w;dsimp only at w ⊢
   cases b with
   | true =>
    cases as with
    | nil=>exact (show False from w).elim
    | cons a as =>
     cases a with
     | none=>exact (show False from w).elim
     | some r=>exact oF (fun f e c hy=>zW hy) w
   | false =>
    cases as with
    | nil=>exact (show False from w).elim
    | cons a as =>
     cases a with
     | some r=>exact (show False from w).elim
     | none=>exact ru (fun v h' hy=>zW hy) (HY w)
theorem XF:∀ {c:C} {φ:Frame} {h:Hp} {m:List Nat} {Q:Pq},wq E z rd c φ h m Q→wp E z rd c ⟨φ,h,m⟩ Q.at:=by
 intro c
 induction c with
 | skip=>intro φ h m Q w; exact w
 | ret=>intro φ h m Q w; exact w
 | exit id=>intro φ h m Q w; exact w
 | goto l=>intro φ h m Q w; exact w
 | ops l=>intro φ h m Q w; exact yM w
 | draw l ds=>intro φ h m Q w; exact zU w
 | ahead l ds ls=>intro φ h m Q w; exact wM w
 | dry l df ds ls=>intro φ h m Q w; exact kX (fun n1 _ _ _ hy=>pV (fun as h0 hy=>zW hy) (zV hy)) (zU w)
 | seq a b iha ihb =>
  intro φ h m Q w;show wp E z rd a _ _;refine wp_mono (fun e s hy=>?_) (iha w.out)
  cases e with
  | normal=>exact ihb hy
  | _=>exact hy
 | cond x a b iha ihb =>
  intro φ h m Q w;rw [SY] at w;simp only [SX] at w;simp only [wp,SK];split
  ·rename_i bb hbb;rw [hbb] at w
   cases bb with
   | true=>exact ⟨fun _=>iha w,fun e=>(by cases e)⟩
   | false=>exact ⟨fun e=>(by cases e),fun _=>ihb w⟩
  ·rename_i hne;split at w
   ·rename_i hbb; exact absurd hbb (hne _)
   ·exact w
 | block id b ih =>
  intro φ h m Q w;show wp E z rd b _ _;refine wp_mono (fun e s hy=>?_) (ih w)
  cases e with
  | exit id' =>
   unfold Pq.at QS at hy;unfold LH;dsimp only at hy ⊢
   cases hid:Nat.beq id' id with
   | true=>rw [hid] at hy; exact hy
   | false=>rw [hid] at hy; exact hy
  | _=>exact hy
 | scope b ih =>
  intro φ h m Q w;show wp E z rd b _ _;refine wp_mono (fun e s hy=>?_) (ih w);cases e <;> exact hy
 | loop b ih =>
  intro φ h m Q w;obtain ⟨I,n,h0,hl,hn,hI⟩:=w;refine ⟨fun n s=>I n s.φ s.h s.m,n,h0,hl,hn,fun n s hs=>?_⟩;refine wp_mono (fun e s hy=>?_) (ih (hI n s.φ s.h s.m hs))
  cases e with
  | normal=>exact hy
  | _=>exact hy
 | range f ps a b _ _ =>
  intro φ h m Q w;rw [OD] at w;simp only [LX] at w;simp only [wp];have main:∀ {d:Nat} {mk:List Nat} {h':Hp},wL E z (bI φ f) ps a b φ m Q d mk h'→D8 E z (bI φ f) ps a b ⟨φ,h,m⟩ Q.at (some (d,mk,h')):=by
   intro d mk h' w;unfold wL at w;unfold D8;dsimp only;exact w
  cases rd with
  | none=>exact main w
  | some l =>
   obtain ⟨E',st,p,φ',z',ps',a',b',d,hl,w⟩:=w;unfold uT;dsimp only;rw [hl];exact main w
theorem UU {rs:List ResultVar}{Q:Value→Hp→Prop}:(bU E rs Q).at = QN E rs Q:=by
 funext e s
 cases e <;> rfl
theorem XG {k:IntKind}{op:BinOp}{m n:Int}{K K':Value→Prop}(f:∀ v,K v→K' v)(w:arP k op m n K):arP k op m n K':=by
 unfold arP at w ⊢;cases op <;> first | exact w.elim | (obtain ⟨r,e,w⟩:=w; exact ⟨r,e,f _ w⟩) | (obtain ⟨hn,r,e,w⟩:=w; exact ⟨hn,r,e,f _ w⟩) | exact ⟨w.1,f _ w.2⟩ | exact fun b hb=>f _ (w b hb) | exact f _ w
theorem UW {k:IntKind}{op:BinOp}{a b:Value}{K K':Value→Prop}(f:∀ v,K v→K' v)(w:UO k op a b K):UO k op a b K':=by
 unfold UO at w ⊢;cases a <;> dsimp only at w ⊢ <;> first | exact w.elim | skip
 cases b <;> dsimp only at w ⊢ <;> first | exact w.elim | skip
 rename_i k1 m k2 n
 cases hs:FI op with
 | true =>
  rw [hs] at w;dsimp only at w ⊢
  cases h1:decide (k1 = k) with
  | false=>rw [h1] at w; exact w.elim
  | true =>
  rw [h1] at w;dsimp only at w ⊢;unfold shP at w ⊢;cases op <;> dsimp only at w ⊢ <;> first | exact w.elim | skip
  ·obtain ⟨hn,r,e,w⟩:=w; exact ⟨hn,r,e,f _ w⟩
  ·exact ⟨w.1,f _ w.2⟩
 | false =>
  rw [hs] at w;dsimp only at w ⊢
  cases h1:decide (k1 = k) && decide (k2 = k) with
  | false=>rw [h1] at w; exact w.elim
  | true=>rw [h1] at w; exact XG f w
theorem jg {v:Option Value}{K K':Value→Prop}(f:∀ v,K v→K' v)(w:uX v K):uX v K':=by
 cases v with
 | none=>exact w
 | some v=>exact f _ w
theorem CP {v:Option Value}{K K':Value→Prop}(f:∀ v,K v→K' v)(w:isP v K):isP v K':=let ⟨u,e,w⟩:=w; ⟨u,e,f _ w⟩
theorem uY {n:Nat}{j:Value}{K K':Nat→Prop}(f:∀ v,K v→K' v)(w:Jt n j K):Jt n j K':=by
 unfold Jt at w ⊢;cases j <;> dsimp only at w ⊢ <;> first | exact w.elim | exact ⟨w.1,f _ w.2⟩
theorem EO {v:Option (List Value)}{K K':List Value→Prop}(f:∀ v,K v→K' v)(w:Eb v K):Eb v K':=by
 cases v with
 | none=>exact w
 | some v=>exact f _ w
theorem HZ {op:TOp}{φ:Frame}{h:Hp}{K K':Value→Hp→Prop}(f:∀ v h,K v h→K' v h)(w:opP E op φ h K):opP E op φ h K':=by
 cases op with
 | mov x=>exact f _ _ w
 | pick c a b =>
  simp only [opP,XB] at w ⊢;cases hc:bI φ c <;> rw [hc] at w <;> dsimp only at w ⊢ <;> first | exact w.elim | skip
  rename_i b;cases b <;> exact f _ _ w
 | alloc e cells=>exact f _ _ w
 | box e x=>exact EO (fun _ w=>f _ _ w) w
 | iX z ps=>exact jg (fun _ w=>f _ _ w) w
 | fP e n z ps=>exact EO (fun _ w=>f _ _ w) w
 | aQ x=>exact qM (fun r o w=>CP (fun _ w=>f _ _ w) w) w
 | bK m x=>exact qM (fun r o w=>let ⟨u,e,w⟩:=w; ⟨u,e,f _ _ w⟩) w
 | store m x y =>
  refine qM (fun r o w=>?_) w;unfold LQ at w ⊢
  cases hc:cellsOf (bI φ y) with
  | none=>rw [hc] at w; exact w
  | some vs=>rw [hc] at w; obtain ⟨h1,h',e,w⟩:=w; exact ⟨h1,h',e,f _ _ w⟩
 | WJ x=>exact jg (fun _ w=>f _ _ w) w
 | ar k op x y=>exact UW (fun _ w=>f _ _ w) w
 | str op x y=>exact CP (fun _ w=>f _ _ w) w
 | not x=>exact jg (fun _ w=>f _ _ w) w
 | Cn k x =>
  simp only [opP] at w ⊢;cases hc:bI φ x <;> rw [hc] at w <;> dsimp only at w ⊢ <;> first | exact w.elim | skip
  obtain ⟨r,e,w⟩:=w;exact ⟨r,e,f _ _ w⟩
 | GU n x=>exact CP (fun _ w=>f _ _ w) w
 | func fn a b=>exact jg (fun _ w=>f _ _ w) w
 | iC=>exact f _ _ w
 | dX x=>exact jg (fun _ w=>f _ _ w) w
 | lenStr x=>exact jg (fun _ w=>f _ _ w) w
 | Uv n=>exact f _ _ w
 | bN off x=>exact jg (fun _ w=>f _ _ w) w
 | WK off x=>exact jg (fun _ w=>f _ _ w) w
 | WL off m x=>exact jg (fun _ w=>f _ _ w) w
 | GV n size x j =>
  simp only [opP,XC] at w ⊢;split
  ·rename_i hp; rw [hp] at w; exact uY (fun _ w=>f _ _ w) w
  ·rename_i hne;split at w
   ·rename_i hp; exact absurd hp (hne _ _)
   ·exact w
 | cZ size x j =>
  simp only [opP,XD] at w ⊢;split
  ·rename_i hp; rw [hp] at w; exact ⟨w.1,uY (fun _ w=>f _ _ w) w.2⟩
  ·rename_i hne;split at w
   ·rename_i hp; exact absurd hp (hne _ _ _ _ _)
   ·exact w
 | ix1 n x j =>
  simp only [opP,aaW] at w ⊢;split
  ·rename_i hp; rw [hp] at w; exact uY (fun _ w=>CP (fun _ w=>f _ _ w) w) w
  ·rename_i hne;split at w
   ·rename_i hp; exact absurd hp (hne _)
   ·exact w
 | ixN n m x j =>
  simp only [opP,aaX] at w ⊢;split
  ·rename_i hp; rw [hp] at w; exact uY (fun _ w=>⟨w.1,f _ _ w.2⟩) w
  ·rename_i hne;split at w
   ·rename_i hp; exact absurd hp (hne _)
   ·exact w
 | NY x j =>
  simp only [opP,QO] at w ⊢;split
  ·rename_i hp; rw [hp] at w; exact uY (fun _ w=>let ⟨b,e,w⟩:=w; ⟨b,e,f _ _ w⟩) w
  ·rename_i hne;split at w
   ·rename_i hp; exact absurd hp (hne _)
   ·exact w
 | ext x i=>exact jg (fun _ w=>f _ _ w) w
 | make e z bytes l c =>
  simp only [opP,SL] at w ⊢;cases hl:bI φ l <;> rw [hl] at w <;> dsimp only at w ⊢ <;> first | exact w.elim | skip
  cases hc:bI φ c <;> rw [hc] at w <;> dsimp only at w ⊢ <;> first | exact w.elim | exact ⟨w.1,f _ _ w.2⟩
 | call g xs=>exact aJ.mono w f
 | pK fv xs =>
  simp only [opP,XE] at w ⊢;split
  ·rename_i hf;rw [hf] at w;dsimp only at w;split
   ·exact ⟨w.1,w.2.mono f⟩
   ·exact w.mono f
   ·rename_i h1 h2;split at w
    ·exact absurd rfl (h1 _)
    ·exact absurd rfl (h2 _)
    ·exact lJ f w
  ·rename_i hne;split at w
   ·rename_i hp; exact absurd hp (hne _ _ _)
   ·exact w
 | raw op ty =>
  simp only [opP] at w ⊢
  cases hm:LU op with
  | true=>rw [hm] at w; exact ⟨lJ f w.out⟩
  | false=>rw [hm] at w; exact lJ f w
 | _=>exact lJ f w
theorem rD:∀ {gs:List G} {φ:Frame} {h:Hp} {Q Q':Frame→Hp→Prop},(∀ φ h,Q φ h→Q' φ h)→CK E gs φ h Q→CK E gs φ h Q'
 | [],φ,h,Q,Q',k,w=>k _ _ w
 | ⟨d,op,g⟩ :: l,φ,h,Q,Q',k,w=>by
  rw [HV] at w ⊢
  cases g with
  | none=>exact HZ (fun v h' hy=>rD k hy) w
  | some q =>
   obtain ⟨t,want⟩:=q;dsimp only at w ⊢;cases hv:φ t <;> rw [hv] at w <;> dsimp only at w ⊢ <;> first | exact rD k w | skip
   rename_i b
   cases hb:b == want with
   | true=>rw [hb] at w; exact HZ (fun v h' hy=>rD k hy) w
   | false=>rw [hb] at w; exact rD k w
theorem Bg {turns:Bool}{op:TOp}{φ:Frame}{h:Hp}{K K':Value→Hp→Prop}(f:∀ v h,K v h→K' v h)(w:pW E turns op φ h K):pW E turns op φ h K':=by
 unfold pW at w ⊢
 cases hc:turns || CO op with
 | true=>rw [hc] at w; exact HZ f w
 | false=>rw [hc] at w; exact ru f w
theorem sS:∀ {gs:List G} {ds:List Dr} {φ:Frame} {h:Hp} {K K':List Nt→List Hp→Frame→Hp→Prop},(∀ ns hs φ h,K ns hs φ h→K' ns hs φ h)→rC E gs ds φ h K→rC E gs ds φ h K'
 | [],ds,φ,h,K,K',k,w=>k _ _ _ _ w
 | g :: l,[],φ,h,K,K',k,w=>by cases w
 | g :: l,d :: ds,φ,h,K,K',k,w=>by
  have w:(match gok φ g.g with
    | true=>pW E d.turns g.op φ h fun v h'=>rC E l ds (put φ g.d v) h' fun ns hs=>K (⟨φ,v,true⟩ :: ns) (q9 d.turns h' hs)
    | false=>rC E l ds (put φ g.d undef) h fun ns hs=>K (⟨φ,undef,false⟩ :: ns) hs):=w
  show (match gok φ g.g with
    | true=>pW E d.turns g.op φ h fun v h'=>rC E l ds (put φ g.d v) h' fun ns hs=>K' (⟨φ,v,true⟩ :: ns) (q9 d.turns h' hs)
    | false=>rC E l ds (put φ g.d undef) h fun ns hs=>K' (⟨φ,undef,false⟩ :: ns) hs)
  cases hb:gok φ g.g with
  | true =>
   rw [hb] at w;exact Bg (fun v h' hy=>sS (fun ns hs φ h hz=>k _ _ _ _ hz) hy) w
  | false =>
   rw [hb] at w;exact sS (fun ns hs φ h hz=>k _ _ _ _ hz) w
theorem qy:∀ {gs:List G} {ds:List Dr} {ls:List Bool} {n:Nat} {φ:Frame} {h:Hp} {K K':List Nt→List Hp→Frame→Hp→Prop},(∀ ns hs φ h,K ns hs φ h→K' ns hs φ h)→lK E gs ds ls n φ h K→lK E gs ds ls n φ h K'
 | [],ds,ls,n,φ,h,K,K',k,w=>k _ _ _ _ w
 | g :: l,[],ls,n,φ,h,K,K',k,w=>by cases w
 | g :: l,d :: ds,[],n,φ,h,K,K',k,w=>by cases w
 | g :: l,d :: ds,b :: bs,n,φ,h,K,K',k,w=>by
  cases b with
  | true =>
   have w:LD g.op n fun v=>lK E l ds bs (Nat.succ n) (put φ g.d v) h fun ns hs=>K (⟨φ,v,true⟩ :: ns) hs:=w;show LD g.op n fun v=>lK E l ds bs (Nat.succ n) (put φ g.d v) h fun ns hs=>K' (⟨φ,v,true⟩ :: ns) hs;exact D9 (fun v hy=>qy (fun ns hs φ h hz=>k _ _ _ _ hz) hy) w
  | false =>
   have w : (match gok φ g.g with
         | true => pW E d.turns g.op φ h fun v h' => lK E l ds bs n (put φ g.d v) h' fun ns hs => K (⟨φ, v, true⟩ :: ns) (q9 d.turns h' hs)
         | false => lK E l ds bs n (put φ g.d undef) h fun ns hs => K (⟨φ, undef, false⟩ :: ns) hs) := w
   show (match gok φ g.g with
         | true => pW E d.turns g.op φ h fun v h' => lK E l ds bs n (put φ g.d v) h' fun ns hs => K' (⟨φ, v, true⟩ :: ns) (q9 d.turns h' hs)
         | false => lK E l ds bs n (put φ g.d undef) h fun ns hs => K' (⟨φ, undef, false⟩ :: ns) hs)
   cases hb:gok φ g.g with
   | true =>
    rw [hb] at w;exact Bg (fun v h' hy=>qy (fun ns hs φ h hz=>k _ _ _ _ hz) hy) w
   | false =>
    rw [hb] at w;exact qy (fun ns hs φ h hz=>k _ _ _ _ hz) w
theorem sU:∀ {gs:List G} {ls:List Bool} {ns:List Nt} {h:Hp} {K K':List (Option Nat)→Hp→Prop},(∀ as h,K as h→K' as h)→tZ gs ls ns h K→tZ gs ls ns h K'
 | [],ls,ns,h,K,K',k,w=>k _ _ w
 | g :: l,[],ns,h,K,K',k,w=>k _ _ w
 | g :: l,b :: bs,[],h,K,K',k,w=>k _ _ w
 | g :: l,b :: bs,n :: ns,h,K,K',k,w=>by
  cases b with
  | false=>exact sU (gs:=l) (fun as h hy=>k _ _ hy) w
  | true =>
   have w : (match n.done with
         | true => mZ g.op n.φ fun _ e cells => tZ l bs ns (h.lay (.row e true cells)) fun as h' => K (some h.next :: as) h'
         | false => tZ l bs ns h fun as h' => K (none :: as) h') := w
   show (match n.done with
         | true => mZ g.op n.φ fun _ e cells => tZ l bs ns (h.lay (.row e true cells)) fun as h' => K' (some h.next :: as) h'
         | false => tZ l bs ns h fun as h' => K' (none :: as) h')
   cases hn:n.done with
   | true=>rw [hn] at w; exact oF (fun f e c hy=>sU (fun as h hz=>k _ _ hz) hy) w
   | false=>rw [hn] at w; exact sU (fun as h hy=>k _ _ hy) w
theorem sV:∀ {gs:List G} {ds:List Dr} {ls:List Bool} {as:List (Option Nat)} {φ:Frame} {h:Hp} {K K':List Nt→List Ld→List Hp→Frame→Hp→Prop},(∀ ns os hs φ h,K ns os hs φ h→K' ns os hs φ h)→oG E gs ds ls as φ h K→oG E gs ds ls as φ h K'
 | [],ds,ls,as,φ,h,K,K',k,w=>k _ _ _ _ _ w
 | g :: l,[],ls,as,φ,h,K,K',k,w=>by cases w
 | g :: l,d :: ds,[],as,φ,h,K,K',k,w=>by cases w
 | g :: l,d :: ds,b :: bs,as,φ,h,K,K',k,w=>by
  have w : (match gok φ g.g with
        | true => zT b as (fun r as => mZ g.op φ fun f e cells => oG E l ds bs as (put φ g.d (f r)) h fun ns os hs => K (⟨φ, f r, true⟩ :: ns) (some (r, e, cells) :: os) hs) (fun as => pW E d.turns g.op φ h fun v h' => oG E l ds bs as (put φ g.d v) h' fun ns os hs => K (⟨φ, v, true⟩ :: ns) (none :: os) (q9 d.turns h' hs))
        | false => oG E l ds bs as.tail (put φ g.d undef) h fun ns os hs => K (⟨φ, undef, false⟩ :: ns) (none :: os) hs) := w
  show (match gok φ g.g with
        | true => zT b as (fun r as => mZ g.op φ fun f e cells => oG E l ds bs as (put φ g.d (f r)) h fun ns os hs => K' (⟨φ, f r, true⟩ :: ns) (some (r, e, cells) :: os) hs) (fun as => pW E d.turns g.op φ h fun v h' => oG E l ds bs as (put φ g.d v) h' fun ns os hs => K' (⟨φ, v, true⟩ :: ns) (none :: os) (q9 d.turns h' hs))
        | false => oG E l ds bs as.tail (put φ g.d undef) h fun ns os hs => K' (⟨φ, undef, false⟩ :: ns) (none :: os) hs)
  cases hb:gok φ g.g with
  | false=>rw [hb] at w; exact sV (fun ns os hs φ h hz=>k _ _ _ _ _ hz) w
  | true =>
   rw [hb] at w;exact LY (fun r as w=>oF (fun f e c hy=>sV (fun ns os hs φ h hz=>k _ _ _ _ _ hz) hy) w) (fun as w=>Bg (fun v h' hy=>sV (fun ns os hs φ h hz=>k _ _ _ _ _ hz) hy) w) w
theorem LZ:∀ {c:C} {φ:Frame} {h:Hp} {m:List Nat} {Q Q':Pq},(∀ e φ h m,Q e φ h m→Q' e φ h m)→wq E z rd c φ h m Q→wq E z rd c φ h m Q':=by
 intro c
 induction c with
 | skip=>intro φ h m Q Q' k w; exact k _ _ _ _ w
 | ret=>intro φ h m Q Q' k w; exact k _ _ _ _ w
 | exit id=>intro φ h m Q Q' k w; exact k _ _ _ _ w
 | goto l=>intro φ h m Q Q' k w; exact k _ _ _ _ w
 | ops l=>intro φ h m Q Q' k w; exact rD (fun φ h hy=>k _ _ _ _ hy) w
 | draw l ds=>intro φ h m Q Q' k w; exact sS (fun ns hs φ h hy=>⟨hy.1,k _ _ _ _ hy.2⟩) w
 | ahead l ds ls=>intro φ h m Q Q' k w; exact qy (fun ns hs φ h hy=>⟨hy.1,k _ _ _ _ hy.2⟩) w
 | dry l df ds ls=>intro φ h m Q Q' k w; exact sS (fun n1 _ _ _ hy=>sU (fun as h0 hy=>sV (fun ns os hs φ h hy=>⟨hy.1,k _ _ _ _ hy.2⟩) hy) hy) w
 | seq a b iha ihb =>
  intro φ h m Q Q' k w;refine aC.mk (iha (fun e φ h m hy=>?_) w.out)
  cases e with
  | normal=>exact ihb k hy
  | _=>exact k _ _ _ _ hy
 | cond x a b iha ihb =>
  intro φ h m Q Q' k w;rw [SY] at w ⊢;simp only [SX] at w ⊢;cases hv:bI φ x <;> rw [hv] at w <;> dsimp only at w ⊢ <;> first | exact w.elim | skip
  rename_i b
  cases b with
  | true=>exact iha k w
  | false=>exact ihb k w
 | block id b ih =>
  intro φ h m Q Q' k w;refine ih (fun e φ h m hy=>?_) w
  cases e with
  | exit id' =>
   unfold QS at hy ⊢;dsimp only at hy ⊢
   cases hid:Nat.beq id' id with
   | true=>rw [hid] at hy; exact k _ _ _ _ hy
   | false=>rw [hid] at hy; exact k _ _ _ _ hy
  | _=>exact k _ _ _ _ hy
 | scope b ih =>
  intro φ h m Q Q' k w;refine ih (fun e φ h m hy=>?_) w
  cases e with
  | goto l=>exact hy
  | _=>exact k _ _ _ _ hy
 | loop b ih =>
  intro φ h m Q Q' k w;obtain ⟨I,n,h0,hl,hn,hI⟩:=w;refine ⟨I,n,h0,hl,hn,fun n φ h m hs=>ih (fun e φ h m hy=>?_) (hI n φ h m hs)⟩
  cases e with
  | normal=>exact hy
  | _=>exact k _ _ _ _ hy
 | range f ps a b _ _ =>
  intro φ h m Q Q' k w;rw [OD] at w ⊢;simp only [LX] at w ⊢;have main:∀ {d:Nat} {mk:List Nat} {h':Hp},wL E z (bI φ f) ps a b φ m Q d mk h'→wL E z (bI φ f) ps a b φ m Q' d mk h':=by
   intro d mk h' w;unfold wL at w ⊢;split
   ·rename_i fn first captured hf;rw [hf] at w;dsimp only at w;split
    ·exact ⟨w.1,w.2.mono fun v h2 q=>Hy (fun e s hy=>k _ _ _ _ hy) q⟩
    ·rename_i hne;split at w
     ·exact absurd rfl (hne _)
     ·exact w
   ·rename_i hne;split at w
    ·rename_i hp; exact absurd hp (hne _ _ _)
    ·exact w
  cases rd with
  | none=>exact main w
  | some l =>
   obtain ⟨E',st,p,φ',z',ps',a',b',d,hl,w⟩:=w;exact ⟨E',st,p,φ',z',ps',a',b',d,hl,main w⟩
def Rnd {α:Type}(L:α→List (Nat×Value))(H:α→Hp)(P:α→Prop)(μ:α→Nat)(a:α)(m:List Nat)(φ':Frame)(h':Hp)(m':List Nat):Prop :=
 ∃ a',P a'∧μ a' < μ a∧LP φ' (L a')∧(H a').Le h'∧m' = m
theorem Rnd.mk {α:Type}{L:α→List (Nat×Value)}{H:α→Hp}{P:α→Prop}{μ:α→Nat}{a:α}{m:List Nat}{φ':Frame}{h':Hp}{m':List Nat}(a':α)(h1:P a')(h2:μ a' < μ a)(h3:LP φ' (L a'))(h4:(H a').Le h')(h5:m' = m):Rnd L H P μ a m φ' h' m':=⟨a',h1,h2,h3,h4,h5⟩
theorem bT {α:Type}{b:C}{φ:Frame}{h:Hp}{m:List Nat}{Q:Pq}(L:α→List (Nat×Value))(H:α→Hp)(P:α→Prop)(μ:α→Nat)(a₀:α)(h0:P a₀)(hφ:LP φ (L a₀))(hh:(H a₀).Le h)
  (hr:∀ a φ,P a→wq E z rd b (OB φ (L a)) (H a) m (UR Q (Rnd L H P μ a m))):gq z rd b (wq E z rd b) φ h m Q:=by
 refine ⟨fun n φ' h' m'=>∃ a φ0,P a∧n = μ a∧φ' = OB φ0 (L a)∧h' = H a∧m' = m,μ a₀,H a₀,hh,⟨a₀,φ,h0,rfl,(yL hφ).symm,rfl,rfl⟩,?_⟩;rintro n φ' h' m' ⟨a,φ0,hP,rfl,rfl,rfl,rfl⟩;refine LZ (fun e φ' h' m' hq=>?_) (hr a φ0 hP)
 cases e with
 | normal =>
  obtain ⟨a',h1,h2,h3,h4,h5⟩:=hq;exact ⟨μ a',H a',h2,h4,a',φ',h1,rfl,(yL h3).symm,rfl,h5⟩
 | _=>exact hq
theorem aC.go {a b:C}{A B:Frame→Hp→List Nat→Pq→Prop}{φ:Frame}{h:Hp}{m:List Nat}{Q:Pq}(k:A φ h m (UR Q fun φ h m=>B φ h m Q)):aC z rd a b A B φ h m Q:=⟨k⟩
theorem aC.cut {α:Type}{a b:C}{φ:Frame}{h:Hp}{m:List Nat}{Q:Pq}(L:α→List (Nat×Value))(P:α→Hp→Prop)
  (k1:wq E z rd a φ h m (UR Q fun φ' h' m'=>∃ x,LP φ' (L x)∧P x h'∧m' = m))
  (k2:∀ x φ h',P x h'→wq E z rd b (OB φ (L x)) h' m Q):aC z rd a b (wq E z rd a) (wq E z rd b) φ h m Q:=by
 refine aC.mk ?_;refine LZ (fun e φ' h' m' hq=>?_) k1
 cases e with
 | normal =>
  obtain ⟨x,h1,h2,rfl⟩:=hq;have:=k2 x φ' h' h2;rw [yL h1] at this;exact this
 | _=>exact hq
theorem aJ.bV [bC]{f:FuncId}{fn:Func}{code:Code}{c:C}{z:Nat}{rs:List ResultVar}(hfn:E.fn.get f = some fn)(hb:fn.body = some code)(hz:fn.ntmps = z)(hrs:fn.results.toList = rs)(hc:comp E z code = some c)
  {xs:List Value}(hm:E.memo f xs = none)(hM:∀ H,E.Bv f xs H = none)(hl:xs.length≤z){h:Hp}{Q:Value→Hp→Prop}(w:wq E z none c (bM xs) h [] (bU E rs Q)):aJ E f xs h Q :=
 aJ.enter hfn hb hz hrs hc hm hM hl (by rw [← UU]; exact XF w)
end
end
end Go.Rx
