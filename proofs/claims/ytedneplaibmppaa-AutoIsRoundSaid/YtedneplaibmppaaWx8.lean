/- Contracts by what is to be shown of each step: a part of the engine. -/
import Derived.Test.YtedneplaibmppaaWx7
set_option maxRecDepth 100000
set_option linter.unusedVariables false
set_option linter.unusedSectionVars false
set_option linter.unusedSimpArgs false
namespace Go.Rx
noncomputable section

/-! The same for use: what is asked stands as it is to be shown. -/

def bO (b:Bool) (p:Prop):Prop:=b = true↔p
theorem bO.t {p:Prop} (h:bO true p):p:=h.1 rfl
theorem bO.f {p:Prop} (h:bO false p):¬ p:=fun hp=>by cases h.2 hp
theorem bO.acI {b:Bool} {p:Prop} (h:bO b p) (hp:p):b = true:=h.2 hp
theorem bO.acJ {b:Bool} {p:Prop} (h:bO b p) (hp:¬ p):b = false:=by cases b <;> first | rfl | exact absurd (h.1 rfl) hp
theorem yG {p:Prop} {K:Bool→Prop} (hp:p) (k:K true):∀ b,bO b p→K b:=fun b hb=>by rw [hb.acI hp]; exact k
theorem yH {p:Prop} {K:Bool→Prop} (hp:¬ p) (k:K false):∀ b,bO b p→K b:=fun b hb=>by rw [hb.acJ hp]; exact k
theorem dB {p:Prop} {K:Bool→Prop} (kt:p→K true) (kf:¬ p→K false):∀ b,bO b p→K b:=fun b hb=>by cases b; exact kf hb.f; exact kt hb.t
def dG (k:IntKind) (n r:Int):Prop:=r = jT k n

theorem wid {n:Int} (h:-9223372036854775808≤n∧n < 9223372036854775808):dG .i64 n n:=(qX h).symm

theorem wie {n r:Int} (e:n = r) (h:-9223372036854775808≤r∧r < 9223372036854775808):dG .i64 n r:=e ▸ wid (by rw [e]; exact h)

def arP (k:IntKind) (op:BinOp) (m n:Int) (K:Value→Prop):Prop:=match op with
 | .add=>∃ r,dG k (m + n) r∧K (.int k r)
 | .sub=>∃ r,dG k (m - n) r∧K (.int k r)
 | .mul=>∃ r,dG k (m * n) r∧K (.int k r)
 | .quo=>n≠0∧∃ r,dG k (m.tdiv n) r∧K (.int k r)
 | .rem=>n≠0∧K (.int k (m.tmod n))
 | .and=>K (.int k (dO k .and m n))
 | .or=>K (.int k (dO k .or m n))
 | .xor=>K (.int k (dO k .xor m n))
 | .andNot=>K (.int k (dO k .andNot m n))
 | .eql=>∀ b,bO b (m = n)→K (.bool b)
 | .neq=>∀ b,bO b (m≠n)→K (.bool b)
 | .lss=>∀ b,bO b (m < n)→K (.bool b)
 | .leq=>∀ b,bO b (m≤n)→K (.bool b)
 | .gtr=>∀ b,bO b (n < m)→K (.bool b)
 | .geq=>∀ b,bO b (n≤m)→K (.bool b)
 | .shl=>False
 | .shr=>False
def shP (k:IntKind) (op:BinOp) (m n:Int) (K:Value→Prop):Prop:=match op with
 | .shl=>0≤n∧∃ r,dG k (m * 2 ^ (min n.toNat k.bits)) r∧K (.int k r)
 | .shr=>0≤n∧K (.int k (m.fdiv (2 ^ (min n.toNat k.bits))))
 | _=>False
def Ub (k:IntKind) (op:BinOp) (a b:Value) (K:Value→Prop):Prop:=match a with
 | .int k1 m=>match b with
  | .int k2 n=>match FB op with
   | true=>match decide (k1 = k) with
    | true=>shP k op m n K
    | false=>False
   | false=>match decide (k1 = k) && decide (k2 = k) with
    | true=>arP k op m n K
    | false=>False
  | _=>False
 | _=>False
def WO (c a b:Value) (K:Value→Prop):Prop:=match c with
 | .bool c=>match c with
  | true=>K a
  | false=>K b
 | _=>False
def uJ (v:Option Value) (K:Value→Prop):Prop:=match v with
 | some v=>K v
 | none=>False
def NW (v:Value) (K:Nat→Nat→Prop):Prop:=match v with
 | .pointer (some ⟨r,o,none⟩)=>K r o
 | _=>False
def isP (x:Option Value) (K:Value→Prop):Prop:=∃ v,x = some v∧K v
def acK (x:Option (List Value)) (K:List Value→Prop):Prop:=∃ v,x = some v∧K v
def acL (x:Option Hp) (K:Hp→Prop):Prop:=∃ v,x = some v∧K v
def Jo (n:Nat) (j:Value) (K:Nat→Prop):Prop:=match j with
 | .int _ j=>(0≤j∧j < (n:Int))∧K j.toNat
 | _=>False
def iy (o j size:Nat):Nat:=match size with
 | 1=>j + o
 | s=>j * s + o
theorem iL (o j size:Nat):iy o j size = o + j * size:=by
 unfold iy; split
 ·omega
 ·exact Nat.add_comm _ _
def WQ (n size:Nat) (v j:Value) (K:Value→Prop):Prop:=match v with
 | .pointer (some ⟨r,o,none⟩)=>Jo n j fun j=>K (ptr r (iy o j size))
 | _=>False
def WR (size:Nat) (v j:Value) (K:Value→Prop):Prop:=match v with
 | .slice (some ⟨r,o,sp⟩) n _=>fT sp = false∧Jo n j fun j=>K (ptr r (iy o j size))
 | _=>False
def aap (n:Nat) (v j:Value) (K:Value→Prop):Prop:=match v with
 | .agg cs=>Jo n j fun j=>isP (cs.toList[j]?) K
 | _=>False
def aaq (n m:Nat) (v j:Value) (K:Value→Prop):Prop:=match v with
 | .agg cs=>Jo n j fun j=>j * m + m≤cs.toList.length∧K (.agg ⟨(cs.toList.drop (j * m)).take m⟩)
 | _=>False
def Qo (v j:Value) (K:Value→Prop):Prop:=match v with
 | .string s=>Jo s.size j fun j=>∃ b,s.data.toList[j]? = some b∧K (vE b)
 | _=>False
def LB (h:Hp) (m r o:Nat) (v:Value) (K:Hp→Prop):Prop:=match cellsOf v with
 | some vs=>vs.length = m∧acL (storeAt h r o vs) K
 | none=>False
def DW (x:Option (List Value)) (K:List Value→Prop):Prop:=match x with
 | some l=>K l
 | none=>False

def WS (E:Env) (h:Hp) (f:Value) (xs:List Value) (K:Value→Hp→Prop):Prop:=match f with
 | .func fn first captured=>match fn with
  | .func g=>callable E g = true∧aJ E g (first.toList ++ xs ++ captured.toList) h K
  | .yield l=>dA E l (first.toList ++ xs) h K
  | fn=>jZ E (lift (rM E D0 (.func fn first captured) xs) h) K
 | _=>False

def fK (E:Env) (h:Hp) (e size bytes:Nat) (s x:Value) (K:Value→Hp→Prop):Prop:=jZ E (JX h e size bytes s x) K

def iN (E:Env) (h:Hp) (size:Nat) (v:Value) (lo hi mx:Option Value) (K:Value→Hp→Prop):Prop:=jZ E (qQ h size v lo hi mx) K

structure Bj (E:Env) (op:TOp) (φ:Frame) (h:Hp) (K:Value→Hp→Prop):Prop where
 out:jZ E (runT E op φ h) K
def LC:Op→Bool
 | .lookup _ _ _ _ | .mapUpdate _ _ _ _ | .mapEntry _ _ _ | .entryStore _ _ _ _ | .insert _ _ _ _=>true
 | .call c=>match c.callee with
  | .builtin .len=>true
  | _=>false
 | _=>false

def opP (E:Env) (op:TOp) (φ:Frame) (h:Hp) (K:Value→Hp→Prop):Prop:=match op with
 | .mov x=>K (bI φ x) h
 | .pick c a b=>WO (bI φ c) (bI φ a) (bI φ b) fun v=>K v h
 | .alloc e cells=>K (xk h.next) (h.lay (.row e true cells))
 | .box e x=>DW (cellsOf (bI φ x)) fun cells=>K (xk h.next) (h.lay (.row e true cells))
 | .iZ z ps=>uJ (YG (pQ φ z ps)) fun v=>K v h
 | .fD e n z ps=>DW (pQ φ z ps) fun cells=>K (slc h.next 0 n n) (h.lay (.row e true cells))
 | .aN x=>NW (bI φ x) fun r o=>isP (cellAt h r o) fun v=>K v h
 | .bS m x=>NW (bI φ x) fun r o=>acK (bM h r o m) fun l=>K (.agg ⟨l⟩) h
 | .store m x y=>NW (bI φ x) fun r o=>LB h m r o (bI φ y) fun h'=>K undef h'
 | .VO x=>uJ (Wi (bI φ x)) fun v=>K v h
 | .ar k op x y=>Ub k op (bI φ x) (bI φ y) fun v=>K v h
 | .str op x y=>isP (TW op (bI φ x) (bI φ y)) fun v=>K v h
 | .not x=>uJ (aad (bI φ x)) fun v=>K v h
 | .uy k x=>match bI φ x with
  | .int _ n=>∃ r,dG k n r∧K (.int k r) h
  | _=>False
 | .Nn n x=>isP (Qh n (bI φ x)) fun v=>K v h
 | .func fn a b=>uJ (Wh fn (jS φ a) (jS φ b)) fun v=>K v h
 | .gW=>K (bK h.next) (h.lay (.map [] 0))
 | .fC x=>uJ (V9 (bI φ x)) fun v=>K v h
 | .lenStr x=>uJ (Lm (bI φ x)) fun v=>K v h
 | .TG n=>K (.int .i64 (n:Int)) h
 | .bP off x=>uJ (V5 off (bI φ x)) fun v=>K v h
 | .VQ off x=>uJ (V6 off (bI φ x)) fun v=>K v h
 | .VR off m x=>uJ (V7 off m (bI φ x)) fun v=>K v h
 | .sW n size x j=>WQ n size (bI φ x) (bI φ j) fun v=>K v h
 | .dx size x j=>WR size (bI φ x) (bI φ j) fun v=>K v h
 | .ix1 n x j=>aap n (bI φ x) (bI φ j) fun v=>K v h
 | .ixN n m x j=>aaq n m (bI φ x) (bI φ j) fun v=>K v h
 | .Np x j=>Qo (bI φ x) (bI φ j) fun v=>K v h
 | .ext x i=>uJ (aag (bI φ x) i) fun v=>K v h
 | .make e z bytes l c=>RV h e z bytes (bI φ l) (bI φ c) K
 | .append e size bytes x y=>fK E h e size bytes (bI φ x) (bI φ y) K
 | .VP size x lo hi mx=>iN E h size (bI φ x) (oN φ lo) (oN φ hi) (oN φ mx) K
 | .call g xs=>aJ E g (jS φ xs) h K
 | .qO f xs=>WS E h (bI φ f) (jS φ xs) K
 | .raw op ty=>match LC op with
  | true=>Bj E (.raw op ty) φ h K
  | false=>jZ E (runT E (.raw op ty) φ h) K
 | op=>jZ E (runT E op φ h) K

section
variable {E:Env}

theorem lU {v:Option Value} {h:Hp} {K:Value→Hp→Prop} (w:uJ v fun v=>K v h):jZ E (hval h v) K:=by
 cases v with
 | none=>exact w.elim
 | some v=>exact w
theorem wo {v:Option Value} {h:Hp} {K:Value→Hp→Prop} (w:isP v fun v=>K v h):jZ E (hval h v) K:=by
 obtain ⟨u,e,w⟩:=w
 rw [e]; exact w

theorem aar {k:IntKind} {op:BinOp} {m n:Int} {K:Value→Prop} (w:arP k op m n K):∃ v,arK k op m n = some v∧K v:=by
 unfold arP at w
 unfold arK
 cases op with
 | add=>obtain ⟨r,e,w⟩:=w; exact ⟨_,rfl,by rw [← show r = _ from e]; exact w⟩
 | sub=>obtain ⟨r,e,w⟩:=w; exact ⟨_,rfl,by rw [← show r = _ from e]; exact w⟩
 | mul=>obtain ⟨r,e,w⟩:=w; exact ⟨_,rfl,by rw [← show r = _ from e]; exact w⟩
 | quo=>obtain ⟨hn,r,e,w⟩:=w; exact ⟨_,if_neg hn,by rw [← show r = _ from e]; exact w⟩
 | rem=>obtain ⟨hn,w⟩:=w; exact ⟨_,if_neg hn,w⟩
 | and=>exact ⟨_,rfl,w⟩
 | or=>exact ⟨_,rfl,w⟩
 | xor=>exact ⟨_,rfl,w⟩
 | andNot=>exact ⟨_,rfl,w⟩
 | eql=>exact ⟨_,rfl,w _ (by unfold bO; simp)⟩
 | neq=>exact ⟨_,rfl,w _ (by unfold bO; simp)⟩
 | lss=>exact ⟨_,rfl,w _ (by unfold bO; simp)⟩
 | leq=>exact ⟨_,rfl,w _ (by unfold bO; simp)⟩
 | gtr=>exact ⟨_,rfl,w _ (by unfold bO; simp)⟩
 | geq=>exact ⟨_,rfl,w _ (by unfold bO; simp)⟩
 | shl=>exact w.elim
 | shr=>exact w.elim

theorem YL {k:IntKind} {op:BinOp} {a b:Value} {K:Value→Prop} (w:Ub k op a b K):∃ v,arV k op a b = some v∧K v:=by
 unfold Ub at w
 unfold arV
 cases a <;> dsimp only at w ⊢ <;> first | exact w.elim | skip
 cases b <;> dsimp only at w ⊢ <;> first | exact w.elim | skip
 rename_i k1 m k2 n
 cases hs:FB op with
 | true =>
  rw [hs] at w
  dsimp only at w ⊢
  cases h1:decide (k1 = k) with
  | false=>rw [h1] at w; exact w.elim
  | true =>
  rw [h1] at w
  rw [if_pos (of_decide_eq_true h1)]
  dsimp only at w
  unfold shP at w
  unfold shK
  cases op <;> dsimp only at w ⊢ <;> first | exact w.elim | skip
  ·obtain ⟨hn,r,e,w⟩:=w
   exact ⟨_,if_neg (by omega),by rw [← show r = _ from e]; exact w⟩
  ·obtain ⟨hn,w⟩:=w
   exact ⟨_,if_neg (by omega),w⟩
 | false =>
  rw [hs] at w
  dsimp only at w ⊢
  cases h1:decide (k1 = k) && decide (k2 = k) with
  | false=>rw [h1] at w; exact w.elim
  | true =>
  rw [h1] at w
  rw [Bool.and_eq_true] at h1
  rw [if_pos ⟨of_decide_eq_true h1.1,of_decide_eq_true h1.2⟩]
  exact aar w

theorem CO {n:Nat} {j:Value} {K:Nat→Prop} (w:Jo n j K):∃ k,iV n j = some k∧K k:=by
 unfold Jo at w
 cases j <;> dsimp only at w <;> first | exact w.elim | skip
 obtain ⟨h,w⟩:=w
 exact ⟨_,RZ h,w⟩

theorem Uc {h:Hp} {m r o:Nat} {v:Value} {K:Value→Hp→Prop} (w:LB h m r o v fun h'=>K undef h'):jZ E (FC h m r o v) K:=by
 unfold LB at w
 unfold FC
 cases hc:cellsOf v with
 | none=>rw [hc] at w; exact w.elim
 | some vs =>
  rw [hc] at w
  obtain ⟨h1,h',e,w⟩:=w
  dsimp only
  rw [if_pos h1,e]
  exact w

theorem LD {v:Value} {k:Nat→Nat→fV} {K:Value→Hp→Prop} (w:NW v fun r o=>jZ E (k r o) K):jZ E (DK v k) K:=by
 unfold NW at w
 unfold DK
 split
 ·exact w
 ·rename_i hne
  split at w
  ·exact absurd rfl (hne _ _)
  ·exact w.elim

theorem qx {v:Value} {K K':Nat→Nat→Prop} (k:∀ r o,K r o→K' r o) (w:NW v K):NW v K':=by
 unfold NW at w ⊢
 split
 ·exact k _ _ w
 ·rename_i hne
  split at w
  ·exact absurd rfl (hne _ _)
  ·exact w.elim

theorem LG {op:TOp} {φ:Frame} {h:Hp} {K:Value→Hp→Prop} (w:opP E op φ h K):jZ E (runT E op φ h) K:=by
 cases op with
 | mov x=>exact w
 | pick c a b =>
  simp only [opP,WO] at w
  simp only [runT]
  cases hc:bI φ c <;> rw [hc] at w <;> dsimp only at w ⊢ <;> first | exact w.elim | skip
  rename_i b
  cases b <;> exact w
 | alloc e cells=>exact w
 | box e x =>
  simp only [opP,DW] at w
  simp only [runT,Nv]
  cases hc:cellsOf (bI φ x) with
  | none=>rw [hc] at w; exact w.elim
  | some cs=>rw [hc] at w; exact w
 | iZ z ps=>exact lU w
 | fD e n z ps =>
  simp only [opP,DW] at w
  simp only [runT,Qf]
  cases hc:pQ φ z ps with
  | none=>rw [hc] at w; exact w.elim
  | some cs=>rw [hc] at w; exact w
 | aN x=>exact LD (qx (fun r o w=>wo w) w)
 | bS m x =>
  refine LD (qx (fun r o w=>?_) w)
  obtain ⟨l,e,w⟩:=w
  rw [e]; exact w
 | store m x y=>exact LD (qx (fun r o w=>Uc w) w)
 | VO x=>exact lU w
 | ar k op x y=>exact wo (YL (K:=fun v=>K v h) w)
 | str op x y=>exact wo w
 | not x=>exact lU w
 | uy k x =>
  simp only [opP] at w
  simp only [runT,NI]
  cases hc:bI φ x <;> rw [hc] at w <;> dsimp only at w ⊢ <;> first | exact w.elim | skip
  obtain ⟨r,e,w⟩:=w
  rw [← show r = _ from e]; exact w
 | Nn n x=>exact wo w
 | func fn a b=>exact lU w
 | gW=>exact w
 | fC x=>exact lU w
 | lenStr x=>exact lU w
 | TG n=>exact w
 | bP off x=>exact lU w
 | VQ off x=>exact lU w
 | VR off m x=>exact lU w
 | sW n size x j =>
  refine wo ?_
  simp only [opP,WQ] at w
  unfold V8
  split
  ·rename_i r o hp
   rw [hp] at w
   obtain ⟨k,e,w⟩:=CO w
   rw [iL] at w
   rw [e]
   exact ⟨_,rfl,w⟩
  ·rename_i hne
   split at w
   ·rename_i hp; exact absurd hp (hne _ _)
   ·exact w.elim
 | dx size x j =>
  refine wo ?_
  simp only [opP,WR] at w
  unfold jU
  split
  ·rename_i r o sp n c hp
   rw [hp] at w
   obtain ⟨hs,w⟩:=w
   obtain ⟨k,e,w⟩:=CO w
   rw [iL] at w
   rw [hs,e]
   exact ⟨_,rfl,w⟩
  ·rename_i hne
   split at w
   ·rename_i hp; exact absurd hp (hne _ _ _ _ _)
   ·exact w.elim
 | ix1 n x j =>
  refine wo ?_
  simp only [opP,aap] at w
  unfold aae
  split
  ·rename_i cs hp
   rw [hp] at w
   obtain ⟨k,e,w⟩:=CO w
   rw [e]
   exact w
  ·rename_i hne
   split at w
   ·rename_i hp; exact absurd hp (hne _)
   ·exact w.elim
 | ixN n m x j =>
  refine wo ?_
  simp only [opP,aaq] at w
  unfold aaf
  split
  ·rename_i cs hp
   rw [hp] at w
   obtain ⟨k,e,w⟩:=CO w
   rw [e]
   dsimp only
   rw [if_pos w.1]
   exact ⟨_,rfl,w.2⟩
  ·rename_i hne
   split at w
   ·rename_i hp; exact absurd hp (hne _)
   ·exact w.elim
 | Np x j =>
  refine wo ?_
  simp only [opP,Qo] at w
  unfold Qg
  split
  ·rename_i s hp
   rw [hp] at w
   obtain ⟨k,e,b,eb,w⟩:=CO w
   rw [e]
   dsimp only
   rw [eb]
   exact ⟨_,rfl,w⟩
  ·rename_i hne
   split at w
   ·rename_i hp; exact absurd hp (hne _)
   ·exact w.elim
 | ext x i=>exact lU w
 | make e z bytes l c=>exact NK w
 | append e size bytes x y=>exact w
 | VP size x lo hi mx=>exact w
 | call g xs=>exact w
 | qO f xs =>
  simp only [opP,WS] at w
  simp only [runT,RP]
  split
  ·rename_i fn first captured hf
   rw [hf] at w
   dsimp only at w
   split
   ·obtain ⟨hc,w⟩:=w
    rw [hc]; exact w
   ·exact w
   ·rename_i h1 h2
    split at w
    ·exact absurd rfl (h1 _)
    ·exact absurd rfl (h2 _)
    ·exact w
  ·rename_i hne
   split at w
   ·rename_i hp; exact absurd hp (hne _ _ _)
   ·exact w.elim
 | raw op ty =>
  simp only [opP] at w
  cases hm:LC op with
  | true=>rw [hm] at w; exact w.out
  | false=>rw [hm] at w; exact w
 | _=>exact w
end

/-! Code. -/

abbrev Pq:=dS→Frame→Hp→List Nat→Prop
def Pq.at (Q:Pq):Pst:=fun e s=>Q e s.φ s.h s.m

section
variable (E:Env)

def aas (v:Value) (want:Bool) (A B:Prop):Prop:=match v with
 | .bool b=>match b == want with
  | true=>A
  | false=>B
 | _=>B
def abn (g:G) (K:Frame→Hp→(Frame→Hp→Prop)→Prop) (φ:Frame) (h:Hp) (Q:Frame→Hp→Prop):Prop:=match g.g with
 | none=>opP E g.op φ h fun v h'=>K (put φ g.d v) h' Q
 | some (t,want)=>aas (φ t) want (opP E g.op φ h fun v h'=>K (put φ g.d v) h' Q) (K (put φ g.d undef) h Q)
def CP (l:List G):Frame→Hp→(Frame→Hp→Prop)→Prop :=
 List.rec (motive:=fun _=>Frame→Hp→(Frame→Hp→Prop)→Prop) (fun φ h Q=>Q φ h) (fun g _ K φ h Q=>abn E g K φ h Q) l
theorem Hy (d:Option Nat) (op:TOp) (g:Option (Nat×Bool)) (l:List G) (φ:Frame) (h:Hp) (Q:Frame→Hp→Prop):CP E (⟨d,op,g⟩ :: l) φ h Q = match g with
  | none=>opP E op φ h fun v h'=>CP E l (put φ d v) h' Q
  | some (t,want)=>match φ t with
   | .bool b=>match b == want with
    | true=>opP E op φ h fun v h'=>CP E l (put φ d v) h' Q
    | false=>CP E l (put φ d undef) h Q
   | _=>CP E l (put φ d undef) h Q:=by
 cases g with
 | none=>rfl
 | some q=>rfl

def Ud (Q:Pq) (K:Frame→Hp→List Nat→Prop):Pq:=fun e φ h m=>match e with
 | .normal=>K φ h m
 | e=>Q e φ h m
def Qp (id:Nat) (Q:Pq):Pq:=fun e φ h m=>match e with
 | .exit id'=>match Nat.beq id' id with
  | true=>Q .normal φ h m
  | false=>Q (.exit id') φ h m
 | e=>Q e φ h m
def aat (Q:Pq):Pq:=fun e φ h m=>match e with
 | .goto _=>False
 | e=>Q e φ h m
def R3 (φ:Frame) (m:List Nat) (Q:Pq) (h:Hp) (l:Nat):Prop:=EA φ m Q.at h l
def R4 (v:Value) (A B:Prop):Prop:=match v with
 | .bool b=>match b with
  | true=>A
  | false=>B
 | _=>False
def wu (z:Nat) (f:Value) (ps:Array Tmp) (a b:C) (φ:Frame) (m0:List Nat) (Q:Pq) (d:Nat) (m:List Nat) (h:Hp):Prop:=match f with
 | .func fn first captured=>match fn with
  | .func g=>callable E g = true∧aJ E g (first.toList ++ [lK h.next] ++ captured.toList) (h.lay (.loop E .ready none φ z ps a b d)) fun _ h2=>R3 φ (m ++ m0) Q h2 h.next
  | _=>False
 | _=>False
def LH (z:Nat) (f:Value) (ps:Array Tmp) (a b:C) (φ:Frame) (h:Hp) (m0:List Nat) (Q:Pq) (rd:Option Nat):Prop:=match rd with
 | some l=>∃ E' st p φ' z' ps' a' b' d,h.at l = some (.loop E' st p φ' z' ps' a' b' d)∧wu E z f ps a b φ m0 Q d [] h
 | none=>wu E z f ps a b φ m0 Q h.next [h.next] (h.lay .dX)

def CQ:TOp→Bool
 | .call _ _ | .qO _ _ | .raw _ _ | .box _ _ | .fD _ _ _ _ | .store _ _ _ | .make _ _ _ _ _ | .PV _ _ _ | .aac _ _ _ _ _ _ | .append _ _ _ _ _ | .copy _ _ _=>false
 | _=>true
def oU (turns:Bool) (op:TOp) (φ:Frame) (h:Hp) (K:Value→Hp→Prop):Prop:=match turns || CQ op with
 | true=>opP E op φ h K
 | false=>DrP E false (runT E op φ h) K
def qY (gs:List G):List Dr→Frame→Hp→(List Nt→List Hp→Frame→Hp→Prop)→Prop :=
 List.rec (motive:=fun _=>List Dr→Frame→Hp→(List Nt→List Hp→Frame→Hp→Prop)→Prop) (fun _ φ h K=>K [] [] φ h)
  (fun g _ A ds φ h K=>match ds with
   | []=>False
   | d :: ds=>match gok φ g.g with
    | true=>oU E d.turns g.op φ h fun v h'=>A ds (put φ g.d v) h' fun ns hs=>K (⟨φ,v,true⟩ :: ns) (qR d.turns h' hs)
    | false=>A ds (put φ g.d undef) h fun ns hs=>K (⟨φ,undef,false⟩ :: ns) hs) gs
def lC (gs:List G):List Dr→List Bool→Nat→Frame→Hp→(List Nt→List Hp→Frame→Hp→Prop)→Prop :=
 List.rec (motive:=fun _=>List Dr→List Bool→Nat→Frame→Hp→(List Nt→List Hp→Frame→Hp→Prop)→Prop) (fun _ _ _ φ h K=>K [] [] φ h)
  (fun g _ A ds bs n φ h K=>match ds with
   | []=>False
   | d :: ds=>match bs with
    | []=>False
    | b :: bs=>match b with
     | true=>Lp g.op n fun v=>A ds bs (Nat.succ n) (put φ g.d v) h fun ns hs=>K (⟨φ,v,true⟩ :: ns) hs
     | false=>match gok φ g.g with
      | true=>oU E d.turns g.op φ h fun v h'=>A ds bs n (put φ g.d v) h' fun ns hs=>K (⟨φ,v,true⟩ :: ns) (qR d.turns h' hs)
      | false=>A ds bs n (put φ g.d undef) h fun ns hs=>K (⟨φ,undef,false⟩ :: ns) hs) gs
def tC (gs:List G):List Bool→List Nt→Hp→(List (Option Nat)→Hp→Prop)→Prop :=
 List.rec (motive:=fun _=>List Bool→List Nt→Hp→(List (Option Nat)→Hp→Prop)→Prop) (fun _ _ h K=>K [] h)
  (fun g _ A bs ns h K=>match bs with
   | []=>K [] h
   | b :: bs=>match ns with
    | []=>K [] h
    | n :: ns=>match b with
     | true=>match n.done with
      | true=>mP g.op n.φ fun _ e cells=>A bs ns (h.lay (.row e true cells)) fun as h'=>K (some h.next :: as) h'
      | false=>A bs ns h fun as h'=>K (none :: as) h'
     | false=>A bs ns h fun as h'=>K (none :: as) h') gs
def zW (b:Bool) (as:List (Option Nat)) (A:Nat→List (Option Nat)→Prop) (B:List (Option Nat)→Prop):Prop:=match b with
 | true=>match as with
  | []=>False
  | a :: as=>match a with
   | some r=>A r as
   | none=>False
 | false=>match as with
  | []=>False
  | a :: as=>match a with
   | some _=>False
   | none=>B as
theorem LJ {b:Bool} {as:List (Option Nat)} {A A':Nat→List (Option Nat)→Prop} {B B':List (Option Nat)→Prop} (ka:∀ r as,A r as→A' r as) (kb:∀ as,B as→B' as) (w:zW b as A B):zW b as A' B':=by
 cases b with
 | true =>
  cases as with
  | nil=>exact (show False from w).elim
  | cons a as =>
   cases a with
   | none=>exact (show False from w).elim
   | some r=>exact ka _ _ w
 | false =>
  cases as with
  | nil=>exact (show False from w).elim
  | cons a as =>
   cases a with
   | some r=>exact (show False from w).elim
   | none=>exact kb _ w
def nY (gs:List G):List Dr→List Bool→List (Option Nat)→Frame→Hp→(List Nt→List Ld→List Hp→Frame→Hp→Prop)→Prop :=
 List.rec (motive:=fun _=>List Dr→List Bool→List (Option Nat)→Frame→Hp→(List Nt→List Ld→List Hp→Frame→Hp→Prop)→Prop) (fun _ _ _ φ h K=>K [] [] [] φ h)
  (fun g _ A ds bs as φ h K=>match ds with
   | []=>False
   | d :: ds=>match bs with
    | []=>False
    | b :: bs=>match gok φ g.g with
     | true=>zW b as (fun r as=>mP g.op φ fun f e cells=>A ds bs as (put φ g.d (f r)) h fun ns os hs=>K (⟨φ,f r,true⟩ :: ns) (some (r,e,cells) :: os) hs) (fun as=>oU E d.turns g.op φ h fun v h'=>A ds bs as (put φ g.d v) h' fun ns os hs=>K (⟨φ,v,true⟩ :: ns) (none :: os) (qR d.turns h' hs))
     | false=>A ds bs as.tail (put φ g.d undef) h fun ns os hs=>K (⟨φ,undef,false⟩ :: ns) (none :: os) hs) gs
def gD (z:Nat) (rd:Option Nat) (b:C) (B:Frame→Hp→List Nat→Pq→Prop) (φ:Frame) (h:Hp) (m:List Nat) (Q:Pq):Prop :=
 ∃ (I:Nat→Frame→Hp→List Nat→Prop) (n:Nat) (h0:Hp),h0.Le h∧I n φ h0 m∧∀ n φ h m,I n φ h m→B φ h m (Ud Q fun φ' h' m'=>∃ n' h'',n' < n∧h''.Le h'∧I n' φ' h'' m')
structure ak (z:Nat) (rd:Option Nat) (a b:C) (A B:Frame→Hp→List Nat→Pq→Prop) (φ:Frame) (h:Hp) (m:List Nat) (Q:Pq):Prop where
 out:A φ h m (Ud Q fun φ h m=>B φ h m Q)
def wq (z:Nat) (rd:Option Nat) (c:C):Frame→Hp→List Nat→Pq→Prop :=
 C.rec (motive:=fun _=>Frame→Hp→List Nat→Pq→Prop)
  (fun φ h m Q=>Q .normal φ h m)
  (fun φ h m Q=>Q .ret φ h m)
  (fun id φ h m Q=>Q (.exit id) φ h m)
  (fun l φ h m Q=>Q (.goto l) φ h m)
  (fun l φ h m Q=>CP E l φ h fun φ h=>Q .normal φ h m)
  (fun l ds φ h m Q=>qY E l ds φ h fun ns hs φ h'=>uF E ns (h :: hs) l ds ns∧Q .normal φ h' m)
  (fun a b A B φ h m Q=>ak z rd a b A B φ h m Q)
  (fun x _ _ A B φ h m Q=>R4 (bI φ x) (A φ h m Q) (B φ h m Q))
  (fun id _ B φ h m Q=>B φ h m (Qp id Q))
  (fun _ B φ h m Q=>B φ h m (aat Q))
  (fun b B φ h m Q=>gD z rd b B φ h m Q)
  (fun f ps a b _ _ φ h m Q=>LH E z (bI φ f) ps a b φ h m Q rd)
  (fun l ds ls φ h m Q=>lC E l ds ls h.next φ (Au l ls h) fun ns hs φ h'=>DN E ns (Au l ls h :: hs) l ds ls ns∧Q .normal φ h' m)
  (fun l df ds ls φ h m Q=>qY E l df φ h fun n1 _ _ _=>tC l ls n1 h fun as h0=>nY E l ds ls as φ h0 fun ns os hs φ h'=>DR E ns (h0 :: hs) l ds os ns∧Q .normal φ h' m)
  c
theorem R5 (z:Nat) (rd:Option Nat) (x:Operand) (a b:C) (φ:Frame) (h:Hp) (m:List Nat) (Q:Pq):wq E z rd (.cond x a b) φ h m Q = R4 (bI φ x) (wq E z rd a φ h m Q) (wq E z rd b φ h m Q):=rfl
theorem NY (z:Nat) (rd:Option Nat) (f:Operand) (ps:Array Tmp) (a b:C) (φ:Frame) (h:Hp) (m:List Nat) (Q:Pq):wq E z rd (.range f ps a b) φ h m Q = LH E z (bI φ f) ps a b φ h m Q rd:=rfl

def bZ (rs:List ResultVar) (Q:Value→Hp→Prop):Pq:=fun e φ h m=>match e with
 | .normal=>lH E rs ⟨φ,h,m⟩ Q
 | .ret=>lH E rs ⟨φ,h,m⟩ Q
 | _=>False
end

section
variable {E:Env} {z:Nat} {rd:Option Nat} [Aj E]

theorem yI:∀ {gs:List G} {φ:Frame} {h:Hp} {Q:Frame→Hp→Prop},CP E gs φ h Q→wpOps E gs φ h Q
 | [],φ,h,Q,w=>w
 | ⟨d,op,g⟩ :: l,φ,h,Q,w=>by
  unfold wpOps
  rw [Hy] at w
  cases g with
  | none=>exact lu (fun v h' hy=>yI hy) (LG w)
  | some q =>
   obtain ⟨t,want⟩:=q
   dsimp only at w ⊢
   unfold gok Qi
   dsimp only
   cases hv:φ t <;> rw [hv] at w <;> dsimp only at w ⊢ <;> first | exact yI w | skip
   rename_i b
   cases hb:b == want with
   | true=>rw [hb] at w; exact lu (fun v h' hy=>yI hy) (LG w)
   | false=>rw [hb] at w; exact yI w

theorem NZ {op:TOp} (hc:CQ op = true) (φ:Frame) (h:Hp):TY (runT E op φ h):=by
 cases op <;> first | (cases hc; done) | exact sj _ _ | trivial | skip
 all_goals simp only [runT]
 ·repeat' split
  all_goals trivial
 ·unfold DK; split <;> first | exact sj _ _ | trivial
 ·unfold DK; split <;> first | exact sj _ _ | trivial
 ·unfold qQ
  split
  ·exact VF.lift (by unfold xB; repeat' (first | trivial | split)) _
  ·unfold rX
   split
   ·split
    ·exact VF.lift (EB _ _ _ _ _) _
    ·exact VF.lift (Ht _ _ _ _ _ _) _
   ·exact VF.lift (Ht _ _ _ _ _ _) _
   ·trivial
  ·exact VF.lift (by unfold mq; repeat' (first | trivial | split)) _
  ·exact VF.lift (by unfold rO; repeat' (first | trivial | split)) _
  ·trivial
theorem HV {turns:Bool} {op:TOp} {φ:Frame} {h:Hp} {K:Value→Hp→Prop} (w:oU E turns op φ h K):DrP E turns (runT E op φ h) K:=by
 unfold oU at w
 cases turns with
 | true=>exact LG w
 | false =>
  rw [Bool.false_or] at w
  cases hc:CQ op with
  | false=>rw [hc] at w; exact w
  | true =>
   rw [hc] at w
   have h1:=LG w
   have h2:=NZ (E:=E) hc φ h
   revert h1 h2
   generalize runT E op φ h = r
   intro h1 h2
   cases r with
   | val v h'=>exact h1
   | fail=>exact h1.elim
   | _=>exact h2.elim
theorem zX:∀ {gs:List G} {ds:List Dr} {φ:Frame} {h:Hp} {K:List Nt→List Hp→Frame→Hp→Prop},qY E gs ds φ h K→iW E gs ds φ h K
 | [],ds,φ,h,K,w=>by unfold iW; exact w
 | g :: l,[],φ,h,K,w=>by cases w
 | g :: l,d :: ds,φ,h,K,w=>by
  have w:(match gok φ g.g with
    | true=>oU E d.turns g.op φ h fun v h'=>qY E l ds (put φ g.d v) h' fun ns hs=>K (⟨φ,v,true⟩ :: ns) (qR d.turns h' hs)
    | false=>qY E l ds (put φ g.d undef) h fun ns hs=>K (⟨φ,undef,false⟩ :: ns) hs):=w
  unfold iW
  cases hb:gok φ g.g with
  | true =>
   rw [hb] at w
   exact qU (fun v h' hy=>zX hy) (HV w)
  | false =>
   rw [hb] at w
   exact zX w

theorem wz:∀ {gs:List G} {ds:List Dr} {ls:List Bool} {n:Nat} {φ:Frame} {h:Hp} {K:List Nt→List Hp→Frame→Hp→Prop},lC E gs ds ls n φ h K→jo E gs ds ls n φ h K
 | [],ds,ls,n,φ,h,K,w=>by unfold jo; exact w
 | g :: l,[],ls,n,φ,h,K,w=>by cases w
 | g :: l,d :: ds,[],n,φ,h,K,w=>by cases w
 | g :: l,d :: ds,b :: bs,n,φ,h,K,w=>by
  unfold jo
  cases b with
  | true =>
   have w:Lp g.op n fun v=>lC E l ds bs (Nat.succ n) (put φ g.d v) h fun ns hs=>K (⟨φ,v,true⟩ :: ns) hs:=w
   exact DU (fun v hy=>wz hy) w
  | false =>
   have w : (match gok φ g.g with
         | true => oU E d.turns g.op φ h fun v h' => lC E l ds bs n (put φ g.d v) h' fun ns hs => K (⟨φ, v, true⟩ :: ns) (qR d.turns h' hs)
         | false => lC E l ds bs n (put φ g.d undef) h fun ns hs => K (⟨φ, undef, false⟩ :: ns) hs) := w
   dsimp only
   cases hb:gok φ g.g with
   | true =>
    rw [hb] at w
    exact qU (fun v h' hy=>wz hy) (HV w)
   | false =>
    rw [hb] at w
    exact wz w

theorem zY:∀ {gs:List G} {ls:List Bool} {ns:List Nt} {h:Hp} {K:List (Option Nat)→Hp→Prop},tC gs ls ns h K→j3 gs ls ns h K
 | [],ls,ns,h,K,w=>by unfold j3; exact w
 | g :: l,[],ns,h,K,w=>by unfold j3; exact w
 | g :: l,b :: bs,[],h,K,w=>by unfold j3; exact w
 | g :: l,b :: bs,n :: ns,h,K,w=>by
  unfold j3
  cases b with
  | false=>exact zY w
  | true =>
   have w : (match n.done with
         | true => mP g.op n.φ fun _ e cells => tC l bs ns (h.lay (.row e true cells)) fun as h' => K (some h.next :: as) h'
         | false => tC l bs ns h fun as h' => K (none :: as) h') := w
   dsimp only
   cases hn:n.done with
   | true=>rw [hn] at w; exact nX (fun f e c hy=>zY hy) w
   | false=>rw [hn] at w; exact zY w
theorem zZ:∀ {gs:List G} {ds:List Dr} {ls:List Bool} {as:List (Option Nat)} {φ:Frame} {h:Hp} {K:List Nt→List Ld→List Hp→Frame→Hp→Prop},nY E gs ds ls as φ h K→kM E gs ds ls as φ h K
 | [],ds,ls,as,φ,h,K,w=>by unfold kM; exact w
 | g :: l,[],ls,as,φ,h,K,w=>by cases w
 | g :: l,d :: ds,[],as,φ,h,K,w=>by cases w
 | g :: l,d :: ds,b :: bs,as,φ,h,K,w=>by
  have w : (match gok φ g.g with
        | true => zW b as (fun r as => mP g.op φ fun f e cells => nY E l ds bs as (put φ g.d (f r)) h fun ns os hs => K (⟨φ, f r, true⟩ :: ns) (some (r, e, cells) :: os) hs) (fun as => oU E d.turns g.op φ h fun v h' => nY E l ds bs as (put φ g.d v) h' fun ns os hs => K (⟨φ, v, true⟩ :: ns) (none :: os) (qR d.turns h' hs))
        | false => nY E l ds bs as.tail (put φ g.d undef) h fun ns os hs => K (⟨φ, undef, false⟩ :: ns) (none :: os) hs) := w
  unfold kM
  dsimp only
  cases hb:gok φ g.g with
  | false=>rw [hb] at w; exact zZ w
  | true =>
   rw [hb] at w
   dsimp only at w ⊢
   cases b with
   | true =>
    cases as with
    | nil=>exact (show False from w).elim
    | cons a as =>
     cases a with
     | none=>exact (show False from w).elim
     | some r=>exact nX (fun f e c hy=>zZ hy) w
   | false =>
    cases as with
    | nil=>exact (show False from w).elim
    | cons a as =>
     cases a with
     | some r=>exact (show False from w).elim
     | none=>exact qU (fun v h' hy=>zZ hy) (HV w)
theorem WT:∀ {c:C} {φ:Frame} {h:Hp} {m:List Nat} {Q:Pq},wq E z rd c φ h m Q→wp E z rd c ⟨φ,h,m⟩ Q.at:=by
 intro c
 induction c with
 | skip=>intro φ h m Q w; exact w
 | ret=>intro φ h m Q w; exact w
 | exit id=>intro φ h m Q w; exact w
 | goto l=>intro φ h m Q w; exact w
 | ops l=>intro φ h m Q w; exact yI w
 | draw l ds=>intro φ h m Q w; exact zX w
 | ahead l ds ls=>intro φ h m Q w; exact wz w
 | dry l df ds ls=>intro φ h m Q w; exact kP (fun n1 _ _ _ hy=>oQ (fun as h0 hy=>zZ hy) (zY hy)) (zX w)
 | seq a b iha ihb =>
  intro φ h m Q w
  show wp E z rd a _ _
  refine wp_mono (fun e s hy=>?_) (iha w.out)
  cases e with
  | normal=>exact ihb hy
  | _=>exact hy
 | cond x a b iha ihb =>
  intro φ h m Q w
  rw [R5] at w
  simp only [R4] at w
  simp only [wp,RU]
  split
  ·rename_i bb hbb
   rw [hbb] at w
   cases bb with
   | true=>exact ⟨fun _=>iha w,fun e=>(by cases e)⟩
   | false=>exact ⟨fun e=>(by cases e),fun _=>ihb w⟩
  ·rename_i hne
   split at w
   ·rename_i hbb; exact absurd hbb (hne _)
   ·exact w
 | block id b ih =>
  intro φ h m Q w
  show wp E z rd b _ _
  refine wp_mono (fun e s hy=>?_) (ih w)
  cases e with
  | exit id' =>
   unfold Pq.at Qp at hy
   unfold Ls
   dsimp only at hy ⊢
   cases hid:Nat.beq id' id with
   | true=>rw [hid] at hy; exact hy
   | false=>rw [hid] at hy; exact hy
  | _=>exact hy
 | scope b ih =>
  intro φ h m Q w
  show wp E z rd b _ _
  refine wp_mono (fun e s hy=>?_) (ih w)
  cases e <;> exact hy
 | loop b ih =>
  intro φ h m Q w
  obtain ⟨I,n,h0,hl,hn,hI⟩:=w
  refine ⟨fun n s=>I n s.φ s.h s.m,n,h0,hl,hn,fun n s hs=>?_⟩
  refine wp_mono (fun e s hy=>?_) (ih (hI n s.φ s.h s.m hs))
  cases e with
  | normal=>exact hy
  | _=>exact hy
 | range f ps a b _ _ =>
  intro φ h m Q w
  rw [NY] at w
  simp only [LH] at w
  simp only [wp]
  have main:∀ {d:Nat} {mk:List Nat} {h':Hp},wu E z (bI φ f) ps a b φ m Q d mk h'→DT E z (bI φ f) ps a b ⟨φ,h,m⟩ Q.at (some (d,mk,h')):=by
   intro d mk h' w
   unfold wu at w
   unfold DT
   dsimp only
   exact w
  cases rd with
  | none=>exact main w
  | some l =>
   obtain ⟨E',st,p,φ',z',ps',a',b',d,hl,w⟩:=w
   unfold uG
   dsimp only
   rw [hl]
   exact main w

theorem Ue {rs:List ResultVar} {Q:Value→Hp→Prop}:(bZ E rs Q).at = Qn E rs Q:=by
 funext e s
 cases e <;> rfl

theorem WU {k:IntKind} {op:BinOp} {m n:Int} {K K':Value→Prop} (f:∀ v,K v→K' v) (w:arP k op m n K):arP k op m n K':=by
 unfold arP at w ⊢
 cases op <;> first | exact w.elim | (obtain ⟨r,e,w⟩:=w; exact ⟨r,e,f _ w⟩) | (obtain ⟨hn,r,e,w⟩:=w; exact ⟨hn,r,e,f _ w⟩) | exact ⟨w.1,f _ w.2⟩ | exact fun b hb=>f _ (w b hb) | exact f _ w
theorem Uf {k:IntKind} {op:BinOp} {a b:Value} {K K':Value→Prop} (f:∀ v,K v→K' v) (w:Ub k op a b K):Ub k op a b K':=by
 unfold Ub at w ⊢
 cases a <;> dsimp only at w ⊢ <;> first | exact w.elim | skip
 cases b <;> dsimp only at w ⊢ <;> first | exact w.elim | skip
 rename_i k1 m k2 n
 cases hs:FB op with
 | true =>
  rw [hs] at w
  dsimp only at w ⊢
  cases h1:decide (k1 = k) with
  | false=>rw [h1] at w; exact w.elim
  | true =>
  rw [h1] at w
  dsimp only at w ⊢
  unfold shP at w ⊢
  cases op <;> dsimp only at w ⊢ <;> first | exact w.elim | skip
  ·obtain ⟨hn,r,e,w⟩:=w; exact ⟨hn,r,e,f _ w⟩
  ·exact ⟨w.1,f _ w.2⟩
 | false =>
  rw [hs] at w
  dsimp only at w ⊢
  cases h1:decide (k1 = k) && decide (k2 = k) with
  | false=>rw [h1] at w; exact w.elim
  | true=>rw [h1] at w; exact WU f w
theorem jk {v:Option Value} {K K':Value→Prop} (f:∀ v,K v→K' v) (w:uJ v K):uJ v K':=by
 cases v with
 | none=>exact w
 | some v=>exact f _ w
theorem CS {v:Option Value} {K K':Value→Prop} (f:∀ v,K v→K' v) (w:isP v K):isP v K':=let ⟨u,e,w⟩:=w; ⟨u,e,f _ w⟩
theorem uK {n:Nat} {j:Value} {K K':Nat→Prop} (f:∀ v,K v→K' v) (w:Jo n j K):Jo n j K':=by
 unfold Jo at w ⊢
 cases j <;> dsimp only at w ⊢ <;> first | exact w.elim | exact ⟨w.1,f _ w.2⟩
theorem EC {v:Option (List Value)} {K K':List Value→Prop} (f:∀ v,K v→K' v) (w:DW v K):DW v K':=by
 cases v with
 | none=>exact w
 | some v=>exact f _ w
theorem HY {op:TOp} {φ:Frame} {h:Hp} {K K':Value→Hp→Prop} (f:∀ v h,K v h→K' v h) (w:opP E op φ h K):opP E op φ h K':=by
 cases op with
 | mov x=>exact f _ _ w
 | pick c a b =>
  simp only [opP,WO] at w ⊢
  cases hc:bI φ c <;> rw [hc] at w <;> dsimp only at w ⊢ <;> first | exact w.elim | skip
  rename_i b
  cases b <;> exact f _ _ w
 | alloc e cells=>exact f _ _ w
 | box e x=>exact EC (fun _ w=>f _ _ w) w
 | iZ z ps=>exact jk (fun _ w=>f _ _ w) w
 | fD e n z ps=>exact EC (fun _ w=>f _ _ w) w
 | aN x=>exact qx (fun r o w=>CS (fun _ w=>f _ _ w) w) w
 | bS m x=>exact qx (fun r o w=>let ⟨u,e,w⟩:=w; ⟨u,e,f _ _ w⟩) w
 | store m x y =>
  refine qx (fun r o w=>?_) w
  unfold LB at w ⊢
  cases hc:cellsOf (bI φ y) with
  | none=>rw [hc] at w; exact w
  | some vs=>rw [hc] at w; obtain ⟨h1,h',e,w⟩:=w; exact ⟨h1,h',e,f _ _ w⟩
 | VO x=>exact jk (fun _ w=>f _ _ w) w
 | ar k op x y=>exact Uf (fun _ w=>f _ _ w) w
 | str op x y=>exact CS (fun _ w=>f _ _ w) w
 | not x=>exact jk (fun _ w=>f _ _ w) w
 | uy k x =>
  simp only [opP] at w ⊢
  cases hc:bI φ x <;> rw [hc] at w <;> dsimp only at w ⊢ <;> first | exact w.elim | skip
  obtain ⟨r,e,w⟩:=w
  exact ⟨r,e,f _ _ w⟩
 | Nn n x=>exact CS (fun _ w=>f _ _ w) w
 | func fn a b=>exact jk (fun _ w=>f _ _ w) w
 | gW=>exact f _ _ w
 | fC x=>exact jk (fun _ w=>f _ _ w) w
 | lenStr x=>exact jk (fun _ w=>f _ _ w) w
 | TG n=>exact f _ _ w
 | bP off x=>exact jk (fun _ w=>f _ _ w) w
 | VQ off x=>exact jk (fun _ w=>f _ _ w) w
 | VR off m x=>exact jk (fun _ w=>f _ _ w) w
 | sW n size x j =>
  simp only [opP,WQ] at w ⊢
  split
  ·rename_i hp; rw [hp] at w; exact uK (fun _ w=>f _ _ w) w
  ·rename_i hne
   split at w
   ·rename_i hp; exact absurd hp (hne _ _)
   ·exact w
 | dx size x j =>
  simp only [opP,WR] at w ⊢
  split
  ·rename_i hp; rw [hp] at w; exact ⟨w.1,uK (fun _ w=>f _ _ w) w.2⟩
  ·rename_i hne
   split at w
   ·rename_i hp; exact absurd hp (hne _ _ _ _ _)
   ·exact w
 | ix1 n x j =>
  simp only [opP,aap] at w ⊢
  split
  ·rename_i hp; rw [hp] at w; exact uK (fun _ w=>CS (fun _ w=>f _ _ w) w) w
  ·rename_i hne
   split at w
   ·rename_i hp; exact absurd hp (hne _)
   ·exact w
 | ixN n m x j =>
  simp only [opP,aaq] at w ⊢
  split
  ·rename_i hp; rw [hp] at w; exact uK (fun _ w=>⟨w.1,f _ _ w.2⟩) w
  ·rename_i hne
   split at w
   ·rename_i hp; exact absurd hp (hne _)
   ·exact w
 | Np x j =>
  simp only [opP,Qo] at w ⊢
  split
  ·rename_i hp; rw [hp] at w; exact uK (fun _ w=>let ⟨b,e,w⟩:=w; ⟨b,e,f _ _ w⟩) w
  ·rename_i hne
   split at w
   ·rename_i hp; exact absurd hp (hne _)
   ·exact w
 | ext x i=>exact jk (fun _ w=>f _ _ w) w
 | make e z bytes l c =>
  simp only [opP,RV] at w ⊢
  cases hl:bI φ l <;> rw [hl] at w <;> dsimp only at w ⊢ <;> first | exact w.elim | skip
  cases hc:bI φ c <;> rw [hc] at w <;> dsimp only at w ⊢ <;> first | exact w.elim | exact ⟨w.1,f _ _ w.2⟩
 | call g xs=>exact aJ.mono w f
 | qO fv xs =>
  simp only [opP,WS] at w ⊢
  split
  ·rename_i hf
   rw [hf] at w
   dsimp only at w
   split
   ·exact ⟨w.1,w.2.mono f⟩
   ·exact w.mono f
   ·rename_i h1 h2
    split at w
    ·exact absurd rfl (h1 _)
    ·exact absurd rfl (h2 _)
    ·exact lu f w
  ·rename_i hne
   split at w
   ·rename_i hp; exact absurd hp (hne _ _ _)
   ·exact w
 | raw op ty =>
  simp only [opP] at w ⊢
  cases hm:LC op with
  | true=>rw [hm] at w; exact ⟨lu f w.out⟩
  | false=>rw [hm] at w; exact lu f w
 | _=>exact lu f w

theorem qZ:∀ {gs:List G} {φ:Frame} {h:Hp} {Q Q':Frame→Hp→Prop},(∀ φ h,Q φ h→Q' φ h)→CP E gs φ h Q→CP E gs φ h Q'
 | [],φ,h,Q,Q',k,w=>k _ _ w
 | ⟨d,op,g⟩ :: l,φ,h,Q,Q',k,w=>by
  rw [Hy] at w ⊢
  cases g with
  | none=>exact HY (fun v h' hy=>qZ k hy) w
  | some q =>
   obtain ⟨t,want⟩:=q
   dsimp only at w ⊢
   cases hv:φ t <;> rw [hv] at w <;> dsimp only at w ⊢ <;> first | exact qZ k w | skip
   rename_i b
   cases hb:b == want with
   | true=>rw [hb] at w; exact HY (fun v h' hy=>qZ k hy) w
   | false=>rw [hb] at w; exact qZ k w

theorem Bl {turns:Bool} {op:TOp} {φ:Frame} {h:Hp} {K K':Value→Hp→Prop} (f:∀ v h,K v h→K' v h) (w:oU E turns op φ h K):oU E turns op φ h K':=by
 unfold oU at w ⊢
 cases hc:turns || CQ op with
 | true=>rw [hc] at w; exact HY f w
 | false=>rw [hc] at w; exact qU f w
theorem sw:∀ {gs:List G} {ds:List Dr} {φ:Frame} {h:Hp} {K K':List Nt→List Hp→Frame→Hp→Prop},(∀ ns hs φ h,K ns hs φ h→K' ns hs φ h)→qY E gs ds φ h K→qY E gs ds φ h K'
 | [],ds,φ,h,K,K',k,w=>k _ _ _ _ w
 | g :: l,[],φ,h,K,K',k,w=>by cases w
 | g :: l,d :: ds,φ,h,K,K',k,w=>by
  have w:(match gok φ g.g with
    | true=>oU E d.turns g.op φ h fun v h'=>qY E l ds (put φ g.d v) h' fun ns hs=>K (⟨φ,v,true⟩ :: ns) (qR d.turns h' hs)
    | false=>qY E l ds (put φ g.d undef) h fun ns hs=>K (⟨φ,undef,false⟩ :: ns) hs):=w
  show (match gok φ g.g with
    | true=>oU E d.turns g.op φ h fun v h'=>qY E l ds (put φ g.d v) h' fun ns hs=>K' (⟨φ,v,true⟩ :: ns) (qR d.turns h' hs)
    | false=>qY E l ds (put φ g.d undef) h fun ns hs=>K' (⟨φ,undef,false⟩ :: ns) hs)
  cases hb:gok φ g.g with
  | true =>
   rw [hb] at w
   exact Bl (fun v h' hy=>sw (fun ns hs φ h hz=>k _ _ _ _ hz) hy) w
  | false =>
   rw [hb] at w
   exact sw (fun ns hs φ h hz=>k _ _ _ _ hz) w

theorem p8:∀ {gs:List G} {ds:List Dr} {ls:List Bool} {n:Nat} {φ:Frame} {h:Hp} {K K':List Nt→List Hp→Frame→Hp→Prop},(∀ ns hs φ h,K ns hs φ h→K' ns hs φ h)→lC E gs ds ls n φ h K→lC E gs ds ls n φ h K'
 | [],ds,ls,n,φ,h,K,K',k,w=>k _ _ _ _ w
 | g :: l,[],ls,n,φ,h,K,K',k,w=>by cases w
 | g :: l,d :: ds,[],n,φ,h,K,K',k,w=>by cases w
 | g :: l,d :: ds,b :: bs,n,φ,h,K,K',k,w=>by
  cases b with
  | true =>
   have w:Lp g.op n fun v=>lC E l ds bs (Nat.succ n) (put φ g.d v) h fun ns hs=>K (⟨φ,v,true⟩ :: ns) hs:=w
   show Lp g.op n fun v=>lC E l ds bs (Nat.succ n) (put φ g.d v) h fun ns hs=>K' (⟨φ,v,true⟩ :: ns) hs
   exact DU (fun v hy=>p8 (fun ns hs φ h hz=>k _ _ _ _ hz) hy) w
  | false =>
   have w : (match gok φ g.g with
         | true => oU E d.turns g.op φ h fun v h' => lC E l ds bs n (put φ g.d v) h' fun ns hs => K (⟨φ, v, true⟩ :: ns) (qR d.turns h' hs)
         | false => lC E l ds bs n (put φ g.d undef) h fun ns hs => K (⟨φ, undef, false⟩ :: ns) hs) := w
   show (match gok φ g.g with
         | true => oU E d.turns g.op φ h fun v h' => lC E l ds bs n (put φ g.d v) h' fun ns hs => K' (⟨φ, v, true⟩ :: ns) (qR d.turns h' hs)
         | false => lC E l ds bs n (put φ g.d undef) h fun ns hs => K' (⟨φ, undef, false⟩ :: ns) hs)
   cases hb:gok φ g.g with
   | true =>
    rw [hb] at w
    exact Bl (fun v h' hy=>p8 (fun ns hs φ h hz=>k _ _ _ _ hz) hy) w
   | false =>
    rw [hb] at w
    exact p8 (fun ns hs φ h hz=>k _ _ _ _ hz) w

theorem sD:∀ {gs:List G} {ls:List Bool} {ns:List Nt} {h:Hp} {K K':List (Option Nat)→Hp→Prop},(∀ as h,K as h→K' as h)→tC gs ls ns h K→tC gs ls ns h K'
 | [],ls,ns,h,K,K',k,w=>k _ _ w
 | g :: l,[],ns,h,K,K',k,w=>k _ _ w
 | g :: l,b :: bs,[],h,K,K',k,w=>k _ _ w
 | g :: l,b :: bs,n :: ns,h,K,K',k,w=>by
  cases b with
  | false=>exact sD (gs:=l) (fun as h hy=>k _ _ hy) w
  | true =>
   have w : (match n.done with
         | true => mP g.op n.φ fun _ e cells => tC l bs ns (h.lay (.row e true cells)) fun as h' => K (some h.next :: as) h'
         | false => tC l bs ns h fun as h' => K (none :: as) h') := w
   show (match n.done with
         | true => mP g.op n.φ fun _ e cells => tC l bs ns (h.lay (.row e true cells)) fun as h' => K' (some h.next :: as) h'
         | false => tC l bs ns h fun as h' => K' (none :: as) h')
   cases hn:n.done with
   | true=>rw [hn] at w; exact nX (fun f e c hy=>sD (fun as h hz=>k _ _ hz) hy) w
   | false=>rw [hn] at w; exact sD (fun as h hy=>k _ _ hy) w
theorem sG:∀ {gs:List G} {ds:List Dr} {ls:List Bool} {as:List (Option Nat)} {φ:Frame} {h:Hp} {K K':List Nt→List Ld→List Hp→Frame→Hp→Prop},(∀ ns os hs φ h,K ns os hs φ h→K' ns os hs φ h)→nY E gs ds ls as φ h K→nY E gs ds ls as φ h K'
 | [],ds,ls,as,φ,h,K,K',k,w=>k _ _ _ _ _ w
 | g :: l,[],ls,as,φ,h,K,K',k,w=>by cases w
 | g :: l,d :: ds,[],as,φ,h,K,K',k,w=>by cases w
 | g :: l,d :: ds,b :: bs,as,φ,h,K,K',k,w=>by
  have w : (match gok φ g.g with
        | true => zW b as (fun r as => mP g.op φ fun f e cells => nY E l ds bs as (put φ g.d (f r)) h fun ns os hs => K (⟨φ, f r, true⟩ :: ns) (some (r, e, cells) :: os) hs) (fun as => oU E d.turns g.op φ h fun v h' => nY E l ds bs as (put φ g.d v) h' fun ns os hs => K (⟨φ, v, true⟩ :: ns) (none :: os) (qR d.turns h' hs))
        | false => nY E l ds bs as.tail (put φ g.d undef) h fun ns os hs => K (⟨φ, undef, false⟩ :: ns) (none :: os) hs) := w
  show (match gok φ g.g with
        | true => zW b as (fun r as => mP g.op φ fun f e cells => nY E l ds bs as (put φ g.d (f r)) h fun ns os hs => K' (⟨φ, f r, true⟩ :: ns) (some (r, e, cells) :: os) hs) (fun as => oU E d.turns g.op φ h fun v h' => nY E l ds bs as (put φ g.d v) h' fun ns os hs => K' (⟨φ, v, true⟩ :: ns) (none :: os) (qR d.turns h' hs))
        | false => nY E l ds bs as.tail (put φ g.d undef) h fun ns os hs => K' (⟨φ, undef, false⟩ :: ns) (none :: os) hs)
  cases hb:gok φ g.g with
  | false=>rw [hb] at w; exact sG (fun ns os hs φ h hz=>k _ _ _ _ _ hz) w
  | true =>
   rw [hb] at w
   exact LJ (fun r as w=>nX (fun f e c hy=>sG (fun ns os hs φ h hz=>k _ _ _ _ _ hz) hy) w) (fun as w=>Bl (fun v h' hy=>sG (fun ns os hs φ h hz=>k _ _ _ _ _ hz) hy) w) w
theorem LK:∀ {c:C} {φ:Frame} {h:Hp} {m:List Nat} {Q Q':Pq},(∀ e φ h m,Q e φ h m→Q' e φ h m)→wq E z rd c φ h m Q→wq E z rd c φ h m Q':=by
 intro c
 induction c with
 | skip=>intro φ h m Q Q' k w; exact k _ _ _ _ w
 | ret=>intro φ h m Q Q' k w; exact k _ _ _ _ w
 | exit id=>intro φ h m Q Q' k w; exact k _ _ _ _ w
 | goto l=>intro φ h m Q Q' k w; exact k _ _ _ _ w
 | ops l=>intro φ h m Q Q' k w; exact qZ (fun φ h hy=>k _ _ _ _ hy) w
 | draw l ds=>intro φ h m Q Q' k w; exact sw (fun ns hs φ h hy=>⟨hy.1,k _ _ _ _ hy.2⟩) w
 | ahead l ds ls=>intro φ h m Q Q' k w; exact p8 (fun ns hs φ h hy=>⟨hy.1,k _ _ _ _ hy.2⟩) w
 | dry l df ds ls=>intro φ h m Q Q' k w; exact sw (fun n1 _ _ _ hy=>sD (fun as h0 hy=>sG (fun ns os hs φ h hy=>⟨hy.1,k _ _ _ _ hy.2⟩) hy) hy) w
 | seq a b iha ihb =>
  intro φ h m Q Q' k w
  refine ak.mk (iha (fun e φ h m hy=>?_) w.out)
  cases e with
  | normal=>exact ihb k hy
  | _=>exact k _ _ _ _ hy
 | cond x a b iha ihb =>
  intro φ h m Q Q' k w
  rw [R5] at w ⊢
  simp only [R4] at w ⊢
  cases hv:bI φ x <;> rw [hv] at w <;> dsimp only at w ⊢ <;> first | exact w.elim | skip
  rename_i b
  cases b with
  | true=>exact iha k w
  | false=>exact ihb k w
 | block id b ih =>
  intro φ h m Q Q' k w
  refine ih (fun e φ h m hy=>?_) w
  cases e with
  | exit id' =>
   unfold Qp at hy ⊢
   dsimp only at hy ⊢
   cases hid:Nat.beq id' id with
   | true=>rw [hid] at hy; exact k _ _ _ _ hy
   | false=>rw [hid] at hy; exact k _ _ _ _ hy
  | _=>exact k _ _ _ _ hy
 | scope b ih =>
  intro φ h m Q Q' k w
  refine ih (fun e φ h m hy=>?_) w
  cases e with
  | goto l=>exact hy
  | _=>exact k _ _ _ _ hy
 | loop b ih =>
  intro φ h m Q Q' k w
  obtain ⟨I,n,h0,hl,hn,hI⟩:=w
  refine ⟨I,n,h0,hl,hn,fun n φ h m hs=>ih (fun e φ h m hy=>?_) (hI n φ h m hs)⟩
  cases e with
  | normal=>exact hy
  | _=>exact k _ _ _ _ hy
 | range f ps a b _ _ =>
  intro φ h m Q Q' k w
  rw [NY] at w ⊢
  simp only [LH] at w ⊢
  have main:∀ {d:Nat} {mk:List Nat} {h':Hp},wu E z (bI φ f) ps a b φ m Q d mk h'→wu E z (bI φ f) ps a b φ m Q' d mk h':=by
   intro d mk h' w
   unfold wu at w ⊢
   split
   ·rename_i fn first captured hf
    rw [hf] at w
    dsimp only at w
    split
    ·exact ⟨w.1,w.2.mono fun v h2 q=>Hu (fun e s hy=>k _ _ _ _ hy) q⟩
    ·rename_i hne
     split at w
     ·exact absurd rfl (hne _)
     ·exact w
   ·rename_i hne
    split at w
    ·rename_i hp; exact absurd hp (hne _ _ _)
    ·exact w
  cases rd with
  | none=>exact main w
  | some l =>
   obtain ⟨E',st,p,φ',z',ps',a',b',d,hl,w⟩:=w
   exact ⟨E',st,p,φ',z',ps',a',b',d,hl,main w⟩

def Rnd {α:Type} (L:α→List (Nat×Value)) (H:α→Hp) (P:α→Prop) (μ:α→Nat) (a:α) (m:List Nat) (φ':Frame) (h':Hp) (m':List Nat):Prop :=
 ∃ a',P a'∧μ a' < μ a∧LA φ' (L a')∧(H a').Le h'∧m' = m
theorem Rnd.mk {α:Type} {L:α→List (Nat×Value)} {H:α→Hp} {P:α→Prop} {μ:α→Nat} {a:α} {m:List Nat} {φ':Frame} {h':Hp} {m':List Nat} (a':α) (h1:P a') (h2:μ a' < μ a) (h3:LA φ' (L a')) (h4:(H a').Le h') (h5:m' = m):Rnd L H P μ a m φ' h' m':=⟨a',h1,h2,h3,h4,h5⟩

theorem bQ {α:Type} {b:C} {φ:Frame} {h:Hp} {m:List Nat} {Q:Pq} (L:α→List (Nat×Value)) (H:α→Hp) (P:α→Prop) (μ:α→Nat) (a₀:α) (h0:P a₀) (hφ:LA φ (L a₀)) (hh:(H a₀).Le h)
  (hr:∀ a φ,P a→wq E z rd b (NV φ (L a)) (H a) m (Ud Q (Rnd L H P μ a m))):gD z rd b (wq E z rd b) φ h m Q:=by
 refine ⟨fun n φ' h' m'=>∃ a φ0,P a∧n = μ a∧φ' = NV φ0 (L a)∧h' = H a∧m' = m,μ a₀,H a₀,hh,⟨a₀,φ,h0,rfl,(yF hφ).symm,rfl,rfl⟩,?_⟩
 rintro n φ' h' m' ⟨a,φ0,hP,rfl,rfl,rfl,rfl⟩
 refine LK (fun e φ' h' m' hq=>?_) (hr a φ0 hP)
 cases e with
 | normal =>
  obtain ⟨a',h1,h2,h3,h4,h5⟩:=hq
  exact ⟨μ a',H a',h2,h4,a',φ',h1,rfl,(yF h3).symm,rfl,h5⟩
 | _=>exact hq

theorem ak.go {a b:C} {A B:Frame→Hp→List Nat→Pq→Prop} {φ:Frame} {h:Hp} {m:List Nat} {Q:Pq} (k:A φ h m (Ud Q fun φ h m=>B φ h m Q)):ak z rd a b A B φ h m Q:=⟨k⟩
theorem ak.cut {α:Type} {a b:C} {φ:Frame} {h:Hp} {m:List Nat} {Q:Pq} (L:α→List (Nat×Value)) (P:α→Hp→Prop)
  (k1:wq E z rd a φ h m (Ud Q fun φ' h' m'=>∃ x,LA φ' (L x)∧P x h'∧m' = m))
  (k2:∀ x φ h',P x h'→wq E z rd b (NV φ (L x)) h' m Q):ak z rd a b (wq E z rd a) (wq E z rd b) φ h m Q:=by
 refine ak.mk ?_
 refine LK (fun e φ' h' m' hq=>?_) k1
 cases e with
 | normal =>
  obtain ⟨x,h1,h2,rfl⟩:=hq
  have:=k2 x φ' h' h2
  rw [yF h1] at this
  exact this
 | _=>exact hq

theorem aJ.cu [bE] {f:FuncId} {fn:Func} {code:Code} {c:C} {z:Nat} {rs:List ResultVar} (hfn:E.fn.get f = some fn) (hb:fn.body = some code) (hz:fn.ntmps = z) (hrs:fn.results.toList = rs) (hc:comp E z code = some c)
  {xs:List Value} (hm:E.memo f xs = none) (hM:∀ H,E.BD f xs H = none) (hl:xs.length≤z) {h:Hp} {Q:Value→Hp→Prop} (w:wq E z none c (bN xs) h [] (bZ E rs Q)):aJ E f xs h Q :=
 aJ.enter hfn hb hz hrs hc hm hM hl (by rw [← Ue]; exact WT w)
end
end
end Go.Rx
