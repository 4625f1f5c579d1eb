/- Contracts of the functions that PMAH comes to. -/
import Derived.Test.YtedneplaibmppaaPMAF
set_option maxRecDepth 100000
set_option maxHeartbeats 2000000
set_option linter.unusedVariables false
set_option linter.unusedSectionVars false
set_option linter.unusedSimpArgs false
namespace Go.Proofs.Ytedneplaibmppaa
open Go.Rx Go.RowKit
theorem I5 {l:List Bool}{i j:Nat}(h:i < l.length):gb (l.set i true) j = true↔j = i∨gb l j = true:=by
 unfold gb;rw [List.getD_eq_getElem?_getD,List.getD_eq_getElem?_getD];by_cases e:j = i
 ·subst e;rw [List.getElem?_set_self h];simp
 ·rw [List.getElem?_set_ne (fun q=>e q.symm)];simp [e]
theorem YF (n j:Nat):gb (List.replicate n false) j = false:=by
 unfold gb;rw [List.getD_eq_getElem?_getD,List.getElem?_replicate];split <;> rfl
def I6 (m:Mac)(j s:Nat):Prop:=∃ w,Mac.Wd m.base w∧w.length = j∧m.run 0 w = s
theorem I7 {m:Mac}{s:Nat}:I6 m 0 s↔s = 0:=by
 constructor
 ·rintro ⟨w,_,hl,rfl⟩;rw [List.eq_nil_of_length_eq_zero hl]; rfl
 ·rintro rfl;exact ⟨[],by simp [Mac.Wd],rfl,rfl⟩
theorem VB {j:Nat}{w:List Nat}(h:w.length = j + 1):∃ u d,w = u ++ [d]∧u.length = j:=by
 have hne:w≠[]:=fun e=>by rw [e] at h; simp at h
 refine ⟨w.dropLast,w.getLast hne,(List.dropLast_concat_getLast hne).symm,?_⟩;rw [List.length_dropLast]; omega
theorem PN {m:Mac}{j t:Nat}:I6 m (j + 1) t↔∃ s d,I6 m j s∧d < m.base∧m.nx s d = t:=by
 constructor
 ·rintro ⟨w,hw,hl,rfl⟩;obtain ⟨u,d,rfl,hu⟩:=VB hl;refine ⟨m.run 0 u,d,⟨u,fun x hx=>hw x (by simp [hx]),hu,rfl⟩,hw d (by simp),?_⟩;rw [Mac.FP]; rfl
 ·rintro ⟨s,d,⟨w,hw,hl,rfl⟩,hd,rfl⟩;refine ⟨w ++ [d],fun x hx=>?_,by simp [hl],by rw [Mac.FP]; rfl⟩;rcases List.mem_append.1 hx with hx | hx
  ·exact hw x hx
  ·rw [List.mem_singleton.1 hx]; exact hd
theorem abL {m:Mac}(hm:m.Ok){j s:Nat}(h:I6 m j s):s < m.out.length:=by
 obtain ⟨w,hw,_,rfl⟩:=h;exact hm.run hm.n1 hw
structure Sb (m:Mac) (j:Nat) (ms:List Bool):Prop where
 len:ms.length = m.out.length
 iff:∀ s,s < m.out.length→(gb ms s = true↔I6 m j s)
theorem Sb.start {m:Mac}(hm:m.Ok):Sb m 0 ((List.replicate m.out.length false).set 0 true):=⟨by simp,fun s hs=>by
 rw [I5 (by simp; exact hm.n1),YF,I7]; simp⟩
structure Nb (m:Mac) (cur:List Bool) (s r:Nat) (ms:List Bool):Prop where
 len:ms.length = m.out.length
 iff:∀ t,t < m.out.length→(gb ms t = true↔(∃ s',s' < s∧gb cur s' = true∧∃ d,d < m.base∧m.nx s' d = t)∨(gb cur s = true∧∃ d,d < r∧m.nx s d = t))
theorem Nb.start {m:Mac}{cur:List Bool}:Nb m cur 0 0 (List.replicate m.out.length false):=⟨by simp,fun t ht=>by
 rw [YF];constructor
 ·intro e; cases e
 ·rintro (⟨s',h,_⟩ | ⟨_,d,h,_⟩) <;> omega⟩
theorem Nb.set {m:Mac}{cur ms:List Bool}{s r:Nat}(k:Nb m cur s r ms)(hc:gb cur s = true)(hl:m.nx s r < m.out.length):Nb m cur s (r + 1) (ms.set (m.nx s r) true):=⟨by rw [List.length_set]; exact k.len,fun t ht=>by
 rw [I5 (by rw [k.len]; exact hl),k.iff t ht];constructor
 ·rintro (rfl | h | ⟨h,d,hd,e⟩)
  ·exact .inr ⟨hc,r,by omega,rfl⟩
  ·exact .inl h
  ·exact .inr ⟨h,d,by omega,e⟩
 ·rintro (h | ⟨h,d,hd,e⟩)
  ·exact .inr (.inl h)
  ·by_cases q:d = r
   ·subst q; exact .inl e.symm
   ·exact .inr (.inr ⟨h,d,by omega,e⟩)⟩
theorem Nb.row {m:Mac}{cur ms:List Bool}{s r:Nat}(k:Nb m cur s r ms)(h:r = m.base∨gb cur s = false):Nb m cur (s + 1) 0 ms:=⟨k.len,fun t ht=>by
 rw [k.iff t ht];constructor
 ·rintro (⟨s',hs,h⟩ | ⟨hc,d,hd,e⟩)
  ·exact .inl ⟨s',by omega,h⟩
  ·rcases h with h | h
   ·exact .inl ⟨s,by omega,hc,d,by omega,e⟩
   ·rw [h] at hc; cases hc
 ·rintro (⟨s',hs,hc,d,hd,e⟩ | ⟨_,d,hd,_⟩)
  ·by_cases q:s' = s
   ·subst q;rcases h with h | h
    ·exact .inr ⟨hc,d,by omega,e⟩
    ·rw [h] at hc; cases hc
   ·exact .inl ⟨s',by omega,hc,d,hd,e⟩
  ·omega⟩
theorem Nb.done {m:Mac}(hm:m.Ok){cur ms:List Bool}{j:Nat}(k:Nb m cur m.out.length 0 ms)(c:Sb m j cur):Sb m (j + 1) ms:=⟨k.len,fun t ht=>by
 rw [k.iff t ht,PN];constructor
 ·rintro (⟨s',hs,hc,d,hd,e⟩ | ⟨_,d,hd,_⟩)
  ·exact ⟨s',d,(c.iff s' hs).1 hc,hd,e⟩
  ·omega
 ·rintro ⟨s,d,h,hd,e⟩;have hs:=abL hm h;exact .inl ⟨s,hs,(c.iff s hs).2 h,d,hd,e⟩⟩
theorem val_inj {b:Nat}:∀ {v v':List Nat},Mac.Wd b v→Mac.Wd b v'→v.length = v'.length→val b v = val b v'→v = v'
 | [],[],_,_,_,_=>rfl
 | [],_ :: _,_,_,h,_=>by simp at h
 | _ :: _,[],_,_,h,_=>by simp at h
 | d :: v,d' :: v',h,h',hl,e=>by
  have hd:=h d (by simp);have hd':=h' d' (by simp);have e:d + b * val b v = d' + b * val b v':=e;have e1:d = d':=by
   have:=congrArg (· % b) e;simp only [Nat.add_mul_mod_self_left] at this;rwa [Nat.mod_eq_of_lt hd,Nat.mod_eq_of_lt hd'] at this
  subst e1;have e2:val b v = val b v':=Nat.eq_of_mul_eq_mul_left (show 0 < b by omega) (by omega);rw [val_inj (fun x hx=>h x (by simp [hx])) (fun x hx=>h' x (by simp [hx])) (by simpa using hl) e2]
structure Bk (m:Mac) (out:Int) (j k:Nat) (v:List Nat) (goal:List Bool):Prop where
 wd:Mac.Wd m.base v
 len:v.length + k = j
 gl_:goal.length = m.out.length
 iff:∀ s,s < m.out.length→(gb goal s = true↔m.o (m.run s v) = out)
 ex:∃ s,I6 m k s∧m.o (m.run s v) = out
 mn:∀ s v',I6 m k s→Mac.Wd m.base v'→v'.length = v.length→m.o (m.run s v') = out→val m.base v≤val m.base v'
theorem Bk.next {m:Mac}(hm:m.Ok){out:Int}{j k r:Nat}{v:List Nat}{goal bf:List Bool}(h:Bk m out j (k + 1) v goal)(hr:r < m.base)(hbl:bf.length = m.out.length)(hbf:∀ s,s < m.out.length→gb bf s = gb goal (m.nx s r))(hex:∃ s,I6 m k s∧m.o (m.run s (r :: v)) = out)(hno:∀ d,d < r→¬ ∃ s,I6 m k s∧m.o (m.run s (d :: v)) = out):Bk m out j k (r :: v) bf where
 wd:=Mac.Wd.cons hr h.wd
 len:=by have:=h.len; simp only [List.length_cons]; omega
 gl_:=hbl
 iff:=fun s hs=>by
  rw [hbf s hs,h.iff _ (hm.lt s r hs hr)];exact Iff.rfl
 ex:=hex
 mn:=fun s v' hs hv' hl e=>by
  match v',hl with
  | [],hl=>simp at hl
  | d :: v',hl =>
   have hd:=hv' d (by simp);have hv2:Mac.Wd m.base v':=fun x hx=>hv' x (by simp [hx]);have hl2:v'.length = v.length:=by simpa using hl
   have hs2:I6 m (k + 1) (m.nx s d):=PN.2 ⟨s,d,hs,hd,rfl⟩;have hle:=h.mn _ v' hs2 hv2 hl2 e;show r + m.base * val m.base v≤d + m.base * val m.base v';by_cases q:val m.base v = val m.base v'
   ·have ev:=val_inj h.wd hv2 hl2.symm q;subst ev;have:r≤d:=by
     rcases Nat.lt_or_ge d r with l | l
     ·exact absurd ⟨s,hs,e⟩ (hno d l)
     ·exact l
    omega
   ·have h1:m.base * (val m.base v + 1)≤m.base * val m.base v':=Nat.mul_le_mul_left _ (by omega);rw [Nat.mul_add,Nat.mul_one] at h1;omega
def EvQ (m:Mac)(out V:Int):Prop:=(V = -1∧∀ n,m.at_ 0 n≠out)∨∃ n:Nat,V = n∧m.at_ 0 n = out∧∀ n',m.at_ 0 n' = out→n≤n'
theorem Bk.done {m:Mac}(hm:OkS m){out:Int}{j:Nat}{v:List Nat}{goal:List Bool}(h:Bk m out j 0 v goal):EvQ m out (val m.base v:Nat)∧val m.base v < m.base ^ j:=by
 obtain ⟨s,hs,e⟩:=h.ex;have hs:=I7.1 hs;subst hs;have hv:=Mac.El hm.ok hm.b2 hm.zer hm.n1 h.wd;have hlt:=Mj hm.ok.b1 h.wd;have hl:=h.len;rw [show v.length = j by omega] at hlt;refine ⟨.inr ⟨_,rfl,by rw [← hv]; exact e,fun n' hn=>?_⟩,hlt⟩;rcases Nat.lt_or_ge n' (val m.base v) with l | l
 ·obtain ⟨w,hw,hwl,hwv⟩:=Mac.Yl hm.b2 (show n' < m.base ^ j by omega);have hw2:=Mac.El hm.ok hm.b2 hm.zer hm.n1 hw;rw [hwv,hn] at hw2;have:=h.mn 0 w (I7.2 rfl) hw (by omega) hw2;omega
 ·exact l
theorem Bk.start {m:Mac}(hm:m.Ok){out:Int}{j:Nat}{goal:List Bool}(hl:goal.length = m.out.length)(hg:∀ s,s < m.out.length→(gb goal s = true↔m.o s = out))(hex:∃ s,I6 m j s∧m.o s = out):Bk m out j j [] goal:=⟨by simp [Mac.Wd],by simp,hl,hg,hex,fun s v' _ _ hv' _=>by rw [List.eq_nil_of_length_eq_zero hv']; exact Nat.le_refl _⟩
end Go.Proofs.Ytedneplaibmppaa
namespace Go.Proofs.Ytedneplaibmppaa
open Go.Rx Go.RowKit
def bl (L:List (List Bool))(i:Nat):List Bool:=L.getD i []
def Z7 (H:Hp)(v:Value)(n:Nat)(L:List (List Bool)):Prop:=∃ a c,v = .slice a L.length c∧∀ i,i < L.length→∃ r o sp ri,a = some ⟨r,o,sp⟩∧fA sp = false∧cellAt H r (gU o i 1) = some (slc ri 0 n n)∧H.at ri = some (.row 4 true ((bl L i).map Value.bool))
theorem Z7.ext {H H':Hp}{v:Value}{n:Nat}{L:List (List Bool)}(g:aA H H')(k:Z7 H v n L):Z7 H' v n L:=by
 obtain ⟨a,c,e,h⟩:=k;refine ⟨a,c,e,fun i hi=>?_⟩;obtain ⟨r,o,sp,ri,h1,h2,h3,h4⟩:=h i hi;exact ⟨r,o,sp,ri,h1,h2,g.cell h3,g.at_ _ _ h4⟩
end Go.Proofs.Ytedneplaibmppaa
namespace Go.Proofs.Ytedneplaibmppaa
open Go.Rx Go.RowKit
structure StV (H G:Hp) (v:Value) (n:Nat) (rs:List Nat) (L:List (List Bool)):Prop where
 b:bD H G 87 1 v rs.length (rs.map fun r=>slc r 0 n n)
 len:rs.length = L.length
 row:∀ (i:Nat) r,rs[i]? = some r→G.at r = some (.row 4 true ((bl L i).map Value.bool))
theorem StV.ext {H G G':Hp}{v:Value}{n:Nat}{rs:List Nat}{L:List (List Bool)}(k:StV H G v n rs L)(g:aA G G'):StV H G' v n rs L:=⟨k.b.ext g,k.len,fun i r e=>g.at_ _ _ (k.row i r e)⟩
theorem StV.set {H G:Hp}{v:Value}{n:Nat}{rs:List Nat}{L:List (List Bool)}(k:StV H G v n rs L):Z7 G v n L:=by
 have hs:=k.b.slice;obtain ⟨a,e,-⟩:=hs;refine ⟨a,L.length,by rw [e,k.len],fun i hi=>?_⟩;obtain ⟨hl,⟨_,e1⟩ | ⟨r,er,_,y,hr⟩⟩:=k.b
 ·have:=k.len; omega
 rw [er] at e;injection e with e;subst e;have hi':i < rs.length:=by rw [k.len]; exact hi
 exact ⟨r,0,none,rs[i],rfl,rfl,jX hr (by rw [List.getElem?_map,List.getElem?_eq_getElem hi']; rfl),k.row i _ (List.getElem?_eq_getElem hi')⟩
end Go.Proofs.Ytedneplaibmppaa
namespace Go.Proofs.Ytedneplaibmppaa
open Go.Rx Go.RowKit
theorem I8:∀ (vs a cs z:List Value),vs.length = cs.length→over (a ++ cs ++ z) a.length vs = a ++ vs ++ z
 | [],a,cs,z,h=>by
  have:cs = []:=List.eq_nil_of_length_eq_zero (by simpa using h.symm);subst this;rfl
 | v :: vs,a,[],z,h=>by simp at h
 | v :: vs,a,c :: cs,z,h=>by
  have ih:=I8 vs (a ++ [v]) cs z (by simpa using h);show over ((a ++ c :: cs ++ z).set a.length v) (a.length + 1) vs = _;have e:(a ++ c :: cs ++ z).set a.length v = (a ++ [v]) ++ cs ++ z:=by simp
  rw [e,show a.length + 1 = (a ++ [v]).length by simp,ih];simp
theorem I9 {vs cs:List Value}(h:vs.length = cs.length):over cs 0 vs = vs:=by
 have:=I8 vs [] cs [] h;simpa using this
theorem Kw {n l c r o:Nat}(h:n≤l):Ho n (.slice (some ⟨r,o,none⟩) l c) = some (ptr r o):=by
 unfold Ho;have e1:Nat.ble n l = true:=Nat.ble_eq_true_of_le h;have e2:fA (none:Option Nat) = false:=rfl;dsimp only;rw [e1,e2];rfl
theorem Ja {h:Hp}{a:Option Addr}{n c:Nat}{l:List Int}(k:View h (.slice a n c) l)(hl:l.length≠0):∃ r o,a = some ⟨r,o,none⟩∧bJ h r o l.length = some (l.map int):=by
 have he:=k.elems.2;rcases k with ⟨rfl,e | e⟩ | ⟨r,o,c',e,hc,hr,hcell⟩
 ·simp at hl
 ·simp at hl
 ·injection e with e1 e2 e3;subst e1;refine ⟨r,o,rfl,?_⟩;have h2:bJ h r o (l.length * 1) = some (l.map int):=he;rwa [Nat.mul_one] at h2
def PO (h:Hp)(v:Value)(t:List Int):Prop:=∃ a c,v = .slice a t.length c∧(t.length = 10→View h v t)
theorem PO.ext {h h':Hp}{v:Value}{t:List Int}(g:aA h h')(k:PO h v t):PO h' v t:=let ⟨a,c,e,q⟩:=k; ⟨a,c,e,fun w=>(q w).ext g⟩
theorem View.g {h:Hp}{v:Value}{t:List Int}(k:View h v t):PO h v t:=let ⟨a,c,e⟩:=k.known; ⟨a,c,e,fun _=>k⟩
def MU (t:List Int):Prop:=t.length≠10∨¬ ∀ x ∈ t,0≤x∧x≤9
theorem Ky {m:Mac}{t:List Int}(oa:∀ x ∈ m.out,0≤x∧x≤9)(hl:t.length = 10)(ht:∀ x ∈ t,0≤x∧x≤9):∀ x ∈ (mapM m t).out,0≤x∧x≤9:=fun x hx=>by
 obtain ⟨y,hy,rfl⟩:=List.mem_map.1 hx;have:=oa y hy;exact fC (P:=fun x=>0≤x∧x≤9) ht (j:=y.toNat) (by omega)
attribute [local irreducible] E iJ cellAt bJ storeAt callable dh dG dO findKey dZ bP Hp.at Hp.set Hp.lay dL cO setAt aJ dx bO dz Rnd gq fB gY Int.tmod Int.tdiv Int.fdiv
section
variable [bC]
attribute [local irreducible] sameAt j6
theorem R7 (m:Mac)(t:List Int)(s:Int)(X N7:Nat)(bx:List Value)(h H:Hp)(hbx:Bx h bx m.i)(oa:∀ x ∈ m.out,0≤x∧x≤9)(hl:t.length = 10)(hs:0≤s∧s < m.out.length)(g:aA h H)(aX:H.at X = some (.row 25 true bx))(a7:H.at N7 = some (.row 99 true (t.map int))):aJ E 68 [encI s,ptr N7 0,ptr X 0] H (fun r H'=>r = int (qD (mapM m t) s)∧aA H H'):=by
 obtain ⟨ao,an,co,cn,hcx⟩:=hbx.cx;obtain ⟨k,rfl⟩:∃ k:Nat,s = k:=⟨s.toNat,by omega⟩;have kx:=hcx H X 25 g aX;have c1:cellAt H X 1 = some (.slice ao m.out.length co):=kx.c1;have hoM:=kx.qD (s:=k) (by omega);obtain ⟨r,o,sp,rfl,hsp,hc⟩:=hoM;have bd:0≤m.o k∧m.o k≤9:=fC (P:=fun x=>0≤x∧x≤9) oa (j:=k) (by omega);have e:qD (mapM m t) k = gl t (m.o k).toNat:=by
  unfold qD;rw [Int.toNat_natCast,MS (by omega)]
 rw [e];have c7:cellAt H N7 (gU 0 (m.o k).toNat 1) = some (int (gl t (m.o k).toNat)):=jX a7 (by
  rw [List.getElem?_map,List.getElem?_eq_getElem (by omega),← l9 (by omega)]; rfl)
 refine enter68 (by simp) ?_;conv=>whnf
 refine aC.go ?_;conv=>whnf
 refine aC.go ?_;conv=>whnf
 refine ⟨_,c1,?_⟩;conv=>whnf
 refine ⟨hsp,⟨by omega,by omega⟩,?_⟩;conv=>whnf
 refine ⟨_,hc,?_⟩;conv=>whnf
 refine ⟨⟨by omega,by omega⟩,?_⟩;conv=>whnf
 refine ⟨_,c7,?_⟩;conv=>whnf
 exact u7 rfl rfl ⟨rfl,.refl _⟩
theorem R8 (m:Mac)(t:List Int)(s:Int)(d X:Nat)(bx:List Value)(h H:Hp)(hbx:Bx h bx m.i)(hm:m.Ok)(hs:0≤s∧s < m.out.length)(hd:d < m.base)(g:aA h H)(aX:H.at X = some (.row 25 true bx)):aJ E 69 [encI s,int d,ptr X 0] H (fun r H'=>r = encI (xq (mapM m t) s d)∧aA H H'):=by
 obtain ⟨ao,an,co,cn,hcx⟩:=hbx.cx;obtain ⟨k,rfl⟩:∃ k:Nat,s = k:=⟨s.toNat,by omega⟩;have kx:=hcx H X 25 g aX;have c2:=kx.c2;have hil:=hm.vC;have h1:=kx.kR hm (s:=k) (d:=d) (by omega) hd;obtain ⟨r1,o1,sp1,r2,o2,sp2,c2',rfl,hsp1,hc1,hsp2,hc2⟩:=h1;have e:xq (mapM m t) k d = (m.nx k d:Nat):=by unfold xq; rw [Int.toNat_natCast]; rfl
 rw [e];refine enter69 (by simp) ?_;conv=>whnf
 refine aC.go ?_;conv=>whnf
 refine aC.go ?_;conv=>whnf
 refine ⟨_,c2,?_⟩;conv=>whnf
 refine ⟨hsp1,⟨by omega,by omega⟩,?_⟩;conv=>whnf
 refine ⟨_,hc1,?_⟩;conv=>whnf
 refine ⟨hsp2,⟨by omega,by omega⟩,?_⟩;conv=>whnf
 refine ⟨_,hc2,?_⟩;conv=>whnf
 exact u7 rfl rfl ⟨rfl,.refl _⟩
theorem Jb (v vt:Value)(m:Mac)(t:List Int)(h:Hp)(hv:MV h v m.i)(hvt:PO h vt t)(hm:OkS m)(htl:t.length≤1000000):aJ E 29 [v,vt] h (fun r h'=>((MU t→r = .tuple ⟨[noM,int 1]⟩)∧(¬ MU t→ql h h' r (mapM m t)))∧aA h h'):=by
 obtain ⟨bx,rfl,hbx⟩:=hv.box;obtain ⟨at_,ct,rfl,hvt⟩:=hvt;obtain ⟨ao,an,co,cn,hcx⟩:=hbx.cx;have hL:=hm.lens;have ze:=hm.n12;have hb5:=hm.b5;obtain ⟨i25,t25,jl,jm⟩:=C8;refine enter29 (by simp) ?_;conv=>whnf
 refine aC.cut (α:=Hp) (fun _=>[(4,ptr (h.next + 1) 0),(2,ptr h.next 0),(1,.slice at_ t.length ct)]) (fun x H=>x = H∧aA h H∧H.at h.next = some (.row 25 true bx)∧H.at (h.next + 1) = some (.row 25 true [int 0,aN,aN])) ?_ ?_
 ·conv=>whnf
  have n1:(h.lay (.row 25 true bx)).next = h.next + 1:=Hp.bF _ _;exact ⟨_,⟨congrArg (fun k=>ptr k 0) n1,rfl,rfl,trivial⟩,⟨rfl,(aA.lay _ _).bH _,Hp.bg _ (Hp.ak _ _),eB n1 (Hp.ak _ _)⟩,rfl⟩
 rintro H φ1 _ ⟨rfl,gH,aX,aR⟩;conv=>whnf
 refine aC.cut (α:=Hp) (fun _=>[(4,ptr (h.next + 1) 0),(2,ptr h.next 0),(1,.slice at_ t.length ct)]) (fun x H2=>x = H2∧aA H H2) ?_ ?_
 ·conv=>whnf
  refine aC.go ?_;conv=>whnf
  refine ⟨_,aI aX hbx.len,?_⟩;conv=>whnf
  refine aJ.mono (lg _ m.i _ (Bx.mv (hbx.ext gH)) hL.1 hL.2.1 hL.2.2) ?_;rintro r H2 ⟨⟨e,rfl,he,-⟩,g2⟩;have he:=he hm.ck;subst he;conv=>whnf
  repeat (refine aC.go ?_; conv=>whnf)
  refine Ag (by omega) ?_;conv=>whnf
  exact ⟨_,⟨rfl,rfl,rfl,trivial⟩,⟨rfl,g2⟩,rfl⟩
 rintro H2 φ2 _ ⟨rfl,g2⟩;have aX2:=g2.at_ _ _ aX;have aR2:=g2.at_ _ _ aR;have gh2:=gH.trans g2;have Es:=Hp.aU aR2;have hRg:=Hp.bB (.row 25 true [int 0,aN,aN]) Es;have gRg:aA h (H2.set (h.next + 1) (.row 25 true [int 0,aN,aN])):=gh2.bQ _ (by omega);have kx2:=hcx H2 h.next 25 gh2 aX2;have c0:cellAt H2 h.next 0 = some (int (m.base:Int)):=kx2.c0;have bad:MU t→∀ H,aA h H→(((MU t→Value.tuple ⟨[noM,int 1]⟩ = .tuple ⟨[noM,int 1]⟩)∧(¬ MU t→ql h H (.tuple ⟨[noM,int 1]⟩) (mapM m t)))∧aA h H):=fun k H g=>⟨⟨fun _=>rfl,fun q=>absurd k q⟩,g⟩;conv=>whnf
 refine aC.cut (α:=Unit) (fun _=>[(4,ptr (h.next + 1) 0),(2,ptr h.next 0),(1,.slice at_ t.length ct)]) (fun _ H3=>H2 = H3∧¬ MU t) ?_ ?_
 ·conv=>whnf
  refine aC.go ?_;conv=>whnf
  refine dJ (fun q1=>?_) (fun q1=>?_)
  ·conv=>whnf
   refine aC.go ?_;conv=>whnf
   refine ⟨rfl,_,bE (vs:=[int 0,aN,aN]) aR2 rfl rfl rfl,?_⟩;conv=>whnf
   exact dD (r:=h.next + 1) (o:=0) (cs:=[int 0,aN,aN]) (w:=int 1) rfl rfl rfl t25 jl (by rw [jm]; exact aI hRg rfl) (bad (.inl (by omega)) _ gRg)
  conv=>whnf
  refine aJ.mono (nP _ t _ ((hvt (by omega)).ext gh2) htl) ?_;rintro r H' ⟨⟨b,rfl,hb⟩,eH⟩;have eH:=eH.symm;subst eH
  cases b with
  | false =>
   conv=>whnf
   refine aC.go ?_;conv=>whnf
   refine ⟨rfl,_,bE (vs:=[int 0,aN,aN]) aR2 rfl rfl rfl,?_⟩;conv=>whnf
   exact dD (r:=h.next + 1) (o:=0) (cs:=[int 0,aN,aN]) (w:=int 1) rfl rfl rfl t25 jl (by rw [jm]; exact aI hRg rfl) (bad (.inr hb.f) _ gRg)
  | true =>
   conv=>whnf
   exact ⟨(),⟨rfl,rfl,rfl,trivial⟩,⟨rfl,fun k=>k.elim (fun q=>by omega) fun q=>q hb.t⟩,rfl⟩
 rintro _ φ3 _ ⟨rfl,hnb⟩;have YG:t.length = 10:=Classical.byContradiction fun w=>hnb (.inl w);have ht:∀ x ∈ t,0≤x∧x≤9:=Classical.byContradiction fun w=>hnb (.inr w);have hvc:=Ja ((hvt YG).ext gh2) (by omega);obtain ⟨rt,ot,eat,hcells⟩:=hvc;subst eat;rw [YG] at hcells;have hml:(t.map int).length = 10:=by rw [List.length_map]; exact YG
 conv=>whnf
 refine aC.cut (α:=Hp) (fun _=>[(7,ptr H2.next 0),(4,ptr (h.next + 1) 0),(2,ptr h.next 0)]) (fun x H3=>x = H3∧aA H2 x∧x.at H2.next = some (.row 99 true (t.map int))) ?_ ?_
 ·conv=>whnf
  refine ⟨ptr rt ot,Kw (by omega),?_⟩;conv=>whnf
  refine ⟨_,hcells,?_⟩;conv=>whnf
  refine ⟨hml,_,bX (vs:=t.map int) (by rw [hml]; rfl) (rF t) (I9 (by rw [hml]; rfl)),?_⟩;conv=>whnf
  exact ⟨_,⟨rfl,rfl,rfl,trivial⟩,⟨rfl,aA.lay _ _,Hp.ak _ _⟩,rfl⟩
 rintro H3 φ4 _ ⟨rfl,g3,a7⟩;have aX3:=g3.at_ _ _ aX2;have aR3:=g3.at_ _ _ aR2;have gh3:=gh2.trans g3;have c03:=g3.cell c0;have hso:=mapM_ok (t:=t) hm.ok;have hlen:=mapM_len m t;have ho:Ms 68 [ptr H2.next 0,ptr h.next 0] encI (qD (mapM m t)) (stN (mapM m t).out.length) H3:=⟨can68,fun s hs H5 g5=>R7 m t s h.next H2.next bx h H5 hbx hm.outs YG (by have:=Dx.1 hs; rw [hlen] at this; exact this) (gh3.trans g5) (g5.at_ _ _ aX3) (g5.at_ _ _ a7)⟩;have hn:Di 69 [ptr h.next 0] encI (xq (mapM m t)) m.base (stN (mapM m t).out.length) H3:=⟨can69,fun s hs d hd H5 g5=>R8 m t s d h.next bx h H5 hbx hm.ok (by have:=Dx.1 hs; rw [hlen] at this; exact this) hd (gh3.trans g5) (g5.at_ _ _ aX3)⟩;have hb:=Dq m.base 0 (qD (mapM m t)) (xq (mapM m t)) (stN (mapM m t).out.length) 68 69 _ _ H3 ⟨hm.ok.b1,by omega⟩ (MQ hso) (MR hso) (by rw [TK]; omega) ho hn;have hmo:=YB hso;have hmf:=YC hso;have ME:∃ m',built m.base 0 (qD (mapM m t)) (xq (mapM m t)) = m':=⟨_,rfl⟩;obtain ⟨m',em⟩:=ME;rw [em] at hb;have em':Z5 (mapM m t) = m':=em;rw [em'] at hmo hmf;have hbm:m'.base = m.base:=by rw [← em]; rfl
 conv=>whnf
 refine aC.go ?_;conv=>whnf
 refine aC.go ?_;conv=>whnf
 refine aC.go ?_;conv=>whnf
 refine ⟨_,c03,?_⟩;conv=>whnf
 refine aJ.mono hb ?_;rintro w H4 ⟨hw,g4⟩;conv=>whnf
 refine aJ.mono (tF _ m' _ hw.mv hmo.1 (by omega) (by omega)) ?_;rintro r H5 ⟨hr,g5⟩;have hr:=hr.congr hmf;have hrk:=hr.known;obtain ⟨a4,b4,c4,e4,rfl,o1,o2,o3⟩:=hrk;have aR5:=g5.at_ _ _ (g4.at_ _ _ aR3);conv=>whnf
 refine ⟨rfl,_,bE (vs:=[a4,b4,c4]) aR5 rfl (ZF o1 o2 o3) rfl,?_⟩;conv=>whnf
 refine dD (r:=h.next + 1) (o:=0) (cs:=[a4,b4,c4]) (w:=int e4) rfl rfl rfl t25 jl ?_ ?_
 ·rw [jm];exact aI (Hp.bB _ (Hp.aU aR5)) rfl
 ·exact ⟨⟨fun k=>absurd k hnb,fun _=>(hr.put (by have:=g4.next; have:=g3.next; omega) _).back (by have:=g4.next; have:=g3.next; have:=gh2.next; omega)⟩,((gh3.trans g4).trans g5).bQ _ (by omega)⟩
end
section
variable [bC]
attribute [local irreducible] kV sameAt j6
theorem VD (v vt:Value)(m:Mac)(t:List Int)(h:Hp)(hv:MV h v m.i)(hvt:View h vt t)(hm:OkS m)(YG:t.length = 10):aJ E 46 [v,vt] h (fun r h'=>MV h' r (mapM m t).i∧aA h h'):=by
 obtain ⟨bx,rfl,hbx⟩:=hv.box;obtain ⟨at_,ct,rfl⟩:=hvt.known;obtain ⟨ao,an,co,cn,hcx⟩:=hbx.cx;have ze:=hm.n12;have hil:=hm.ok.vC;have hvc:=View.iI hvt (i:=0) (by omega);obtain ⟨rt,ot,spt,eat,abM,-,-⟩:=hvc;subst eat;have hlen:=mapM_len m t;refine enter46 (by simp) ?_;conv=>whnf
 refine aC.cut (α:=Hp) (fun _=>[(4,ptr (h.next + 1) 0),(2,ptr h.next 0),(1,.slice (some ⟨rt,ot,spt⟩) t.length ct)]) (fun x H=>x = H∧aA h H∧H.at h.next = some (.row 26 true bx)∧H.at (h.next + 1) = some (.row 26 true [int 0,aN,aN])∧H.next = h.next + 2) ?_ ?_
 ·conv=>whnf
  have n1:(h.lay (.row 26 true bx)).next = h.next + 1:=Hp.bF _ _;exact ⟨_,⟨congrArg (fun k=>ptr k 0) n1,rfl,rfl,trivial⟩,⟨rfl,(aA.lay _ _).bH _,Hp.bg _ (Hp.ak _ _),eB n1 (Hp.ak _ _),by rw [Hp.bF,n1]⟩,rfl⟩
 rintro H φ1 _ ⟨rfl,gH,aX,aR,nH⟩;have kx:=hcx H h.next 26 gH aX;have c0:cellAt H h.next 0 = some (int (m.base:Int)):=kx.c0;have c1:cellAt H h.next 1 = some (.slice ao m.out.length co):=kx.c1;have hbn:=hbx.n;obtain ⟨aq,cq,eq,aer⟩:=hbn;have c2:cellAt H h.next 2 = some (.slice aq m.i.next.length cq):=bA aX eq;have hvH:=hvt.ext gH;conv=>whnf
 refine aC.cut (α:=Hp) (fun q=>[(5,ptr H.next 0),(4,ptr (h.next + 1) 0),(2,ptr h.next 0),(1,.slice (some ⟨rt,ot,spt⟩) t.length ct)]) (fun q H6=>q = H6∧aA H H6∧H6.at H.next = some (.row 26 true [int m.base,aN,.slice aq m.i.next.length cq])) ?_ ?_
 ·conv=>whnf
  refine ⟨_,c0,?_⟩;conv=>whnf
  refine ⟨_,c2,?_⟩;conv=>whnf
  refine ⟨rfl,_,bX (vs:=[int m.base,aN,.slice aq m.i.next.length cq]) rfl rfl rfl,?_⟩;conv=>whnf
  exact ⟨_,⟨rfl,rfl,rfl,rfl,trivial⟩,⟨rfl,aA.lay _ _,Hp.ak _ _⟩,rfl⟩
 rintro H6 φ3 _ ⟨rfl,g6,a6⟩;have uh:∃ Z,H.next = Z:=⟨_,rfl⟩;obtain ⟨Z,eZ⟩:=uh;rw [eZ] at a6 ⊢;have RZ:=Hp.aU a6;have hsep:Rx.Sep H6 [pl Z,aN,aN] []:=by
  refine ⟨fun v hv x e=>?_,fun u hu=>by simp at hu,fun i j v u hij hi hj=>?_,fun v hv u hu=>by simp at hu⟩
  ·simp at hv;rcases hv with rfl | rfl
   ·cases e; exact RZ
   ·cases e
  ·match i,j,hi,hj with
   | 0,0,_,_=>exact absurd rfl hij
   | 1,_,hi,hj=>cases hi; exact Ap.nil _
   | 2,_,hi,hj=>cases hi; exact Ap.nil _
   | 0,1,hi,hj=>cases hj; exact (Ap.nil _).symm
   | 0,2,hi,hj=>cases hj; exact (Ap.nil _).symm
   | 0,j + 3,hi,hj=>simp at hj
   | i + 3,_,hi,_=>simp at hi
 have hz6:MZ H H6 26 Z aN aN [] [] [] [int m.base,aN,.slice aq m.i.next.length cq] []:=⟨g6,a6,bD.nil,bD.nil,rfl,fun k u l e=>by simp at e,by omega,hsep⟩;clear a6 hsep;conv=>whnf
 refine aC.cut (α:=Value×Hp) (fun q=>[(5,ptr Z 0),(4,ptr (h.next + 1) 0)]) (fun q H7=>q.2 = H7∧MZ H q.2 26 Z q.1 aN (mapM m t).out [] [] [int m.base,q.1,.slice aq m.i.next.length cq] []) ?_ ?_;rotate_left
 ·rintro ⟨ov,H7⟩ φ7 _ ⟨rfl,hz7⟩;dsimp only at hz7 ⊢;have hov:=hz7.jE;obtain ⟨ay,rfl⟩:=hov;have aR7:=hz7.gr.at_ _ _ aR;conv=>whnf
  repeat (refine aC.go ?_; conv=>whnf)
  refine ⟨_,aI hz7.z rfl,?_⟩;conv=>whnf
  refine ⟨rfl,_,bE (vs:=[int m.base,.slice ay (mapM m t).out.length (mapM m t).out.length,.slice aq m.i.next.length cq]) aR7 rfl rfl rfl,?_⟩;conv=>whnf
  repeat (refine aC.go ?_; conv=>whnf)
  obtain ⟨iR,tR,agR,szR⟩:=U9;refine fu (r:=h.next + 1) (o:=0) (cs:=[int m.base,.slice ay (mapM m t).out.length (mapM m t).out.length,.slice aq m.i.next.length cq]) rfl tR agR ?_ ?_
  ·rw [szR];exact aI (Hp.bB _ (Hp.aU aR7)) rfl
  ·have hl:=hz7.leave (h:=h) (R:=h.next + 1) (by omega) (by omega) gH m.base (.row 26 true [int m.base,.slice ay (mapM m t).out.length (mapM m t).out.length,.slice aq m.i.next.length cq]);obtain ⟨hl,gl⟩:=hl;have hmv:=hl.mv;obtain ⟨vo',vn',e,O1,-⟩:=hmv;injection e with e;injection e with e;injection e with e1 e;injection e with e2 e;subst e2;exact ⟨⟨_,_,rfl,O1,aer.ext gl⟩,gl⟩
 conv=>whnf
 repeat (refine aC.go ?_; conv=>whnf)
 refine bT (α:=Nat×Value×Hp) (fun q=>[(6,int q.1),(5,ptr Z 0),(4,ptr (h.next + 1) 0),(2,ptr h.next 0),(1,.slice (some ⟨rt,ot,spt⟩) t.length ct)]) (fun q=>q.2.2) (fun q=>q.1≤m.out.length∧MZ H q.2.2 26 Z q.2.1 aN ((mapM m t).out.take q.1) [] [] [int m.base,q.2.1,.slice aq m.i.next.length cq] []) (fun q=>m.out.length - q.1) (0,aN,H6) ⟨Nat.zero_le _,hz6⟩ ⟨rfl,rfl,rfl,rfl,rfl,trivial⟩ (Hp.Le.refl _) ?_;clear hz6;rintro ⟨s,ov,G⟩ φ4 ⟨hs,hz⟩;dsimp only at hs hz ⊢;have b1:=hz.gr.cell c1;conv=>whnf
 repeat (refine aC.go ?_; conv=>whnf)
 refine ⟨_,b1,?_⟩;conv=>whnf
 refine dJ (fun q1=>?_) (fun q1=>?_);rotate_left
 ·have:s = m.out.length:=by omega
  subst this;rw [List.take_of_length_le (by omega)] at hz;conv=>whnf
  repeat (refine aC.go ?_; conv=>whnf)
  exact ⟨(ov,G),⟨rfl,rfl,trivial⟩,⟨rfl,hz⟩,rfl⟩
 have hsn:s < m.out.length:=by omega
 have hov:=hz.jE;obtain ⟨ax,eov⟩:=hov;have htl:((mapM m t).out.take s).length = s:=by rw [List.length_take]; omega
 rw [htl] at eov;subst eov;have z1:=bA (o:=1) hz.z rfl;have hoM:=kx.qD hsn;obtain ⟨r5,o5,sp5,ea,Fh,hc5⟩:=hoM;subst ea;have bd:0≤m.o s∧m.o s≤9:=fC (P:=fun x=>0≤x∧x≤9) hm.outs (j:=s) (by omega);have hct:=View.iI (hvH.ext hz.gr) (i:=(m.o s).toNat) (by omega);obtain ⟨r6,o6,sp6,ea,ZN,-,hc6⟩:=hct;injection ea with ea;injection ea with ea1 ea2 ea3;subst ea1;subst ea2;subst ea3;have b5:=hz.gr.cell hc5;have aes:(mapM m t).out[s]? = some (gl t (m.o s).toNat):=by
  rw [List.getElem?_eq_getElem (by omega),← l9 (by omega)];exact congrArg some (MS hsn)
 conv=>whnf
 refine aC.go ?_;conv=>whnf
 refine aC.cut (α:=Unit) (fun q=>[(7,.slice ax s s),(6,int s),(5,ptr Z 0),(4,ptr (h.next + 1) 0),(2,ptr h.next 0),(1,.slice (some ⟨rt,ot,spt⟩) t.length ct)]) (fun q H7=>G = H7) ?_ ?_
 ·conv=>whnf
  refine ⟨_,z1,?_⟩;conv=>whnf
  exact ⟨(),⟨rfl,rfl,rfl,rfl,rfl,rfl,trivial⟩,rfl,rfl⟩
 rintro _ φ5 _ rfl;conv=>whnf
 refine ⟨_,b1,?_⟩;conv=>whnf
 refine ⟨Fh,⟨by omega,by omega⟩,?_⟩;conv=>whnf
 refine ⟨_,b5,?_⟩;conv=>whnf
 refine ⟨abM,⟨by omega,by omega⟩,?_⟩;conv=>whnf
 refine ⟨_,hc6,?_⟩;conv=>whnf
 refine hz.EW (by omega) ?_;intro ov7 K7 Eo hz7 kv7;obtain ⟨a7,n7,rfl⟩:=Eo;conv=>whnf
 refine ⟨rfl,_,dQ hz7.z (by simp) rfl,?_⟩;have hz8:=hz7.put [int m.base,.slice a7 n7 n7,.slice aq m.i.next.length cq];have xA:=hz8.1;rw [← gK aes] at xA;conv=>whnf
 repeat (refine aC.go ?_; conv=>whnf)
 refine ⟨((s + 1:Nat):Int),wie (by omega) (by omega),?_⟩;conv=>whnf
 exact Rnd.mk (s + 1,_,_) ⟨by show s + 1≤m.out.length; omega,xA⟩ (by show m.out.length - (s + 1) < m.out.length - s; omega) ⟨rfl,rfl,rfl,rfl,rfl,trivial⟩ (Hp.Le.refl _) rfl
end
end Go.Proofs.Ytedneplaibmppaa
namespace Go.Proofs.Ytedneplaibmppaa
open Go.Rx Go.RowKit
theorem PS {h:Hp}{r:Nat}{e:TypeId}{x:Bool}{cs vs:List Value}{o:Nat}(hr:h.at r = some (.row e x cs))(hl:o + vs.length≤cs.length)(h1:vs.all oneCell = true):storeAt h r o vs = some (h.set r (.row e x (over cs o vs))):=by
 unfold storeAt;rw [hr];dsimp only;rw [if_pos ⟨by omega,h1⟩]
theorem ac3:∃ i,E.ty 102 = some i∧i.agg = true∧i.size = 100:=by
 have hs:(jL Try.prog 102).isSome = true:=by kernel_rfl
 refine ⟨(jL Try.prog 102).get hs,mP (by kernel_rfl) (Option.some_get hs).symm,?_,?_⟩ <;> kernel_rfl
def zer (n:Nat):List Int:=List.replicate n 0
def flt (T:List (List Int))(i:Nat):List Int:=(T.take i).flatten ++ zer (100 - 10 * i)
theorem Jc:∀ (T:List (List Int)),(∀ i,i < T.length→(rw_ T i).length = 10)→T.flatten.length = 10 * T.length
 | [],_=>rfl
 | l :: T,h=>by
  have h0:=h 0 (by simp);have ih:=Jc T fun i hi=>h (i + 1) (by simpa using hi);rw [List.flatten_cons,List.length_append,ih,show l.length = 10 from h0,List.length_cons];omega
theorem flat_get:∀ (T:List (List Int)),(∀ i,i < T.length→(rw_ T i).length = 10)→∀ i j,i < T.length→j < 10→T.flatten[i * 10 + j]? = some (gl (rw_ T i) j)
 | [],_,i,j,hi,_=>by simp at hi
 | l :: T,h,0,j,hi,hj=>by
  have h0:l.length = 10:=h 0 (by simp);rw [List.flatten_cons,List.getElem?_append_left (by omega),Nat.zero_mul,Nat.zero_add,List.getElem?_eq_getElem (by omega),← l9 (by omega)];rfl
 | l :: T,h,i + 1,j,hi,hj=>by
  have h0:l.length = 10:=h 0 (by simp);have ih:=flat_get T (fun i hi=>h (i + 1) (by simpa using hi)) i j (by simpa using hi) hj;rw [List.flatten_cons,List.getElem?_append_right (by omega),show (i + 1) * 10 + j - l.length = i * 10 + j by omega,ih];rfl
theorem Kz {T:List (List Int)}{i:Nat}(h:∀ k,k < i→(rw_ T k).length = 10)(hi:i≤T.length):(T.take i).flatten.length = 10 * i:=by
 have:=Jc (T.take i) fun k hk=>by
  rw [List.length_take] at hk;have e:rw_ (T.take i) k = rw_ T k:=by
   unfold rw_;rw [List.getD_eq_getElem?_getD,List.getD_eq_getElem?_getD,List.getElem?_take_of_lt (by omega)]
  rw [e];exact h k (by omega)
 rw [this,List.length_take];omega
theorem Z8 {T:List (List Int)}{i:Nat}(h:∀ k,k < i→(rw_ T k).length = 10)(hi:i≤T.length)(h10:i≤10):(flt T i).length = 100:=by
 unfold flt zer;rw [List.length_append,Kz h hi,List.length_replicate];omega
theorem YH (T:List (List Int)):flt T 0 = zer 100:=by unfold flt; simp
theorem Z9 {T:List (List Int)}(h:T.length = 10):flt T 10 = T.flatten:=by
 unfold flt zer;rw [List.take_of_length_le (by omega)];simp
theorem YI {T:List (List Int)}{i:Nat}(h:∀ k,k < i + 1→(rw_ T k).length = 10)(hi:i < T.length)(h10:i < 10):over ((flt T i).map int) (i * 10) ((rw_ T i).map int) = (flt T (i + 1)).map int:=by
 have e1:=Kz (T:=T) (i:=i) (fun k hk=>h k (by omega)) (by omega);have hr:=h i (by omega);have e2:zer (100 - 10 * i) = zer 10 ++ zer (100 - 10 * (i + 1)):=by
  unfold zer;rw [List.replicate_append_replicate]
  congr 1
  omega
 have e3:T.take (i + 1) = T.take i ++ [rw_ T i]:=wT hi;unfold flt;rw [e2,e3,List.flatten_append,List.map_append,List.map_append];have e4:i * 10 = ((T.take i).flatten.map int).length:=by rw [List.length_map,e1]; omega
 rw [e4,← List.append_assoc,I8 _ _ _ _ (by rw [List.length_map,List.length_map]; unfold zer; simp [hr])];simp
theorem Dy {T:List (List Int)}(hl:T.length = 10):OkT T↔∀ i,i < 10→(rw_ T i).length = 10∧∀ x ∈ rw_ T i,0≤x∧x≤9:=by
 constructor
 ·intro h i hi;refine ⟨h.row i hi,fun x hx=>?_⟩;obtain ⟨j,hj,rfl⟩:=List.getElem_of_mem hx;have hd:=h.dig i j hi (by rw [h.row i hi] at hj; exact hj);rwa [l9 hj] at hd
 ·intro h;exact ⟨hl,fun i hi=>(h i hi).1,fun i j hi hj=>fC (P:=fun x=>0≤x∧x≤9) (h i hi).2 (by rw [(h i hi).1]; exact hj)⟩
def VE (h:Hp)(v:Value)(T:List (List Int)):Prop:=∃ a c,v = .slice a T.length c∧∀ i,i < T.length→∃ r o sp a' c',a = some ⟨r,o,sp⟩∧fA sp = false∧cellAt h r (gU o i 1) = some (.slice a' (rw_ T i).length c')∧((rw_ T i).length = 10→View h (.slice a' (rw_ T i).length c') (rw_ T i))
theorem VE.ext {h h':Hp}{v:Value}{T:List (List Int)}(g:aA h h')(k:VE h v T):VE h' v T:=by
 obtain ⟨a,c,e,q⟩:=k;refine ⟨a,c,e,fun i hi=>?_⟩;obtain ⟨r,o,sp,a',c',h1,h2,h3,h4⟩:=q i hi;exact ⟨r,o,sp,a',c',h1,h2,g.cell h3,fun w=>(h4 w).ext g⟩
theorem Mat.g {h:Hp}{v:Value}{T:List (List Int)}(k:Mat h v T):VE h v T:=by
 obtain ⟨a,c,rfl,-⟩:=id k;refine ⟨a,c,rfl,fun i hi=>?_⟩;obtain ⟨r,o,sp,a',c',h1,h2,-,h3,h4⟩:=Mat.iI k hi;exact ⟨r,o,sp,a',c',h1,h2,h3,fun _=>h4⟩
attribute [local irreducible] E iJ cellAt bJ storeAt callable dh dG dO findKey dZ bP Hp.at Hp.set Hp.lay dL cO setAt aJ dx bO dz Rnd gq fB gY Int.tmod Int.tdiv Int.fdiv
section
variable [bC]
attribute [local irreducible] kV sameAt j6
theorem Jd (v:Value)(T:List (List Int))(h:Hp)(hv:VE h v T)(hTl:T.length≤1000000)(hrl:∀ i,(rw_ T i).length≤1000000):aJ E 71 [v] h (fun r h'=>(∃ cs b,r = .tuple ⟨[.agg ⟨cs⟩,.bool b]⟩∧cs.length = 100∧cs.all oneCell = true∧bO b (OkT T)∧(b = true→cs = T.flatten.map int))∧aA h h'):=by
 obtain ⟨a,c,rfl,-⟩:=id hv;obtain ⟨iR,tR,agR,szR⟩:=ac3;refine enter71 (by simp) ?_;conv=>whnf
 refine aC.cut (α:=Hp) (fun _=>[(2,ptr h.next 0),(0,.slice a T.length c)]) (fun x H=>x = H∧aA h H∧H.at h.next = some (.row 102 true ((zer 100).map int))∧H.next = h.next + 1) ?_ ?_
 ·conv=>whnf
  exact ⟨_,⟨rfl,rfl,trivial⟩,⟨rfl,aA.lay _ _,Hp.ak _ _,Hp.bF _ _⟩,rfl⟩
 rintro H φ1 _ ⟨rfl,gH,aR,nH⟩;conv=>whnf
 refine aC.cut (α:=Hp) (fun _=>[(4,ptr H.next 0),(2,ptr h.next 0),(0,.slice a T.length c)]) (fun x H2=>x = H2∧aA H H2∧H2.at H.next = some (.row 102 true ((zer 100).map int))) ?_ ?_
 ·conv=>whnf
  exact ⟨_,⟨rfl,rfl,rfl,trivial⟩,⟨rfl,aA.lay _ _,Hp.ak _ _⟩,rfl⟩
 rintro H2 φ2 _ ⟨rfl,g2,a4⟩;have uh:∃ Z,H.next = Z:=⟨_,rfl⟩;obtain ⟨Z,eZ⟩:=uh;rw [eZ] at a4 ⊢;have hZ:h.next < Z:=by omega
 have aR2:=g2.at_ _ _ aR;have RZ:=Hp.aU a4;have fin:∀ (φ:Rx.Frame) (G:Hp) (F:List Int) (b:Bool),F.length = 100→φ 2 = ptr h.next 0→φ 3 = .bool b→aA h G→G.at h.next = some (.row 102 true (F.map int))→bO b (OkT T)→(b = true→F = T.flatten)→j6 E [.cell 2 102,.tmp 3] ⟨φ,G,[]⟩ (fun r h'=>(∃ cs b,r = .tuple ⟨[.agg ⟨cs⟩,.bool b]⟩∧cs.length = 100∧cs.all oneCell = true∧bO b (OkT T)∧(b = true→cs = T.flatten.map int))∧aA h h'):=fun φ G F b hF e2 e3 g aG hb hF2=>by
  refine dD (r:=h.next) (o:=0) (cs:=F.map int) (w:=.bool b) e2 e3 rfl tR agR ?_ ?_
  ·rw [szR];exact aI aG (by rw [List.length_map]; exact hF)
  ·exact ⟨⟨_,b,rfl,by rw [List.length_map]; exact hF,rF F,hb,fun q=>by rw [hF2 q]⟩,g⟩
 have Je:∀ F:List Int,F.length = 100→(F.map int).length = 100:=fun F hF=>by rw [List.length_map]; exact hF
 have st:∀ (G:Hp) (F:List Int),F.length = 100→G.at h.next = some (.row 102 true ((zer 100).map int))→storeAt G h.next 0 (F.map int) = some (G.set h.next (.row 102 true (F.map int))):=fun G F hF aG=>bE aG (by rw [Je F hF]; rfl) (rF F) (I9 (by rw [Je F hF]; rfl));have aac:(zer 100).length = 100:=rfl;conv=>whnf
 refine aC.cut (α:=Unit) (fun _=>[(4,ptr Z 0),(2,ptr h.next 0),(0,.slice a T.length c)]) (fun x H'=>H2 = H'∧T.length = 10) ?_ ?_
 ·conv=>whnf
  refine aC.go ?_;conv=>whnf
  refine dJ (fun q1=>?_) (fun q1=>?_)
  ·have hno:¬ OkT T:=fun k=>by have:=k.len; omega
   conv=>whnf
   refine aC.go ?_;conv=>whnf
   refine ⟨_,aI a4 (Je _ aac),?_⟩;conv=>whnf
   refine ⟨Je _ aac,_,st _ _ aac aR2,?_⟩;conv=>whnf
   exact fin _ _ _ false aac rfl rfl ((gH.trans g2).bQ _ (Nat.le_refl _)) (Hp.bB _ (Hp.aU aR2)) (nX hno) (fun e=>by cases e)
  conv=>whnf
  exact ⟨(),⟨rfl,rfl,rfl,trivial⟩,⟨rfl,by omega⟩,rfl⟩
 rintro _ φ3 _ ⟨rfl,abN⟩;have hv2:=hv;obtain ⟨a_,c_,e_,hvc⟩:=hv2;injection e_ with e_ _ _;subst e_;have h00:=hvc 0 (by omega);obtain ⟨rT,oT,spT,aT0,cT0,eT,aeu,-⟩:=h00;subst eT;conv=>whnf
 refine aC.cut (α:=Hp) (fun _=>[(4,ptr Z 0),(2,ptr h.next 0)]) (fun x H'=>x = H'∧aA H x∧x.at Z = some (.row 102 true (T.flatten.map int))∧OkT T) ?_ ?_;rotate_left
 ·rintro H3 φ4 _ ⟨rfl,g3,a4,ok⟩;have aR3:=g3.at_ _ _ aR;have hfl:T.flatten.length = 100:=by
   have:=Jc T fun i hi=>ok.row i (by omega);omega
  conv=>whnf
  refine aC.go ?_;conv=>whnf
  refine ⟨_,aI a4 (Je _ hfl),?_⟩;conv=>whnf
  refine ⟨Je _ hfl,_,st _ _ hfl aR3,?_⟩;conv=>whnf
  exact fin _ _ _ true hfl rfl rfl ((gH.trans g3).bQ _ (Nat.le_refl _)) (Hp.bB _ (Hp.aU aR3)) (oJ ok) (fun _=>rfl)
 conv=>whnf
 repeat (refine aC.go ?_; conv=>whnf)
 refine bT (α:=Nat×Hp) (fun q=>[(13,int q.1),(12,int T.length),(11,.slice (some ⟨rT,oT,spT⟩) T.length c),(4,ptr Z 0),(2,ptr h.next 0)]) (fun q=>q.2) (fun q=>q.1≤10∧aA H q.2∧q.2.at Z = some (.row 102 true ((flt T q.1).map int))∧∀ k,k < q.1→(rw_ T k).length = 10∧∀ x ∈ rw_ T k,0≤x∧x≤9) (fun q=>10 - q.1) (0,H2) ⟨by omega,g2,by rw [YH]; exact a4,fun k hk=>absurd hk (Nat.not_lt_zero _)⟩ ⟨rfl,rfl,rfl,rfl,rfl,trivial⟩ (Hp.Le.refl _) ?_;clear a4 RZ aR2 g2;rintro ⟨i,G⟩ φ4 ⟨hi,gG,a4,hok⟩;dsimp only at hi gG a4 hok ⊢;have aRG:=gG.at_ _ _ aR;have hfl:=Z8 (T:=T) (i:=i) (fun k hk=>(hok k hk).1) (by omega) hi;conv=>whnf
 repeat (refine aC.go ?_; conv=>whnf)
 refine dJ (fun q1=>?_) (fun q1=>?_);rotate_left
 ·have:i = 10:=by omega
  subst this;rw [Z9 abN] at a4;conv=>whnf
  repeat (refine aC.go ?_; conv=>whnf)
  exact ⟨G,⟨rfl,rfl,trivial⟩,⟨rfl,gG,a4,(Dy abN).2 hok⟩,rfl⟩
 have hmt:=hvc i (by omega);obtain ⟨r3,o3,sp3,a3,c3,ea3,ug,d5,vT⟩:=hmt;have d5:=(gH.trans gG).cell d5;injection ea3 with ea3;injection ea3 with ea31 ea32 ea33;subst ea31;subst ea32;subst ea33;have aev:=hrl i;conv=>whnf
 refine aC.go ?_;conv=>whnf
 refine aC.go ?_;conv=>whnf
 refine aC.cut (α:=Unit) (fun q=>[(5,int i),(6,.slice a3 (rw_ T i).length c3),(13,int i),(12,int T.length),(11,.slice (some ⟨rT,oT,spT⟩) T.length c),(4,ptr Z 0),(2,ptr h.next 0)]) (fun q H'=>G = H') ?_ ?_
 ·conv=>whnf
  refine ⟨aeu,⟨by omega,by omega⟩,?_⟩;conv=>whnf
  refine ⟨_,d5,?_⟩;conv=>whnf
  exact ⟨(),⟨rfl,rfl,rfl,rfl,rfl,rfl,rfl,trivial⟩,rfl,rfl⟩
 rintro _ φ5 _ rfl;conv=>whnf
 refine aC.cut (α:=Unit) (fun q=>[(5,int i),(6,.slice a3 (rw_ T i).length c3),(13,int i),(12,int T.length),(11,.slice (some ⟨rT,oT,spT⟩) T.length c),(4,ptr Z 0),(2,ptr h.next 0)]) (fun q H'=>G = H'∧(rw_ T i).length = 10∧∀ x ∈ rw_ T i,0≤x∧x≤9) ?_ ?_
 ·have out:¬ ((rw_ T i).length = 10∧∀ x ∈ rw_ T i,0≤x∧x≤9)→¬ OkT T:=fun q k=>q ((Dy abN).1 k i (by omega));conv=>whnf
  refine aC.go ?_;conv=>whnf
  refine dJ (fun q2=>?_) (fun q2=>?_)
  ·conv=>whnf
   refine aC.go ?_;conv=>whnf
   refine ⟨_,aI a4 (Je _ hfl),?_⟩;conv=>whnf
   refine ⟨Je _ hfl,_,st _ _ hfl aRG,?_⟩;conv=>whnf
   exact fin _ _ _ false hfl rfl rfl ((gH.trans gG).bQ _ (Nat.le_refl _)) (Hp.bB _ (Hp.aU aRG)) (nX (out fun k=>q2 (by rw [k.1]; rfl))) (fun e=>by cases e)
  conv=>whnf
  refine aJ.mono (nP _ (rw_ T i) _ ((vT (by omega)).ext (gH.trans gG)) aev) ?_;rintro r H' ⟨⟨b,rfl,hb⟩,eH⟩;have eH:=eH.symm;subst eH
  cases b with
  | false =>
   conv=>whnf
   refine aC.go ?_;conv=>whnf
   refine ⟨_,aI a4 (Je _ hfl),?_⟩;conv=>whnf
   refine ⟨Je _ hfl,_,st _ _ hfl aRG,?_⟩;conv=>whnf
   exact fin _ _ _ false hfl rfl rfl ((gH.trans gG).bQ _ (Nat.le_refl _)) (Hp.bB _ (Hp.aU aRG)) (nX (out fun k=>hb.f k.2)) (fun e=>by cases e)
  | true =>
   conv=>whnf
   exact ⟨(),⟨rfl,rfl,rfl,rfl,rfl,rfl,rfl,trivial⟩,⟨rfl,by omega,hb.t⟩,rfl⟩
 rintro _ φ6 _ ⟨rfl,YJ,hrd⟩;have aew:=Ja ((vT YJ).ext (gH.trans gG)) (by omega);obtain ⟨rr,oo,eat,hcells⟩:=aew;subst eat;rw [YJ] at hcells;have hml:((rw_ T i).map int).length = 10:=by rw [List.length_map]; exact YJ
 have hstep:=YI (T:=T) (i:=i) (fun k hk=>by
  by_cases e:k = i
  ·subst e; exact YJ
  ·exact (hok k (by omega)).1) (by omega) (by omega)
 have hst:=PS (o:=i * 10) (vs:=(rw_ T i).map int) a4 (by rw [hml,Je _ hfl]; omega) (rF _);rw [hstep] at hst;conv=>whnf
 refine ⟨ptr rr oo,Kw (by omega),?_⟩;conv=>whnf
 refine ⟨_,hcells,?_⟩;conv=>whnf
 refine ⟨⟨by omega,by omega⟩,?_⟩;conv=>whnf
 refine ⟨hml,_,hst,?_⟩;conv=>whnf
 repeat (refine aC.go ?_; conv=>whnf)
 refine ⟨((i + 1:Nat):Int),wie (by omega) (by omega),?_⟩;conv=>whnf
 exact Rnd.mk (i + 1,_) ⟨by dsimp only; omega,gG.bQ _ (by omega),Hp.bB _ (Hp.aU a4),fun k hk=>by
  by_cases e:k = i
  ·subst e; exact ⟨YJ,hrd⟩
  ·exact hok k (by dsimp only at hk; omega)⟩ (by dsimp only; omega) ⟨rfl,rfl,rfl,rfl,rfl,trivial⟩ (Hp.Le.refl _) rfl
end
end Go.Proofs.Ytedneplaibmppaa
namespace Go.Proofs.Ytedneplaibmppaa
open Go.Rx Go.RowKit
attribute [local irreducible] E iJ cellAt bJ storeAt callable dh dG dO findKey dZ bP Hp.at Hp.set Hp.lay dL cO setAt aJ dx bO dz Rnd gq fB gY Int.tmod Int.tdiv Int.fdiv
section
variable [bC]
attribute [local irreducible] sameAt j6
theorem PU (ma mb:Mac)(T:List (List Int))(p:Int×Int)(N9 X Y:Nat)(bx by_:List Value)(h H:Hp)(hbx:Bx h bx ma.i)(hby:Bx h by_ mb.i)(okT:OkT T)(oa:∀ x ∈ ma.out,0≤x∧x≤9)(ob:∀ x ∈ mb.out,0≤x∧x≤9)(hp:(0≤p.1∧p.1 < ma.out.length)∧0≤p.2∧p.2 < mb.out.length)(g:aA h H)(aX:H.at X = some (.row 25 true bx))(aY:H.at Y = some (.row 25 true by_))(a9:H.at N9 = some (.row 102 true (T.flatten.map int))):aJ E 72 [dB p,ptr N9 0,ptr X 0,ptr Y 0] H (fun r H'=>r = int (Ev ma mb T p)∧aA H H'):=by
 obtain ⟨s,t⟩:=p;obtain ⟨⟨h1,h2⟩,h3,h4⟩:=hp;dsimp only at h1 h2 h3 h4;obtain ⟨s,rfl⟩:∃ k:Nat,s = k:=⟨s.toNat,by omega⟩;obtain ⟨t,rfl⟩:∃ k:Nat,t = k:=⟨t.toNat,by omega⟩;obtain ⟨ao,an,co,cn,hcx⟩:=hbx.cx;obtain ⟨bo,bn,do_,dn,hdx⟩:=hby.cx;have kA:=hcx H X 25 g aX;have kB:=hdx H Y 25 g aY;have d1:cellAt H X 1 = some (.slice ao ma.out.length co):=kA.c1;have d2:cellAt H Y 1 = some (.slice bo mb.out.length do_):=kB.c1;have hoA:=kA.qD (s:=s) (by omega);obtain ⟨r1,o1,sp1,rfl,hsp1,d3⟩:=hoA;have hoB:=kB.qD (s:=t) (by omega);obtain ⟨r2,o2,sp2,rfl,hsp2,d4⟩:=hoB;have bdA:0≤ma.o s∧ma.o s≤9:=fC (P:=fun x=>0≤x∧x≤9) oa (j:=s) (by omega);have bdB:0≤mb.o t∧mb.o t≤9:=fC (P:=fun x=>0≤x∧x≤9) ob (j:=t) (by omega);have eo:Ev ma mb T ((s:Int),(t:Int)) = gl (rw_ T (ma.o s).toNat) (mb.o t).toNat:=by
  unfold Ev;dsimp only;rw [Int.toNat_natCast,Int.toNat_natCast]
 rw [eo];have hTl:=okT.len;have c9:cellAt H N9 (gU (gU 0 (ma.o s).toNat 10) (mb.o t).toNat 1) = some (int (gl (rw_ T (ma.o s).toNat) (mb.o t).toNat)):=by
  rw [ig,ig];refine bA a9 ?_;rw [List.getElem?_map,show 0 + (ma.o s).toNat * 10 + (mb.o t).toNat * 1 = (ma.o s).toNat * 10 + (mb.o t).toNat by omega,flat_get T (fun i hi=>okT.row i (by omega)) _ _ (by omega) (by omega)];rfl
 have g1:aA H (H.lay (.row 106 true [int s,int t])):=aA.lay _ _;have aP:(H.lay (.row 106 true [int s,int t])).at H.next = some (.row 106 true [int s,int t]):=Hp.ak _ _;unfold dB;refine enter72 (by simp) ?_;conv=>whnf
 refine aC.go ?_;conv=>whnf
 refine aC.go ?_;conv=>whnf
 refine ⟨_,g1.cell d1,?_⟩;conv=>whnf
 refine ⟨_,bA (o:=0) aP rfl,?_⟩;conv=>whnf
 refine ⟨hsp1,⟨by omega,by omega⟩,?_⟩;conv=>whnf
 refine ⟨_,g1.cell d3,?_⟩;conv=>whnf
 refine ⟨_,g1.cell d2,?_⟩;conv=>whnf
 refine ⟨_,bA (o:=1) aP rfl,?_⟩;conv=>whnf
 refine ⟨hsp2,⟨by omega,by omega⟩,?_⟩;conv=>whnf
 refine ⟨_,g1.cell d4,?_⟩;conv=>whnf
 refine ⟨⟨by omega,by omega⟩,?_⟩;conv=>whnf
 refine ⟨⟨by omega,by omega⟩,?_⟩;conv=>whnf
 refine ⟨_,g1.cell c9,?_⟩;conv=>whnf
 exact u7 rfl rfl ⟨rfl,g1⟩
theorem PV (ma mb:Mac)(p:Int×Int)(d X Y:Nat)(bx by_:List Value)(h H:Hp)(hbx:Bx h bx ma.i)(hby:Bx h by_ mb.i)(oka:ma.Ok)(okb:mb.Ok)(hbb:ma.base = mb.base)(hp:(0≤p.1∧p.1 < ma.out.length)∧0≤p.2∧p.2 < mb.out.length)(hd:d < ma.base)(g:aA h H)(aX:H.at X = some (.row 25 true bx))(aY:H.at Y = some (.row 25 true by_)):aJ E 73 [dB p,int d,ptr X 0,ptr Y 0] H (fun r H'=>r = dB (jo ma mb p d)∧aA H H'):=by
 obtain ⟨s,t⟩:=p;obtain ⟨⟨h1,h2⟩,h3,h4⟩:=hp;dsimp only at h1 h2 h3 h4;obtain ⟨s,rfl⟩:∃ k:Nat,s = k:=⟨s.toNat,by omega⟩;obtain ⟨t,rfl⟩:∃ k:Nat,t = k:=⟨t.toNat,by omega⟩;obtain ⟨ao,an,co,cn,hcx⟩:=hbx.cx;obtain ⟨bo,bn,do_,dn,hdx⟩:=hby.cx;have kA:=hcx H X 25 g aX;have kB:=hdx H Y 25 g aY;have d1:=kA.c2;have d2:=kB.c2;have acv:=oka.vC;have acw:=okb.vC;have hna:=kA.kR oka (s:=s) (d:=d) (by omega) hd;obtain ⟨r1,o1,sp1,r2,o2,sp2,c2',rfl,hsp1,hc1,hsp2,hc2⟩:=hna;have hnb:=kB.kR okb (s:=t) (d:=d) (by omega) (by omega);obtain ⟨r3,o3,sp3,r4,o4,sp4,c4',rfl,ug,hc3,Fg,hc4⟩:=hnb;have eE:jo ma mb ((s:Int),(t:Int)) d = (((ma.nx s d:Nat):Int),((mb.nx t d:Nat):Int)):=by
  unfold jo;dsimp only;rw [Int.toNat_natCast,Int.toNat_natCast]
 rw [eE];have n1:(H.lay (.row 106 true [int s,int t])).next = H.next + 1:=Hp.bF _ _;have g2:aA H ((H.lay (.row 106 true [int s,int t])).lay (.row 106 true [int 0,int 0])):=(aA.lay _ _).bH _;have aP:((H.lay (.row 106 true [int s,int t])).lay (.row 106 true [int 0,int 0])).at H.next = some (.row 106 true [int s,int t]):=Hp.bg _ (Hp.ak _ _);have aR:((H.lay (.row 106 true [int s,int t])).lay (.row 106 true [int 0,int 0])).at (H.next + 1) = some (.row 106 true [int 0,int 0]):=eB n1 (Hp.ak _ _);unfold dB;refine enter73 (by simp) ?_;conv=>whnf
 refine aC.cut (α:=Hp) (fun _=>[(4,ptr H.next 0),(6,ptr (H.next + 1) 0),(1,int d),(2,ptr X 0),(3,ptr Y 0)]) (fun x H2=>x = H2∧aA H x∧x.at H.next = some (.row 106 true [int s,int t])∧x.at (H.next + 1) = some (.row 106 true [int 0,int 0])) ?_ ?_
 ·conv=>whnf
  exact ⟨_,⟨rfl,congrArg (fun k=>ptr k 0) n1,rfl,rfl,rfl,trivial⟩,⟨rfl,g2,aP,aR⟩,rfl⟩
 clear aP aR g2;rintro H2 φ1 _ ⟨rfl,g2,aP,aR⟩;conv=>whnf
 refine aC.go ?_;conv=>whnf
 refine ⟨_,g2.cell d1,?_⟩;conv=>whnf
 refine ⟨_,bA (o:=0) aP rfl,?_⟩;conv=>whnf
 refine ⟨hsp1,⟨by omega,by omega⟩,?_⟩;conv=>whnf
 refine ⟨_,g2.cell hc1,?_⟩;conv=>whnf
 refine ⟨hsp2,⟨by omega,by omega⟩,?_⟩;conv=>whnf
 refine ⟨_,g2.cell hc2,?_⟩;conv=>whnf
 refine ⟨_,g2.cell d2,?_⟩;conv=>whnf
 refine ⟨_,bA (o:=1) aP rfl,?_⟩;conv=>whnf
 refine ⟨ug,⟨by omega,by omega⟩,?_⟩;conv=>whnf
 refine ⟨_,g2.cell hc3,?_⟩;conv=>whnf
 refine ⟨Fg,⟨by omega,by omega⟩,?_⟩;conv=>whnf
 refine ⟨_,g2.cell hc4,?_⟩;conv=>whnf
 refine ⟨rfl,_,bE (vs:=[int (ma.nx s d:Nat),int (mb.nx t d:Nat)]) aR rfl rfl rfl,?_⟩;conv=>whnf
 have hs:(jL Try.prog 106).isSome = true:=by kernel_rfl
 refine fu (i:=(jL Try.prog 106).get hs) (r:=H.next + 1) (o:=0) (cs:=[int (ma.nx s d:Nat),int (mb.nx t d:Nat)]) rfl (mP (by kernel_rfl) (Option.some_get hs).symm) (by kernel_rfl) ?_ ?_
 ·rw [show ((jL Try.prog 106).get hs).size = 2 from by kernel_rfl];exact aI (Hp.bB _ (Hp.aU aR)) rfl
 ·exact ⟨rfl,g2.bQ _ (by omega)⟩
def R9 (ma mb:Mac)(T:List (List Int)):Prop:=ma.base≠mb.base∨¬ OkT T
theorem vN (va vb vt:Value)(ma mb:Mac)(T:List (List Int))(h:Hp)(hva:MV h va ma.i)(hvb:MV h vb mb.i)(hvt:VE h vt T)(hm:OkS ma)(hm':OkS mb)(hTl:T.length≤1000000)(hrl:∀ i,(rw_ T i).length≤1000000):aJ E 30 [va,vb,vt] h (fun r h'=>((R9 ma mb T→r = .tuple ⟨[noM,int 1]⟩)∧(¬ R9 ma mb T→ql h h' r (tJ ma mb T)))∧aA h h'):=by
 obtain ⟨bx,rfl,hbx⟩:=hva.box;obtain ⟨by_,rfl,hby⟩:=hvb.box;obtain ⟨tv,tc,rfl,-⟩:=id hvt;obtain ⟨ao,an,co,cn,hcx⟩:=hbx.cx;have ze:=hm.n12;have abO:=hm'.n12;have hb5:=hm.b5;obtain ⟨i25,t25,jl,jm⟩:=C8;refine enter30 (by simp) ?_;conv=>whnf
 refine aC.cut (α:=Hp) (fun _=>[(6,ptr (h.next + 2) 0),(3,ptr h.next 0),(4,ptr (h.next + 1) 0),(2,.slice tv T.length tc)]) (fun x H=>x = H∧aA h H∧H.at h.next = some (.row 25 true bx)∧H.at (h.next + 1) = some (.row 25 true by_)∧H.at (h.next + 2) = some (.row 25 true [int 0,aN,aN])) ?_ ?_
 ·conv=>whnf
  have n1:(h.lay (.row 25 true bx)).next = h.next + 1:=Hp.bF _ _;have n2:((h.lay (.row 25 true bx)).lay (.row 25 true by_)).next = h.next + 2:=by rw [Hp.bF,n1]
  exact ⟨_,⟨congrArg (fun k=>ptr k 0) n2,rfl,congrArg (fun k=>ptr k 0) n1,rfl,trivial⟩,⟨rfl,((aA.lay _ _).bH _).bH _,Hp.bg _ (Hp.bg _ (Hp.ak _ _)),Hp.bg _ (eB n1 (Hp.ak _ _)),eB n2 (Hp.ak _ _)⟩,rfl⟩
 rintro H φ1 _ ⟨rfl,gH,aX,aY,aR⟩;have bad:R9 ma mb T→∀ H,aA h H→(((R9 ma mb T→Value.tuple ⟨[noM,int 1]⟩ = .tuple ⟨[noM,int 1]⟩)∧(¬ R9 ma mb T→ql h H (.tuple ⟨[noM,int 1]⟩) (tJ ma mb T)))∧aA h H):=fun k H g=>⟨⟨fun _=>rfl,fun q=>absurd k q⟩,g⟩;conv=>whnf
 refine aC.cut (α:=Hp) (fun _=>[(6,ptr (h.next + 2) 0),(3,ptr h.next 0),(4,ptr (h.next + 1) 0),(2,.slice tv T.length tc)]) (fun x H2=>x = H2∧aA H H2∧ma.base = mb.base) ?_ ?_
 ·conv=>whnf
  refine aC.go ?_;conv=>whnf
  refine ⟨_,aI aX hbx.len,?_⟩;conv=>whnf
  refine ⟨_,aI aY hby.len,?_⟩;conv=>whnf
  refine aJ.mono (IW _ _ ma.i mb.i _ (Bx.mv (hbx.ext gH)) (Bx.mv (hby.ext gH)) hm.lens hm'.lens) ?_;rintro r H2 ⟨⟨e,rfl,he⟩,g2⟩;have he:=he.2 hm.ck hm'.ck;have aR2:=g2.at_ _ _ aR;have Es:=Hp.aU aR2;have hRg:=Hp.bB (.row 25 true [int 0,aN,aN]) Es;have gRg:aA h (H2.set (h.next + 2) (.row 25 true [int 0,aN,aN])):=(gH.trans g2).bQ _ (by omega);by_cases hbb:ma.base = mb.base
  ·have he0:=he.2 (congrArg (fun n:Nat=>(n:Int)) hbb);subst he0;conv=>whnf
   repeat (refine aC.go ?_; conv=>whnf)
   refine Ag (by omega) ?_;conv=>whnf
   exact ⟨_,⟨rfl,rfl,rfl,rfl,trivial⟩,⟨rfl,g2,hbb⟩,rfl⟩
  ·have he0:=he.1 (fun q=>hbb (Int.ofNat.inj q));subst he0;conv=>whnf
   repeat (refine aC.go ?_; conv=>whnf)
   refine mO (by omega) ?_;conv=>whnf
   refine aC.go ?_;conv=>whnf
   refine ⟨rfl,_,bE (vs:=[int 0,aN,aN]) aR2 rfl rfl rfl,?_⟩;conv=>whnf
   exact dD (r:=h.next + 2) (o:=0) (cs:=[int 0,aN,aN]) (w:=int 1) rfl rfl rfl t25 jl (by rw [jm]; exact aI hRg rfl) (bad (.inl hbb) _ gRg)
 rintro H2 φ2 _ ⟨rfl,g2,hbb⟩;have aX2:=g2.at_ _ _ aX;have aY2:=g2.at_ _ _ aY;have aR2:=g2.at_ _ _ aR;have gh2:=gH.trans g2;conv=>whnf
 refine aC.cut (α:=Nat×Bool×List Value×Hp) (fun q=>[(9,ptr q.1 0),(10,.bool q.2.1),(6,ptr (h.next + 2) 0),(3,ptr h.next 0),(4,ptr (h.next + 1) 0)]) (fun q H'=>q.2.2.2 = H'∧aA H2 H'∧H'.at q.1 = some (.row 102 true q.2.2.1)∧bO q.2.1 (OkT T)∧(q.2.1 = true→q.2.2.1 = T.flatten.map int)) ?_ ?_
 ·conv=>whnf
  refine aJ.mono (Jd _ T _ (hvt.ext gh2) hTl hrl) ?_;rintro r H3 ⟨⟨cs,b,rfl,hcl,hco,hb,hcs⟩,g3⟩;conv=>whnf
  refine ⟨hcl,_,bX (vs:=cs) (by rw [hcl]; rfl) hco (I9 (by rw [hcl]; rfl)),?_⟩;conv=>whnf
  exact ⟨(H3.next,b,cs,_),⟨rfl,rfl,rfl,rfl,rfl,trivial⟩,⟨rfl,g3.bH _,Hp.ak _ _,hb,hcs⟩,rfl⟩
 rintro ⟨N9,b,cs,H3⟩ φ3 _ ⟨rfl,g3,a9,hb,hcs⟩;dsimp only at g3 a9 hb hcs ⊢;have aX3:=g3.at_ _ _ aX2;have aY3:=g3.at_ _ _ aY2;have aR3:=g3.at_ _ _ aR2;have gh3:=gh2.trans g3;have Es:=Hp.aU aR3;have hRg:=Hp.bB (.row 25 true [int 0,aN,aN]) Es;have gRg:aA h (H3.set (h.next + 2) (.row 25 true [int 0,aN,aN])):=gh3.bQ _ (by omega);conv=>whnf
 refine aC.cut (α:=Unit) (fun q=>[(9,ptr N9 0),(6,ptr (h.next + 2) 0),(3,ptr h.next 0),(4,ptr (h.next + 1) 0)]) (fun q H'=>H3 = H'∧OkT T) ?_ ?_
 ·cases b with
  | false =>
   conv=>whnf
   refine aC.go ?_;conv=>whnf
   refine aC.go ?_;conv=>whnf
   refine ⟨rfl,_,bE (vs:=[int 0,aN,aN]) aR3 rfl rfl rfl,?_⟩;conv=>whnf
   exact dD (r:=h.next + 2) (o:=0) (cs:=[int 0,aN,aN]) (w:=int 1) rfl rfl rfl t25 jl (by rw [jm]; exact aI hRg rfl) (bad (.inr hb.f) _ gRg)
  | true =>
   conv=>whnf
   refine aC.go ?_;conv=>whnf
   exact ⟨(),⟨rfl,rfl,rfl,rfl,trivial⟩,⟨rfl,hb.t⟩,rfl⟩
 rintro _ φ4 _ ⟨rfl,okT⟩;have hcs:=hcs (by
  cases b with
  | true=>rfl
  | false=>exact absurd okT hb.f)
 subst hcs;have c0:cellAt H3 h.next 0 = some (int (ma.base:Int)):=(hcx H3 h.next 25 gh3 aX3).c0;have hsq:∀ p ∈ sq ma.out.length mb.out.length,(0≤p.1∧p.1 < ma.out.length)∧0≤p.2∧p.2 < mb.out.length:=fun p hp=>ko.1 hp;have ho:Ms 72 [ptr N9 0,ptr h.next 0,ptr (h.next + 1) 0] dB (Ev ma mb T) (sq ma.out.length mb.out.length) H3:=⟨can72,fun p hp H5 g5=>PU ma mb T p N9 h.next (h.next + 1) bx by_ h H5 hbx hby okT hm.outs hm'.outs (hsq p hp) (gh3.trans g5) (g5.at_ _ _ aX3) (g5.at_ _ _ aY3) (g5.at_ _ _ a9)⟩;have hn:Di 73 [ptr h.next 0,ptr (h.next + 1) 0] dB (jo ma mb) ma.base (sq ma.out.length mb.out.length) H3:=⟨can73,fun p hp d hd H5 g5=>PV ma mb p d h.next (h.next + 1) bx by_ h H5 hbx hby hm.ok hm'.ok hbb (hsq p hp) hd (gh3.trans g5) (g5.at_ _ _ aX3) (g5.at_ _ _ aY3)⟩;have hlab:ma.out.length * mb.out.length≤12 * 12:=Nat.mul_le_mul ze abO;have hb:=Mt ma.base ((0:Int),(0:Int)) (Ev ma mb T) (jo ma mb) (sq ma.out.length mb.out.length) 72 73 _ _ H3 ⟨hm.ok.b1,by omega⟩ (zl hm.ok hm'.ok hbb) (zm hm.ok hm'.ok) (by rw [yZ]; omega) ho hn;have hmo:=PL hm.ok hm'.ok hbb T;have ME:∃ m',tJ ma mb T = m':=⟨_,rfl⟩;obtain ⟨m',em⟩:=ME;have em':built ma.base ((0:Int),(0:Int)) (Ev ma mb T) (jo ma mb) = m':=em;rw [em'] at hb;rw [em] at hmo ⊢;have hbm:m'.base = ma.base:=by rw [← em]; rfl
 conv=>whnf
 refine aC.go ?_;conv=>whnf
 refine aC.go ?_;conv=>whnf
 refine aC.go ?_;conv=>whnf
 refine ⟨_,c0,?_⟩;conv=>whnf
 refine aJ.mono hb ?_;rintro w H4 ⟨hw,g4⟩;conv=>whnf
 refine aJ.mono (tF _ m' _ hw.mv hmo.1 (by omega) (by omega)) ?_;rintro r H5 ⟨hr,g5⟩;have hrk:=hr.known;obtain ⟨a4,b4,c4,e4,rfl,o1,o2,o3⟩:=hrk;have aR5:=g5.at_ _ _ (g4.at_ _ _ aR3);conv=>whnf
 refine ⟨rfl,_,bE (vs:=[a4,b4,c4]) aR5 rfl (ZF o1 o2 o3) rfl,?_⟩;conv=>whnf
 refine dD (r:=h.next + 2) (o:=0) (cs:=[a4,b4,c4]) (w:=int e4) rfl rfl rfl t25 jl ?_ ?_
 ·rw [jm];exact aI (Hp.bB _ (Hp.aU aR5)) rfl
 ·exact ⟨⟨fun k=>k.elim (fun q=>absurd hbb q) (fun q=>absurd okT q),fun _=>(hr.put (by have:=g4.next; omega) _).back (by have:=g4.next; have:=g3.next; have:=gh2.next; omega)⟩,((gh3.trans g4).trans g5).bQ _ (by omega)⟩
end
end Go.Proofs.Ytedneplaibmppaa
namespace Go.Proofs.Ytedneplaibmppaa
open Go.Rx Go.RowKit
structure TZ (h H:Hp) (nv:Value) (us:List Value) (N:List (List Int)) (rs:List Value):Prop where
 gr:aA h H
 n:bD h H 22 1 nv us.length us
 ul:us.length = N.length
 ue:∀ (k:Nat) u l,us[k]? = some u→N[k]? = some l→Built h H 3 u l
 sep:Rx.Sep H (nv :: rs) us
section
variable {h H H':Hp} {nv:Value} {us:List Value} {N:List (List Int)} {rs:List Value}
theorem TZ.ext (k:TZ h H nv us N rs)(g:aA H H'):TZ h H' nv us N rs:=⟨k.gr.trans g,k.n.ext g,k.ul,fun j u l a b=>(k.ue j u l a b).ext g,k.sep.ext g⟩
theorem TZ.Kh {z:Int}{b:Bool}{i:Nat}{v:Value}{l:List Int}{K:Value→Hp→Prop}(k:TZ h H nv us N rs)(hi:rs[i]? = some v)(hb:bD h H 3 1 v l.length (l.map int))(hl:l.length≤1000000)
  (q:∀ v' H',(∃ a n,v' = .slice a n n)→bD h H' 3 1 v' (l ++ [z]).length ((l ++ [z]).map int)→TZ h H' nv us N (rs.set i v')→K v' H'):fB E (H.lay (.row 3 b [int z])) 3 1 8 v (slc H.next 0 1 1) K:=by
 have k1:=k.ext (aA.lay H (.row 3 b [int z]));have hb1:=hb.ext (aA.lay H (.row 3 b [int z]));refine fB.uf hb1 k1.gr (oH (u:=int z) rfl) (by omega) (by omega) (by omega) ?_;intro v' H' hb' hg' hkeep ⟨r',er,hr'⟩;have x:=Kx.dA hb1 hkeep;have hv:∀ r,ad v' = some r→(H.lay (.row 3 b [int z])).next≤r∧r < H'.next:=fun r e=>⟨by rw [er] at e; cases e; exact hr',(hb'.iU r e).2⟩;have hnx:(H.lay (.row 3 b [int z])).next≤H'.next:=by have:=hv r' (by rw [er]; rfl); omega
 have a:=k1.sep.ap (i + 1) 0 v nv (by omega) (by simpa using hi) rfl;have ae:=fun u hu=>k1.sep.ape v (by simp [List.mem_of_getElem? hi]) u hu;have sep2:Rx.Sep H' (nv :: rs.set i v') us:=k1.sep.move hnx (i + 1) hv;exact q _ _ ⟨_,_,er⟩ (by rw [List.length_append,List.map_append]; exact hb') ⟨hg',k1.n.kx x a,k1.ul,fun j u l e1 e2=>(k1.ue j u l e1 e2).kx x (ae u (List.mem_of_getElem? e1)),sep2⟩
theorem TZ.yT {u:Value}{l:List Int}{i:Nat}{b:Bool}{K:Value→Hp→Prop}(k:TZ h H nv us N rs)(hl:N.length≤1000000)(hi:rs[i]? = some u)(hu:Built h H 3 u l)
  (q:∀ nv' H',(∃ a n,nv' = .slice a n n)→TZ h H' nv' (us ++ [u]) (N ++ [l]) (rs.set i aN)→K nv' H'):fB E (H.lay (.row 22 b [u])) 22 1 24 nv (slc H.next 0 1 1) K:=by
 have k1:=k.ext (aA.lay H (.row 22 b [u]));have hul:=k.ul;have hu1:=hu.ext (aA.lay H (.row 22 b [u]));have ou:oneCell u = true:=hu.view.oneCell;refine fB.uf k1.n k1.gr (oH (u:=u) ou) (by omega) (by omega) (by omega) ?_;intro v' H' hb' hg' hkeep ⟨r',er,hr'⟩;have x:=Kx.dA k1.n hkeep;have hv:∀ r,ad v' = some r→(H.lay (.row 22 b [u])).next≤r∧r < H'.next:=fun r e=>⟨by rw [er] at e; cases e; exact hr',(hb'.iU r e).2⟩;have hnx:(H.lay (.row 22 b [u])).next≤H'.next:=by have:=hv r' (by rw [er]; rfl); omega
 have aru:Ap nv u:=k1.sep.ap 0 (i + 1) nv u (by omega) rfl (by simpa using hi);have ae:=fun w hw=>k1.sep.ape nv (by simp) w hw;have sep2:Rx.Sep H' (v' :: rs) us:=k1.sep.move hnx 0 hv;have Va:Rx.Sep H' (v' :: rs.set i aN) (us ++ [u]):=sep2.fix (i + 1) (v:=u) (by simpa using hi);refine q _ _ ⟨_,_,er⟩ ⟨hg',by rw [List.length_append]; exact hb',by rw [List.length_append,List.length_append,hul]; rfl,fun j w m e1 e2=>?_,Va⟩;by_cases hj:j < us.length
 ·rw [List.getElem?_append_left hj] at e1;rw [List.getElem?_append_left (by omega)] at e2;exact (k1.ue j w m e1 e2).kx x (ae w (List.mem_of_getElem? e1))
 ·have h1:=(List.getElem?_eq_some_iff.1 e1).1;rw [List.length_append,List.length_singleton] at h1;have:j = us.length:=by omega
  subst this;rw [List.getElem?_append_right (Nat.le_refl _)] at e1;rw [hul,List.getElem?_append_right (Nat.le_refl _)] at e2;simp at e1 e2;subst e1; subst e2;exact hu1.kx x aru
theorem TZ.start (H:Hp):TZ H H aN [] [] [aN]:=⟨.refl _,bD.nil,rfl,fun k u l e=>by simp at e,by
 refine ⟨fun v hv x e=>?_,fun u hu=>by simp at hu,fun i j v u hij hi hj=>?_,fun v hv u hu=>by simp at hu⟩
 ·simp at hv;subst hv;cases e
 ·match i,hi with
  | 0,hi=>cases hi; exact Ap.nil _
  | 1,hi=>cases hi; exact Ap.nil _
  | i + 2,hi=>simp at hi⟩
end
structure TB (H:Hp) (rt:Nat) (us:List Value) (T:List (List Int)):Prop where
 at_:∃ x,H.at rt = some (.row 22 x us)
 ul:us.length = 10
 ok:OkT T
 row:∀ k,k < 10→∃ rk xk,us[k]? = some (slc rk 0 10 10)∧H.at rk = some (.row 3 xk ((rw_ T k).map int))
theorem TB.ext {H H':Hp}{rt:Nat}{us:List Value}{T:List (List Int)}(k:TB H rt us T)(g:aA H H'):TB H' rt us T:=⟨let ⟨x,e⟩:=k.at_; ⟨x,g.at_ _ _ e⟩,k.ul,k.ok,fun i hi=>let ⟨r,x,e1,e2⟩:=k.row i hi; ⟨r,x,e1,g.at_ _ _ e2⟩⟩
theorem ni {H:Hp}{r n:Nat}{e:TypeId}{x:Bool}{ls:List Int}(a:H.at r = some (.row e x (ls.map int)))(hl:ls.length = n):View H (slc r 0 n n) ls:=by
 subst hl;exact Built.view (h0:=⟨0,H.raw⟩) (e:=e) (.inr ⟨r,rfl,Nat.zero_le _,x,a⟩)
theorem TB.mat {H:Hp}{rt:Nat}{us:List Value}{T:List (List Int)}(k:TB H rt us T):Mat H (slc rt 0 10 10) T:=by
 obtain ⟨x,e⟩:=k.at_;refine ⟨some ⟨rt,0,none⟩,10,by rw [k.ok.len]; rfl,fun i hi=>?_⟩;have YK:i < 10:=by have:=k.ok.len; omega
 obtain ⟨r,x',e1,e2⟩:=k.row i YK;refine ⟨rt,0,none,slc r 0 10 10,rfl,rfl,bA e e1,?_⟩;rw [← Av hi];exact ni e2 (k.ok.row i YK)
theorem TZ.tb {h H:Hp}{nv:Value}{us:List Value}{T:List (List Int)}{rs:List Value}(k:TZ h H nv us T rs)(hl:T.length = 10)(hr:∀ l ∈ T,l.length = 10∧∀ x ∈ l,0≤x∧x≤9):∃ rt,nv = slc rt 0 10 10∧TB H rt us T:=by
 have hul:=k.ul;obtain ⟨_,⟨_,e1⟩ | ⟨r,er,_,y,hat⟩⟩:=k.n
 ·omega
 rw [hul,hl] at er;refine ⟨r,er,⟨y,hat⟩,by omega,(Dy hl).2 fun i hi=>?_,fun i hi=>?_⟩
 ·rw [Av (by omega)];exact hr _ (List.getElem_mem _)
 ·have hu:=List.getElem?_eq_getElem (l:=us) (i:=i) (by omega);have ht:=List.getElem?_eq_getElem (l:=T) (i:=i) (by omega);have hb:=k.ue i _ _ hu ht;have h10:=(hr _ (List.getElem_mem (l:=T) (n:=i) (by omega))).1;rcases hb with ⟨_,e⟩ | ⟨r2,e,_,x,hx⟩
  ·rw [e] at h10; simp at h10
  ·rw [h10] at e;exact ⟨r2,x,by rw [hu,e],by rw [Av (by omega)]; exact hx⟩
attribute [local irreducible] E iJ cellAt bJ storeAt callable dh dG dO findKey dZ bP Hp.at Hp.set Hp.lay dL cO setAt aJ dx bO dz Rnd gq fB gY Int.tmod Int.tdiv Int.fdiv
section
variable [bC]
attribute [local irreducible] kV sameAt
theorem Sc (v:Value)(l:List Int)(h:Hp)(hv:View h v l)(hl:l.length < 9223372036854775808):aJ E 45 [v] h (fun r h'=>(∃ rt us T,r = slc rt 0 10 10∧TB h' rt us T)∧aA h h'):=by
 obtain ⟨av,cv,rfl⟩:=hv.known;refine enter45 (by simp) ?_;conv=>whnf
 refine aC.cut (α:=Unit) (fun _=>[(0,.slice av l.length cv)]) (fun _ H=>h = H) ?_ ?_
 ·conv=>whnf
  exact ⟨(),⟨rfl,trivial⟩,rfl,rfl⟩
 rintro _ φ1 _ rfl;conv=>whnf
 refine aC.cut (α:=Unit) (fun _=>[(3,aN),(0,.slice av l.length cv)]) (fun _ H=>h = H) ?_ ?_
 ·conv=>whnf
  exact ⟨(),⟨rfl,rfl,trivial⟩,rfl,rfl⟩
 rintro _ φ2 _ rfl;conv=>whnf
 refine aC.cut (α:=Nat×Hp) (fun q=>[(3,slc q.1 0 10 10)]) (fun q H=>q.2 = H∧aA h q.2∧∃ us T,TB q.2 q.1 us T) ?_ ?_;rotate_left
 ·rintro ⟨rt,H⟩ φ3 _ ⟨rfl,gH,us,T,tb⟩;dsimp only at gH tb ⊢;conv=>whnf
  repeat (refine aC.go ?_; conv=>whnf)
  exact ⟨⟨rt,us,T,rfl,tb⟩,gH⟩
 conv=>whnf
 repeat (refine aC.go ?_; conv=>whnf)
 refine bT (α:=Nat×Value×List Value×List (List Int)×Hp) (fun q=>[(4,int q.1),(3,q.2.1),(0,.slice av l.length cv)]) (fun q=>q.2.2.2.2) (fun q=>q.1≤10∧TZ h q.2.2.2.2 q.2.1 q.2.2.1 q.2.2.2.1 [aN]∧q.2.2.2.1.length = q.1∧∀ l ∈ q.2.2.2.1,l.length = 10∧∀ x ∈ l,0≤x∧x≤9) (fun q=>10 - q.1) (0,aN,[],[],h) ⟨by omega,TZ.start h,rfl,fun l hl=>by simp at hl⟩ ⟨rfl,rfl,rfl,trivial⟩ (Hp.Le.refl _) ?_;rintro ⟨a,nv,us,T,G⟩ φ3 ⟨ha,tz,hTl,hT⟩;dsimp only at ha tz hTl hT ⊢;have hws:=tz.n.slice;obtain ⟨an,en,-⟩:=hws;subst en;conv=>whnf
 repeat (refine aC.go ?_; conv=>whnf)
 refine dJ (fun q1=>?_) (fun q1=>?_);rotate_left
 ·have:a = 10:=by omega
  have htb:=tz.tb (by omega) hT;obtain ⟨rt,ert,tb⟩:=htb;rw [ert];conv=>whnf
  repeat (refine aC.go ?_; conv=>whnf)
  exact ⟨(rt,G),⟨rfl,trivial⟩,⟨rfl,tz.gr,us,T,tb⟩,rfl⟩
 conv=>whnf
 refine aC.go ?_;conv=>whnf
 refine aC.cut (α:=Unit) (fun q=>[(5,aN),(4,int a),(3,.slice an us.length us.length),(0,.slice av l.length cv)]) (fun q H=>G = H) ?_ ?_
 ·conv=>whnf
  exact ⟨(),⟨rfl,rfl,rfl,rfl,trivial⟩,rfl,rfl⟩
 rintro _ φ4 _ rfl;conv=>whnf
 refine aC.cut (α:=Value×List Int×Hp) (fun q=>[(5,q.1),(4,int a),(3,.slice an us.length us.length),(0,.slice av l.length cv)]) (fun q H=>q.2.2 = H∧TZ h q.2.2 (.slice an us.length us.length) us T [q.1]∧bD h q.2.2 3 1 q.1 q.2.1.length (q.2.1.map int)∧q.2.1.length = 10∧∀ x ∈ q.2.1,0≤x∧x≤9) ?_ ?_
 ·conv=>whnf
  repeat (refine aC.go ?_; conv=>whnf)
  refine bT (α:=Nat×Value×List Int×Hp) (fun q=>[(6,int q.1),(5,q.2.1),(4,int a),(3,.slice an us.length us.length),(0,.slice av l.length cv)]) (fun q=>q.2.2.2) (fun q=>q.1≤10∧TZ h q.2.2.2 (.slice an us.length us.length) us T [q.2.1]∧bD h q.2.2.2 3 1 q.2.1 q.2.2.1.length (q.2.2.1.map int)∧q.2.2.1.length = q.1∧∀ x ∈ q.2.2.1,0≤x∧x≤9) (fun q=>10 - q.1) (0,aN,[],G) ⟨by omega,tz,bD.nil,rfl,fun x hx=>by simp at hx⟩ ⟨rfl,rfl,rfl,rfl,rfl,trivial⟩ (Hp.Le.refl _) ?_;clear tz;rintro ⟨b,w,ds,G⟩ φ5 ⟨hb,tz,hw,hdl,hds⟩;dsimp only at hb tz hw hdl hds ⊢;have hws:=hw.slice;obtain ⟨aw,ew,-⟩:=hws;subst ew;conv=>whnf
  repeat (refine aC.go ?_; conv=>whnf)
  refine dJ (fun q2=>?_) (fun q2=>?_);rotate_left
  ·conv=>whnf
   repeat (refine aC.go ?_; conv=>whnf)
   exact ⟨(_,ds,G),⟨rfl,rfl,rfl,rfl,trivial⟩,⟨rfl,tz,hw,by dsimp only; omega,hds⟩,rfl⟩
  have hvG:=hv.ext tz.gr;conv=>whnf
  refine aC.go ?_;conv=>whnf
  refine aC.cut (α:=Unit) (fun q=>[(7,int a),(6,int b),(5,.slice aw ds.length ds.length),(4,int a),(3,.slice an us.length us.length),(0,.slice av l.length cv)]) (fun q H=>G = H) ?_ ?_
  ·conv=>whnf
   exact ⟨(),⟨rfl,rfl,rfl,rfl,rfl,rfl,trivial⟩,rfl,rfl⟩
  rintro _ φ6 _ rfl;conv=>whnf
  refine aC.cut (α:=Int) (fun q=>[(7,int q),(6,int b),(5,.slice aw ds.length ds.length),(4,int a),(3,.slice an us.length us.length),(0,.slice av l.length cv)]) (fun q H=>G = H∧0≤q∧q≤9) ?_ ?_
  ·conv=>whnf
   refine aC.go ?_;conv=>whnf
   refine dJ (fun q3=>?_) (fun q3=>?_);rotate_left
   ·conv=>whnf
    repeat (refine aC.go ?_; conv=>whnf)
    exact ⟨(a:Int),⟨rfl,rfl,rfl,rfl,rfl,rfl,trivial⟩,⟨rfl,by omega,by omega⟩,rfl⟩
   have em:=rG (3 * a + b) l.length;have hml:=Nat.mod_lt (3 * a + b) (show l.length > 0 by omega);have Ro:∃ k,(3 * a + b) % l.length = k:=⟨_,rfl⟩;obtain ⟨k,ek⟩:=Ro;rw [ek] at em hml;have hcA:=View.iI hvG (i:=k) hml;obtain ⟨r1,o1,sp1,ea1,hsp1,-,d3⟩:=hcA;subst ea1;have hux:=QU (gl l k);obtain ⟨u,u0,u1,hu⟩:=hux;have e1:=L9 u0 (show (0:Int) < 10 by omega);have XY:∃ z:Int,u.tmod 10 = z:=⟨_,rfl⟩;obtain ⟨z,ez⟩:=XY;conv=>whnf
   repeat (refine aC.go ?_; conv=>whnf)
   refine ⟨((3 * a:Nat):Int),wie (by omega) (by omega),?_⟩;conv=>whnf
   refine ⟨((3 * a + b:Nat):Int),wie (by omega) (by omega),?_⟩;conv=>whnf
   refine ⟨by omega,?_⟩;conv=>whnf
   rw [em];refine ⟨hsp1,⟨by omega,by omega⟩,?_⟩;conv=>whnf
   refine ⟨_,d3,?_⟩;conv=>whnf
   refine ⟨u,hu,?_⟩;conv=>whnf
   refine ⟨by omega,?_⟩;conv=>whnf
   refine ⟨z,wie ez (by omega),?_⟩;conv=>whnf
   exact ⟨z,⟨rfl,rfl,rfl,rfl,rfl,rfl,trivial⟩,⟨rfl,by omega,by omega⟩,rfl⟩
  rintro z φ7 _ ⟨rfl,hz0,hz9⟩;conv=>whnf
  refine tz.Kh (i:=0) rfl hw (by omega) ?_;intro w' G2 hw' hb2 tz2;obtain ⟨a9,n9,rfl⟩:=hw';conv=>whnf
  repeat (refine aC.go ?_; conv=>whnf)
  refine ⟨((b + 1:Nat):Int),wie (by omega) (by omega),?_⟩;conv=>whnf
  exact Rnd.mk (b + 1,_,ds ++ [z],G2) ⟨by dsimp only; omega,tz2,hb2,by simp [hdl],fun x hx=>by
   rcases List.mem_append.1 hx with hx | hx
   ·exact hds x hx
   ·rw [List.mem_singleton.1 hx]; omega⟩ (by dsimp only; omega) ⟨rfl,rfl,rfl,rfl,rfl,trivial⟩ (Hp.Le.refl _) rfl
 clear tz;rintro ⟨w,ds,G⟩ φ5 _ ⟨rfl,tz,hw,hdl,hds⟩;dsimp only at tz hw hdl hds ⊢;have hws:=hw.slice;obtain ⟨aw,ew,-⟩:=hws;subst ew;conv=>whnf
 refine tz.yT (i:=0) (by omega) rfl hw.b ?_;intro nv' G2 Q8 tz2;obtain ⟨a9,n9,rfl⟩:=Q8;conv=>whnf
 repeat (refine aC.go ?_; conv=>whnf)
 refine ⟨((a + 1:Nat):Int),wie (by omega) (by omega),?_⟩;conv=>whnf
 exact Rnd.mk (a + 1,_,_,T ++ [ds],G2) ⟨by dsimp only; omega,tz2,by simp [hTl],fun l hl=>by
  rcases List.mem_append.1 hl with hl | hl
  ·exact hT l hl
  ·rw [List.mem_singleton.1 hl]; exact ⟨hdl,hds⟩⟩ (by dsimp only; omega) ⟨rfl,rfl,rfl,trivial⟩ (Hp.Le.refl _) rfl
end
end Go.Proofs.Ytedneplaibmppaa
