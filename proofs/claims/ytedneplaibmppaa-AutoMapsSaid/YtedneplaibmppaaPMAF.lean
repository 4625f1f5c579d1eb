/- Contracts of the functions that PMAH comes to. -/
import Derived.Test.YtedneplaibmppaaPMAE
set_option maxRecDepth 100000
set_option maxHeartbeats 2000000
set_option linter.unusedVariables false
set_option linter.unusedSectionVars false
set_option linter.unusedSimpArgs false
namespace Go.Proofs.Ytedneplaibmppaa
open Go.Rx Go.RowKit
structure OkB (m:Mac):Prop where
 ok:m.Ok
 outs:∀ x ∈ m.out,0≤x∧x≤9
 b:m.base≤100
 n:m.out.length≤10000
theorem OkB.o {m:Mac}(h:OkB m){s:Nat}(hs:s < m.out.length):0≤m.o s∧m.o s≤9:=fC (P:=fun x=>0≤x∧x≤9) h.outs hs
theorem Yr {a b:Nat}(ha:a < 65536)(hb:b < 65536)(h:tx a = tx b):a = b:=by
 unfold tx at h;simp only [List.cons.injEq,and_true] at h;have h1:=congrArg UInt8.toNat h.1;have h2:=congrArg UInt8.toNat h.2;rw [UInt8.toNat_ofNat',UInt8.toNat_ofNat'] at h1 h2;omega
def kbN (m:Mac)(c:List Int)(i d:Nat):List UInt8:=tx (m.o i).toNat ++ tx (gl c i).toNat ++ ((List.range d).map fun e=>tx (gl c (m.nx i e)).toNat).flatten
def splitK (m:Mac)(c:List Int):List (List UInt8):=(List.range m.out.length).map fun i=>kbN m c i m.base
theorem RU (m:Mac)(c:List Int):(splitK m c).length = m.out.length:=by unfold splitK; rw [List.length_map,List.length_range]
theorem RV {m:Mac}{c:List Int}{i:Nat}(h:i < m.out.length):(splitK m c)[i]? = some (kbN m c i m.base):=by
 unfold splitK; rw [List.getElem?_map,List.getElem?_range h]; rfl
theorem Dw (m:Mac)(c:List Int)(i d:Nat):kbN m c i (d + 1) = kbN m c i d ++ tx (gl c (m.nx i d)).toNat:=by
 unfold kbN;rw [List.range_succ,List.map_append,List.flatten_append,List.append_assoc,List.append_assoc,List.append_assoc];simp
theorem FU (m:Mac)(c:List Int)(i:Nat):∀ d,(kbN m c i d).length = 6 + 3 * d
 | 0=>rfl
 | d + 1=>by rw [Dw,List.length_append,FU m c i d]; show 6 + 3 * d + 3 = _; omega
theorem ZY (a b:List UInt8):((⟨⟨a⟩⟩:ByteArray) ++ ⟨⟨b⟩⟩) = ⟨⟨a ++ b⟩⟩:=by
 apply ByteArray.ext;simp
theorem Yt {a b:Nat}{u v:List UInt8}(hl:u.length = v.length)(ha:a < 65536)(hb:b < 65536):u ++ tx a = v ++ tx b↔u = v∧a = b:=by
 constructor
 ·intro h;have:=List.append_inj h hl;exact ⟨this.1,Yr ha hb this.2⟩
 ·rintro ⟨rfl,rfl⟩; rfl
theorem toNat_eq {x y:Int}(hx:0≤x)(hy:0≤y):x.toNat = y.toNat↔x = y:=by omega
theorem Yu {m:Mac}{c:List Int}(hm:OkB m)(hc:c.length = m.out.length)(hcb:∀ x ∈ c,0≤x∧x < 65536){s t:Nat}(hs:s < m.out.length)(ht:t < m.out.length):∀ d,d≤m.base→(kbN m c s d = kbN m c t d↔m.o s = m.o t∧gl c s = gl c t∧∀ e,e < d→gl c (m.nx s e) = gl c (m.nx t e))
 | 0,_=>by
  have h1:=hm.o hs;have h2:=hm.o ht;have h3:=fC (P:=fun x=>0≤x∧x < 65536) hcb (j:=s) (by omega);have h4:=fC (P:=fun x=>0≤x∧x < 65536) hcb (j:=t) (by omega);have e:∀ i,kbN m c i 0 = tx (m.o i).toNat ++ tx (gl c i).toNat:=fun i=>by unfold kbN; simp
  rw [e,e,Yt (u:=tx (m.o s).toNat) (v:=tx (m.o t).toNat) rfl (by omega) (by omega),toNat_eq h3.1 h4.1];constructor
  ·rintro ⟨a,b⟩;have:=Yr (by omega) (by omega) a;exact ⟨by omega,b,fun e he=>absurd he (Nat.not_lt_zero _)⟩
  ·rintro ⟨a,b,_⟩;rw [a]; exact ⟨rfl,b⟩
 | d + 1,hd=>by
  have h1:=hm.ok.lt s d hs (by omega);have h2:=hm.ok.lt t d ht (by omega);have h3:=fC (P:=fun x=>0≤x∧x < 65536) hcb (j:=m.nx s d) (by omega);have h4:=fC (P:=fun x=>0≤x∧x < 65536) hcb (j:=m.nx t d) (by omega);rw [Dw,Dw,Yt (by rw [FU,FU]) (by omega) (by omega),Yu hm hc hcb hs ht d (by omega),toNat_eq h3.1 h4.1];constructor
  ·rintro ⟨⟨a,b,q⟩,e⟩;refine ⟨a,b,fun x hx=>?_⟩;by_cases hxd:x = d
   ·rw [hxd]; exact e
   ·exact q x (by omega)
  ·rintro ⟨a,b,q⟩;exact ⟨⟨a,b,fun x hx=>q x (by omega)⟩,q d (by omega)⟩
theorem Kr {m:Mac}{c:List Int}(hm:OkB m)(hc:c.length = m.out.length)(hcb:∀ x ∈ c,0≤x∧x < 65536)(href:∀ s t,s < m.out.length→t < m.out.length→gl c s = gl c t→m.o s = m.o t):num (splitK m c) = m.ref c∧many (splitK m c) = m.cnt c:=by
 have h:=Eh (zs:=(List.range m.out.length).map fun s=>(kbN m c s m.base,m.key c s)) (fun x hx y hy=>by
  obtain ⟨s,hs,rfl⟩:=List.mem_map.1 hx;obtain ⟨t,ht,rfl⟩:=List.mem_map.1 hy;have hs:=List.mem_range.1 hs;have ht:=List.mem_range.1 ht;dsimp only;rw [Yu hm hc hcb hs ht m.base (Nat.le_refl _),Mac.key_eq];constructor
  ·rintro ⟨_,b,q⟩;exact ⟨b,q⟩
  ·rintro ⟨b,q⟩;exact ⟨href s t hs ht b,b,q⟩)
 rw [List.map_map,List.map_map] at h;exact h
theorem foldl_max:∀ (l:List Int) (a:Int),a≤l.foldl max a∧(∀ x ∈ l,x≤l.foldl max a)∧∀ B,a≤B→(∀ x ∈ l,x≤B)→l.foldl max a≤B
 | [],a=>⟨Int.le_refl _,by simp,fun B h _=>h⟩
 | y :: l,a=>by
  have ih:=foldl_max l (max a y);refine ⟨by show a≤l.foldl max (max a y); omega,fun x hx=>?_,fun B h1 h2=>?_⟩
  ·show x≤l.foldl max (max a y);rcases List.mem_cons.1 hx with rfl | hx
   ·omega
   ·exact ih.2.1 x hx
  ·show l.foldl max (max a y)≤B;exact ih.2.2 B (by have:=h2 y (by simp); omega) fun x hx=>h2 x (by simp [hx])
theorem TJ {κ:Type}[DecidableEq κ]{ks:List κ}(h:ks≠[]):(num ks).foldl max 0 + 1 = (many ks:Nat):=by
 have hp:=OP h;have hall:∀ x ∈ num ks,x≤(many ks:Int) - 1:=fun x hx=>by
  unfold num at hx;obtain ⟨k,hk,rfl⟩:=List.mem_map.1 hx;have:(notes [] ks).idxOf k < (notes [] ks).length:=List.idxOf_lt_length_of_mem (fZ hk);unfold many;omega
 have hlast:∃ x ∈ num ks,x = (many ks:Int) - 1:=by
  have hl:many ks - 1 < (notes [] ks).length:=by unfold many at hp ⊢; omega
  have hg:=List.getElem?_eq_getElem hl;have hin:(notes [] ks)[many ks - 1] ∈ ks:=by
   rcases j3 (List.getElem_mem hl) with h | h
   ·simp at h
   ·exact h
  refine ⟨_,List.mem_map.2 ⟨_,hin,rfl⟩,?_⟩;rw [U4 (jc List.nodup_nil) hg];omega
 obtain ⟨x,hx,ex⟩:=hlast;have h3:=foldl_max (num ks) 0;have h4:=h3.2.1 x hx;have h5:=h3.2.2 ((many ks:Int) - 1) (by omega) hall;omega
theorem abB {κ:Type}[DecidableEq κ](ks:List κ):∀ x ∈ num ks,0≤x∧x < (many ks:Nat):=fun x hx=>by
 unfold num at hx;obtain ⟨k,hk,rfl⟩:=List.mem_map.1 hx;have:(notes [] ks).idxOf k < (notes [] ks).length:=List.idxOf_lt_length_of_mem (fZ hk);unfold many;omega
theorem Yv {m:Mac}(c:List Int)(hn:m.out.length≤10000):∀ x ∈ m.ref c,0≤x∧x < 65536:=fun x hx=>by
 have h1:=abB (m.keys c) x hx;have h2:many (m.keys c)≤m.out.length:=Mac.Mh m c;omega
end Go.Proofs.Ytedneplaibmppaa
namespace Go.Proofs.Ytedneplaibmppaa
open Go.Rx Go.RowKit
theorem PK (a b:List UInt8)(h:a.length + b.length≤1000):UK .add (.string ⟨⟨a⟩⟩) (.string ⟨⟨b⟩⟩) = some (.string ⟨⟨a ++ b⟩⟩):=by
 unfold UK;dsimp only;rw [if_pos (by show a.length + b.length≤_; omega),ZY]
theorem RX (n:Nat):(tx n).length = 3:=rfl
attribute [local irreducible] E iJ cellAt bJ storeAt callable dh dG dO findKey dZ bP Hp.at Hp.set Hp.lay dL cO setAt aJ dx bO dz Rnd gq fB gY Int.tmod Int.tdiv Int.fdiv
section
variable [bC]
attribute [local irreducible] kV sameAt
theorem IY (v w:Value)(m:Mac)(c:List Int)(h:Hp)(hv:MV h v m.i)(hw:View h w c)(hm:OkB m)(hc:c.length = m.out.length)(hcb:∀ x ∈ c,0≤x∧x < 65536):aJ E 81 [v,w] h (fun r h'=>Built h h' 3 r (num (splitK m c))∧aA h h'):=by
 obtain ⟨bx,rfl,hbx⟩:=hv.box;obtain ⟨ao,an,co,cn,hcx⟩:=hbx.cx;obtain ⟨aw,cw,rfl⟩:=hw.known;obtain ⟨i3,t3,-,z3⟩:=ty3;obtain ⟨aeX,Yw,Yx⟩:=acg;have ze:=hm.n;have hb5:=hm.b;have hil:=hm.ok.vC;have hks:=RU m c;refine enter81 (by simp) ?_;conv=>whnf
 refine aC.cut (α:=Hp) (fun _=>[(2,ptr h.next 0),(1,.slice aw c.length cw)]) (fun x H=>x = H∧aA h H∧H.at h.next = some (.row 26 true bx)) ?_ ?_
 ·conv=>whnf
  exact ⟨_,⟨rfl,rfl,trivial⟩,⟨rfl,aA.lay _ _,Hp.ak _ _⟩,rfl⟩
 rintro H φ1 _ ⟨rfl,gH,aX⟩;conv=>whnf
 refine aC.cut (α:=Hp) (fun _=>[(5,bL H.next),(2,ptr h.next 0),(1,.slice aw c.length cw)]) (fun x H2=>x = H2∧aA h H2∧H2.at h.next = some (.row 26 true bx)∧dS H2 H.next encS ([]:List (List UInt8))∧H2.next = H.next + 1) ?_ ?_
 ·conv=>whnf
  exact ⟨_,⟨rfl,rfl,rfl,trivial⟩,⟨rfl,gH.bH _,Hp.bg _ aX,dS.nil _,Hp.bF _ _⟩,rfl⟩
 rintro H2 φ2 _ ⟨rfl,g2,aX2,hM2,nM⟩;have rP:=gH.next;have acP:=Hp.aU aX;have X9:∃ M,H.next = M:=⟨_,rfl⟩;obtain ⟨M,eM⟩:=X9;rw [eM] at hM2 nM rP acP ⊢;have Rn:∃ ks,splitK m c = ks:=⟨_,rfl⟩;obtain ⟨ks,eks⟩:=Rn;rw [eks] at hks ⊢;have hnl:(num ks).length = m.out.length:=by rw [qC,hks]
 conv=>whnf
 refine aC.go ?_;conv=>whnf
 refine aC.cut (α:=Value×Hp) (fun q=>[(6,q.1)]) (fun q H3=>q.2 = H3∧aA h q.2∧Built (EX (M + 1)) q.2 3 q.1 (num ks)) ?_ ?_;rotate_left
 ·rintro ⟨u,H3⟩ φ3 _ ⟨rfl,g3,hu⟩;dsimp only at g3 hu ⊢;have hus:=hu.c.slice;obtain ⟨au,rfl,-⟩:=hus;conv=>whnf
  repeat (refine aC.go ?_; conv=>whnf)
  exact ⟨hu.back (by show h.next≤M + 1; omega),g3⟩
 conv=>whnf
 repeat (refine aC.go ?_; conv=>whnf)
 refine bT (α:=Nat×Value×Hp) (fun q=>[(7,int q.1),(6,q.2.1),(5,bL M),(2,ptr h.next 0),(1,.slice aw c.length cw)]) (fun q=>q.2.2) (fun q=>q.1≤m.out.length∧aA h q.2.2∧q.2.2.at h.next = some (.row 26 true bx)∧dS q.2.2 M encS (notes [] (ks.take q.1))∧Built (EX (M + 1)) q.2.2 3 q.2.1 ((num ks).take q.1)∧M + 1≤q.2.2.next) (fun q=>m.out.length - q.1) (0,aN,H2) ⟨Nat.zero_le _,g2,aX2,hM2,.inl ⟨rfl,rfl⟩,by show M + 1≤H2.next; omega⟩ ⟨rfl,rfl,rfl,rfl,rfl,trivial⟩ (Hp.Le.refl _) ?_;rintro ⟨i,u,H3⟩ φ3 ⟨hi,g3,aX3,hM3,hu3,hMn⟩;dsimp only at hi g3 aX3 hM3 hu3 hMn ⊢;have k3:=hcx H3 h.next 26 g3 aX3;have e1:cellAt H3 h.next 1 = some (.slice ao m.out.length co):=k3.c1;conv=>whnf
 repeat (refine aC.go ?_; conv=>whnf)
 refine ⟨_,e1,?_⟩;conv=>whnf
 refine dJ (fun q1=>?_) (fun q1=>?_);rotate_left
 ·have:i = m.out.length:=by omega
  subst this;conv=>whnf
  repeat (refine aC.go ?_; conv=>whnf)
  refine ⟨(u,H3),⟨rfl,trivial⟩,⟨rfl,g3,?_⟩,rfl⟩;rw [List.take_of_length_le (by omega)] at hu3;exact hu3
 have hi':i < m.out.length:=by omega
 have hso:=hm.o hi';have XY:∃ z:Nat,m.o i = z:=⟨(m.o i).toNat,by omega⟩;obtain ⟨z,ez⟩:=XY;have ho:=k3.qD hi';rw [ez] at ho hso;obtain ⟨r1,o1,sp1,ea,hsp1,hc1⟩:=ho;subst ea;have hcl:=View.iI (hw.ext g3) (i:=i) (by omega);obtain ⟨r2,o2,sp2,ea,hsp2,-,hc2⟩:=hcl;subst ea;have hci:=fC (P:=fun x=>0≤x∧x < 65536) hcb (j:=i) (by omega);have ad9:∃ y:Nat,gl c i = y:=⟨(gl c i).toNat,by omega⟩;obtain ⟨y,ey⟩:=ad9;rw [ey] at hc2 hci;have ek0:kbN m c i 0 = tx z ++ tx y:=by
  unfold kbN;rw [ez,ey,Int.toNat_natCast,Int.toNat_natCast];simp
 conv=>whnf
 refine aC.go ?_;conv=>whnf
 refine aC.cut (α:=Hp) (fun q=>[(8,.string ⟨⟨kbN m c i 0⟩⟩),(7,int i),(6,u),(5,bL M),(2,ptr h.next 0),(1,.slice (some ⟨r2,o2,sp2⟩) c.length cw)]) (fun q H4=>q = H4∧aA H3 H4) ?_ ?_
 ·conv=>whnf
  refine ⟨_,e1,?_⟩;conv=>whnf
  refine ⟨hsp1,⟨by omega,by omega⟩,?_⟩;conv=>whnf
  refine ⟨_,hc1,?_⟩;conv=>whnf
  refine aJ.mono (Eu z _ (by omega)) ?_;rintro r H4 ⟨rfl,g4⟩;have e1a:=g4.cell e1;have abC:=g4.cell hc1;have Z0:=g4.cell hc2;conv=>whnf
  refine ⟨hsp2,⟨by omega,by omega⟩,?_⟩;conv=>whnf
  refine ⟨_,Z0,?_⟩;conv=>whnf
  refine aJ.mono (Eu y _ (by omega)) ?_;rintro r H5 ⟨rfl,g5⟩;have e1b:=g5.cell e1a;have acQ:=g5.cell abC;have acR:=g5.cell Z0;conv=>whnf
  refine ⟨_,PK (tx z) (tx y) (by rw [RX,RX]; omega),?_⟩;conv=>whnf
  refine ⟨?_,?_⟩
  ·repeat' (first | exact True.intro | (refine And.intro ?_ ?_ <;> (conv=>whnf)))
   all_goals first
    | exact aj (h2:=_) rfl (aM _)
    | exact aj (h2:=_) rfl (bS _ _)
    | exact aj (h2:=_) rfl (aD _ _ _)
    | exact aj (h2:=_) rfl (ji _ _)
    | exact aj (h2:=_) (congrArg (hval _) e1) (aM _)
    | exact aj (h2:=_) (congrArg (hval _) e1) (aD _ _ _)
    | exact aj (h2:=_) (congrArg (hval _) e1a) (aM _)
    | exact aj (h2:=_) (congrArg (hval _) e1a) (aD _ _ _)
    | exact aj (h2:=_) (congrArg (hval _) e1b) (aM _)
    | exact aj (h2:=_) (congrArg (hval _) e1b) (aD _ _ _)
    | exact aj (h2:=_) (congrArg (hval _) hc1) (aM _)
    | exact aj (h2:=_) (congrArg (hval _) hc1) (aD _ _ _)
    | exact aj (h2:=_) (congrArg (hval _) abC) (aM _)
    | exact aj (h2:=_) (congrArg (hval _) abC) (aD _ _ _)
    | exact aj (h2:=_) (congrArg (hval _) acQ) (aM _)
    | exact aj (h2:=_) (congrArg (hval _) acQ) (aD _ _ _)
    | exact aj (h2:=_) (congrArg (hval _) hc2) (aM _)
    | exact aj (h2:=_) (congrArg (hval _) hc2) (aD _ _ _)
    | exact aj (h2:=_) (congrArg (hval _) Z0) (aM _)
    | exact aj (h2:=_) (congrArg (hval _) Z0) (aD _ _ _)
    | exact aj (h2:=_) (congrArg (hval _) acR) (aM _)
    | exact aj (h2:=_) (congrArg (hval _) acR) (aD _ _ _)
    | exact aj (h2:=_) (show hval _ (kI 1 (.slice (some ⟨_,_,_⟩) _ _) (int _)) = _ from fH hsp1 ⟨by omega,by omega⟩) (bS _ _)
    | exact aj (h2:=_) (show hval _ (kI 1 (.slice (some ⟨_,_,_⟩) _ _) (int _)) = _ from fH hsp2 ⟨by omega,by omega⟩) (bS _ _)
    | exact ⟨_,rfl,Hp.ak _ _,rfl⟩
  rw [ek0];exact ⟨H5,⟨rfl,rfl,rfl,rfl,rfl,rfl,trivial⟩,⟨rfl,g4.trans g5⟩,rfl⟩
 rintro H4 φ4 _ ⟨rfl,g4⟩;have g3:=g3.trans g4;have aX4:=g4.at_ _ _ aX3;have hM4:=hM3.ext g4;have hu4:=hu3.ext g4;have aeY:=g4.next;clear aX3 hM3 hu3 g4;conv=>whnf
 refine aC.cut (α:=Hp) (fun q=>[(8,.string ⟨⟨kbN m c i m.base⟩⟩),(7,int i),(6,u),(5,bL M),(2,ptr h.next 0),(1,.slice (some ⟨r2,o2,sp2⟩) c.length cw)]) (fun q H5=>q = H5∧aA H4 H5) ?_ ?_
 ·conv=>whnf
  repeat (refine aC.go ?_; conv=>whnf)
  refine bT (α:=Nat×Hp) (fun q=>[(9,int q.1),(8,.string ⟨⟨kbN m c i q.1⟩⟩),(7,int i),(6,u),(5,bL M),(2,ptr h.next 0),(1,.slice (some ⟨r2,o2,sp2⟩) c.length cw)]) (fun q=>q.2) (fun q=>q.1≤m.base∧aA H4 q.2) (fun q=>m.base - q.1) (0,H4) ⟨Nat.zero_le _,.refl _⟩ ⟨rfl,rfl,rfl,rfl,rfl,rfl,rfl,trivial⟩ (Hp.Le.refl _) ?_;rintro ⟨d,G⟩ φ5 ⟨hd,gG⟩;dsimp only at hd gG ⊢;have kG:=hcx G h.next 26 (g3.trans gG) (gG.at_ _ _ aX4);have f0:cellAt G h.next 0 = some (int (m.base:Int)):=kG.c0;have f2:=kG.c2;conv=>whnf
  repeat (refine aC.go ?_; conv=>whnf)
  refine ⟨_,f0,?_⟩;conv=>whnf
  refine dJ (fun q2=>?_) (fun q2=>?_);rotate_left
  ·have:d = m.base:=by omega
   subst this;conv=>whnf
   repeat (refine aC.go ?_; conv=>whnf)
   exact ⟨G,⟨rfl,rfl,rfl,rfl,rfl,rfl,trivial⟩,⟨rfl,gG⟩,rfl⟩
  have hd':d < m.base:=by omega
  have hnx:=kG.kR hm.ok hi' hd';obtain ⟨r5,o5,sp5,r6,o6,sp6,c6',ea,Fh,hc5,ZN,hc6⟩:=hnx;subst ea;have aeZ:=hm.ok.lt i d hi' hd';have hcl:=View.iI (hw.ext (g3.trans gG)) (i:=m.nx i d) (by omega);obtain ⟨r7,o7,sp7,ea,acS,-,hc7⟩:=hcl;injection ea with ea;injection ea with ea1 ea2 ea3;subst ea1;subst ea2;subst ea3;have hcj:=fC (P:=fun x=>0≤x∧x < 65536) hcb (j:=m.nx i d) (by omega);have Yd:∃ x:Nat,gl c (m.nx i d) = x:=⟨(gl c (m.nx i d)).toNat,by omega⟩;obtain ⟨x,ex⟩:=Yd;rw [ex] at hc7 hcj;have hkl:=FU m c i d;have acT:kbN m c i (d + 1) = kbN m c i d ++ tx x:=by rw [Dw,ex,Int.toNat_natCast]
  conv=>whnf
  repeat (refine aC.go ?_; conv=>whnf)
  refine ⟨_,f2,?_⟩;conv=>whnf
  refine ⟨Fh,⟨by omega,by omega⟩,?_⟩;conv=>whnf
  refine ⟨_,hc5,?_⟩;conv=>whnf
  refine ⟨ZN,⟨by omega,by omega⟩,?_⟩;conv=>whnf
  refine ⟨_,hc6,?_⟩;conv=>whnf
  refine ⟨hsp2,⟨by omega,by omega⟩,?_⟩;conv=>whnf
  refine ⟨_,hc7,?_⟩;conv=>whnf
  refine aJ.mono (Eu x _ (by omega)) ?_;rintro r G2 ⟨rfl,g2'⟩;conv=>whnf
  refine ⟨_,PK (kbN m c i d) (tx x) (by rw [RX]; omega),?_⟩;conv=>whnf
  repeat (refine aC.go ?_; conv=>whnf)
  refine ⟨((d + 1:Nat):Int),wie (by omega) (by omega),?_⟩;conv=>whnf
  exact Rnd.mk (d + 1,G2) ⟨by show d + 1≤m.base; omega,gG.trans g2'⟩ (by show m.base - (d + 1) < m.base - d; omega) ⟨rfl,congrArg (fun l=>Value.string ⟨⟨l⟩⟩) acT.symm,rfl,rfl,rfl,rfl,rfl,trivial⟩ (Hp.Le.refl _) rfl
 rintro H5 φ5 _ ⟨rfl,g5⟩;have g3:=g3.trans g5;have aX5:=g5.at_ _ _ aX4;have hM5:=hM4.ext g5;have hu5:=hu4.ext g5;have aea:=g5.next;clear aX4 hM4 hu4 g5;have hkk:ks[i]? = some (kbN m c i m.base):=by rw [← eks]; exact RV hi'
 have Ro:∃ kk,kbN m c i m.base = kk:=⟨_,rfl⟩;obtain ⟨kk,ekk⟩:=Ro;rw [ekk] at hkk ⊢;have htk:notes [] (ks.take (i + 1)) = note (notes [] (ks.take i)) kk:=by rw [gK hkk,iF]
 have hgn:=X8 hkk;have rO:∃ L,notes [] (ks.take i) = L:=⟨_,rfl⟩;obtain ⟨L,eL⟩:=rO;rw [eL] at hM5 htk;have hMu:∀ (H':Hp),Keeps M H5 H'→Built (EX (M + 1)) H' 3 u ((num ks).take i):=fun H' y=>oK hu5 fun r o hr ho=>y.at_ _ _ (by have:=(hu5.iU r hr).1; show r≠M; have:M + 1≤r:=this; omega) ho;conv=>whnf
 refine aC.cut (α:=Hp) (fun q=>[(8,.string ⟨⟨kk⟩⟩),(7,int i),(6,u),(5,bL M),(2,ptr h.next 0),(1,.slice (some ⟨r2,o2,sp2⟩) c.length cw)]) (fun q H6=>q = H6∧aA h H6∧H6.at h.next = some (.row 26 true bx)∧dS H6 M encS (note L kk)∧Built (EX (M + 1)) H6 3 u ((num ks).take i)∧M + 1≤H6.next) ?_ ?_
 ·by_cases hin:kk ∈ L
  ·have jF:note L kk = L:=by unfold note; rw [if_pos hin]
   rw [jF];conv=>whnf
   refine aC.go ?_;conv=>whnf
   refine gy Yw Yx t3 z3 Zu (k:=kk) rfl rfl hM5 (jP hin) ?_;conv=>whnf
   repeat (refine aC.go ?_; conv=>whnf)
   exact ⟨H5,⟨rfl,rfl,rfl,rfl,rfl,rfl,trivial⟩,⟨rfl,g3,aX5,hM5,hu5,by omega⟩,rfl⟩
  ·have jF:note L kk = L ++ [kk]:=by unfold note; rw [if_neg hin]
   rw [jF];conv=>whnf
   refine aC.go ?_;conv=>whnf
   refine gI Yw Yx t3 z3 Zu (k:=kk) rfl rfl hM5 (pz hin) ?_;conv=>whnf
   repeat (refine aC.go ?_; conv=>whnf)
   refine Bl Yw Yx rfl hM5 ?_;conv=>whnf
   refine iO Yw Yx Zu (k:=kk) (v:=int L.length) rfl rfl rfl hM5 ?_;intro H7 hM7 y7;conv=>whnf
   exact ⟨H7,⟨rfl,rfl,rfl,rfl,rfl,rfl,trivial⟩,⟨rfl,y7.grows g3 rP,y7.at_ _ _ (by omega) aX5,dS.add hin hM7,hMu H7 y7,by have:=y7.next; omega⟩,rfl⟩
 rintro H6 φ6 _ ⟨rfl,g6,aX6,hM6,hu6,aeb⟩;clear hMu hu5 hM5 aX5 aea;have abh:kk ∈ note L kk:=nN L kk;have hus:=hu6.c.slice;obtain ⟨au,eu,-⟩:=hus;subst eu;have htl:((num ks).take i).length = i:=by rw [List.length_take]; omega
 have esn:(num ks).take i ++ [gl (num ks) i] = (num ks).take (i + 1):=by
  rw [List.take_succ_eq_append_getElem (by omega),l9 (by omega)]
 have ev:fN (note L kk) kk = some (int (gl (num ks) i)):=by
  rw [jP abh,hgn,htk]; rfl
 conv=>whnf
 refine fM Yw Yx t3 z3 Zu (k:=kk) rfl rfl hM6 ev ?_;conv=>whnf
 have gl6:aA H6 (H6.lay (.row 3 true [int (gl (num ks) i)])):=aA.lay _ _;have vz:View (H6.lay (.row 3 true [int (gl (num ks) i)])) (slc H6.next 0 1 1) [gl (num ks) i]:=zi (ls:=[gl (num ks) i]) (Hp.ak _ _) rfl;refine fB.ints (hu6.ext gl6) (EY (Nat.le_trans aeb gl6.next)) vz.elems (by rw [htl]; simp; omega) ?_;intro u' H7 hb' hg' keep;rw [esn] at hb';have hne:∀ r,r≤M→∀ n' c',Value.slice au ((num ks).take i).length ((num ks).take i).length≠slc r 0 n' c':=fun r hr n' c' e=>by
  have h1:=hu6.iU r (by rw [e]; rfl);have h2:M + 1≤r:=h1.1;omega
 have hM7:dS H7 M encS (note L kk):=MapAt.Tc (fun ob hob=>keep _ _ (gl6.at_ _ _ hob) (hne M (Nat.le_refl _))) hM6;have aX7:=keep _ _ (gl6.at_ _ _ aX6) (hne h.next (by omega));have hn7:M + 1≤H7.next:=hg'.next;have g7:aA h H7:=⟨by omega,fun r o e=>keep _ _ (gl6.at_ _ _ (g6.at_ _ _ e)) (hne r (by have:=Hp.aU e; omega))⟩;have aec:=hb'.c.slice;obtain ⟨au',eu',-⟩:=aec;subst eu';conv=>whnf
 repeat (refine aC.go ?_; conv=>whnf)
 refine ⟨((i + 1:Nat):Int),wie (by omega) (by omega),?_⟩;conv=>whnf
 exact Rnd.mk (i + 1,_,H7) ⟨by show i + 1≤m.out.length; omega,g7,aX7,by show dS H7 M encS (notes [] (ks.take (i + 1))); rw [htk]; exact hM7,hb',hn7⟩ (by show m.out.length - (i + 1) < m.out.length - i; omega) ⟨rfl,rfl,rfl,rfl,rfl,trivial⟩ (Hp.Le.refl _) rfl
end
end Go.Proofs.Ytedneplaibmppaa
namespace Go.Proofs.Ytedneplaibmppaa
open Go.Rx Go.RowKit
def eD (m:Mac)(S:List Nat):List Int:=S.map m.cl
structure Rq (m:Mac) (S:List Nat) (a:Nat):Prop where
 lt:∀ s ∈ S,s < m.out.length
 bq:Bq m.rJ m.base (m.cl 0) m.cls (eD m S) a
def vM (m:Mac)(S:List Nat)(s:Nat):List Int:=(List.range m.base).map fun d=>((nT (eD m S) (m.cl (m.nx s d)):Nat):Int)
theorem Rq.start {m:Mac}(hm:m.Ok):Rq m [0] 0:=⟨fun s hs=>by rw [List.mem_singleton.1 hs]; exact hm.n1,Bq.start (Mac.rM hm) (List.mem_of_getElem? (Mac.qj hm hm.n1))⟩
def xg (m:Mac)(S:List Nat)(t:Nat):List Nat:=if m.cl t ∈ eD m S then S else S ++ [t]
theorem Ae (m:Mac)(S:List Nat)(t:Nat):eD m (xg m S t) = note (eD m S) (m.cl t):=by
 unfold xg note;by_cases h:m.cl t ∈ eD m S
 ·rw [if_pos h,if_pos h]
 ·rw [if_neg h,if_neg h];unfold eD;rw [List.map_append]; rfl
def fO (m:Mac)(S:List Nat)(s:Nat):Nat→List Nat
 | 0=>S
 | d + 1=>xg m (fO m S s d) (m.nx s d)
theorem Bt {m:Mac}(hm:m.Ok)(S:List Nat){s:Nat}(hs:s < m.out.length):∀ d,d≤m.base→eD m (fO m S s d) = notes (eD m S) (dI m.rJ (m.cl s) d)
 | 0,_=>rfl
 | d + 1,hd=>by
  show eD m (xg m (fO m S s d) (m.nx s d)) = _;rw [Ae,Bt hm S hs d (by omega),jk,iF,Mac.vB hm hs (by omega)]
theorem Kt {m:Mac}(hm:m.Ok){S:List Nat}{s:Nat}(hs:s < m.out.length)(hS:∀ x ∈ S,x < m.out.length):∀ d,d≤m.base→∀ x ∈ fO m S s d,x < m.out.length
 | 0,_=>hS
 | d + 1,hd=>fun x hx=>by
  have ih:=Kt hm hs hS d (by omega);have hx:x ∈ xg m (fO m S s d) (m.nx s d):=hx;unfold xg at hx;split at hx
  ·exact ih x hx
  ·rcases List.mem_append.1 hx with h | h
   ·exact ih x h
   ·rw [List.mem_singleton.1 h]; exact hm.lt s d hs (by omega)
theorem IZ (m:Mac)(S:List Nat)(s:Nat):∀ d,∃ r,fO m S s d = S ++ r
 | 0=>⟨[],by simp [fO]⟩
 | d + 1=>by
  obtain ⟨r,e⟩:=IZ m S s d;show ∃ r,xg m (fO m S s d) (m.nx s d) = S ++ r;unfold xg;split
  ·exact ⟨r,e⟩
  ·exact ⟨r ++ [m.nx s d],by rw [e,List.append_assoc]⟩
theorem Rq.next {m:Mac}(hm:m.Ok){S:List Nat}{a s:Nat}(k:Rq m S a)(hs:S[a]? = some s):Rq m (fO m S s m.base) (a + 1):=by
 have hsl:=k.lt s (List.mem_of_getElem? hs);refine ⟨Kt hm hsl k.lt m.base (Nat.le_refl _),?_⟩;rw [Bt hm S hsl m.base (Nat.le_refl _)];exact k.bq.next (Mac.rM hm) (s:=m.cl s) (by unfold eD; rw [List.getElem?_map,hs]; rfl)
theorem MO {m:Mac}(hm:m.Ok)(S:List Nat){s:Nat}(hs:s < m.out.length):vM m S s = rowOf m.rJ m.base (eD m S) (m.cl s):=by
 unfold vM rowOf;refine List.map_congr_left fun d hd=>?_;rw [Mac.vB hm hs (List.mem_range.1 hd)]
theorem Rq.form {m:Mac}(hm:m.Ok){S:List Nat}{a:Nat}(k:Rq m S a)(h:S.length≤a):m.form.i = ⟨m.base,S.map m.o,S.map (vM m S)⟩:=by
 have hb:=k.bq.done (by unfold eD; rw [List.length_map]; exact h);unfold Mac.form built;rw [hb];unfold yS Mac.i;dsimp only;have h1:(eD m S).map m.OT = S.map m.o:=by
  unfold eD;rw [List.map_map];exact List.map_congr_left fun s hs=>Mac.zZ hm (k.lt s hs)
 rw [h1]
 congr 1
 unfold eD;rw [List.map_map,List.map_map];refine List.map_congr_left fun s hs=>?_;rw [MO hm S (k.lt s hs)];unfold rowOf;show List.map _ (List.map _ _) = _;rw [List.map_map];rfl
end Go.Proofs.Ytedneplaibmppaa
namespace Go.Proofs.Ytedneplaibmppaa
open Go.Rx Go.RowKit
theorem Va {H:Hp}{Z M r:Nat}(hZ:Z < H.next)(hM:M < H.next)(hr:r < H.next)(h1:Z≠M)(h2:Z≠r)(h3:M≠r)(n c:Nat):Rx.Sep H [pl Z,aN,aN,pl M,slc r 0 n c] []:=by
 refine ⟨fun v hv x e=>?_,fun u hu=>by simp at hu,fun i j v u hij hi hj=>?_,fun v hv u hu=>by simp at hu⟩
 ·simp at hv;rcases hv with rfl | rfl | rfl | rfl
  ·cases e; exact hZ
  ·cases e
  ·cases e; exact hM
  ·cases e; exact hr
 ·match i,j,hi,hj with
  | 0,0,_,_=>exact absurd rfl hij
  | 3,3,_,_=>exact absurd rfl hij
  | 4,4,_,_=>exact absurd rfl hij
  | 0,3,hi,hj=>cases hi; cases hj; intro x e1 e2; cases e1; cases e2; exact h1 rfl
  | 3,0,hi,hj=>cases hi; cases hj; intro x e1 e2; cases e1; cases e2; exact h1 rfl
  | 0,4,hi,hj=>cases hi; cases hj; intro x e1 e2; cases e1; cases e2; exact h2 rfl
  | 4,0,hi,hj=>cases hi; cases hj; intro x e1 e2; cases e1; cases e2; exact h2 rfl
  | 3,4,hi,hj=>cases hi; cases hj; intro x e1 e2; cases e1; cases e2; exact h3 rfl
  | 4,3,hi,hj=>cases hi; cases hj; intro x e1 e2; cases e1; cases e2; exact h3 rfl
  | 1,_,hi,hj=>cases hi; exact Ap.nil _
  | 2,_,hi,hj=>cases hi; exact Ap.nil _
  | 0,1,hi,hj=>cases hj; exact (Ap.nil _).symm
  | 0,2,hi,hj=>cases hj; exact (Ap.nil _).symm
  | 3,1,hi,hj=>cases hj; exact (Ap.nil _).symm
  | 3,2,hi,hj=>cases hj; exact (Ap.nil _).symm
  | 4,1,hi,hj=>cases hj; exact (Ap.nil _).symm
  | 4,2,hi,hj=>cases hj; exact (Ap.nil _).symm
  | 0,j + 5,hi,hj=>simp at hj
  | 3,j + 5,hi,hj=>simp at hj
  | 4,j + 5,hi,hj=>simp at hj
  | i + 5,_,hi,_=>simp at hi
def nI (S:List Nat):List Int:=S.map fun n:Nat=>(n:Int)
theorem Yy (S:List Nat):(nI S).length = S.length:=by unfold nI; rw [List.length_map]
theorem abD {S:List Nat}{i s:Nat}(h:S[i]? = some s):gl (nI S) i = s:=by
 unfold nI gl;rw [List.getD_eq_getElem?_getD,List.getElem?_map,h]; rfl
theorem abE (S:List Nat)(t:Nat):nI (S ++ [t]) = nI S ++ [(t:Int)]:=by unfold nI; rw [List.map_append]; rfl
def nV (m:Mac)(S:List Nat)(s d:Nat):List Int:=(List.range d).map fun e=>((nT (eD m (fO m S s d)) (m.cl (m.nx s e)):Nat):Int)
theorem Ku {m:Mac}{S:List Nat}{s:Nat}:∀ d e,e < d→m.cl (m.nx s e) ∈ eD m (fO m S s d)
 | d + 1,e,he=>by
  show m.cl (m.nx s e) ∈ eD m (xg m (fO m S s d) (m.nx s d));rw [Ae];by_cases h:e = d
  ·subst h; exact nN _ _
  ·exact XO (Ku d e (by omega))
theorem Vy {m:Mac}{S:List Nat}{s d:Nat}:nV m S s (d + 1) = nV m S s d ++ [((nT (eD m (fO m S s (d + 1))) (m.cl (m.nx s d)):Nat):Int)]:=by
 unfold nV;rw [List.range_succ,List.map_append]
 congr 1
 refine List.map_congr_left fun e he=>?_;have he:=List.mem_range.1 he;have hin:=Ku (m:=m) (S:=S) (s:=s) d e he;have e1:eD m (fO m S s (d + 1)) = note (eD m (fO m S s d)) (m.cl (m.nx s d)):=Ae _ _ _;rw [e1];obtain ⟨r,er⟩:=rH (eD m (fO m S s d)) (m.cl (m.nx s d));unfold nT;rw [er,ng hin]
theorem Vz {m:Mac}(hm:m.Ok){S S':List Nat}{a:Nat}(k:Rq m S a){r:List Nat}(e:S' = S ++ r):(S.take a).map (vM m S') = (S.take a).map (vM m S):=by
 have hb:=k.bq;have hcl:eD m S' = eD m S ++ eD m r:=by rw [e]; unfold eD; rw [List.map_append]
 have hre:=oM hb.met hb.le hcl;unfold rowsOf at hre;have et:(eD m S).take a = eD m (S.take a):=by unfold eD; rw [List.map_take]
 have hle:a≤S.length:=by have:=hb.le; unfold eD at this; rw [List.length_map] at this; exact this
 have et':(eD m S').take a = eD m (S.take a):=by
  rw [hcl,List.take_append_of_le_length hb.le,et]
 rw [et,et'] at hre;unfold eD at hre;rw [List.map_map,List.map_map] at hre;refine Eq.trans (List.map_congr_left fun s hs=>?_) (Eq.trans hre (List.map_congr_left fun s hs=>?_))
 ·exact MO hm S' (k.lt s (List.mem_of_mem_take hs))
 ·exact (MO hm S (k.lt s (List.mem_of_mem_take hs))).symm
attribute [local irreducible] E iJ cellAt bJ storeAt callable dh dG dO findKey dZ bP Hp.at Hp.set Hp.lay dL cO setAt aJ dx bO dz Rnd gq fB gY Int.tmod Int.tdiv Int.fdiv
section
variable [bC]
attribute [local irreducible] kV sameAt j6
theorem RY (v:Value)(m:Mac)(h:Hp)(hv:MV h v m.i)(hm:OkB m):aJ E 40 [v] h (fun r h'=>jY h h' r m.form.i∧aA h h'):=by
 obtain ⟨bx,rfl,hbx⟩:=hv.box;obtain ⟨ao,an,co,cn,hcx⟩:=hbx.cx;obtain ⟨i3,t3,-,z3⟩:=ty3;obtain ⟨iM,tM,dM⟩:=Pg;have ze:=hm.n;have hb5:=hm.b;have hn1:=hm.ok.n1;have hil:=hm.ok.vC;have hcl:=Mac.nO hm.ok;refine enter40 (by simp) ?_;conv=>whnf
 refine aC.cut (α:=Hp) (fun _=>[(1,ptr h.next 0),(2,ptr (h.next + 1) 0)]) (fun x H=>x = H∧aA h H∧H.at h.next = some (.row 26 true bx)∧H.at (h.next + 1) = some (.row 26 true [int 0,aN,aN])∧H.next = h.next + 2) ?_ ?_
 ·conv=>whnf
  have n1:(h.lay (.row 26 true bx)).next = h.next + 1:=Hp.bF _ _;exact ⟨_,⟨rfl,congrArg (fun k=>ptr k 0) n1,trivial⟩,⟨rfl,(aA.lay _ _).bH _,Hp.bg _ (Hp.ak _ _),eB n1 (Hp.ak _ _),by rw [Hp.bF,n1]⟩,rfl⟩
 rintro H φ1 _ ⟨rfl,gH,aX,aR,nH⟩;have kx:=hcx H h.next 26 gH aX;have c1:cellAt H h.next 1 = some (.slice ao m.out.length co):=kx.c1;have hout:∀ x ∈ m.out,0≤x∧x < 65536:=fun x hx=>by have:=hm.outs x hx; omega
 have aed:=Kr (c:=m.out) hm rfl hout fun s t hs ht e=>e;conv=>whnf
 refine aC.cut (α:=Option Addr×Hp) (fun q=>[(3,.slice q.1 m.out.length m.out.length),(1,ptr h.next 0),(2,ptr (h.next + 1) 0)]) (fun q H2=>q.2 = H2∧aA H q.2∧View q.2 (.slice q.1 m.out.length m.out.length) (m.ref m.out)) ?_ ?_
 ·conv=>whnf
  refine ⟨_,aI aX hbx.len,?_⟩;conv=>whnf
  refine ⟨_,c1,?_⟩;conv=>whnf
  refine aJ.mono (IY _ _ m m.out _ (Bx.mv (hbx.ext gH)) kx.o hm rfl hout) ?_;rintro r H2 ⟨hr,g2⟩;rw [aed.1] at hr;have hws:=hr.c.slice;obtain ⟨a,rfl,-⟩:=hws;have hv2:=hr.view;rw [Mac.zY] at hv2;conv=>whnf
  exact ⟨(a,H2),⟨congrArg (fun k=>Value.slice a k k) (Mac.zY m m.out),rfl,rfl,trivial⟩,⟨rfl,g2,hv2⟩,rfl⟩
 rintro ⟨a0,H2⟩ φ2 _ ⟨rfl,g2,v2⟩;dsimp only at g2 v2 ⊢;have g0:=Mac.Good.start hm.ok;have hk0:=TJ (ks:=m.keys m.out) (fun e=>by have:=Mac.CX m m.out; rw [e] at this; simp at this; omega);conv=>whnf
 refine aC.cut (α:=Option Addr×Hp) (fun q=>[(3,.slice q.1 m.out.length m.out.length),(1,ptr h.next 0),(2,ptr (h.next + 1) 0)]) (fun q H3=>q.2 = H3∧aA H q.2∧View q.2 (.slice q.1 m.out.length m.out.length) m.cls) ?_ ?_
 ·conv=>whnf
  repeat (refine aC.go ?_; conv=>whnf)
  refine bT (α:=List Int×Nat×Option Addr×Hp) (fun q=>[(3,.slice q.2.2.1 m.out.length m.out.length),(1,ptr h.next 0),(2,ptr (h.next + 1) 0)]) (fun q=>q.2.2.2) (fun q=>aA H q.2.2.2∧View q.2.2.2 (.slice q.2.2.1 m.out.length m.out.length) q.1∧(∃ f j,Mac.Good m q.1 j q.2.1∧m.Jy f q.1 q.2.1 = m.cls∧m.out.length + 1≤f + q.2.1)∧q.1.foldl max 0 + 1 = (q.2.1:Int)∧(∀ x ∈ q.1,0≤x∧x < 65536)) (fun q=>m.out.length + 1 - q.2.1) (m.ref m.out,m.cnt m.out,a0,H2) ⟨g2,v2,⟨m.out.length,1,g0,rfl,by have:=g0.le; show m.out.length + 1≤m.out.length + m.cnt m.out; omega⟩,hk0,Yv m.out ze⟩ ⟨rfl,rfl,rfl,trivial⟩ (Hp.Le.refl _) ?_;rintro ⟨c,k,a,G⟩ φ3 ⟨gG,vG,⟨f,j,good,hcls,hf⟩,hmax,hbd⟩;dsimp only at gG vG good hcls hf hmax hbd ⊢;have Yz:=good.len;have hsr:=Kr (c:=c) hm Yz hbd fun s t hs ht e=>good.out s t hs ht e;have aax:=TJ (ks:=m.keys c) (fun e=>by have:=Mac.CX m c; rw [e] at this; simp at this; omega);have hkle:k≤m.cnt c:=by have:=Mac.Mg m c; have:=good.cnt; omega
  have adR:=Mac.Mh m c;conv=>whnf
  repeat (refine aC.go ?_; conv=>whnf)
  refine ⟨_,aI (gG.at_ _ _ aX) hbx.len,?_⟩;conv=>whnf
  refine aJ.mono (IY _ _ m c _ (Bx.mv (hbx.ext (gH.trans gG))) vG hm Yz hbd) ?_;rintro r G2 ⟨hr,gG2⟩;rw [hsr.1] at hr;have hws:=hr.c.slice;obtain ⟨a2,rfl,-⟩:=hws;have v2c:=hr.view;have hlr:=Mac.zY m c;have hbr:=Yv c ze;conv=>whnf
  repeat (refine aC.go ?_; conv=>whnf)
  refine aJ.mono (IX _ (m.ref c) _ v2c (by omega) (fun x hx=>by have:=hbr x hx; omega)) ?_;rintro _ G3 ⟨rfl,eG⟩;have eG:=eG.symm;subst eG;conv=>whnf
  refine aJ.mono (IX _ c _ (vG.ext gG2) (by omega) (fun x hx=>by have:=hbd x hx; omega)) ?_;rintro _ G4 ⟨rfl,eG⟩;have eG:=eG.symm;subst eG;have hm1:(m.ref c).foldl max 0 + 1 = (m.cnt c:Int):=aax;conv=>whnf
  by_cases hk:m.cnt c = k
  ·refine mO (by omega) ?_;have aee:c = m.cls:=by
    cases f with
    | zero=>omega
    | succ f =>
     unfold Mac.Jy at hcls;rw [if_pos hk] at hcls;exact hcls
   rw [aee] at vG;conv=>whnf
   repeat (refine aC.go ?_; conv=>whnf)
   exact ⟨(a,G2),⟨rfl,rfl,rfl,trivial⟩,⟨rfl,gG.trans gG2,vG.ext gG2⟩,rfl⟩
  ·refine Ag (by omega) ?_;have hnext:∃ f j,Mac.Good m (m.ref c) j (m.cnt c)∧m.Jy f (m.ref c) (m.cnt c) = m.cls∧m.out.length + 1≤f + m.cnt c:=by
    cases f with
    | zero=>omega
    | succ f =>
     unfold Mac.Jy at hcls;rw [if_neg hk] at hcls;exact ⟨f,j + 1,good.next hm.ok hk,hcls,by omega⟩
   rw [hlr] at v2c;conv=>whnf
   repeat (refine aC.go ?_; conv=>whnf)
   exact Rnd.mk (m.ref c,m.cnt c,a2,G2) ⟨gG.trans gG2,v2c,hnext,aax,hbr⟩ (by show m.out.length + 1 - m.cnt c < m.out.length + 1 - k; omega) ⟨congrArg (fun k=>Value.slice a2 k k) hlr,rfl,rfl,trivial⟩ (Hp.Le.refl _) rfl
 rintro ⟨a,H3⟩ φ3 _ ⟨rfl,g3,v3⟩;dsimp only at g3 v3 ⊢;have hc0:=View.iI v3 (i:=0) (by omega);obtain ⟨rc,oc,sc,ea,hsc,-,hc0⟩:=hc0;subst ea;have aef:gl m.cls 0 = m.cl 0:=rfl;rw [aef] at hc0;conv=>whnf
 refine aC.cut (α:=Nat×Hp) (fun q=>[(5,bL q.1),(3,.slice (some ⟨rc,oc,sc⟩) m.out.length m.out.length),(1,ptr h.next 0),(2,ptr (h.next + 1) 0)]) (fun q H4=>q.2 = H4∧aA H3 H4∧dS H4 q.1 encI [m.cl 0]∧H3.next≤q.1) ?_ ?_
 ·conv=>whnf
  refine ⟨hsc,⟨by omega,by omega⟩,?_⟩;conv=>whnf
  refine ⟨_,(aA.lay _ _).cell hc0,?_⟩;conv=>whnf
  refine mQ tM dM Bn (k:=m.cl 0) (v:=int 0) (n:=0) rfl rfl rfl (MapAt.new _) ?_;intro H4 hM4 y4;have gl4:aA H3 (H3.lay (.map [] 0)):=aA.lay _ _;have gk4:aA H3 H4:=⟨by rw [y4.next]; exact gl4.next,fun r o e=>y4.at_ r o (by have:=Hp.aU e; omega) (gl4.at_ r o e)⟩;conv=>whnf
  exact ⟨(H3.next,H4),⟨rfl,rfl,rfl,rfl,trivial⟩,⟨rfl,gk4,hM4.congr fun k=>by
   unfold fN;by_cases e:k = m.cl 0
   ·rw [if_pos e,if_pos (by rw [e]; simp),e]; simp
   ·rw [if_neg e,if_neg (by simpa using e)],Nat.le_refl _⟩,rfl⟩
 rintro ⟨M,H4⟩ φ4 _ ⟨rfl,g4,hM4,rP⟩;dsimp only at g4 hM4 rP ⊢;have Vn:M < H4.next:=by
  obtain ⟨_,_,h1,_⟩:=hM4;exact Hp.aU h1
 conv=>whnf
 refine aC.cut (α:=Hp) (fun q=>[(6,slc H4.next 0 1 1),(5,bL M),(3,.slice (some ⟨rc,oc,sc⟩) m.out.length m.out.length),(1,ptr h.next 0),(2,ptr (h.next + 1) 0)]) (fun q H5=>q = H5∧aA H4 H5∧H5.at H4.next = some (.row 3 true [int 0])∧H5.next = H4.next + 1) ?_ ?_
 ·conv=>whnf
  exact ⟨_,⟨rfl,rfl,rfl,rfl,rfl,trivial⟩,⟨rfl,aA.lay _ _,Hp.ak _ _,Hp.bF _ _⟩,rfl⟩
 rintro H5 φ5 _ ⟨rfl,g5,a5,n5⟩;have g15:=(g3.trans g4).trans g5;have d0:=(hcx H5 h.next 26 (gH.trans g15) (g15.at_ _ _ aX)).c0;conv=>whnf
 refine aC.cut (α:=Hp) (fun q=>[(7,ptr H5.next 0),(6,slc H4.next 0 1 1),(5,bL M),(3,.slice (some ⟨rc,oc,sc⟩) m.out.length m.out.length),(1,ptr h.next 0),(2,ptr (h.next + 1) 0)]) (fun q H6=>q = H6∧aA H5 H6∧H6.at H5.next = some (.row 26 true [int m.base,aN,aN])) ?_ ?_
 ·conv=>whnf
  refine ⟨_,d0,?_⟩;conv=>whnf
  refine ⟨rfl,_,bX (vs:=[int m.base,aN,aN]) rfl rfl rfl,?_⟩;conv=>whnf
  exact ⟨_,⟨rfl,rfl,rfl,rfl,rfl,rfl,trivial⟩,⟨rfl,aA.lay _ _,Hp.ak _ _⟩,rfl⟩
 rintro H6 φ6 _ ⟨rfl,g6,a6⟩;have uh:∃ Z,H5.next = Z:=⟨_,rfl⟩;obtain ⟨Z,eZ⟩:=uh;have RA:∃ r6,H4.next = r6:=⟨_,rfl⟩;obtain ⟨r6,er6⟩:=RA;rw [eZ] at a6 ⊢;rw [er6] at a5 n5 Vn ⊢;have RZ:=Hp.aU a6;have ae0:=g4.next;have g36:=(g4.trans g5).trans g6;have hz6:MZ H3 H6 26 Z aN aN [] [] [] [int m.base,aN,aN] [pl M,slc r6 0 1 1]:=⟨g36,a6,bD.nil,bD.nil,rfl,fun k u l e=>by simp at e,by omega,Va RZ (by omega) (by omega) (by omega) (by omega) (by omega) 1 1⟩;have hM6:dS H6 M encI (eD m [0]):=(hM4.ext g5).ext g6;have nU:bD H3 H6 3 1 (slc r6 0 1 1) (nI [0]).length ((nI [0]).map int):=⟨rfl,.inr ⟨r6,rfl,by omega,true,g6.at_ _ _ a5⟩⟩;have rq0:=Rq.start hm.ok;have gh3:=gH.trans g3;have aX3:=g3.at_ _ _ aX;have aR3:=g3.at_ _ _ aR;have hn3:=g3.next;have Z4:=hz6.more (.refl _) (v:=aN) fun r e=>by cases e
 have aeJ:∀ w:Value,∀ u:Value,∀ us:List Value,u ∈ [pl M,u,w] ++ us:=fun w u us=>by simp
 clear a5 a6 g4 g5 g6 g36 g15 d0 hM4;conv=>whnf
 refine aC.cut (α:=Value×Value×List Value×List Int×List (List Int)×Hp) (fun q=>[(7,ptr Z 0),(2,ptr (h.next + 1) 0)]) (fun q H7=>q.2.2.2.2.2 = H7∧∃ rs,MZ H3 q.2.2.2.2.2 26 Z q.1 q.2.1 q.2.2.2.1 q.2.2.1 q.2.2.2.2.1 [int m.base,q.1,q.2.1] rs∧m.form.i = ⟨m.base,q.2.2.2.1,q.2.2.2.2.1⟩) ?_ ?_;rotate_left
 ·rintro ⟨ov,nv,us,O,N,H7⟩ φ7 _ ⟨rfl,rs,hz7,ef⟩;dsimp only at hz7 ef ⊢;have hov:=hz7.jE;obtain ⟨ax,rfl⟩:=hov;have hnv:=hz7.jO;obtain ⟨ay,rfl⟩:=hnv;have aR7:=hz7.gr.at_ _ _ aR3;conv=>whnf
  repeat (refine aC.go ?_; conv=>whnf)
  refine ⟨_,aI hz7.z rfl,?_⟩;conv=>whnf
  refine ⟨rfl,_,bE (vs:=[int m.base,.slice ax O.length O.length,.slice ay N.length N.length]) aR7 rfl rfl rfl,?_⟩;conv=>whnf
  repeat (refine aC.go ?_; conv=>whnf)
  obtain ⟨iR,tR,agR,szR⟩:=U9;refine fu (r:=h.next + 1) (o:=0) (cs:=[int m.base,.slice ax O.length O.length,.slice ay N.length N.length]) rfl tR agR ?_ ?_
  ·rw [szR];exact aI (Hp.bB _ (Hp.aU aR7)) rfl
  ·rw [ef];exact hz7.leave (h:=h) (R:=h.next + 1) (by omega) (by omega) gh3 m.base (.row 26 true [int m.base,.slice ax O.length O.length,.slice ay N.length N.length])
 conv=>whnf
 repeat (refine aC.go ?_; conv=>whnf)
 refine bT (α:=List Nat×Nat×Value×Value×Value×List Value×Hp) (fun q=>[(8,int q.2.1),(7,ptr Z 0),(6,q.2.2.1),(5,bL M),(3,.slice (some ⟨rc,oc,sc⟩) m.out.length m.out.length),(1,ptr h.next 0),(2,ptr (h.next + 1) 0)]) (fun q=>q.2.2.2.2.2.2) (fun q=>Rq m q.1 q.2.1∧MZ H3 q.2.2.2.2.2.2 26 Z q.2.2.2.1 q.2.2.2.2.1 ((q.1.take q.2.1).map m.o) q.2.2.2.2.2.1 ((q.1.take q.2.1).map (vM m q.1)) [int m.base,q.2.2.2.1,q.2.2.2.2.1] [pl M,q.2.2.1,aN]∧dS q.2.2.2.2.2.2 M encI (eD m q.1)∧bD H3 q.2.2.2.2.2.2 3 1 q.2.2.1 (nI q.1).length ((nI q.1).map int)) (fun q=>20000 - q.2.1) ([0],0,slc r6 0 1 1,aN,aN,[],H6) ⟨rq0,Z4,hM6,nU⟩ ⟨rfl,rfl,rfl,rfl,rfl,rfl,rfl,trivial⟩ (Hp.Le.refl _) ?_;rintro ⟨S,a,u6,ov,nv,us,G⟩ φ7 ⟨rq,hz,hM,hst⟩;dsimp only at rq hz hM hst ⊢;have hSl:S.length≤m.out.length:=by
  have:=rq.bq.few;unfold eD at this;rw [List.length_map,hcl] at this;exact this
 have abF:a≤S.length:=by have:=rq.bq.le; unfold eD at this; rw [List.length_map] at this; exact this
 have hSI:=Yy S;have hws:=hst.slice;obtain ⟨au,eu,hau⟩:=hws;subst eu;conv=>whnf
 repeat (refine aC.go ?_; conv=>whnf)
 refine dJ (fun q1=>?_) (fun q1=>?_);rotate_left
 ·have hfull:S.length≤a:=by omega
  have ef:=rq.form hm.ok hfull;rw [List.take_of_length_le hfull] at hz;conv=>whnf
  repeat (refine aC.go ?_; conv=>whnf)
  exact ⟨(ov,nv,us,S.map m.o,S.map (vM m S),G),⟨rfl,rfl,trivial⟩,⟨rfl,_,hz,ef⟩,rfl⟩
 have haS:a < S.length:=by omega
 have hs:=List.getElem?_eq_getElem haS;have yX:∃ s,S[a] = s:=⟨_,rfl⟩;obtain ⟨s,es⟩:=yX;rw [es] at hs;have hsl:=rq.lt s (List.mem_of_getElem? hs);have hvS:View G (.slice au (nI S).length (nI S).length) (nI S):=Built.view (h0:=H3) (e:=3) hst.b;have hcs:=View.iI hvS (i:=a) (by omega);obtain ⟨r1,o1,sp1,ea,hsp1,-,hc1⟩:=hcs;subst ea;rw [abD hs] at hc1;conv=>whnf
 refine aC.go ?_;conv=>whnf
 refine aC.cut (α:=Unit) (fun q=>[(9,int s),(8,int a),(7,ptr Z 0),(6,.slice (some ⟨r1,o1,sp1⟩) (nI S).length (nI S).length),(5,bL M),(3,.slice (some ⟨rc,oc,sc⟩) m.out.length m.out.length),(1,ptr h.next 0),(2,ptr (h.next + 1) 0)]) (fun q H7=>G = H7) ?_ ?_
 ·conv=>whnf
  refine ⟨hsp1,⟨by omega,by omega⟩,?_⟩;conv=>whnf
  refine ⟨_,hc1,?_⟩;conv=>whnf
  exact ⟨(),⟨rfl,rfl,rfl,rfl,rfl,rfl,rfl,rfl,trivial⟩,rfl,rfl⟩
 rintro _ φ8 _ rfl;have Yz:m.cls.length = m.out.length:=hcl;have hbM:∀ d,d≤m.base→(fO m S s d).length≤m.out.length:=fun d hd=>by
  have h1:=iP (Mac.rM hm.ok) rq.bq (s:=m.cl s) (List.mem_of_getElem? (Mac.qj hm.ok hsl)) hd;rw [← Bt hm.ok S hsl d hd,hcl] at h1;unfold eD at h1;rw [List.length_map] at h1;exact h1
 conv=>whnf
 refine aC.go ?_;conv=>whnf
 refine aC.cut (α:=Value×Value×Hp) (fun q=>[(10,q.2.1),(9,int s),(8,int a),(7,ptr Z 0),(6,q.1),(5,bL M),(3,.slice (some ⟨rc,oc,sc⟩) m.out.length m.out.length),(1,ptr h.next 0),(2,ptr (h.next + 1) 0)]) (fun q H7=>q.2.2 = H7∧MZ H3 q.2.2 26 Z ov nv ((S.take a).map m.o) us ((S.take a).map (vM m S)) [int m.base,ov,nv] [pl M,q.1,q.2.1]∧dS q.2.2 M encI (eD m (fO m S s m.base))∧bD H3 q.2.2 3 1 q.1 (nI (fO m S s m.base)).length ((nI (fO m S s m.base)).map int)∧bD H3 q.2.2 3 1 q.2.1 (nV m S s m.base).length ((nV m S s m.base).map int)) ?_ ?_
 ·conv=>whnf
  repeat (refine aC.go ?_; conv=>whnf)
  refine bT (α:=Nat×Value×Value×Hp) (fun q=>[(11,int q.1),(10,q.2.2.1),(9,int s),(8,int a),(7,ptr Z 0),(6,q.2.1),(5,bL M),(3,.slice (some ⟨rc,oc,sc⟩) m.out.length m.out.length),(1,ptr h.next 0),(2,ptr (h.next + 1) 0)]) (fun q=>q.2.2.2) (fun q=>q.1≤m.base∧MZ H3 q.2.2.2 26 Z ov nv ((S.take a).map m.o) us ((S.take a).map (vM m S)) [int m.base,ov,nv] [pl M,q.2.1,q.2.2.1]∧dS q.2.2.2 M encI (eD m (fO m S s q.1))∧bD H3 q.2.2.2 3 1 q.2.1 (nI (fO m S s q.1)).length ((nI (fO m S s q.1)).map int)∧bD H3 q.2.2.2 3 1 q.2.2.1 (nV m S s q.1).length ((nV m S s q.1).map int)) (fun q=>m.base - q.1) (0,_,aN,G) ⟨Nat.zero_le _,hz,hM,hst,bD.nil⟩ ⟨rfl,rfl,rfl,rfl,rfl,rfl,rfl,rfl,rfl,rfl,trivial⟩ (Hp.Le.refl _) ?_;rintro ⟨d,u,w,K⟩ φ9 ⟨hd,hzK,hMK,huK,hwK⟩;dsimp only at hd hzK hMK huK hwK ⊢;have kK:=hcx K h.next 26 (gh3.trans hzK.gr) (hzK.gr.at_ _ _ aX3);have f0:cellAt K h.next 0 = some (int (m.base:Int)):=kK.c0;have f2:=kK.c2;have abG:∃ T,fO m S s d = T:=⟨_,rfl⟩;obtain ⟨T,eT⟩:=abG;rw [eT] at hMK huK;have hus:=huK.slice;obtain ⟨au2,eu2,-⟩:=hus;subst eu2;have R3:=hwK.slice;obtain ⟨aw2,ew2,-⟩:=R3;subst ew2;conv=>whnf
  repeat (refine aC.go ?_; conv=>whnf)
  refine ⟨_,f0,?_⟩;conv=>whnf
  refine dJ (fun q2=>?_) (fun q2=>?_);rotate_left
  ·have:d = m.base:=by omega
   subst this;conv=>whnf
   repeat (refine aC.go ?_; conv=>whnf)
   exact ⟨(_,_,K),⟨rfl,rfl,rfl,rfl,rfl,rfl,rfl,rfl,rfl,trivial⟩,⟨rfl,hzK,by rw [eT]; exact hMK,by rw [eT]; exact huK,hwK⟩,rfl⟩
  have hd':d < m.base:=by omega
  have hnl:=hm.ok.lt s d hsl hd';have hnx:=kK.kR hm.ok hsl hd';obtain ⟨r5,o5,sp5,r7,o7,sp7,c7',ea,Fh,hc5,acS,hc7⟩:=hnx;subst ea;have hext:∃ t,m.nx s d = t:=⟨_,rfl⟩;obtain ⟨t,et⟩:=hext;rw [et] at hc7 hnl;have hSd:=hbM d (by omega);have aeg:=hbM (d + 1) (by omega);have eS1:fO m S s (d + 1) = xg m (fO m S s d) t:=by rw [← et]; rfl
  have ePr:nV m S s (d + 1) = nV m S s d ++ [((nT (eD m (fO m S s (d + 1))) (m.cl t):Nat):Int)]:=by rw [Vy,et]
  rw [eT] at hSd eS1;have acU:∃ T1,fO m S s (d + 1) = T1:=⟨_,rfl⟩;obtain ⟨T1,eT1⟩:=acU;have aeh:m.cl t ∈ eD m T1:=by rw [← eT1,eS1,Ae]; exact nN _ _
  rw [eT1] at aeg eS1 ePr;have hnI:=Yy T;have hct:=View.iI (v3.ext hzK.gr) (i:=t) (by omega);obtain ⟨r8,o8,sp8,ea,-,-,hc8⟩:=hct;injection ea with ea;injection ea with ea1 ea2 ea3;subst ea1;subst ea2;subst ea3;have acV:gl m.cls t = m.cl t:=rfl;rw [acV] at hc8;have hpl:(nV m S s d).length = d:=by unfold nV; rw [List.length_map,List.length_range]
  conv=>whnf
  refine aC.go ?_;conv=>whnf
  refine aC.cut (α:=Unit) (fun q=>[(12,int t),(11,int d),(10,.slice aw2 (nV m S s d).length (nV m S s d).length),(9,int s),(8,int a),(7,ptr Z 0),(6,.slice au2 (nI T).length (nI T).length),(5,bL M),(3,.slice (some ⟨rc,oc,sc⟩) m.out.length m.out.length),(1,ptr h.next 0),(2,ptr (h.next + 1) 0)]) (fun q H7=>K = H7) ?_ ?_
  ·conv=>whnf
   refine ⟨_,f2,?_⟩;conv=>whnf
   refine ⟨Fh,⟨by omega,by omega⟩,?_⟩;conv=>whnf
   refine ⟨_,hc5,?_⟩;conv=>whnf
   refine ⟨acS,⟨by omega,by omega⟩,?_⟩;conv=>whnf
   refine ⟨_,hc7,?_⟩;conv=>whnf
   exact ⟨(),⟨rfl,rfl,rfl,rfl,rfl,rfl,rfl,rfl,rfl,rfl,rfl,trivial⟩,rfl,rfl⟩
  rintro _ Pp _ rfl;conv=>whnf
  refine aC.cut (α:=Value×Hp) (fun q=>[(12,int t),(11,int d),(10,.slice aw2 (nV m S s d).length (nV m S s d).length),(9,int s),(8,int a),(7,ptr Z 0),(6,q.1),(5,bL M),(3,.slice (some ⟨rc,oc,sc⟩) m.out.length m.out.length),(1,ptr h.next 0),(2,ptr (h.next + 1) 0)]) (fun q H7=>q.2 = H7∧MZ H3 q.2 26 Z ov nv ((S.take a).map m.o) us ((S.take a).map (vM m S)) [int m.base,ov,nv] [pl M,q.1,.slice aw2 (nV m S s d).length (nV m S s d).length]∧dS q.2 M encI (eD m T1)∧bD H3 q.2 3 1 q.1 (nI T1).length ((nI T1).map int)∧bD H3 q.2 3 1 (.slice aw2 (nV m S s d).length (nV m S s d).length) (nV m S s d).length ((nV m S s d).map int)) ?_ ?_
  ·by_cases hin:m.cl t ∈ eD m T
   ·have e1:T1 = T:=by rw [eS1]; unfold xg; rw [if_pos hin]
    rw [e1];conv=>whnf
    refine aC.go ?_;conv=>whnf
    refine ⟨hsc,⟨by omega,by omega⟩,?_⟩;conv=>whnf
    refine ⟨_,hc8,?_⟩;conv=>whnf
    refine gy tM dM t3 z3 Bn (k:=m.cl t) rfl rfl hMK (jP hin) ?_;conv=>whnf
    repeat (refine aC.go ?_; conv=>whnf)
    exact ⟨(_,K),⟨rfl,rfl,rfl,rfl,rfl,rfl,rfl,rfl,rfl,rfl,rfl,trivial⟩,⟨rfl,hzK,hMK,huK,hwK⟩,rfl⟩
   ·have e1:T1 = T ++ [t]:=by rw [eS1]; unfold xg; rw [if_neg hin]
    have e2:eD m T1 = eD m T ++ [m.cl t]:=by rw [e1]; unfold eD; rw [List.map_append]; rfl
    have hcT:(eD m T).length = T.length:=by unfold eD; rw [List.length_map]
    conv=>whnf
    refine aC.go ?_;conv=>whnf
    refine ⟨hsc,⟨by omega,by omega⟩,?_⟩;conv=>whnf
    refine ⟨_,hc8,?_⟩;conv=>whnf
    refine gI tM dM t3 z3 Bn (k:=m.cl t) rfl rfl hMK (pz hin) ?_;conv=>whnf
    repeat (refine aC.go ?_; conv=>whnf)
    refine ⟨hsc,⟨by omega,by omega⟩,?_⟩;conv=>whnf
    refine ⟨_,hc8,?_⟩;conv=>whnf
    refine iO tM dM Bn (k:=m.cl t) (v:=int (nI T).length) rfl rfl rfl hMK ?_;intro K1 hM1 y1;rw [hnI.trans hcT.symm] at hM1;have htz:=hzK.touch (i:=0) (v:=pl M) rfl (Kx.keeps y1) (y1.grows hzK.gr rP) (by rw [y1.next]; exact Nat.le_refl _);have aei:=dS.add hin hM1;have hu1:=htz.2.dA (v:=.slice au2 (nI T).length (nI T).length) (by simp) huK;have hw1:=htz.2.dA (v:=.slice aw2 (nV m S s d).length (nV m S s d).length) (by simp) hwK;conv=>whnf
    repeat (refine aC.go ?_; conv=>whnf)
    refine htz.1.Kh (i:=1) rfl hu1 (by omega) ?_;intro u' K2 hu' hb2 hz2' kv2;obtain ⟨a9,n9,rfl⟩:=hu';have YA:=kv2.map (M:=M) (by simp) aei;have hw2:=kv2.dA (v:=.slice aw2 (nV m S s d).length (nV m S s d).length) (by simp) hw1;conv=>whnf
    exact ⟨(_,K2),⟨rfl,rfl,rfl,rfl,rfl,rfl,rfl,rfl,rfl,rfl,rfl,trivial⟩,⟨rfl,hz2',by rw [e2]; exact YA,by rw [e1,abE]; exact hb2,hw2⟩,rfl⟩
  rintro ⟨u2,K1⟩ acW _ ⟨rfl,hz1,hM1,hu1,hw1⟩;dsimp only at hz1 hM1 hu1 hw1 ⊢;have aej:=View.iI (v3.ext hz1.gr) (i:=t) (by omega);obtain ⟨r9,o9,sp9,ea,-,-,hc9⟩:=aej;injection ea with ea;injection ea with ea1 ea2 ea3;subst ea1;subst ea2;subst ea3;rw [acV] at hc9;have abH:=hu1.slice;obtain ⟨au3,eu3,-⟩:=abH;subst eu3;conv=>whnf
  refine ⟨hsc,⟨by omega,by omega⟩,?_⟩;conv=>whnf
  refine ⟨_,hc9,?_⟩;conv=>whnf
  refine fM tM dM t3 z3 Bn (k:=m.cl t) rfl rfl hM1 (jP aeh) ?_;conv=>whnf
  refine hz1.Kh (i:=2) rfl hw1 (by omega) ?_;intro w' K2 hw' hb2 hz2' kv2;obtain ⟨a9,n9,rfl⟩:=hw';have YA:=kv2.map (M:=M) (by simp) hM1;have hu2:=kv2.dA (v:=.slice au3 (nI T1).length (nI T1).length) (by simp) hu1;conv=>whnf
  repeat (refine aC.go ?_; conv=>whnf)
  refine ⟨((d + 1:Nat):Int),wie (by omega) (by omega),?_⟩;conv=>whnf
  exact Rnd.mk (d + 1,_,_,K2) ⟨by show d + 1≤m.base; omega,hz2',by show dS K2 M encI (eD m (fO m S s (d + 1))); rw [eT1]; exact YA,by show bD H3 K2 3 1 _ (nI (fO m S s (d + 1))).length ((nI (fO m S s (d + 1))).map int); rw [eT1]; exact hu2,by show bD H3 K2 3 1 _ (nV m S s (d + 1)).length ((nV m S s (d + 1)).map int); rw [ePr]; exact hb2⟩ (by show m.base - (d + 1) < m.base - d; omega) ⟨rfl,rfl,rfl,rfl,rfl,rfl,rfl,rfl,rfl,rfl,trivial⟩ (Hp.Le.refl _) rfl
 rintro ⟨u2,w2,K⟩ φ9 _ ⟨rfl,hzK,hMK,huK,hwK⟩;dsimp only at hzK hMK huK hwK ⊢;have hpre:=IZ m S s m.base;obtain ⟨rr,err⟩:=hpre;have acX:=rq.next hm.ok hs;have aay:=Vz hm.ok rq err;have acY:∃ S',fO m S s m.base = S':=⟨_,rfl⟩;obtain ⟨S',eS'⟩:=acY;have ePR:nV m S s m.base = vM m S' s:=by rw [← eS']; rfl
 rw [eS'] at hMK huK err acX aay;rw [ePR] at hwK;have hs':S'[a]? = some s:=by rw [err,List.getElem?_append_left haS]; exact hs
 have etk:S'.take a = S.take a:=by rw [err,List.take_append_of_le_length abF]
 have eO:((S.take a).map m.o) ++ [m.o s] = (S'.take (a + 1)).map m.o:=by rw [gK hs',List.map_append,etk]; rfl
 have eN:((S.take a).map (vM m S)) ++ [vM m S' s] = (S'.take (a + 1)).map (vM m S'):=by rw [gK hs',List.map_append,etk,aay]; rfl
 have htl:(S.take a).length = a:=by rw [List.length_take]; omega
 have hus:=huK.slice;obtain ⟨au2,eu2,-⟩:=hus;subst eu2;have R3:=hwK.slice;obtain ⟨aw2,ew2,-⟩:=R3;subst ew2;have hov:=hzK.jE;obtain ⟨ax,eov⟩:=hov;subst eov;have hnv:=hzK.jO;obtain ⟨ay,env⟩:=hnv;subst env;have z1:=bA (o:=1) hzK.z rfl;have z2:=bA (o:=2) hzK.z rfl;have kK:=hcx K h.next 26 (gh3.trans hzK.gr) (hzK.gr.at_ _ _ aX3);have f1:cellAt K h.next 1 = some (.slice ao m.out.length co):=kK.c1;have hoM:=kK.qD hsl;obtain ⟨r5,o5,sp5,ea,Fh,hc5⟩:=hoM;subst ea;conv=>whnf
 repeat (refine aC.go ?_; conv=>whnf)
 refine ⟨_,z1,?_⟩;conv=>whnf
 refine ⟨_,z2,?_⟩;conv=>whnf
 repeat (refine aC.go ?_; conv=>whnf)
 refine ⟨_,f1,?_⟩;conv=>whnf
 refine ⟨Fh,⟨by omega,by omega⟩,?_⟩;conv=>whnf
 refine ⟨_,hc5,?_⟩;conv=>whnf
 refine hzK.EW (by rw [List.length_map]; omega) ?_;intro ov7 K7 Eo hz7 kv7;obtain ⟨a7,n7,rfl⟩:=Eo;have hM7:=kv7.map (M:=M) (by simp) hMK;have hu7:=kv7.dA (v:=.slice au2 (nI S').length (nI S').length) (by simp) huK;have hw7:=kv7.dA (v:=.slice aw2 (vM m S' s).length (vM m S' s).length) (by simp) hwK;conv=>whnf
 refine ⟨rfl,_,dQ hz7.z (by simp) rfl,?_⟩;have hz8:=hz7.put [int m.base,.slice a7 n7 n7,.slice ay ((S.take a).map (vM m S)).length ((S.take a).map (vM m S)).length];have hM8:=hz8.2.map (M:=M) (by simp) hM7;have hu8:=hz8.2.dA (v:=.slice au2 (nI S').length (nI S').length) (by simp) hu7;have hw8:=hz8.2.dA (v:=.slice aw2 (vM m S' s).length (vM m S' s).length) (by simp) hw7;conv=>whnf
 repeat (refine aC.go ?_; conv=>whnf)
 refine hz8.1.yT (i:=2) (by rw [List.length_map]; omega) rfl hw8.b ?_;intro nv9 K9 IC hz9 kv9;obtain ⟨a9,n9,rfl⟩:=IC;have hM9:=kv9.map (M:=M) (by simp) hM8;have hu9:=kv9.dA (v:=.slice au2 (nI S').length (nI S').length) (by simp) hu8;conv=>whnf
 refine ⟨rfl,_,dQ hz9.z (by simp) rfl,?_⟩;have jQ:=hz9.put [int m.base,.slice a7 n7 n7,.slice a9 n9 n9];have nQ:=jQ.2.map (M:=M) (by simp) hM9;have abI:=jQ.2.dA (v:=.slice au2 (nI S').length (nI S').length) (by simp) hu9;have Bp:=jQ.1;rw [eO,eN] at Bp;conv=>whnf
 repeat (refine aC.go ?_; conv=>whnf)
 refine ⟨((a + 1:Nat):Int),wie (by omega) (by omega),?_⟩;conv=>whnf
 exact Rnd.mk (S',a + 1,_,_,_,_,_) ⟨acX,Bp,nQ,abI⟩ (by show 20000 - (a + 1) < 20000 - a; omega) ⟨rfl,rfl,rfl,rfl,rfl,rfl,rfl,trivial⟩ (Hp.Le.refl _) rfl
end
end Go.Proofs.Ytedneplaibmppaa
namespace Go.Proofs.Ytedneplaibmppaa
open Go.Rx Go.RowKit
attribute [local irreducible] E iJ cellAt bJ storeAt callable dh dG dO findKey dZ bP Hp.at Hp.set Hp.lay dL cO setAt aJ dx bO dz Rnd gq fB gY Int.tmod Int.tdiv Int.fdiv
section
variable [bC]
attribute [local irreducible] kV sameAt
theorem I4 (va vb:Value)(e:Int)(m:Mac)(h:Hp)(hb:MV h vb m.i)(hm:OkB m)(hgood:m.form.out.length≤12→e = 0∧MV h va m.form.i∧OkS m.form)(hbad:12 < m.form.out.length→e = 8∧va = noM):aJ E 43 [va,int e,vb] h (fun r h'=>r = .bool true∧aA h h'):=by
 have hva:∃ bx:List Value,va = .agg ⟨bx⟩∧bx.length = 3:=by
  by_cases hl:m.form.out.length≤12
  ·obtain ⟨bx,e1,hbx⟩:=(hgood hl).2.1.box;exact ⟨bx,e1,hbx.len⟩
  ·exact ⟨_,(hbad (by omega)).2,rfl⟩
 obtain ⟨bxa,rfl,hla⟩:=hva;obtain ⟨bxb,rfl,hxb⟩:=hb.box;refine enter43 (by simp) ?_;conv=>whnf
 refine aC.cut (α:=Hp) (fun _=>[(3,ptr h.next 0),(5,ptr (h.next + 1) 0),(1,int e)]) (fun x H=>x = H∧aA h H∧H.at h.next = some (.row 25 true bxa)∧H.at (h.next + 1) = some (.row 26 true bxb)) ?_ ?_
 ·conv=>whnf
  have n1:(h.lay (.row 25 true bxa)).next = h.next + 1:=Hp.bF _ _;exact ⟨_,⟨rfl,congrArg (fun k=>ptr k 0) n1,rfl,trivial⟩,⟨rfl,(aA.lay _ _).bH _,Hp.bg _ (Hp.ak _ _),eB n1 (Hp.ak _ _)⟩,rfl⟩
 rintro H φ1 _ ⟨rfl,gH,aX,aY⟩;conv=>whnf
 refine aC.cut (α:=Nat×List Value×Hp) (fun s=>[(7,ptr s.1 0),(3,ptr h.next 0),(1,int e)]) (fun s H2=>s.2.2 = H2∧H2.at s.1 = some (.row 26 true s.2.1)∧Bx H2 s.2.1 m.form.i∧aA H H2) ?_ ?_
 ·conv=>whnf
  refine ⟨_,aI aY hxb.len,?_⟩;conv=>whnf
  refine aJ.mono (RY _ m _ (Bx.mv (hxb.ext gH)) hm) ?_;rintro r H2 ⟨hw,g2⟩;have hk:=hw.known;obtain ⟨p,q,rfl⟩:=hk;conv=>whnf
  refine ⟨rfl,_,bX (vs:=[int m.form.i.base,.slice p m.form.i.out.length m.form.i.out.length,.slice q m.form.i.next.length m.form.i.next.length]) rfl rfl rfl,?_⟩;conv=>whnf
  exact ⟨(H2.next,_,_),⟨rfl,rfl,rfl,trivial⟩,⟨rfl,Hp.ak _ _,(hw.mv.ext (aA.lay _ _)).bx,g2.bH _⟩,rfl⟩
 rintro ⟨N7,b7,H2⟩ φ2 _ ⟨rfl,a7,hb7,g2⟩;dsimp only at a7 hb7 g2 ⊢;have aX2:=g2.at_ _ _ aX;have gh2:=gH.trans g2;have abg:∃ F,m.form = F:=⟨_,rfl⟩;obtain ⟨F,eF⟩:=abg;rw [eF] at hb7 hgood hbad;obtain ⟨bo,bn,do_,dn,hdx⟩:=hb7.cx;have e1:cellAt H2 N7 1 = some (.slice bo F.out.length do_):=(hdx H2 N7 26 (.refl _) a7).c1;by_cases hl:F.out.length≤12
 ·obtain ⟨rfl,hva,hFs⟩:=hgood hl;have hba:Bx H2 bxa F.i:=(hva.ext gh2).bx;obtain ⟨ao,an,co,cn,hcx⟩:=hba.cx;have c3:=aI aX2 hla;have c7:=aI a7 hb7.len;have e2:cellAt H2 N7 2 = some (.slice bn F.i.next.length dn):=(hdx H2 N7 26 (.refl _) a7).c2;conv=>whnf
  repeat (refine aC.go ?_; conv=>whnf)
  refine ⟨_,e1,?_⟩;conv=>whnf
  refine Ag (by omega) ?_;conv=>whnf
  repeat (refine aC.go ?_; conv=>whnf)
  refine mO rfl ?_;conv=>whnf
  refine ⟨_,c3,?_⟩;conv=>whnf
  refine aJ.mono (Da _ F.i _ (Bx.mv hba) (je hFs)) ?_;rintro r G1 ⟨hw,g1⟩;rw [hFs.cut] at hw;have hk:=hw.known;obtain ⟨p,q,rfl⟩:=hk;have c3a:=g1.cells c3;have c7a:=g1.cells c7;conv=>whnf
  refine ⟨_,c7a,?_⟩;conv=>whnf
  refine aJ.mono (tH _ _ F.i F.i _ hw.mv (Bx.mv (hb7.ext g1)) hFs.ok.vC hFs.lens.1 hFs.lens.2.2) ?_;rintro _ G2 ⟨⟨x,rfl,hx⟩,gg2⟩
  cases x with
  | false=>exact absurd rfl hx.f
  | true =>
   have g12:=g1.trans gg2;have c3b:=gg2.cells c3a;have c7b:=gg2.cells c7a;have d1:cellAt G2 h.next 1 = some (.slice ao F.out.length co):=(hcx G2 h.next 25 g12 (g12.at_ _ _ aX2)).c1;have d2:cellAt G2 h.next 2 = some (.slice an F.i.next.length cn):=(hcx G2 h.next 25 g12 (g12.at_ _ _ aX2)).c2;have f1:=g12.cell e1;have f2:=g12.cell e2;conv=>whnf
   refine ⟨_,d1,?_⟩;conv=>whnf
   refine ⟨_,f1,?_⟩;conv=>whnf
   refine mO rfl ?_;conv=>whnf
   refine ⟨_,d2,?_⟩;conv=>whnf
   refine ⟨_,f2,?_⟩;conv=>whnf
   refine mO rfl ?_;conv=>whnf
   refine ⟨?_,?_⟩
   ·repeat' (first | exact True.intro | (refine And.intro ?_ ?_ <;> (conv=>whnf)))
    all_goals first
     | exact aj (h2:=_) rfl (aM _)
     | exact aj (h2:=_) rfl (bS _ _)
     | exact aj (h2:=_) (congrArg (fun x=>hval _ (dw x)) c3) hba.same
     | exact aj (h2:=_) (congrArg (fun x=>hval _ (dw x)) c3a) hba.same
     | exact aj (h2:=_) (congrArg (fun x=>hval _ (dw x)) c3b) hba.same
     | exact aj (h2:=_) (congrArg (fun x=>hval _ (dw x)) c7) hb7.same
     | exact aj (h2:=_) (congrArg (fun x=>hval _ (dw x)) c7a) hb7.same
     | exact aj (h2:=_) (congrArg (fun x=>hval _ (dw x)) c7b) hb7.same
     | trace_state
   conv=>whnf
   repeat (refine aC.go ?_; conv=>whnf)
   exact ⟨rfl,gh2.trans g12⟩
 ·have hbd:=hbad (by omega);obtain ⟨rfl,enm⟩:=hbd;injection enm with enm;injection enm with enm;subst enm;conv=>whnf
  repeat (refine aC.go ?_; conv=>whnf)
  refine ⟨_,e1,?_⟩;conv=>whnf
  refine mO (by omega) ?_;conv=>whnf
  repeat (refine aC.go ?_; conv=>whnf)
  refine mO rfl ?_;conv=>whnf
  refine ⟨_,aI aX2 rfl,?_⟩;conv=>whnf
  refine aJ.mono (mR _ no0 _ (zk _)) ?_;rintro _ G1 ⟨⟨x,rfl,hx⟩,g1⟩
  cases x with
  | false=>exact absurd rfl hx.f
  | true =>
   conv=>whnf
   repeat (refine aC.go ?_; conv=>whnf)
   exact ⟨rfl,gh2.trans g1⟩
end
end Go.Proofs.Ytedneplaibmppaa
namespace Go.Proofs.Ytedneplaibmppaa
open Go.Rx Go.RowKit
attribute [local irreducible] E iJ cellAt bJ storeAt callable dh dG dO findKey dZ bP Hp.at Hp.set Hp.lay dL cO setAt aJ dx bO dz Rnd gq fB gY Int.tmod Int.tdiv Int.fdiv
section
variable [bC]
attribute [local irreducible] kV sameAt
theorem MP (a:Option Addr)(n c M:Nat)(L:List (Int×Int))(kk:Int×Int)(h:Hp)(hM:dS h M dB L)(hn:n = L.length):aJ E 83 [.slice a n c,bL M,dB kk] h (fun r h'=>((kk ∈ L→r = .tuple ⟨[int (nT L kk:Nat),.bool true]⟩)∧(kk ∉ L→r = .tuple ⟨[int L.length,.bool false]⟩))∧aA h h'):=by
 subst hn;obtain ⟨i3,t3,-,z3⟩:=ty3;obtain ⟨iM,tM,dM⟩:=aar;obtain ⟨x,y⟩:=kk;unfold dB;refine enter83 (by simp) ?_;conv=>whnf
 refine aC.cut (α:=Hp) (fun _=>[(5,ptr h.next 0),(0,.slice a L.length c),(1,bL M)]) (fun q H=>q = H∧aA h H∧H.at h.next = some (.row 64 true [int x,int y])) ?_ ?_
 ·conv=>whnf
  exact ⟨_,⟨rfl,rfl,rfl,trivial⟩,⟨rfl,aA.lay _ _,Hp.ak _ _⟩,rfl⟩
 rintro H φ1 _ ⟨rfl,gH,aK⟩;have hM1:=hM.ext gH;by_cases hin:(x,y) ∈ L
 ·conv=>whnf
  repeat (refine aC.go ?_; conv=>whnf)
  refine ⟨_,aI aK rfl,?_⟩;conv=>whnf
  refine gy tM dM t3 z3 Tj (k:=(x,y)) rfl rfl hM1 (jP hin) ?_;conv=>whnf
  repeat (refine aC.go ?_; conv=>whnf)
  exact ⟨⟨fun _=>rfl,fun q=>absurd hin q⟩,gH⟩
 ·conv=>whnf
  repeat (refine aC.go ?_; conv=>whnf)
  refine ⟨_,aI aK rfl,?_⟩;conv=>whnf
  refine gI tM dM t3 z3 Tj (k:=(x,y)) rfl rfl hM1 (pz hin) ?_;conv=>whnf
  repeat (refine aC.go ?_; conv=>whnf)
  exact ⟨⟨fun q=>absurd q hin,fun _=>rfl⟩,gH⟩
end
end Go.Proofs.Ytedneplaibmppaa
namespace Go.Proofs.Ytedneplaibmppaa
open Go.Rx Go.RowKit
structure Wr (hb H0 H:Hp):Prop where
 gr:aA hb H
 next:H.next = H0.next
 row:∀ (r:Nat) (x:Bool) (l:List Int),H0.at r = some (.row 3 x (l.map int))→∃ l':List Int,l'.length = l.length∧H.at r = some (.row 3 x (l'.map int))
 oth:∀ (r e:Nat) (x:Bool) (cs:List Value),e≠3→H0.at r = some (.row e x cs)→H.at r = some (.row e x cs)
theorem Wr.refl {hb H:Hp}(g:aA hb H):Wr hb H H:=⟨g,rfl,fun r x l e=>⟨l,rfl,e⟩,fun r e x cs _ h=>h⟩
end Go.Proofs.Ytedneplaibmppaa
namespace Go.Proofs.Ytedneplaibmppaa
open Go.Rx Go.RowKit
/-! The machine of the states that are met. -/
def xq (m:Mac)(s:Int)(d:Nat):Int:=(m.nx s.toNat d:Nat)
def qD (m:Mac)(s:Int):Int:=m.o s.toNat
noncomputable def Z5 (m:Mac):Mac:=built m.base (0:Int) (qD m) (xq m)
def stN (n:Nat):List Int:=(List.range n).map fun s:Nat=>(s:Int)
theorem Dx {n:Nat}{s:Int}:s ∈ stN n↔0≤s∧s < n:=by
 unfold stN;constructor
 ·intro h;obtain ⟨k,hk,rfl⟩:=List.mem_map.1 h;have:=List.mem_range.1 hk;omega
 ·rintro ⟨h0,h1⟩;exact List.mem_map.2 ⟨s.toNat,List.mem_range.2 (by omega),by omega⟩
theorem TK (n:Nat):(stN n).length = n:=by unfold stN; rw [List.length_map,List.length_range]
theorem MQ {m:Mac}(hm:m.Ok):wR (xq m) m.base (stN m.out.length):=⟨fun s hs d hd=>by
 have h:=Dx.1 hs;have:=hm.lt s.toNat d (by omega) hd;refine Dx.2 ?_;unfold xq;omega⟩
theorem MR {m:Mac}(hm:m.Ok):(0:Int) ∈ stN m.out.length:=Dx.2 (by have:=hm.n1; omega)
theorem runM (m:Mac):∀ (w:List Nat) (s:Nat),wS (xq m) (s:Int) w = (m.run s w:Nat)
 | [],s=>rfl
 | d :: w,s=>by
  show wS (xq m) (xq m s d) w = (m.run (m.nx s d) w:Nat);exact runM m w (m.nx s d)
theorem YB {m:Mac}(hm:m.Ok):(Z5 m).Ok∧(Z5 m).out.length≤m.out.length:=by
 have:=Dt (MQ hm) (MR hm) (qD m) hm.b1;rw [TK] at this;exact this
theorem YC {m:Mac}(hm:m.Ok):(Z5 m).form = m.form:=Mac.Kg (YB hm).1 hm rfl fun w hw=>by
 refine (IG (MQ hm) (MR hm) (qD m) hw).trans ?_;have:=runM m w 0;rw [show ((0:Nat):Int) = 0 from rfl] at this;rw [this];unfold qD;rw [Int.toNat_natCast]
/-! Other outputs. -/
def mapM (m:Mac)(t:List Int):Mac:=⟨m.base,m.out.map fun o=>gl t o.toNat,m.next⟩
theorem mapM_len (m:Mac)(t:List Int):(mapM m t).out.length = m.out.length:=by unfold mapM; rw [List.length_map]
theorem MS {m:Mac}{t:List Int}{s:Nat}(h:s < m.out.length):(mapM m t).o s = gl t (m.o s).toNat:=by
 unfold Mac.o mapM;rw [List.getD_eq_getElem?_getD,List.getD_eq_getElem?_getD,List.getElem?_map,List.getElem?_eq_getElem h]; rfl
theorem mapM_ok {m:Mac}{t:List Int}(h:m.Ok):(mapM m t).Ok where
 b1:=h.b1
 n1:=by rw [mapM_len]; exact h.n1
 len:=by rw [mapM_len]; exact h.len
 row:=fun s hs=>h.row s (by rwa [mapM_len] at hs)
 lt:=fun s d hs hd=>by
  rw [mapM_len] at hs ⊢;exact h.lt s d hs hd
theorem YD {m:Mac}{t:List Int}(h:m.Ok)(z:m.Zer):(mapM m t).Zer:=fun s hs=>by
 rw [mapM_len] at hs;have h0:=h.b1;rw [MS hs,MS (show (mapM m t).nx s 0 < m.out.length from h.lt s 0 hs h0)];exact congrArg (fun x:Int=>gl t x.toNat) (z s hs)
/-! Two digits at once. -/
/-! Two machines side by side. -/
def Ev (a b:Mac)(T:List (List Int))(p:Int×Int):Int:=gl (rw_ T (a.o p.1.toNat).toNat) (b.o p.2.toNat).toNat
noncomputable def tJ (a b:Mac) (T:List (List Int)):Mac:=built a.base ((0:Int),(0:Int)) (Ev a b T) (jo a b)
theorem zl {a b:Mac}(ha:a.Ok)(hb:b.Ok)(hbb:a.base = b.base):wR (jo a b) a.base (sq a.out.length b.out.length):=⟨fun _ hp _ hd=>Pw ha hb hbb hp hd⟩
theorem zm {a b:Mac}(ha:a.Ok)(hb:b.Ok):((0:Int),(0:Int)) ∈ sq a.out.length b.out.length:=ko.2 (by have:=ha.n1; have:=hb.n1; dsimp only; omega)
theorem PL {a b:Mac}(ha:a.Ok)(hb:b.Ok)(hbb:a.base = b.base)(T:List (List Int)):(tJ a b T).Ok∧(tJ a b T).out.length≤a.out.length * b.out.length:=by
 have:=Dt (zl ha hb hbb) (zm ha hb) (Ev a b T) ha.b1;rw [yZ] at this;exact this
theorem VA {a b:Mac}(ha:a.Ok)(hb:b.Ok)(hbb:a.base = b.base)(T:List (List Int))(z:a.Zer)(z':b.Zer):(tJ a b T).Zer:=Ep (zl ha hb hbb) (zm ha hb) ha.b1 fun p hp=>by
 have h:=ko.1 hp;have h1:=z p.1.toNat (by omega);have h2:=z' p.2.toNat (by omega);unfold Ev jo;dsimp only;rw [Int.toNat_natCast,Int.toNat_natCast,h1,h2]
structure OkT (T:List (List Int)):Prop where
 len:T.length = 10
 row:∀ i,i < 10→(rw_ T i).length = 10
 dig:∀ i j,i < 10→j < 10→0≤gl (rw_ T i) j∧gl (rw_ T i) j≤9
theorem Z6 {a b:Mac}{T:List (List Int)}(hT:OkT T)(oa:∀ x ∈ a.out,0≤x∧x≤9)(ob:∀ x ∈ b.out,0≤x∧x≤9){p:Int×Int}(hp:p ∈ sq a.out.length b.out.length):0≤Ev a b T p∧Ev a b T p≤9:=by
 have h:=ko.1 hp;have h1:=fC (P:=fun x=>0≤x∧x≤9) oa (j:=p.1.toNat) (by omega);have h2:=fC (P:=fun x=>0≤x∧x≤9) ob (j:=p.2.toNat) (by omega);exact hT.dig _ _ (by unfold Mac.o; unfold gl at h1; omega) (by unfold Mac.o; unfold gl at h2; omega)
theorem R4 {a b:Mac}(ha:a.Ok)(hb:b.Ok)(hbb:a.base = b.base){T:List (List Int)}(hT:OkT T)(oa:∀ x ∈ a.out,0≤x∧x≤9)(ob:∀ x ∈ b.out,0≤x∧x≤9):∀ x ∈ (tJ a b T).out,0≤x∧x≤9:=II (zl ha hb hbb) (zm ha hb) fun p hp=>Z6 hT oa ob hp
end Go.Proofs.Ytedneplaibmppaa
namespace Go.Proofs.Ytedneplaibmppaa
open Go.Rx Go.RowKit
theorem YE {x y r:Int}{h:Hp}(hy:y≠0)(e:x.tmod y = r):hval h (arK .i64 .rem x y) = .val (int r) h:=by
 unfold arK;dsimp only;rw [if_neg hy,e];rfl
theorem TL:∀ (l:List (Int×Int)) (k:Nat) (x:Int×Int),l[k]? = some x→(fl2 l)[k * 2]? = some (int x.1)∧(fl2 l)[k * 2 + 1]? = some (int x.2)
 | p :: l,0,x,h=>by cases h; exact ⟨rfl,rfl⟩
 | p :: l,k + 1,x,h=>by
  have:=TL l k x (by simpa using h);rw [show (k + 1) * 2 = k * 2 + 1 + 1 by omega];exact this
theorem abJ {h0 H:Hp}{e:Nat}{v:Value}{L:List (Int×Int)}(k:bD h0 H e 2 v L.length (fl2 L)){i:Nat}{x:Int×Int}(hi:L[i]? = some x):∃ r,v = slc r 0 L.length L.length∧cellAt H r (gU (gU 0 i 2) 0 1) = some (int x.1)∧cellAt H r (gU (gU 0 i 2) 1 1) = some (int x.2):=by
 have hl:=(List.getElem?_eq_some_iff.1 hi).1;obtain ⟨hlen,⟨_,e1⟩ | ⟨r,er,_,y,hr⟩⟩:=k
 ·omega
 ·have h2:=TL L i x hi;refine ⟨r,er,?_,?_⟩
  ·rw [ig,ig];exact bA hr (by simpa using h2.1)
  ·rw [ig,ig];exact bA hr (by simpa using h2.2)
section
variable {S:Type} [DecidableEq S]
theorem R5 {next:S→Nat→S}{d:Nat}{L L':List S}{s:S}(hL:∀ j,j < d→next s j ∈ L){r:List S}(e:L' = L ++ r):rowOf next (d + 1) L' s = rowOf next d L s ++ [((nT L' (next s d):Nat):Int)]:=by
 unfold rowOf;rw [List.range_succ,List.map_append]
 congr 1
 refine List.map_congr_left fun j hj=>?_;unfold nT;rw [e,ng (hL j (List.mem_range.1 hj))]
theorem Kv {next:S→Nat→S}{b:Nat}{L:List S}{s:S}:(rowOf next b L s).length = b:=by unfold rowOf; rw [List.length_map,List.length_range]
end
end Go.Proofs.Ytedneplaibmppaa
namespace Go.Proofs.Ytedneplaibmppaa
open Go.Rx Go.RowKit
def Ans (H:Hp)(N:Nat)(e:Int)(P:Prop)(w:Mac):Prop:=∃ bx:List Value,bx.length = 3∧H.at N = some (.row 25 true bx)∧fD 4 (.agg ⟨bx⟩) (.agg ⟨bx⟩) = true∧(P→e = 1∧bx = [int 0,aN,aN])∧(¬ P→(w.form.out.length≤12→e = 0∧MV H (.agg ⟨bx⟩) w.form.i)∧(12 < w.form.out.length→e = 8∧bx = [int 0,aN,aN]))
theorem Ans.ext {H H':Hp}{N:Nat}{e:Int}{P:Prop}{w:Mac}(g:aA H H')(k:Ans H N e P w):Ans H' N e P w:=by
 obtain ⟨bx,h1,h2,h3,h4,h5⟩:=k;exact ⟨bx,h1,g.at_ _ _ h2,h3,h4,fun q=>⟨fun l=>⟨((h5 q).1 l).1,((h5 q).1 l).2.ext g⟩,(h5 q).2⟩⟩
theorem MV.TM {h:Hp}{bx:List Value}{M:jh}(k:MV h (.agg ⟨bx⟩) M):fD 4 (.agg ⟨bx⟩) (.agg ⟨bx⟩) = true:=by
 obtain ⟨b2,e,hb⟩:=k.box;cases e
 exact hb.same
end Go.Proofs.Ytedneplaibmppaa
namespace Go.Proofs.Ytedneplaibmppaa
open Go.Rx Go.RowKit
theorem ql.congr {h h':Hp}{r:Value}{m m':Mac}(e:m.form = m'.form)(k:ql h h' r m):ql h h' r m':=by
 unfold ql at k ⊢;rwa [e] at k
end Go.Proofs.Ytedneplaibmppaa
namespace Go.Proofs.Ytedneplaibmppaa
open Go.Rx Go.RowKit
attribute [local irreducible] E iJ cellAt bJ storeAt callable dh dG dO findKey dZ bP Hp.at Hp.set Hp.lay dL cO setAt aJ dx bO dz Rnd gq fB gY Int.tmod Int.tdiv Int.fdiv
section
variable [bC]
attribute [local irreducible] kV sameAt j6
theorem R6 (va vb vt:Value)(ma mb:Mac)(Tb:List (List Int))(h:Hp)(hva:MV h va ma.i)(hvb:MV h vb mb.i)(hvt:Mat h vt Tb)(okT:OkT Tb)(oka:ma.Ok)(okb:mb.Ok)(hbb:ma.base = mb.base)(ae1:ma.base≤25)(oa:∀ x ∈ ma.out,0≤x∧x≤9)(ob:∀ x ∈ mb.out,0≤x∧x≤9)(hla:ma.out.length≤1000000)(hlb:mb.out.length≤1000000)(hlab:ma.out.length * mb.out.length≤1000000):aJ E 47 [va,vb,vt] h (fun r h'=>jY h h' r (tJ ma mb Tb).i∧aA h h'):=by
 obtain ⟨bx,rfl,hbx⟩:=hva.box;obtain ⟨by_,rfl,hby⟩:=hvb.box;obtain ⟨ao,an,co,cn,hcx⟩:=hbx.cx;obtain ⟨bo,bn,do_,dn,hdx⟩:=hby.cx;have aek:=hvt;obtain ⟨at_,ct,evt,-⟩:=aek;subst evt;have hTl:=okT.len;have h00:=Mat.cell hvt (i:=0) (by omega);obtain ⟨rT,oT,spT,aT0,cT0,eT,-⟩:=h00;subst eT;have acv:=oka.vC;have acw:=okb.vC;have hU0:=zl oka okb hbb;have hs0:=zm oka okb;have ael:=yZ ma.out.length mb.out.length;have Rc:∃ next,jo ma mb = next:=⟨_,rfl⟩;obtain ⟨next,Pj⟩:=Rc;have aem:∃ out,Ev ma mb Tb = out:=⟨_,rfl⟩;obtain ⟨out,acZ⟩:=aem;have ac0:built ma.base ((0:Int),(0:Int)) out next = tJ ma mb Tb:=by rw [← acZ,← Pj]; rfl
 rw [Pj] at hU0;have aen:∃ U,sq ma.out.length mb.out.length = U:=⟨_,rfl⟩;obtain ⟨U,eU⟩:=aen;have hsq:∀ p ∈ U,(0≤p.1∧p.1 < ma.out.length)∧(0≤p.2∧p.2 < mb.out.length):=fun p hp=>by rw [← eU] at hp; exact ko.1 hp
 have hU:=hU0;rw [eU] at hU hs0 ael;have hUl:U.length≤1000000:=by omega
 obtain ⟨i3,t3,-,z3⟩:=ty3;obtain ⟨iM,tM,dM⟩:=aar;refine enter47 (by simp) ?_;conv=>whnf
 refine aC.cut (α:=Hp) (fun _=>[(6,ptr (h.next + 2) 0),(3,ptr h.next 0),(4,ptr (h.next + 1) 0),(2,.slice (some ⟨rT,oT,spT⟩) Tb.length ct)]) (fun x H=>x = H∧aA h H∧H.at h.next = some (.row 26 true bx)∧H.at (h.next + 1) = some (.row 26 true by_)∧H.at (h.next + 2) = some (.row 26 true [int 0,aN,aN])∧H.next = h.next + 3) ?_ ?_
 ·conv=>whnf
  have n1:(h.lay (.row 26 true bx)).next = h.next + 1:=Hp.bF _ _;have n2:((h.lay (.row 26 true bx)).lay (.row 26 true by_)).next = h.next + 2:=by rw [Hp.bF,n1]
  exact ⟨_,⟨congrArg (fun k=>ptr k 0) n2,rfl,congrArg (fun k=>ptr k 0) n1,rfl,trivial⟩,⟨rfl,((aA.lay _ _).bH _).bH _,Hp.bg _ (Hp.bg _ (Hp.ak _ _)),Hp.bg _ (eB n1 (Hp.ak _ _)),eB n2 (Hp.ak _ _),by rw [Hp.bF,n2]⟩,rfl⟩
 rintro H φ1 _ ⟨rfl,gH,aX,aY,aR,nH⟩;have Es:=Hp.aU aR;have abK:∃ RR,h.next + 2 = RR:=⟨_,rfl⟩;obtain ⟨RR,eRR⟩:=abK;rw [eRR] at aR Es ⊢;have hRh:h.next≤RR:=by omega
 conv=>whnf
 refine aC.cut (α:=Hp) (fun _=>[(7,slc H.next 0 1 1),(6,ptr RR 0),(3,ptr h.next 0),(4,ptr (h.next + 1) 0),(2,.slice (some ⟨rT,oT,spT⟩) Tb.length ct)]) (fun x H2=>x = H2∧aA H H2∧H2.at H.next = some (.row 64 true [int 0,int 0])∧H2.next = H.next + 1) ?_ ?_
 ·conv=>whnf
  exact ⟨_,⟨rfl,rfl,rfl,rfl,rfl,trivial⟩,⟨rfl,aA.lay _ _,Hp.ak _ _,Hp.bF _ _⟩,rfl⟩
 rintro H2 φ2 _ ⟨rfl,g2,a2,n2⟩;conv=>whnf
 refine aC.cut (α:=Hp) (fun _=>[(8,bL H2.next),(7,slc H.next 0 1 1),(6,ptr RR 0),(3,ptr h.next 0),(4,ptr (h.next + 1) 0),(2,.slice (some ⟨rT,oT,spT⟩) Tb.length ct)]) (fun x H3=>x = H3∧aA H2 H3∧dS H3 H2.next dB [((0:Int),(0:Int))]) ?_ ?_
 ·conv=>whnf
  refine mQ tM dM Tj (k:=((0:Int),(0:Int))) (v:=int 0) (n:=0) rfl rfl rfl (MapAt.new _) ?_;intro H4 hM4 y4;have gl4:aA H2 (H2.lay (.map [] 0)):=aA.lay _ _;have gk4:aA H2 H4:=⟨by rw [y4.next]; exact gl4.next,fun r o e=>y4.at_ r o (by have:=Hp.aU e; omega) (gl4.at_ r o e)⟩;conv=>whnf
  exact ⟨H4,⟨rfl,rfl,rfl,rfl,rfl,rfl,trivial⟩,⟨rfl,gk4,hM4.congr fun k=>by
   unfold fN;by_cases e:k = ((0:Int),(0:Int))
   ·rw [if_pos e,if_pos (by rw [e]; simp),e]; simp
   ·rw [if_neg e,if_neg (by simpa using e)]⟩,rfl⟩
 rintro H3 φ3 _ ⟨rfl,g3,hM3⟩;have Vn:H2.next < H3.next:=by
  obtain ⟨_,_,h1,_⟩:=hM3;exact Hp.aU h1
 have d0:=(hcx H3 h.next 26 ((gH.trans g2).trans g3) (g3.at_ _ _ (g2.at_ _ _ aX))).c0;conv=>whnf
 refine aC.cut (α:=Hp) (fun q=>[(9,ptr H3.next 0),(8,bL H2.next),(7,slc H.next 0 1 1),(6,ptr RR 0),(3,ptr h.next 0),(4,ptr (h.next + 1) 0),(2,.slice (some ⟨rT,oT,spT⟩) Tb.length ct)]) (fun q H6=>q = H6∧aA H3 H6∧H6.at H3.next = some (.row 26 true [int ma.base,aN,aN])) ?_ ?_
 ·conv=>whnf
  refine ⟨_,d0,?_⟩;conv=>whnf
  refine ⟨rfl,_,bX (vs:=[int ma.base,aN,aN]) rfl rfl rfl,?_⟩;conv=>whnf
  exact ⟨_,⟨rfl,rfl,rfl,rfl,rfl,rfl,rfl,trivial⟩,⟨rfl,aA.lay _ _,Hp.ak _ _⟩,rfl⟩
 rintro H6 φ6 _ ⟨rfl,g6,a6⟩;have uh:∃ Z,H3.next = Z:=⟨_,rfl⟩;obtain ⟨Z,eZ⟩:=uh;have RA:∃ r6,H.next = r6:=⟨_,rfl⟩;obtain ⟨r6,er6⟩:=RA;have X9:∃ M,H2.next = M:=⟨_,rfl⟩;obtain ⟨M,eM⟩:=X9;have hRr:RR < r6:=by omega
 rw [eZ] at a6 Vn ⊢;rw [er6] at a2 n2 ⊢;rw [eM] at hM3 Vn n2 ⊢;have RZ:=Hp.aU a6;have g36:=(g2.trans g3).trans g6;have hz6:MZ H H6 26 Z aN aN [] [] [] [int ma.base,aN,aN] [pl M,slc r6 0 1 1]:=⟨g36,a6,bD.nil,bD.nil,rfl,fun k u l e=>by simp at e,by omega,Va RZ (by omega) (by omega) (by omega) (by omega) (by omega) 1 1⟩;have hM6:dS H6 M dB [((0:Int),(0:Int))]:=hM3.ext g6;have nU:bD H H6 64 2 (slc r6 0 1 1) [((0:Int),(0:Int))].length (fl2 [((0:Int),(0:Int))]):=⟨rfl,.inr ⟨r6,rfl,by omega,true,g6.at_ _ _ (g3.at_ _ _ a2)⟩⟩;have Z4:=hz6.more (.refl _) (v:=aN) fun r e=>by cases e
 have rP:H.next≤M:=by omega
 have hq0:=Bq.start hU hs0;clear a6 g6 g36 hM3 a2;conv=>whnf
 refine aC.cut (α:=Value×Value×List Value×List Int×List (List Int)×Hp) (fun q=>[(9,ptr Z 0),(6,ptr RR 0)]) (fun q H7=>q.2.2.2.2.2 = H7∧∃ rs,MZ H q.2.2.2.2.2 26 Z q.1 q.2.1 q.2.2.2.1 q.2.2.1 q.2.2.2.2.1 [int ma.base,q.1,q.2.1] rs∧(tJ ma mb Tb).i = ⟨ma.base,q.2.2.2.1,q.2.2.2.2.1⟩) ?_ ?_;rotate_left
 ·rintro ⟨ov,nv,us,O,N,H7⟩ φ7 _ ⟨rfl,rs,hz7,ef⟩;dsimp only at hz7 ef ⊢;have hov:=hz7.jE;obtain ⟨ax,rfl⟩:=hov;have hnv:=hz7.jO;obtain ⟨ay,rfl⟩:=hnv;have aR7:=hz7.gr.at_ _ _ aR;conv=>whnf
  repeat (refine aC.go ?_; conv=>whnf)
  refine ⟨_,aI hz7.z rfl,?_⟩;conv=>whnf
  refine ⟨rfl,_,bE (vs:=[int ma.base,.slice ax O.length O.length,.slice ay N.length N.length]) aR7 rfl rfl rfl,?_⟩;conv=>whnf
  repeat (refine aC.go ?_; conv=>whnf)
  obtain ⟨iR,tR,agR,szR⟩:=U9;refine fu (r:=RR) (o:=0) (cs:=[int ma.base,.slice ax O.length O.length,.slice ay N.length N.length]) rfl tR agR ?_ ?_
  ·rw [szR];exact aI (Hp.bB _ (Hp.aU aR7)) rfl
  ·rw [ef];exact hz7.leave (h:=h) (R:=RR) (by omega) (by omega) gH ma.base (.row 26 true [int ma.base,.slice ax O.length O.length,.slice ay N.length N.length])
 conv=>whnf
 repeat (refine aC.go ?_; conv=>whnf)
 refine bT (α:=List (Int×Int)×Nat×Value×Value×Value×List Value×Hp) (fun q=>[(10,int q.2.1),(9,ptr Z 0),(8,bL M),(7,q.2.2.1),(6,ptr RR 0),(3,ptr h.next 0),(4,ptr (h.next + 1) 0),(2,.slice (some ⟨rT,oT,spT⟩) Tb.length ct)]) (fun q=>q.2.2.2.2.2.2) (fun q=>Bq next ma.base ((0:Int),(0:Int)) U q.1 q.2.1∧MZ H q.2.2.2.2.2.2 26 Z q.2.2.2.1 q.2.2.2.2.1 ((q.1.take q.2.1).map out) q.2.2.2.2.2.1 (rowsOf next ma.base q.1 q.2.1) [int ma.base,q.2.2.2.1,q.2.2.2.2.1] [pl M,q.2.2.1,aN]∧dS q.2.2.2.2.2.2 M dB q.1∧bD H q.2.2.2.2.2.2 64 2 q.2.2.1 q.1.length (fl2 q.1)) (fun q=>2000000 - q.2.1) ([((0:Int),(0:Int))],0,slc r6 0 1 1,aN,aN,[],H6) ⟨hq0,Z4,hM6,nU⟩ ⟨rfl,rfl,rfl,rfl,rfl,rfl,rfl,rfl,trivial⟩ (Hp.Le.refl _) ?_;rintro ⟨L,a,u6,ov,nv,us,G⟩ φ7 ⟨hq,hz,hM,hst⟩;dsimp only at hq hz hM hst ⊢;clear hz6 hM6 nU Z4 hq0;have Vo:=hq.few;have abF:=hq.le;have hsk:=hst.slice;obtain ⟨au,eu,-⟩:=hsk;subst eu;conv=>whnf
 repeat (refine aC.go ?_; conv=>whnf)
 refine dJ (fun q1=>?_) (fun q1=>?_);rotate_left
 ·have hbd:=hq.done (by omega);have ea:a = L.length:=by omega
  subst ea;rw [List.take_length] at hz;conv=>whnf
  repeat (refine aC.go ?_; conv=>whnf)
  exact ⟨(ov,nv,us,L.map out,rowsOf next ma.base L L.length,G),⟨rfl,rfl,trivial⟩,⟨rfl,_,hz,by rw [← ac0]; exact Dh hbd⟩,rfl⟩
 have haL:a < L.length:=by omega
 have yX:∃ s,L[a]? = some s:=⟨_,List.getElem?_eq_getElem haL⟩;obtain ⟨s,hs⟩:=yX;have hsU:=hq.sub s (List.mem_of_getElem? hs);have hOl:((L.take a).map out).length = a:=by rw [List.length_map,List.length_take]; omega
 have hNl:(rowsOf next ma.base L a).length = a:=by unfold rowsOf; rw [List.length_map,List.length_take]; omega
 have hq2:=hq.next hU hs;have hsc:=abJ hst hs;obtain ⟨rst,Mv,hsc1,hsc2⟩:=hsc;cases Mv
 have hpr:∃ s1 s2:Nat,s = ((s1:Int),(s2:Int))∧s1 < ma.out.length∧s2 < mb.out.length:=by
  have h1:=hsq s hsU;obtain ⟨p1,p2⟩:=s;dsimp only at h1;exact ⟨p1.toNat,p2.toNat,by rw [Int.toNat_of_nonneg (by omega),Int.toNat_of_nonneg (by omega)],by omega,by omega⟩
 obtain ⟨s1,s2,es,ae2⟩:=hpr;rw [es] at hsc1 hsc2;dsimp only at hsc1 hsc2;conv=>whnf
 refine aC.go ?_;conv=>whnf
 refine aC.cut (α:=Unit) (fun q=>[(11,int s1),(12,int s2),(10,int a),(9,ptr Z 0),(8,bL M),(7,slc rst 0 L.length L.length),(6,ptr RR 0),(3,ptr h.next 0),(4,ptr (h.next + 1) 0),(2,.slice (some ⟨rT,oT,spT⟩) Tb.length ct)]) (fun q H7=>G = H7) ?_ ?_
 ·conv=>whnf
  refine ⟨rfl,⟨by omega,by omega⟩,?_⟩;conv=>whnf
  refine ⟨⟨by omega,by omega⟩,?_⟩;conv=>whnf
  refine ⟨_,hsc1,?_⟩;conv=>whnf
  refine ⟨rfl,⟨by omega,by omega⟩,?_⟩;conv=>whnf
  refine ⟨⟨by omega,by omega⟩,?_⟩;conv=>whnf
  refine ⟨_,hsc2,?_⟩;conv=>whnf
  exact ⟨(),⟨rfl,rfl,rfl,rfl,rfl,rfl,rfl,rfl,rfl,rfl,trivial⟩,rfl,rfl⟩
 rintro _ φ8 _ rfl;clear hsc1 hsc2;conv=>whnf
 refine aC.go ?_;conv=>whnf
 refine aC.cut (α:=Value×Value×Hp) (fun q=>[(13,q.2.1),(11,int s1),(12,int s2),(10,int a),(9,ptr Z 0),(8,bL M),(7,q.1),(6,ptr RR 0),(3,ptr h.next 0),(4,ptr (h.next + 1) 0),(2,.slice (some ⟨rT,oT,spT⟩) Tb.length ct)]) (fun q H7=>q.2.2 = H7∧MZ H q.2.2 26 Z ov nv ((L.take a).map out) us (rowsOf next ma.base L a) [int ma.base,ov,nv] [pl M,q.1,q.2.1]∧dS q.2.2 M dB (notes L (dI next s ma.base))∧bD H q.2.2 64 2 q.1 (notes L (dI next s ma.base)).length (fl2 (notes L (dI next s ma.base)))∧bD H q.2.2 3 1 q.2.1 (rowOf next ma.base (notes L (dI next s ma.base)) s).length ((rowOf next ma.base (notes L (dI next s ma.base)) s).map int)) ?_ ?_
 ·conv=>whnf
  repeat (refine aC.go ?_; conv=>whnf)
  refine bT (α:=Nat×Value×Value×Hp) (fun q=>[(14,int q.1),(13,q.2.2.1),(11,int s1),(12,int s2),(10,int a),(9,ptr Z 0),(8,bL M),(7,q.2.1),(6,ptr RR 0),(3,ptr h.next 0),(4,ptr (h.next + 1) 0),(2,.slice (some ⟨rT,oT,spT⟩) Tb.length ct)]) (fun q=>q.2.2.2) (fun q=>q.1≤ma.base∧MZ H q.2.2.2 26 Z ov nv ((L.take a).map out) us (rowsOf next ma.base L a) [int ma.base,ov,nv] [pl M,q.2.1,q.2.2.1]∧dS q.2.2.2 M dB (notes L (dI next s q.1))∧bD H q.2.2.2 64 2 q.2.1 (notes L (dI next s q.1)).length (fl2 (notes L (dI next s q.1)))∧bD H q.2.2.2 3 1 q.2.2.1 (rowOf next q.1 (notes L (dI next s q.1)) s).length ((rowOf next q.1 (notes L (dI next s q.1)) s).map int)) (fun q=>ma.base - q.1) (0,_,aN,G) ⟨Nat.zero_le _,hz,hM,hst,bD.nil⟩ ⟨rfl,rfl,rfl,rfl,rfl,rfl,rfl,rfl,rfl,rfl,rfl,rfl,trivial⟩ (Hp.Le.refl _) ?_;rintro ⟨d,u,w,K⟩ φ9 ⟨hd,hzK,hMK,huK,hwK⟩;dsimp only at hd hzK hMK huK hwK ⊢;have hpre:=gJ (dI next s d) L;obtain ⟨r8,e8⟩:=hpre;have Dj:=iP hU hq hsU hd;have Dk:∀ j,j < d→next s j ∈ notes L (dI next s d):=fun j hj=>fZ (vH hj);have hsucc:notes L (dI next s (d + 1)) = note (notes L (dI next s d)) (next s d):=by rw [jk,iF]
  have abG:∃ L',notes L (dI next s d) = L':=⟨_,rfl⟩;obtain ⟨L',eL'⟩:=abG;rw [eL'] at hMK huK hwK e8 Dj Dk hsucc;have hus:=huK.slice;obtain ⟨au2,eu2,-⟩:=hus;subst eu2;have R3:=hwK.slice;obtain ⟨aw2,ew2,-⟩:=R3;rw [Kv] at ew2;subst ew2;have kK:=hcx K h.next 26 (gH.trans hzK.gr) (hzK.gr.at_ _ _ aX);have kD:=hdx K (h.next + 1) 26 (gH.trans hzK.gr) (hzK.gr.at_ _ _ aY);have f0:cellAt K h.next 0 = some (int (ma.base:Int)):=kK.c0;have f2:=kK.c2;have f3:=kD.c2;conv=>whnf
  repeat (refine aC.go ?_; conv=>whnf)
  refine ⟨_,f0,?_⟩;conv=>whnf
  refine dJ (fun q2=>?_) (fun q2=>?_);rotate_left
  ·have:d = ma.base:=by omega
   subst this;conv=>whnf
   repeat (refine aC.go ?_; conv=>whnf)
   exact ⟨(_,_,K),⟨rfl,rfl,rfl,rfl,rfl,rfl,rfl,rfl,rfl,rfl,rfl,trivial⟩,⟨rfl,hzK,by rw [eL']; exact hMK,by rw [eL']; exact huK,by rw [eL']; exact hwK⟩,rfl⟩
  have hd':d < ma.base:=by omega
  have kJ:=iP hU hq hsU (d:=d + 1) (by omega);rw [hsucc] at kJ;have hext:∃ t,next s d = t:=⟨_,rfl⟩;obtain ⟨t,et⟩:=hext;rw [et] at kJ hsucc;conv=>whnf
  refine aC.go ?_;conv=>whnf
  have eE:t = (((ma.nx s1 d:Nat):Int),((mb.nx s2 d:Nat):Int)):=by
   rw [← et,← Pj,es];unfold jo;dsimp only;rw [Int.toNat_natCast,Int.toNat_natCast]
  have hna:=kK.kR oka (s:=s1) (d:=d) (by omega) (by omega);obtain ⟨r1,o1,sp1,r2,o2,sp2,c2',ean,hsp1,hc1,hsp2,hc2⟩:=hna;subst ean;have hnb:=kD.kR okb (s:=s2) (d:=d) (by omega) (by omega);obtain ⟨r3,o3,sp3,r4,o4,sp4,c4',ebn,ug,hc3,Fg,hc4⟩:=hnb;subst ebn;refine aC.cut (α:=Nat×Hp) (fun q=>[(15,ptr q.1 0),(14,int d),(13,.slice aw2 d d),(11,int s1),(12,int s2),(10,int a),(9,ptr Z 0),(8,bL M),(7,.slice au2 L'.length L'.length),(6,ptr RR 0),(3,ptr h.next 0),(4,ptr (h.next + 1) 0),(2,.slice (some ⟨rT,oT,spT⟩) Tb.length ct)]) (fun q H7=>q.2 = H7∧aA K q.2∧q.2.at q.1 = some (.row 64 true [int t.1,int t.2])∧K.next≤q.1) ?_ ?_
  ·conv=>whnf
   rw [eE];have gl1:aA K (K.lay (.row 64 true [int 0,int 0])):=aA.lay _ _;have gl2:aA K (K.lay (.row 64 true [int (ma.nx s1 d:Nat),int (mb.nx s2 d:Nat)])):=aA.lay _ _;have b0:=gl1.cell f2;have b1:=gl1.cell f3;have b2:=gl1.cell hc1;have b3:=gl1.cell hc2;have b4:=gl1.cell hc3;have b5:=gl1.cell hc4;have e0:=gl2.cell f2;have e1:=gl2.cell f3;have e2:=gl2.cell hc1;have e3:=gl2.cell hc2;have e4:=gl2.cell hc3;have e5:=gl2.cell hc4;refine ⟨_,f2,?_⟩;conv=>whnf
   refine ⟨hsp1,⟨by omega,by omega⟩,?_⟩;conv=>whnf
   refine ⟨_,hc1,?_⟩;conv=>whnf
   refine ⟨hsp2,⟨by omega,by omega⟩,?_⟩;conv=>whnf
   refine ⟨_,hc2,?_⟩;conv=>whnf
   refine ⟨_,f3,?_⟩;conv=>whnf
   refine ⟨ug,⟨by omega,by omega⟩,?_⟩;conv=>whnf
   refine ⟨_,hc3,?_⟩;conv=>whnf
   refine ⟨Fg,⟨by omega,by omega⟩,?_⟩;conv=>whnf
   refine ⟨_,hc4,?_⟩;conv=>whnf
   refine ⟨rfl,_,bX (vs:=[int (ma.nx s1 d:Nat),int (mb.nx s2 d:Nat)]) rfl rfl rfl,?_⟩;conv=>whnf
   refine ⟨?_,?_⟩
   ·repeat' (first | exact True.intro | (refine And.intro ?_ ?_ <;> (conv=>whnf)))
    all_goals first
     | exact aj (h2:=_) rfl (aM _)
     | exact aj (h2:=_) rfl (bS _ _)
     | exact aj (h2:=_) rfl (aD _ _ _)
     | exact aj (h2:=_) rfl (ji _ _)
     | exact aj (h2:=_) (congrArg (hval _) f2) (aM _)
     | exact aj (h2:=_) (congrArg (hval _) f2) (aD _ _ _)
     | exact aj (h2:=_) (congrArg (hval _) f3) (aM _)
     | exact aj (h2:=_) (congrArg (hval _) f3) (aD _ _ _)
     | exact aj (h2:=_) (congrArg (hval _) hc1) (aM _)
     | exact aj (h2:=_) (congrArg (hval _) hc1) (aD _ _ _)
     | exact aj (h2:=_) (congrArg (hval _) hc2) (aM _)
     | exact aj (h2:=_) (congrArg (hval _) hc2) (aD _ _ _)
     | exact aj (h2:=_) (congrArg (hval _) hc3) (aM _)
     | exact aj (h2:=_) (congrArg (hval _) hc3) (aD _ _ _)
     | exact aj (h2:=_) (congrArg (hval _) hc4) (aM _)
     | exact aj (h2:=_) (congrArg (hval _) hc4) (aD _ _ _)
     | exact aj (h2:=_) (congrArg (hval _) b0) (aM _)
     | exact aj (h2:=_) (congrArg (hval _) b0) (aD _ _ _)
     | exact aj (h2:=_) (congrArg (hval _) b1) (aM _)
     | exact aj (h2:=_) (congrArg (hval _) b1) (aD _ _ _)
     | exact aj (h2:=_) (congrArg (hval _) b2) (aM _)
     | exact aj (h2:=_) (congrArg (hval _) b2) (aD _ _ _)
     | exact aj (h2:=_) (congrArg (hval _) b3) (aM _)
     | exact aj (h2:=_) (congrArg (hval _) b3) (aD _ _ _)
     | exact aj (h2:=_) (congrArg (hval _) b4) (aM _)
     | exact aj (h2:=_) (congrArg (hval _) b4) (aD _ _ _)
     | exact aj (h2:=_) (congrArg (hval _) b5) (aM _)
     | exact aj (h2:=_) (congrArg (hval _) b5) (aD _ _ _)
     | exact aj (h2:=_) (congrArg (hval _) e0) (aM _)
     | exact aj (h2:=_) (congrArg (hval _) e0) (aD _ _ _)
     | exact aj (h2:=_) (congrArg (hval _) e1) (aM _)
     | exact aj (h2:=_) (congrArg (hval _) e1) (aD _ _ _)
     | exact aj (h2:=_) (congrArg (hval _) e2) (aM _)
     | exact aj (h2:=_) (congrArg (hval _) e2) (aD _ _ _)
     | exact aj (h2:=_) (congrArg (hval _) e3) (aM _)
     | exact aj (h2:=_) (congrArg (hval _) e3) (aD _ _ _)
     | exact aj (h2:=_) (congrArg (hval _) e4) (aM _)
     | exact aj (h2:=_) (congrArg (hval _) e4) (aD _ _ _)
     | exact aj (h2:=_) (congrArg (hval _) e5) (aM _)
     | exact aj (h2:=_) (congrArg (hval _) e5) (aD _ _ _)
     | exact aj (h2:=_) (show hval _ (kI 1 (.slice (some ⟨_,_,_⟩) _ _) (int _)) = _ from fH hsp1 ⟨by omega,by omega⟩) (bS _ _)
     | exact aj (h2:=_) (show hval _ (kI 1 (.slice (some ⟨_,_,_⟩) _ _) (int _)) = _ from fH hsp2 ⟨by omega,by omega⟩) (bS _ _)
     | exact aj (h2:=_) (show hval _ (kI 1 (.slice (some ⟨_,_,_⟩) _ _) (int _)) = _ from fH ug ⟨by omega,by omega⟩) (bS _ _)
     | exact aj (h2:=_) (show hval _ (kI 1 (.slice (some ⟨_,_,_⟩) _ _) (int _)) = _ from fH Fg ⟨by omega,by omega⟩) (bS _ _)
     | exact ⟨_,rfl,Hp.ak _ _,rfl⟩
   exact ⟨(K.next,_),⟨rfl,rfl,rfl,rfl,rfl,rfl,rfl,rfl,rfl,rfl,rfl,rfl,rfl,trivial⟩,⟨rfl,aA.lay _ _,Hp.ak _ _,Nat.le_refl _⟩,rfl⟩
  rintro ⟨x15,K9⟩ Pp _ ⟨rfl,g9,aK,Jz⟩;dsimp only at g9 aK Jz ⊢;have aeK:M < K.next:=by
   obtain ⟨_,_,h1,_⟩:=hMK;exact Hp.aU h1
  have hz9:=hzK.ext g9;have hM9:=hMK.ext g9;have hu9:=huK.ext g9;have hw9:=hwK.ext g9;have ae3:ad (.slice au2 L'.length L'.length)≠some x15:=fun e=>by
   have h1:=(huK.iU x15 e).2;omega
  clear hzK hMK huK hwK;conv=>whnf
  refine aC.cut (α:=Nat×Bool×Hp) (fun q=>[(16,int q.1),(17,.bool q.2.1),(15,ptr x15 0),(14,int d),(13,.slice aw2 d d),(11,int s1),(12,int s2),(10,int a),(9,ptr Z 0),(8,bL M),(7,.slice au2 L'.length L'.length),(6,ptr RR 0),(3,ptr h.next 0),(4,ptr (h.next + 1) 0),(2,.slice (some ⟨rT,oT,spT⟩) Tb.length ct)]) (fun q H7=>q.2.2 = H7∧aA K9 H7∧(t ∈ L'→q.1 = nT L' t∧q.2.1 = true)∧(t ∉ L'→q.1 = L'.length∧q.2.1 = false)) ?_ ?_
  ·conv=>whnf
   refine ⟨_,aI aK rfl,?_⟩;conv=>whnf
   refine aJ.mono (MP au2 L'.length L'.length M L' t K9 hM9 rfl) ?_;rintro r H9 ⟨hr,g10⟩;by_cases hin:t ∈ L'
   ·have hr:=hr.1 hin;subst hr;conv=>whnf
    exact ⟨(nT L' t,true,H9),⟨rfl,rfl,rfl,rfl,rfl,rfl,rfl,rfl,rfl,rfl,rfl,rfl,rfl,rfl,rfl,trivial⟩,⟨rfl,g10,fun _=>⟨rfl,rfl⟩,fun q=>absurd hin q⟩,rfl⟩
   ·have hr:=hr.2 hin;subst hr;conv=>whnf
    exact ⟨(L'.length,false,H9),⟨rfl,rfl,rfl,rfl,rfl,rfl,rfl,rfl,rfl,rfl,rfl,rfl,rfl,rfl,rfl,trivial⟩,⟨rfl,g10,fun q=>absurd q hin,fun _=>⟨rfl,rfl⟩⟩,rfl⟩
  rintro ⟨kx,isb,K9⟩ acW _ ⟨rfl,g10,hin1,hin2⟩;dsimp only at g10 hin1 hin2 ⊢;have hz9:=hz9.ext g10;have hM9:=hM9.ext g10;have hu9:=hu9.ext g10;have hw9:=hw9.ext g10;have aK:=g10.at_ _ _ aK;clear g10;conv=>whnf
  refine aC.cut (α:=Value×Hp) (fun q=>[(16,int (nT (note L' t) t:Nat)),(14,int d),(13,.slice aw2 d d),(11,int s1),(12,int s2),(10,int a),(9,ptr Z 0),(8,bL M),(7,q.1),(6,ptr RR 0),(3,ptr h.next 0),(4,ptr (h.next + 1) 0),(2,.slice (some ⟨rT,oT,spT⟩) Tb.length ct)]) (fun q H7=>q.2 = H7∧MZ H q.2 26 Z ov nv ((L.take a).map out) us (rowsOf next ma.base L a) [int ma.base,ov,nv] [pl M,q.1,.slice aw2 d d]∧dS q.2 M dB (note L' t)∧bD H q.2 64 2 q.1 (note L' t).length (fl2 (note L' t))∧bD H q.2 3 1 (.slice aw2 d d) (rowOf next d L' s).length ((rowOf next d L' s).map int)) ?_ ?_
  ·by_cases hin:t ∈ L'
   ·have jF:note L' t = L':=by unfold note; rw [if_pos hin]
    have hk:=hin1 hin;obtain ⟨hk1,hk2⟩:=hk;subst hk1;subst hk2;rw [jF];conv=>whnf
    refine aC.go ?_;conv=>whnf
    repeat (refine aC.go ?_; conv=>whnf)
    exact ⟨(_,K9),⟨rfl,rfl,rfl,rfl,rfl,rfl,rfl,rfl,rfl,rfl,rfl,rfl,rfl,trivial⟩,⟨rfl,hz9,hM9,hu9,hw9⟩,rfl⟩
   ·have jF:note L' t = L' ++ [t]:=by unfold note; rw [if_neg hin]
    have hnl:(L' ++ [t]).length = L'.length + 1:=by rw [List.length_append]; rfl
    have hix:nT (L' ++ [t]) t = L'.length:=Ef hin;have hk:=hin2 hin;obtain ⟨hk1,hk2⟩:=hk;subst hk1;subst hk2;rw [jF] at kJ ⊢;rw [hix];conv=>whnf
    refine aC.go ?_;conv=>whnf
    repeat (refine aC.go ?_; conv=>whnf)
    refine ⟨_,aI aK rfl,?_⟩;conv=>whnf
    refine iO tM dM Tj (k:=t) (v:=int L'.length) rfl rfl rfl hM9 ?_;intro K10 nQ y10;have htz:=hz9.touch (i:=0) (v:=pl M) rfl (Kx.keeps y10) (y10.grows hz9.gr rP) (by rw [y10.next]; exact Nat.le_refl _);have Dm:=dS.add hin nQ;have jG:=htz.2.dA (v:=.slice au2 L'.length L'.length) (by simp) hu9;have aeo:=htz.2.dA (v:=.slice aw2 d d) (by simp) hw9;have hzz:=htz.1;have uj:K10.at x15 = some (.row 64 true [int t.1,int t.2]):=y10.at_ _ _ (by omega) aK;conv=>whnf
    repeat (refine aC.go ?_; conv=>whnf)
    refine ⟨_,aI uj rfl,?_⟩;conv=>whnf
    refine hzz.Pm (i:=1) (n:=L'.length) (cl:=fl2 L') (new:=[int t.1,int t.2]) rfl jG rfl rfl (by omega) (by omega) ?_;intro ZA K11 wV Dn Bp Dp Rv;obtain ⟨a11,n11,rfl⟩:=wV;have Mw:=Dp.map (M:=M) (by simp) Dm;have aep:=Dp.dA (v:=.slice aw2 d d) (by simp) aeo;conv=>whnf
    exact ⟨(_,K11),⟨rfl,rfl,rfl,rfl,rfl,rfl,rfl,rfl,rfl,rfl,rfl,rfl,rfl,trivial⟩,⟨rfl,Bp,Mw,by rw [Dc,hnl]; exact Dn,aep⟩,rfl⟩
  rintro ⟨u2,K1⟩ ae4 _ ⟨rfl,hz1,hM1,hu1,hw1⟩;dsimp only at hz1 hM1 hu1 hw1 ⊢;have Dl:=rH L' t;obtain ⟨r10,e10⟩:=Dl;have hrs:=R5 (next:=next) (s:=s) Dk e10;rw [et] at hrs;have abH:=hu1.slice;obtain ⟨au3,eu3,-⟩:=abH;subst eu3;have hrl:(rowOf next d L' s).length = d:=Kv;conv=>whnf
  refine hz1.Kh (i:=2) rfl hw1 (by omega) ?_;intro w' K2 hw' hb2 hz2' kv2;obtain ⟨a9,n9,rfl⟩:=hw';have YA:=kv2.map (M:=M) (by simp) hM1;have hu2:=kv2.dA (v:=.slice au3 (note L' t).length (note L' t).length) (by simp) hu1;rw [← hrs] at hb2;conv=>whnf
  repeat (refine aC.go ?_; conv=>whnf)
  refine ⟨((d + 1:Nat):Int),wie (by omega) (by omega),?_⟩;conv=>whnf
  exact Rnd.mk (d + 1,_,_,K2) ⟨by show d + 1≤ma.base; omega,hz2',by show dS K2 M dB (notes L (dI next s (d + 1))); rw [hsucc]; exact YA,by show bD H K2 64 2 _ (notes L (dI next s (d + 1))).length (fl2 (notes L (dI next s (d + 1)))); rw [hsucc]; exact hu2,by show bD H K2 3 1 _ (rowOf next (d + 1) (notes L (dI next s (d + 1))) s).length ((rowOf next (d + 1) (notes L (dI next s (d + 1))) s).map int); rw [hsucc]; exact hb2⟩ (by show ma.base - (d + 1) < ma.base - d; omega) ⟨rfl,rfl,rfl,rfl,rfl,rfl,rfl,rfl,rfl,rfl,rfl,rfl,trivial⟩ (Hp.Le.refl _) rfl
 rintro ⟨u2,w2,K⟩ φ9 _ ⟨rfl,hzK,hMK,huK,hwK⟩;dsimp only at hzK hMK huK hwK ⊢;clear hz hM hst;have hpre:=gJ (dI next s ma.base) L;obtain ⟨r8,e8⟩:=hpre;have hrows:=oM hq.met hq.le e8;have ac1:outs next ma.base s = dI next s ma.base:=rfl;rw [ac1] at hq2;have rO:∃ L',notes L (dI next s ma.base) = L':=⟨_,rfl⟩;obtain ⟨L',eL'⟩:=rO;rw [eL'] at hMK huK hwK hq2 e8 hrows;have xB:L'[a]? = some s:=by rw [e8,List.getElem?_append_left haL]; exact hs
 have htk:L'.take a = L.take a:=by rw [e8,List.take_append_of_le_length abF]
 have eO:((L.take a).map out) ++ [out s] = (L'.take (a + 1)).map out:=by rw [gK xB,List.map_append,htk]; rfl
 have eN:rowsOf next ma.base L a ++ [rowOf next ma.base L' s] = rowsOf next ma.base L' (a + 1):=by
  rw [← hrows];unfold rowsOf;rw [gK xB,List.map_append]; rfl
 have hus:=huK.slice;obtain ⟨au2,eu2,-⟩:=hus;subst eu2;have R3:=hwK.slice;obtain ⟨aw2,ew2,-⟩:=R3;subst ew2;have hov:=hzK.jE;obtain ⟨ax,eov⟩:=hov;subst eov;have hnv:=hzK.jO;obtain ⟨ay,env⟩:=hnv;subst env;have z1:=bA (o:=1) hzK.z rfl;have z2:=bA (o:=2) hzK.z rfl;conv=>whnf
 refine aC.cut (α:=Unit) (fun q=>[(18,.slice ax ((L.take a).map out).length ((L.take a).map out).length),(19,.slice ay (rowsOf next ma.base L a).length (rowsOf next ma.base L a).length),(13,.slice aw2 (rowOf next ma.base L' s).length (rowOf next ma.base L' s).length),(11,int s1),(12,int s2),(10,int a),(9,ptr Z 0),(8,bL M),(7,.slice au2 L'.length L'.length),(6,ptr RR 0),(3,ptr h.next 0),(4,ptr (h.next + 1) 0),(2,.slice (some ⟨rT,oT,spT⟩) Tb.length ct)]) (fun q H7=>K = H7) ?_ ?_
 ·conv=>whnf
  refine ⟨_,z1,?_⟩;conv=>whnf
  refine ⟨_,z2,?_⟩;conv=>whnf
  exact ⟨(),⟨rfl,rfl,rfl,rfl,rfl,rfl,rfl,rfl,rfl,rfl,rfl,rfl,rfl,trivial⟩,rfl,rfl⟩
 rintro _ Pp _ rfl;have kA:=hcx H h.next 26 gH aX;have kB:=hdx H (h.next + 1) 26 gH aY;have d1:cellAt H h.next 1 = some (.slice ao ma.out.length co):=kA.c1;have d2:cellAt H (h.next + 1) 1 = some (.slice bo mb.out.length do_):=kB.c1;have hoA:=kA.qD (s:=s1) (by omega);obtain ⟨r1,o1,sp1,ea1,hsp1,d3⟩:=hoA;subst ea1;have hoB:=kB.qD (s:=s2) (by omega);obtain ⟨r2,o2,sp2,ea2,hsp2,d4⟩:=hoB;subst ea2;have bdA:0≤ma.o s1∧ma.o s1≤9:=fC (P:=fun x=>0≤x∧x≤9) oa (j:=s1) (by omega);have bdB:0≤mb.o s2∧mb.o s2≤9:=fC (P:=fun x=>0≤x∧x≤9) ob (j:=s2) (by omega);have hiT:(ma.o s1).toNat < Tb.length:=by omega
 have hmt:=Mat.cell (hvt.ext gH) hiT;obtain ⟨r3,o3,sp3,a3,c3,ea3,ug,-,d5,vT⟩:=hmt;injection ea3 with ea3;injection ea3 with ea31 ea32 ea33;subst ea31;subst ea32;subst ea33;have erw:Tb[(ma.o s1).toNat] = rw_ Tb (ma.o s1).toNat:=by unfold rw_; rw [List.getD_eq_getElem?_getD,List.getElem?_eq_getElem hiT]; rfl
 have hrow:=okT.row (ma.o s1).toNat (by omega);rw [erw,hrow] at d5;rw [erw,hrow] at vT;have hct:=View.iI vT (i:=(mb.o s2).toNat) (by omega);obtain ⟨r4,o4,sp4,ea4,Fg,-,d6⟩:=hct;subst ea4;have eos:gl (rw_ Tb (ma.o s1).toNat) (mb.o s2).toNat = out s:=by
  rw [← acZ,es];unfold Ev;dsimp only;rw [Int.toNat_natCast,Int.toNat_natCast]
 rw [eos] at d6;conv=>whnf
 refine aC.cut (α:=Value×Hp) (fun q=>[(19,.slice ay (rowsOf next ma.base L a).length (rowsOf next ma.base L a).length),(13,.slice aw2 (rowOf next ma.base L' s).length (rowOf next ma.base L' s).length),(10,int a),(9,ptr Z 0),(8,bL M),(7,.slice au2 L'.length L'.length),(6,ptr RR 0),(3,ptr h.next 0),(4,ptr (h.next + 1) 0),(2,.slice (some ⟨rT,oT,spT⟩) Tb.length ct)]) (fun q H7=>q.2 = H7∧(∃ a n,q.1 = .slice a n n)∧MZ H q.2 26 Z q.1 (.slice ay (rowsOf next ma.base L a).length (rowsOf next ma.base L a).length) ((L'.take (a + 1)).map out) us (rowsOf next ma.base L a) [int ma.base,q.1,.slice ay (rowsOf next ma.base L a).length (rowsOf next ma.base L a).length] [pl M,.slice au2 L'.length L'.length,.slice aw2 (rowOf next ma.base L' s).length (rowOf next ma.base L' s).length]∧dS q.2 M dB L'∧bD H q.2 64 2 (.slice au2 L'.length L'.length) L'.length (fl2 L')∧bD H q.2 3 1 (.slice aw2 (rowOf next ma.base L' s).length (rowOf next ma.base L' s).length) (rowOf next ma.base L' s).length ((rowOf next ma.base L' s).map int)) ?_ ?_
 ·conv=>whnf
  have g0:=hzK.gr;have k1:=g0.cell d1;have k2:=g0.cell d2;have k3:=g0.cell d3;have k4:=g0.cell d4;have k5:=g0.cell d5;have k6:=g0.cell d6;have gl1:aA K (K.lay (.row 3 true [int (out s)])):=aA.lay _ _;have l1:=gl1.cell k1;have l2:=gl1.cell k2;have l3:=gl1.cell k3;have l4:=gl1.cell k4;have l5:=gl1.cell k5;have l6:=gl1.cell k6;have hzQ:=hzK;have hMQ:=hMK;have huQ:=huK;have hwQ:=hwK;refine ⟨_,k1,?_⟩;conv=>whnf
  refine ⟨hsp1,⟨by omega,by omega⟩,?_⟩;conv=>whnf
  refine ⟨_,k3,?_⟩;conv=>whnf
  refine ⟨ug,⟨by omega,by omega⟩,?_⟩;conv=>whnf
  refine ⟨_,k5,?_⟩;conv=>whnf
  refine ⟨_,k2,?_⟩;conv=>whnf
  refine ⟨hsp2,⟨by omega,by omega⟩,?_⟩;conv=>whnf
  refine ⟨_,k4,?_⟩;conv=>whnf
  refine ⟨Fg,⟨by omega,by omega⟩,?_⟩;conv=>whnf
  refine ⟨_,k6,?_⟩;conv=>whnf
  refine hzQ.EW (by omega) ?_;intro ov7 K7 Eo hz7 kv7;obtain ⟨a7,n7,rfl⟩:=Eo;have hM7:=kv7.map (M:=M) (by simp) hMQ;have hu7:=kv7.dA (v:=.slice au2 L'.length L'.length) (by simp) huQ;have hw7:=kv7.dA (v:=.slice aw2 (rowOf next ma.base L' s).length (rowOf next ma.base L' s).length) (by simp) hwQ;conv=>whnf
  refine ⟨rfl,_,dQ hz7.z (by simp) rfl,?_⟩;have hz8:=hz7.put [int ma.base,.slice a7 n7 n7,.slice ay (rowsOf next ma.base L a).length (rowsOf next ma.base L a).length];have hM8:=hz8.2.map (M:=M) (by simp) hM7;have hu8:=hz8.2.dA (v:=.slice au2 L'.length L'.length) (by simp) hu7;have hw8:=hz8.2.dA (v:=.slice aw2 (rowOf next ma.base L' s).length (rowOf next ma.base L' s).length) (by simp) hw7;have xA:=hz8.1;rw [eO] at xA;conv=>whnf
  have g7:=hz7.gr;have p1:=g7.cell d1;have p2:=g7.cell d2;have p3:=g7.cell d3;have p4:=g7.cell d4;have p5:=g7.cell d5;have p6:=g7.cell d6;have g8:=xA.gr;have q1:=g8.cell d1;have q2:=g8.cell d2;have q3:=g8.cell d3;have q4:=g8.cell d4;have q5:=g8.cell d5;have q6:=g8.cell d6;refine ⟨?_,?_⟩
  ·repeat' (first | exact True.intro | (refine And.intro ?_ ?_ <;> (conv=>whnf)))
   all_goals first
    | exact aj (h2:=_) rfl (aM _)
    | exact aj (h2:=_) rfl (bS _ _)
    | exact aj (h2:=_) rfl (aD _ _ _)
    | exact aj (h2:=_) rfl (ji _ _)
    | exact aj (h2:=_) (congrArg (hval _) k1) (aM _)
    | exact aj (h2:=_) (congrArg (hval _) k1) (aD _ _ _)
    | exact aj (h2:=_) (congrArg (hval _) k2) (aM _)
    | exact aj (h2:=_) (congrArg (hval _) k2) (aD _ _ _)
    | exact aj (h2:=_) (congrArg (hval _) k3) (aM _)
    | exact aj (h2:=_) (congrArg (hval _) k3) (aD _ _ _)
    | exact aj (h2:=_) (congrArg (hval _) k4) (aM _)
    | exact aj (h2:=_) (congrArg (hval _) k4) (aD _ _ _)
    | exact aj (h2:=_) (congrArg (hval _) k5) (aM _)
    | exact aj (h2:=_) (congrArg (hval _) k5) (aD _ _ _)
    | exact aj (h2:=_) (congrArg (hval _) k6) (aM _)
    | exact aj (h2:=_) (congrArg (hval _) k6) (aD _ _ _)
    | exact aj (h2:=_) (congrArg (hval _) l1) (aM _)
    | exact aj (h2:=_) (congrArg (hval _) l1) (aD _ _ _)
    | exact aj (h2:=_) (congrArg (hval _) l2) (aM _)
    | exact aj (h2:=_) (congrArg (hval _) l2) (aD _ _ _)
    | exact aj (h2:=_) (congrArg (hval _) l3) (aM _)
    | exact aj (h2:=_) (congrArg (hval _) l3) (aD _ _ _)
    | exact aj (h2:=_) (congrArg (hval _) l4) (aM _)
    | exact aj (h2:=_) (congrArg (hval _) l4) (aD _ _ _)
    | exact aj (h2:=_) (congrArg (hval _) l5) (aM _)
    | exact aj (h2:=_) (congrArg (hval _) l5) (aD _ _ _)
    | exact aj (h2:=_) (congrArg (hval _) l6) (aM _)
    | exact aj (h2:=_) (congrArg (hval _) l6) (aD _ _ _)
    | exact aj (h2:=_) (congrArg (hval _) p1) (aM _)
    | exact aj (h2:=_) (congrArg (hval _) p1) (aD _ _ _)
    | exact aj (h2:=_) (congrArg (hval _) p2) (aM _)
    | exact aj (h2:=_) (congrArg (hval _) p2) (aD _ _ _)
    | exact aj (h2:=_) (congrArg (hval _) p3) (aM _)
    | exact aj (h2:=_) (congrArg (hval _) p3) (aD _ _ _)
    | exact aj (h2:=_) (congrArg (hval _) p4) (aM _)
    | exact aj (h2:=_) (congrArg (hval _) p4) (aD _ _ _)
    | exact aj (h2:=_) (congrArg (hval _) p5) (aM _)
    | exact aj (h2:=_) (congrArg (hval _) p5) (aD _ _ _)
    | exact aj (h2:=_) (congrArg (hval _) p6) (aM _)
    | exact aj (h2:=_) (congrArg (hval _) p6) (aD _ _ _)
    | exact aj (h2:=_) (congrArg (hval _) q1) (aM _)
    | exact aj (h2:=_) (congrArg (hval _) q1) (aD _ _ _)
    | exact aj (h2:=_) (congrArg (hval _) q2) (aM _)
    | exact aj (h2:=_) (congrArg (hval _) q2) (aD _ _ _)
    | exact aj (h2:=_) (congrArg (hval _) q3) (aM _)
    | exact aj (h2:=_) (congrArg (hval _) q3) (aD _ _ _)
    | exact aj (h2:=_) (congrArg (hval _) q4) (aM _)
    | exact aj (h2:=_) (congrArg (hval _) q4) (aD _ _ _)
    | exact aj (h2:=_) (congrArg (hval _) q5) (aM _)
    | exact aj (h2:=_) (congrArg (hval _) q5) (aD _ _ _)
    | exact aj (h2:=_) (congrArg (hval _) q6) (aM _)
    | exact aj (h2:=_) (congrArg (hval _) q6) (aD _ _ _)
    | exact aj (h2:=_) (show hval _ (kI 1 (.slice (some ⟨_,_,_⟩) _ _) (int _)) = _ from fH hsp1 ⟨by omega,by omega⟩) (bS _ _)
    | exact aj (h2:=_) (show hval _ (kI 1 (.slice (some ⟨_,_,_⟩) _ _) (int _)) = _ from fH hsp2 ⟨by omega,by omega⟩) (bS _ _)
    | exact aj (h2:=_) (show hval _ (kI 1 (.slice (some ⟨_,_,_⟩) _ _) (int _)) = _ from fH ug ⟨by omega,by omega⟩) (bS _ _)
    | exact aj (h2:=_) (show hval _ (kI 1 (.slice (some ⟨_,_,_⟩) _ _) (int _)) = _ from fH Fg ⟨by omega,by omega⟩) (bS _ _)
    | exact ⟨_,rfl,Hp.ak _ _,rfl⟩
    | trace_state
  exact ⟨(_,_),⟨rfl,rfl,rfl,rfl,rfl,rfl,rfl,rfl,rfl,rfl,trivial⟩,⟨rfl,⟨_,_,rfl⟩,xA,hM8,hu8,hw8⟩,rfl⟩
 rintro ⟨ov8,K8⟩ acW _ ⟨rfl,ac2,hz8,hM8,hu8,hw8⟩;dsimp only at ac2 hz8 hM8 hu8 hw8 ⊢;obtain ⟨a8,n8,rfl⟩:=ac2;conv=>whnf
 repeat (refine aC.go ?_; conv=>whnf)
 refine hz8.yT (i:=2) (by omega) rfl hw8.b ?_;intro nv9 K9 IC hz9 kv9;obtain ⟨a9,n9,rfl⟩:=IC;have hM9:=kv9.map (M:=M) (by simp) hM8;have hu9:=kv9.dA (v:=.slice au2 L'.length L'.length) (by simp) hu8;conv=>whnf
 refine ⟨rfl,_,dQ hz9.z (by simp) rfl,?_⟩;have jQ:=hz9.put [int ma.base,.slice a8 n8 n8,.slice a9 n9 n9];have nQ:=jQ.2.map (M:=M) (by simp) hM9;have abI:=jQ.2.dA (v:=.slice au2 L'.length L'.length) (by simp) hu9;have Bp:=jQ.1;rw [eN] at Bp;conv=>whnf
 repeat (refine aC.go ?_; conv=>whnf)
 refine ⟨((a + 1:Nat):Int),wie (by omega) (by omega),?_⟩;conv=>whnf
 exact Rnd.mk (L',a + 1,_,_,_,_,_) ⟨hq2,Bp,nQ,abI⟩ (by show 2000000 - (a + 1) < 2000000 - a; omega) ⟨rfl,rfl,rfl,rfl,rfl,rfl,rfl,rfl,trivial⟩ (Hp.Le.refl _) rfl
end
end Go.Proofs.Ytedneplaibmppaa
namespace Go.Proofs.Ytedneplaibmppaa
open Go.Rx Go.RowKit
theorem mU (b:Bool):fD 4 (.bool b) (.bool b) = true:=by cases b <;> rfl
end Go.Proofs.Ytedneplaibmppaa
namespace Go.Proofs.Ytedneplaibmppaa
open Go.Rx Go.RowKit
structure IR (G:Hp) (N7 P:Nat) (b7:List Value) (m:Mac) (pa pb:Int) (va vb:Value) (la lb:List Int):Prop where
 hm:OkS m
 a7:G.at N7 = some (.row 26 true b7)
 l7:b7.length = 3
 o7:∃ Hb:Hp,N7 < Hb.next∧P < Hb.next∧jY Hb G (.agg ⟨b7⟩) m.i
 ab:∃ Hb:Hp,N7 < Hb.next∧P < Hb.next∧Built Hb G 3 va la∧Built Hb G 3 vb lb
 aP:G.at P = some (.row 64 true [int pa,int pb])
 ne:P < N7
theorem IR.ext {G G':Hp}{N7 P:Nat}{b7:List Value}{m:Mac}{pa pb:Int}{va vb:Value}{la lb:List Int}(k:IR G N7 P b7 m pa pb va vb la lb)(g:aA G G'):IR G' N7 P b7 m pa pb va vb la lb where
 hm:=k.hm
 a7:=g.at_ _ _ k.a7
 l7:=k.l7
 o7:=let ⟨Hb,h1,h2,h3⟩:=k.o7; ⟨Hb,h1,h2,h3.ext g⟩
 ab:=let ⟨Hb,h1,h2,h3,h4⟩:=k.ab; ⟨Hb,h1,h2,h3.ext g,h4.ext g⟩
 aP:=g.at_ _ _ k.aP
 ne:=k.ne
theorem IR.mv {G:Hp}{N7 P:Nat}{b7:List Value}{m:Mac}{pa pb:Int}{va vb:Value}{la lb:List Int}(k:IR G N7 P b7 m pa pb va vb la lb):MV G (.agg ⟨b7⟩) m.i:=let ⟨_,_,_,h⟩:=k.o7; h.mv
theorem Bx.one {h:Hp}{bx:List Value}{M:jh}(k:Bx h bx M):bx.all oneCell = true:=by
 obtain ⟨hl,hb,⟨a,c,ho,_⟩,⟨a',c',hn,_⟩⟩:=k
 match bx,hl with
 | [x,y,z],_=>cases hb; cases ho; cases hn; rfl
end Go.Proofs.Ytedneplaibmppaa
