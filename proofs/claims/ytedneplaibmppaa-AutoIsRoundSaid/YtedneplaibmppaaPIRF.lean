/- Contracts of the functions that PIRG comes to. -/
import Derived.Test.YtedneplaibmppaaPIRE
set_option maxRecDepth 100000
set_option maxHeartbeats 2000000
set_option linter.unusedVariables false
set_option linter.unusedSectionVars false
set_option linter.unusedSimpArgs false
namespace Go.Proofs.Ytedneplaibmppaa
open Go.Rx Go.RowKit
theorem Ut {H:Hp} {Z M r:Nat} (hZ:Z < H.next) (hM:M < H.next) (hr:r < H.next) (h1:Z≠M) (h2:Z≠r) (h3:M≠r) (n c:Nat):Rx.Sep H [pl Z,bg,bg,pl M,slc r 0 n c] []:=by
 refine ⟨fun v hv x e=>?_,fun u hu=>by simp at hu,fun i j v u hij hi hj=>?_,fun v hv u hu=>by simp at hu⟩
 ·simp at hv
  rcases hv with rfl | rfl | rfl | rfl
  ·cases e; exact hZ
  ·cases e
  ·cases e; exact hM
  ·cases e; exact hr
 ·match i,j,hi,hj with
  | 0,0,_,_=>exact absurd rfl hij
  | 3,3,_,_=>exact absurd rfl hij
  | 4,4,_,_=>exact absurd rfl hij
  | 0,3,hi,hj=>cases hi; cases hj; intro x e1 e2; cases e1; cases e2; exact h1 rfl
  | 3,0,hi,hj=>cases hi; cases hj; intro x e1 e2; cases e1; cases e2; exact h1 rfl
  | 0,4,hi,hj=>cases hi; cases hj; intro x e1 e2; cases e1; cases e2; exact h2 rfl
  | 4,0,hi,hj=>cases hi; cases hj; intro x e1 e2; cases e1; cases e2; exact h2 rfl
  | 3,4,hi,hj=>cases hi; cases hj; intro x e1 e2; cases e1; cases e2; exact h3 rfl
  | 4,3,hi,hj=>cases hi; cases hj; intro x e1 e2; cases e1; cases e2; exact h3 rfl
  | 1,_,hi,hj=>cases hi; exact Ap.nil _
  | 2,_,hi,hj=>cases hi; exact Ap.nil _
  | 0,1,hi,hj=>cases hj; exact (Ap.nil _).symm
  | 0,2,hi,hj=>cases hj; exact (Ap.nil _).symm
  | 3,1,hi,hj=>cases hj; exact (Ap.nil _).symm
  | 3,2,hi,hj=>cases hj; exact (Ap.nil _).symm
  | 4,1,hi,hj=>cases hj; exact (Ap.nil _).symm
  | 4,2,hi,hj=>cases hj; exact (Ap.nil _).symm
  | 0,j + 5,hi,hj=>simp at hj
  | 3,j + 5,hi,hj=>simp at hj
  | 4,j + 5,hi,hj=>simp at hj
  | i + 5,_,hi,_=>simp at hi
def nI (S:List Nat):List Int:=S.map fun n:Nat=>(n:Int)
theorem X4 (S:List Nat):(nI S).length = S.length:=by unfold nI; rw [List.length_map]
theorem aa5 {S:List Nat} {i s:Nat} (h:S[i]? = some s):gl (nI S) i = s:=by
 unfold nI gl
 rw [List.getD_eq_getElem?_getD,List.getElem?_map,h]; rfl
theorem aa6 (S:List Nat) (t:Nat):nI (S ++ [t]) = nI S ++ [(t:Int)]:=by unfold nI; rw [List.map_append]; rfl
def nG (m:Mac) (S:List Nat) (s d:Nat):List Int:=(List.range d).map fun e=>((kS (dZ m (fO m S s d)) (m.cl (m.nx s e)):Nat):Int)
theorem Kr {m:Mac} {S:List Nat} {s:Nat}:∀ d e,e < d→m.cl (m.nx s e) ∈ dZ m (fO m S s d)
 | d + 1,e,he=>by
  show m.cl (m.nx s e) ∈ dZ m (wY m (fO m S s d) (m.nx s d))
  rw [Ah]
  by_cases h:e = d
  ·subst h; exact oZ _ _
  ·exact Xb (Kr d e (by omega))
theorem UU {m:Mac} {S:List Nat} {s d:Nat}:nG m S s (d + 1) = nG m S s d ++ [((kS (dZ m (fO m S s (d + 1))) (m.cl (m.nx s d)):Nat):Int)]:=by
 unfold nG
 rw [List.range_succ,List.map_append]
 congr 1
 refine List.map_congr_left fun e he=>?_
 have he:=List.mem_range.1 he
 have hin:=Kr (m:=m) (S:=S) (s:=s) d e he
 have e1:dZ m (fO m S s (d + 1)) = note (dZ m (fO m S s d)) (m.cl (m.nx s d)):=Ah _ _ _
 rw [e1]
 obtain ⟨r,er⟩:=pq (dZ m (fO m S s d)) (m.cl (m.nx s d))
 unfold kS
 rw [er,mQ hin]
theorem UW {m:Mac} (hm:m.Ok) {S S':List Nat} {a:Nat} (k:Rq m S a) {r:List Nat} (e:S' = S ++ r):(S.take a).map (vk m S') = (S.take a).map (vk m S):=by
 have hb:=k.bq
 have hcl:dZ m S' = dZ m S ++ dZ m r:=by rw [e]; unfold dZ; rw [List.map_append]
 have hre:=mH hb.met hb.le hcl
 unfold rowsOf at hre
 have et:(dZ m S).take a = dZ m (S.take a):=by unfold dZ; rw [List.map_take]
 have hle:a≤S.length:=by have:=hb.le; unfold dZ at this; rw [List.length_map] at this; exact this
 have et':(dZ m S').take a = dZ m (S.take a):=by
  rw [hcl,List.take_append_of_le_length hb.le,et]
 rw [et,et'] at hre
 unfold dZ at hre
 rw [List.map_map,List.map_map] at hre
 refine Eq.trans (List.map_congr_left fun s hs=>?_) (Eq.trans hre (List.map_congr_left fun s hs=>?_))
 ·exact Mq hm S' (k.lt s (List.mem_of_mem_take hs))
 ·exact (Mq hm S (k.lt s (List.mem_of_mem_take hs))).symm
attribute [local irreducible] E iV cellAt bM storeAt callable dz dI dP findKey eD bT Hp.at Hp.set Hp.lay dO dw setAt aJ dA bO dG Rnd gD fK iN Int.tmod Int.tdiv Int.fdiv
section
variable [bE]
attribute [local irreducible] jZ sameAt lH
theorem Rc (v:Value) (m:Mac) (h:Hp) (hv:MV h v m.i) (hm:OkB m):aJ E 40 [v] h (fun r h'=>jD h h' r m.form.i∧aC h h'):=by
 obtain ⟨bx,rfl,hbx⟩:=hv.box
 obtain ⟨ao,an,co,cn,hcx⟩:=hbx.cx
 obtain ⟨i3,t3,-,z3⟩:=ty3
 obtain ⟨iM,tM,dM⟩:=OA
 have tJ:=hm.n
 have hb5:=hm.b
 have hn1:=hm.ok.n1
 have hil:=hm.ok.yT
 have hcl:=Mac.ny hm.ok
 refine enter40 (by simp) ?_
 conv=>whnf
 refine ak.cut (α:=Hp) (fun _=>[(1,ptr h.next 0),(2,ptr (h.next + 1) 0)]) (fun x H=>x = H∧aC h H∧H.at h.next = some (.row 26 true bx)∧H.at (h.next + 1) = some (.row 26 true [int 0,bg,bg])∧H.next = h.next + 2) ?_ ?_
 ·conv=>whnf
  have n1:(h.lay (.row 26 true bx)).next = h.next + 1:=Hp.bG _ _
  exact ⟨_,⟨rfl,congrArg (fun k=>ptr k 0) n1,trivial⟩,⟨rfl,(aC.lay _ _).bL _,Hp.bC _ (Hp.aA _ _),fM n1 (Hp.aA _ _),by rw [Hp.bG,n1]⟩,rfl⟩
 rintro H φ1 _ ⟨rfl,gH,aX,aR,nH⟩
 have kx:=hcx H h.next 26 gH aX
 have c1:cellAt H h.next 1 = some (.slice ao m.out.length co):=kx.c1
 have hout:∀ x ∈ m.out,0≤x∧x < 65536:=fun x hx=>by have:=hm.outs x hx; omega
 have adn:=Ko (c:=m.out) hm rfl hout fun s t hs ht e=>e
 conv=>whnf
 refine ak.cut (α:=Option Addr×Hp) (fun q=>[(3,.slice q.1 m.out.length m.out.length),(1,ptr h.next 0),(2,ptr (h.next + 1) 0)]) (fun q H2=>q.2 = H2∧aC H q.2∧View q.2 (.slice q.1 m.out.length m.out.length) (m.ref m.out)) ?_ ?_
 ·conv=>whnf
  refine ⟨_,aM aX hbx.len,?_⟩
  conv=>whnf
  refine ⟨_,c1,?_⟩
  conv=>whnf
  refine aJ.mono (I6 _ _ m m.out _ (Bx.mv (hbx.ext gH)) kx.o hm rfl hout) ?_
  rintro r H2 ⟨hr,g2⟩
  rw [adn.1] at hr
  have hws:=hr.c.slice
  obtain ⟨a,rfl,-⟩:=hws
  have hv2:=hr.view
  rw [Mac.Ab] at hv2
  conv=>whnf
  exact ⟨(a,H2),⟨congrArg (fun k=>Value.slice a k k) (Mac.Ab m m.out),rfl,rfl,trivial⟩,⟨rfl,g2,hv2⟩,rfl⟩
 rintro ⟨a0,H2⟩ φ2 _ ⟨rfl,g2,v2⟩
 dsimp only at g2 v2 ⊢
 have g0:=Mac.Good.start hm.ok
 have hk0:=SF (ks:=m.keys m.out) (fun e=>by have:=Mac.C8 m m.out; rw [e] at this; simp at this; omega)
 conv=>whnf
 refine ak.cut (α:=Option Addr×Hp) (fun q=>[(3,.slice q.1 m.out.length m.out.length),(1,ptr h.next 0),(2,ptr (h.next + 1) 0)]) (fun q H3=>q.2 = H3∧aC H q.2∧View q.2 (.slice q.1 m.out.length m.out.length) m.cls) ?_ ?_
 ·conv=>whnf
  repeat (refine ak.go ?_; conv=>whnf)
  refine bQ (α:=List Int×Nat×Option Addr×Hp) (fun q=>[(3,.slice q.2.2.1 m.out.length m.out.length),(1,ptr h.next 0),(2,ptr (h.next + 1) 0)]) (fun q=>q.2.2.2) (fun q=>aC H q.2.2.2∧View q.2.2.2 (.slice q.2.2.1 m.out.length m.out.length) q.1∧(∃ f j,Mac.Good m q.1 j q.2.1∧m.Js f q.1 q.2.1 = m.cls∧m.out.length + 1≤f + q.2.1)∧q.1.foldl max 0 + 1 = (q.2.1:Int)∧(∀ x ∈ q.1,0≤x∧x < 65536)) (fun q=>m.out.length + 1 - q.2.1) (m.ref m.out,m.cnt m.out,a0,H2) ⟨g2,v2,⟨m.out.length,1,g0,rfl,by have:=g0.le; show m.out.length + 1≤m.out.length + m.cnt m.out; omega⟩,hk0,XZ m.out tJ⟩ ⟨rfl,rfl,rfl,trivial⟩ (Hp.Le.refl _) ?_
  rintro ⟨c,k,a,G⟩ φ3 ⟨gG,vG,⟨f,j,good,hcls,hf⟩,hmax,hbd⟩
  dsimp only at gG vG good hcls hf hmax hbd ⊢
  have X5:=good.len
  have hsr:=Ko (c:=c) hm X5 hbd fun s t hs ht e=>good.out s t hs ht e
  have ZQ:=SF (ks:=m.keys c) (fun e=>by have:=Mac.C8 m c; rw [e] at this; simp at this; omega)
  have hkle:k≤m.cnt c:=by have:=Mac.LV m c; have:=good.cnt; omega
  have acY:=Mac.LW m c
  conv=>whnf
  repeat (refine ak.go ?_; conv=>whnf)
  refine ⟨_,aM (gG.at_ _ _ aX) hbx.len,?_⟩
  conv=>whnf
  refine aJ.mono (I6 _ _ m c _ (Bx.mv (hbx.ext (gH.trans gG))) vG hm X5 hbd) ?_
  rintro r G2 ⟨hr,gG2⟩
  rw [hsr.1] at hr
  have hws:=hr.c.slice
  obtain ⟨a2,rfl,-⟩:=hws
  have v2c:=hr.view
  have hlr:=Mac.Ab m c
  have hbr:=XZ c tJ
  conv=>whnf
  repeat (refine ak.go ?_; conv=>whnf)
  refine aJ.mono (I5 _ (m.ref c) _ v2c (by omega) (fun x hx=>by have:=hbr x hx; omega)) ?_
  rintro _ G3 ⟨rfl,eG⟩
  have eG:=eG.symm
  subst eG
  conv=>whnf
  refine aJ.mono (I5 _ c _ (vG.ext gG2) (by omega) (fun x hx=>by have:=hbd x hx; omega)) ?_
  rintro _ G4 ⟨rfl,eG⟩
  have eG:=eG.symm
  subst eG
  have hm1:(m.ref c).foldl max 0 + 1 = (m.cnt c:Int):=ZQ
  conv=>whnf
  by_cases hk:m.cnt c = k
  ·refine yG (by omega) ?_
   have ado:c = m.cls:=by
    cases f with
    | zero=>omega
    | succ f =>
     unfold Mac.Js at hcls
     rw [if_pos hk] at hcls
     exact hcls
   rw [ado] at vG
   conv=>whnf
   repeat (refine ak.go ?_; conv=>whnf)
   exact ⟨(a,G2),⟨rfl,rfl,rfl,trivial⟩,⟨rfl,gG.trans gG2,vG.ext gG2⟩,rfl⟩
  ·refine yH (by omega) ?_
   have hnext:∃ f j,Mac.Good m (m.ref c) j (m.cnt c)∧m.Js f (m.ref c) (m.cnt c) = m.cls∧m.out.length + 1≤f + m.cnt c:=by
    cases f with
    | zero=>omega
    | succ f =>
     unfold Mac.Js at hcls
     rw [if_neg hk] at hcls
     exact ⟨f,j + 1,good.next hm.ok hk,hcls,by omega⟩
   rw [hlr] at v2c
   conv=>whnf
   repeat (refine ak.go ?_; conv=>whnf)
   exact Rnd.mk (m.ref c,m.cnt c,a2,G2) ⟨gG.trans gG2,v2c,hnext,ZQ,hbr⟩ (by show m.out.length + 1 - m.cnt c < m.out.length + 1 - k; omega) ⟨congrArg (fun k=>Value.slice a2 k k) hlr,rfl,rfl,trivial⟩ (Hp.Le.refl _) rfl
 rintro ⟨a,H3⟩ φ3 _ ⟨rfl,g3,v3⟩
 dsimp only at g3 v3 ⊢
 have hc0:=View.iO v3 (i:=0) (by omega)
 obtain ⟨rc,oc,sc,ea,hsc,-,hc0⟩:=hc0
 subst ea
 have adp:gl m.cls 0 = m.cl 0:=rfl
 rw [adp] at hc0
 conv=>whnf
 refine ak.cut (α:=Nat×Hp) (fun q=>[(5,bK q.1),(3,.slice (some ⟨rc,oc,sc⟩) m.out.length m.out.length),(1,ptr h.next 0),(2,ptr (h.next + 1) 0)]) (fun q H4=>q.2 = H4∧aC H3 H4∧dN H4 q.1 encI [m.cl 0]∧H3.next≤q.1) ?_ ?_
 ·conv=>whnf
  refine ⟨hsc,⟨by omega,by omega⟩,?_⟩
  conv=>whnf
  refine ⟨_,(aC.lay _ _).cell hc0,?_⟩
  conv=>whnf
  refine kR tM dM Br (k:=m.cl 0) (v:=int 0) (n:=0) rfl rfl rfl (MapAt.new _) ?_
  intro H4 hM4 y4
  have gl4:aC H3 (H3.lay (.map [] 0)):=aC.lay _ _
  have gk4:aC H3 H4:=⟨by rw [y4.next]; exact gl4.next,fun r o e=>y4.at_ r o (by have:=Hp.aU e; omega) (gl4.at_ r o e)⟩
  conv=>whnf
  exact ⟨(H3.next,H4),⟨rfl,rfl,rfl,rfl,trivial⟩,⟨rfl,gk4,hM4.congr fun k=>by
   unfold fN
   by_cases e:k = m.cl 0
   ·rw [if_pos e,if_pos (by rw [e]; simp),e]; simp
   ·rw [if_neg e,if_neg (by simpa using e)],Nat.le_refl _⟩,rfl⟩
 rintro ⟨M,H4⟩ φ4 _ ⟨rfl,g4,hM4,qh⟩
 dsimp only at g4 hM4 qh ⊢
 have EZ:M < H4.next:=by
  obtain ⟨_,_,h1,_⟩:=hM4
  exact Hp.aU h1
 conv=>whnf
 refine ak.cut (α:=Hp) (fun q=>[(6,slc H4.next 0 1 1),(5,bK M),(3,.slice (some ⟨rc,oc,sc⟩) m.out.length m.out.length),(1,ptr h.next 0),(2,ptr (h.next + 1) 0)]) (fun q H5=>q = H5∧aC H4 H5∧H5.at H4.next = some (.row 3 true [int 0])∧H5.next = H4.next + 1) ?_ ?_
 ·conv=>whnf
  exact ⟨_,⟨rfl,rfl,rfl,rfl,rfl,trivial⟩,⟨rfl,aC.lay _ _,Hp.aA _ _,Hp.bG _ _⟩,rfl⟩
 rintro H5 φ5 _ ⟨rfl,g5,a5,n5⟩
 have g15:=(g3.trans g4).trans g5
 have d0:=(hcx H5 h.next 26 (gH.trans g15) (g15.at_ _ _ aX)).c0
 conv=>whnf
 refine ak.cut (α:=Hp) (fun q=>[(7,ptr H5.next 0),(6,slc H4.next 0 1 1),(5,bK M),(3,.slice (some ⟨rc,oc,sc⟩) m.out.length m.out.length),(1,ptr h.next 0),(2,ptr (h.next + 1) 0)]) (fun q H6=>q = H6∧aC H5 H6∧H6.at H5.next = some (.row 26 true [int m.base,bg,bg])) ?_ ?_
 ·conv=>whnf
  refine ⟨_,d0,?_⟩
  conv=>whnf
  refine ⟨rfl,_,cK (vs:=[int m.base,bg,bg]) rfl rfl rfl,?_⟩
  conv=>whnf
  exact ⟨_,⟨rfl,rfl,rfl,rfl,rfl,rfl,trivial⟩,⟨rfl,aC.lay _ _,Hp.aA _ _⟩,rfl⟩
 rintro H6 φ6 _ ⟨rfl,g6,a6⟩
 have wI:∃ Z,H5.next = Z:=⟨_,rfl⟩
 obtain ⟨Z,eZ⟩:=wI
 have Eh:∃ r6,H4.next = r6:=⟨_,rfl⟩
 obtain ⟨r6,er6⟩:=Eh
 rw [eZ] at a6 ⊢
 rw [er6] at a5 n5 EZ ⊢
 have Rf:=Hp.aU a6
 have ad5:=g4.next
 have g36:=(g4.trans g5).trans g6
 have hz6:MZ H3 H6 26 Z bg bg [] [] [] [int m.base,bg,bg] [pl M,slc r6 0 1 1]:=⟨g36,a6,bD.nil,bD.nil,rfl,fun k u l e=>by simp at e,by omega,Ut Rf (by omega) (by omega) (by omega) (by omega) (by omega) 1 1⟩
 have hM6:dN H6 M encI (dZ m [0]):=(hM4.ext g5).ext g6
 have nE:bD H3 H6 3 1 (slc r6 0 1 1) (nI [0]).length ((nI [0]).map int):=⟨rfl,.inr ⟨r6,rfl,by omega,true,g6.at_ _ _ a5⟩⟩
 have rq0:=Rq.start hm.ok
 have gh3:=gH.trans g3
 have aX3:=g3.at_ _ _ aX
 have aR3:=g3.at_ _ _ aR
 have hn3:=g3.next
 have Jy:=hz6.more (.refl _) (v:=bg) fun r e=>by cases e
 have adN:∀ w:Value,∀ u:Value,∀ us:List Value,u ∈ [pl M,u,w] ++ us:=fun w u us=>by simp
 clear a5 a6 g4 g5 g6 g36 g15 d0 hM4
 conv=>whnf
 refine ak.cut (α:=Value×Value×List Value×List Int×List (List Int)×Hp) (fun q=>[(7,ptr Z 0),(2,ptr (h.next + 1) 0)]) (fun q H7=>q.2.2.2.2.2 = H7∧∃ rs,MZ H3 q.2.2.2.2.2 26 Z q.1 q.2.1 q.2.2.2.1 q.2.2.1 q.2.2.2.2.1 [int m.base,q.1,q.2.1] rs∧m.form.i = ⟨m.base,q.2.2.2.1,q.2.2.2.2.1⟩) ?_ ?_
 rotate_left
 ·rintro ⟨ov,nv,us,O,N,H7⟩ φ7 _ ⟨rfl,rs,hz7,ef⟩
  dsimp only at hz7 ef ⊢
  have hov:=hz7.jE
  obtain ⟨ax,rfl⟩:=hov
  have hnv:=hz7.jh
  obtain ⟨ay,rfl⟩:=hnv
  have aR7:=hz7.gr.at_ _ _ aR3
  conv=>whnf
  repeat (refine ak.go ?_; conv=>whnf)
  refine ⟨_,aM hz7.z rfl,?_⟩
  conv=>whnf
  refine ⟨rfl,_,bJ (vs:=[int m.base,.slice ax O.length O.length,.slice ay N.length N.length]) aR7 rfl rfl rfl,?_⟩
  conv=>whnf
  repeat (refine ak.go ?_; conv=>whnf)
  obtain ⟨iR,tR,agR,szR⟩:=Qz
  refine fq (r:=h.next + 1) (o:=0) (cs:=[int m.base,.slice ax O.length O.length,.slice ay N.length N.length]) rfl tR agR ?_ ?_
  ·rw [szR]
   exact aM (Hp.bH _ (Hp.aU aR7)) rfl
  ·rw [ef]
   exact hz7.leave (h:=h) (R:=h.next + 1) (by omega) (by omega) gh3 m.base (.row 26 true [int m.base,.slice ax O.length O.length,.slice ay N.length N.length])
 conv=>whnf
 repeat (refine ak.go ?_; conv=>whnf)
 refine bQ (α:=List Nat×Nat×Value×Value×Value×List Value×Hp) (fun q=>[(8,int q.2.1),(7,ptr Z 0),(6,q.2.2.1),(5,bK M),(3,.slice (some ⟨rc,oc,sc⟩) m.out.length m.out.length),(1,ptr h.next 0),(2,ptr (h.next + 1) 0)]) (fun q=>q.2.2.2.2.2.2) (fun q=>Rq m q.1 q.2.1∧MZ H3 q.2.2.2.2.2.2 26 Z q.2.2.2.1 q.2.2.2.2.1 ((q.1.take q.2.1).map m.o) q.2.2.2.2.2.1 ((q.1.take q.2.1).map (vk m q.1)) [int m.base,q.2.2.2.1,q.2.2.2.2.1] [pl M,q.2.2.1,bg]∧dN q.2.2.2.2.2.2 M encI (dZ m q.1)∧bD H3 q.2.2.2.2.2.2 3 1 q.2.2.1 (nI q.1).length ((nI q.1).map int)) (fun q=>20000 - q.2.1) ([0],0,slc r6 0 1 1,bg,bg,[],H6) ⟨rq0,Jy,hM6,nE⟩ ⟨rfl,rfl,rfl,rfl,rfl,rfl,rfl,trivial⟩ (Hp.Le.refl _) ?_
 rintro ⟨S,a,u6,ov,nv,us,G⟩ φ7 ⟨rq,hz,hM,hst⟩
 dsimp only at rq hz hM hst ⊢
 have hSl:S.length≤m.out.length:=by
  have:=rq.bq.few
  unfold dZ at this
  rw [List.length_map,hcl] at this
  exact this
 have Rh:a≤S.length:=by have:=rq.bq.le; unfold dZ at this; rw [List.length_map] at this; exact this
 have hSI:=X4 S
 have hws:=hst.slice
 obtain ⟨au,eu,hau⟩:=hws
 subst eu
 conv=>whnf
 repeat (refine ak.go ?_; conv=>whnf)
 refine dB (fun q1=>?_) (fun q1=>?_)
 rotate_left
 ·have hfull:S.length≤a:=by omega
  have ef:=rq.form hm.ok hfull
  rw [List.take_of_length_le hfull] at hz
  conv=>whnf
  repeat (refine ak.go ?_; conv=>whnf)
  exact ⟨(ov,nv,us,S.map m.o,S.map (vk m S),G),⟨rfl,rfl,trivial⟩,⟨rfl,_,hz,ef⟩,rfl⟩
 have haS:a < S.length:=by omega
 have hs:=List.getElem?_eq_getElem haS
 have tF:∃ s,S[a] = s:=⟨_,rfl⟩
 obtain ⟨s,es⟩:=tF
 rw [es] at hs
 have hsl:=rq.lt s (List.mem_of_getElem? hs)
 have hvS:View G (.slice au (nI S).length (nI S).length) (nI S):=Built.view (h0:=H3) (e:=3) hst.b
 have hcs:=View.iO hvS (i:=a) (by omega)
 obtain ⟨r1,o1,sp1,ea,hsp1,-,hc1⟩:=hcs
 subst ea
 rw [aa5 hs] at hc1
 conv=>whnf
 refine ak.go ?_
 conv=>whnf
 refine ak.cut (α:=Unit) (fun q=>[(9,int s),(8,int a),(7,ptr Z 0),(6,.slice (some ⟨r1,o1,sp1⟩) (nI S).length (nI S).length),(5,bK M),(3,.slice (some ⟨rc,oc,sc⟩) m.out.length m.out.length),(1,ptr h.next 0),(2,ptr (h.next + 1) 0)]) (fun q H7=>G = H7) ?_ ?_
 ·conv=>whnf
  refine ⟨hsp1,⟨by omega,by omega⟩,?_⟩
  conv=>whnf
  refine ⟨_,hc1,?_⟩
  conv=>whnf
  exact ⟨(),⟨rfl,rfl,rfl,rfl,rfl,rfl,rfl,rfl,trivial⟩,rfl,rfl⟩
 rintro _ φ8 _ rfl
 have X5:m.cls.length = m.out.length:=hcl
 have hbM:∀ d,d≤m.base→(fO m S s d).length≤m.out.length:=fun d hd=>by
  have h1:=gN (Mac.ru hm.ok) rq.bq (s:=m.cl s) (List.mem_of_getElem? (Mac.pR hm.ok hsl)) hd
  rw [← Bw hm.ok S hsl d hd,hcl] at h1
  unfold dZ at h1
  rw [List.length_map] at h1
  exact h1
 conv=>whnf
 refine ak.go ?_
 conv=>whnf
 refine ak.cut (α:=Value×Value×Hp) (fun q=>[(10,q.2.1),(9,int s),(8,int a),(7,ptr Z 0),(6,q.1),(5,bK M),(3,.slice (some ⟨rc,oc,sc⟩) m.out.length m.out.length),(1,ptr h.next 0),(2,ptr (h.next + 1) 0)]) (fun q H7=>q.2.2 = H7∧MZ H3 q.2.2 26 Z ov nv ((S.take a).map m.o) us ((S.take a).map (vk m S)) [int m.base,ov,nv] [pl M,q.1,q.2.1]∧dN q.2.2 M encI (dZ m (fO m S s m.base))∧bD H3 q.2.2 3 1 q.1 (nI (fO m S s m.base)).length ((nI (fO m S s m.base)).map int)∧bD H3 q.2.2 3 1 q.2.1 (nG m S s m.base).length ((nG m S s m.base).map int)) ?_ ?_
 ·conv=>whnf
  repeat (refine ak.go ?_; conv=>whnf)
  refine bQ (α:=Nat×Value×Value×Hp) (fun q=>[(11,int q.1),(10,q.2.2.1),(9,int s),(8,int a),(7,ptr Z 0),(6,q.2.1),(5,bK M),(3,.slice (some ⟨rc,oc,sc⟩) m.out.length m.out.length),(1,ptr h.next 0),(2,ptr (h.next + 1) 0)]) (fun q=>q.2.2.2) (fun q=>q.1≤m.base∧MZ H3 q.2.2.2 26 Z ov nv ((S.take a).map m.o) us ((S.take a).map (vk m S)) [int m.base,ov,nv] [pl M,q.2.1,q.2.2.1]∧dN q.2.2.2 M encI (dZ m (fO m S s q.1))∧bD H3 q.2.2.2 3 1 q.2.1 (nI (fO m S s q.1)).length ((nI (fO m S s q.1)).map int)∧bD H3 q.2.2.2 3 1 q.2.2.1 (nG m S s q.1).length ((nG m S s q.1).map int)) (fun q=>m.base - q.1) (0,_,bg,G) ⟨Nat.zero_le _,hz,hM,hst,bD.nil⟩ ⟨rfl,rfl,rfl,rfl,rfl,rfl,rfl,rfl,rfl,rfl,trivial⟩ (Hp.Le.refl _) ?_
  rintro ⟨d,u,w,K⟩ φ9 ⟨hd,hzK,hMK,huK,hwK⟩
  dsimp only at hd hzK hMK huK hwK ⊢
  have kK:=hcx K h.next 26 (gh3.trans hzK.gr) (hzK.gr.at_ _ _ aX3)
  have f0:cellAt K h.next 0 = some (int (m.base:Int)):=kK.c0
  have f2:=kK.c2
  have I8:∃ T,fO m S s d = T:=⟨_,rfl⟩
  obtain ⟨T,eT⟩:=I8
  rw [eT] at hMK huK
  have hus:=huK.slice
  obtain ⟨au2,eu2,-⟩:=hus
  subst eu2
  have Bz:=hwK.slice
  obtain ⟨aw2,ew2,-⟩:=Bz
  subst ew2
  conv=>whnf
  repeat (refine ak.go ?_; conv=>whnf)
  refine ⟨_,f0,?_⟩
  conv=>whnf
  refine dB (fun q2=>?_) (fun q2=>?_)
  rotate_left
  ·have:d = m.base:=by omega
   subst this
   conv=>whnf
   repeat (refine ak.go ?_; conv=>whnf)
   exact ⟨(_,_,K),⟨rfl,rfl,rfl,rfl,rfl,rfl,rfl,rfl,rfl,trivial⟩,⟨rfl,hzK,by rw [eT]; exact hMK,by rw [eT]; exact huK,hwK⟩,rfl⟩
  have hd':d < m.base:=by omega
  have hnl:=hm.ok.lt s d hsl hd'
  have hnx:=kK.lG hm.ok hsl hd'
  obtain ⟨r5,o5,sp5,r7,o7,sp7,c7',ea,E8,hc5,ab3,hc7⟩:=hnx
  subst ea
  have hext:∃ t,m.nx s d = t:=⟨_,rfl⟩
  obtain ⟨t,et⟩:=hext
  rw [et] at hc7 hnl
  have hSd:=hbM d (by omega)
  have adq:=hbM (d + 1) (by omega)
  have eS1:fO m S s (d + 1) = wY m (fO m S s d) t:=by rw [← et]; rfl
  have ePr:nG m S s (d + 1) = nG m S s d ++ [((kS (dZ m (fO m S s (d + 1))) (m.cl t):Nat):Int)]:=by rw [UU,et]
  rw [eT] at hSd eS1
  have ab5:∃ T1,fO m S s (d + 1) = T1:=⟨_,rfl⟩
  obtain ⟨T1,eT1⟩:=ab5
  have adr:m.cl t ∈ dZ m T1:=by rw [← eT1,eS1,Ah]; exact oZ _ _
  rw [eT1] at adq eS1 ePr
  have hnI:=X4 T
  have hct:=View.iO (v3.ext hzK.gr) (i:=t) (by omega)
  obtain ⟨r8,o8,sp8,ea,-,-,hc8⟩:=hct
  injection ea with ea
  injection ea with ea1 ea2 ea3
  subst ea1
  subst ea2
  subst ea3
  have ab6:gl m.cls t = m.cl t:=rfl
  rw [ab6] at hc8
  have hpl:(nG m S s d).length = d:=by unfold nG; rw [List.length_map,List.length_range]
  conv=>whnf
  refine ak.go ?_
  conv=>whnf
  refine ak.cut (α:=Unit) (fun q=>[(12,int t),(11,int d),(10,.slice aw2 (nG m S s d).length (nG m S s d).length),(9,int s),(8,int a),(7,ptr Z 0),(6,.slice au2 (nI T).length (nI T).length),(5,bK M),(3,.slice (some ⟨rc,oc,sc⟩) m.out.length m.out.length),(1,ptr h.next 0),(2,ptr (h.next + 1) 0)]) (fun q H7=>K = H7) ?_ ?_
  ·conv=>whnf
   refine ⟨_,f2,?_⟩
   conv=>whnf
   refine ⟨E8,⟨by omega,by omega⟩,?_⟩
   conv=>whnf
   refine ⟨_,hc5,?_⟩
   conv=>whnf
   refine ⟨ab3,⟨by omega,by omega⟩,?_⟩
   conv=>whnf
   refine ⟨_,hc7,?_⟩
   conv=>whnf
   exact ⟨(),⟨rfl,rfl,rfl,rfl,rfl,rfl,rfl,rfl,rfl,rfl,rfl,trivial⟩,rfl,rfl⟩
  rintro _ E5 _ rfl
  conv=>whnf
  refine ak.cut (α:=Value×Hp) (fun q=>[(12,int t),(11,int d),(10,.slice aw2 (nG m S s d).length (nG m S s d).length),(9,int s),(8,int a),(7,ptr Z 0),(6,q.1),(5,bK M),(3,.slice (some ⟨rc,oc,sc⟩) m.out.length m.out.length),(1,ptr h.next 0),(2,ptr (h.next + 1) 0)]) (fun q H7=>q.2 = H7∧MZ H3 q.2 26 Z ov nv ((S.take a).map m.o) us ((S.take a).map (vk m S)) [int m.base,ov,nv] [pl M,q.1,.slice aw2 (nG m S s d).length (nG m S s d).length]∧dN q.2 M encI (dZ m T1)∧bD H3 q.2 3 1 q.1 (nI T1).length ((nI T1).map int)∧bD H3 q.2 3 1 (.slice aw2 (nG m S s d).length (nG m S s d).length) (nG m S s d).length ((nG m S s d).map int)) ?_ ?_
  ·by_cases hin:m.cl t ∈ dZ m T
   ·have e1:T1 = T:=by rw [eS1]; unfold wY; rw [if_pos hin]
    rw [e1]
    conv=>whnf
    refine ak.go ?_
    conv=>whnf
    refine ⟨hsc,⟨by omega,by omega⟩,?_⟩
    conv=>whnf
    refine ⟨_,hc8,?_⟩
    conv=>whnf
    refine gY tM dM t3 z3 Br (k:=m.cl t) rfl rfl hMK (lD hin) ?_
    conv=>whnf
    repeat (refine ak.go ?_; conv=>whnf)
    exact ⟨(_,K),⟨rfl,rfl,rfl,rfl,rfl,rfl,rfl,rfl,rfl,rfl,rfl,trivial⟩,⟨rfl,hzK,hMK,huK,hwK⟩,rfl⟩
   ·have e1:T1 = T ++ [t]:=by rw [eS1]; unfold wY; rw [if_neg hin]
    have e2:dZ m T1 = dZ m T ++ [m.cl t]:=by rw [e1]; unfold dZ; rw [List.map_append]; rfl
    have hcT:(dZ m T).length = T.length:=by unfold dZ; rw [List.length_map]
    conv=>whnf
    refine ak.go ?_
    conv=>whnf
    refine ⟨hsc,⟨by omega,by omega⟩,?_⟩
    conv=>whnf
    refine ⟨_,hc8,?_⟩
    conv=>whnf
    refine gZ tM dM t3 z3 Br (k:=m.cl t) rfl rfl hMK (qg hin) ?_
    conv=>whnf
    repeat (refine ak.go ?_; conv=>whnf)
    refine ⟨hsc,⟨by omega,by omega⟩,?_⟩
    conv=>whnf
    refine ⟨_,hc8,?_⟩
    conv=>whnf
    refine iD tM dM Br (k:=m.cl t) (v:=int (nI T).length) rfl rfl rfl hMK ?_
    intro K1 hM1 y1
    rw [hnI.trans hcT.symm] at hM1
    have htz:=hzK.touch (i:=0) (v:=pl M) rfl (Kx.keeps y1) (y1.grows hzK.gr qh) (by rw [y1.next]; exact Nat.le_refl _)
    have ads:=dN.add hin hM1
    have hu1:=htz.2.bW (v:=.slice au2 (nI T).length (nI T).length) (by simp) huK
    have hw1:=htz.2.bW (v:=.slice aw2 (nG m S s d).length (nG m S s d).length) (by simp) hwK
    conv=>whnf
    repeat (refine ak.go ?_; conv=>whnf)
    refine htz.1.J9 (i:=1) rfl hu1 (by omega) ?_
    intro u' K2 hu' hb2 hz2' kv2
    obtain ⟨a9,n9,rfl⟩:=hu'
    have Mr:=kv2.map (M:=M) (by simp) ads
    have hw2:=kv2.bW (v:=.slice aw2 (nG m S s d).length (nG m S s d).length) (by simp) hw1
    conv=>whnf
    exact ⟨(_,K2),⟨rfl,rfl,rfl,rfl,rfl,rfl,rfl,rfl,rfl,rfl,rfl,trivial⟩,⟨rfl,hz2',by rw [e2]; exact Mr,by rw [e1,aa6]; exact hb2,hw2⟩,rfl⟩
  rintro ⟨u2,K1⟩ Ri _ ⟨rfl,hz1,hM1,hu1,hw1⟩
  dsimp only at hz1 hM1 hu1 hw1 ⊢
  have adt:=View.iO (v3.ext hz1.gr) (i:=t) (by omega)
  obtain ⟨r9,o9,sp9,ea,-,-,hc9⟩:=adt
  injection ea with ea
  injection ea with ea1 ea2 ea3
  subst ea1
  subst ea2
  subst ea3
  rw [ab6] at hc9
  have Rj:=hu1.slice
  obtain ⟨au3,eu3,-⟩:=Rj
  subst eu3
  conv=>whnf
  refine ⟨hsc,⟨by omega,by omega⟩,?_⟩
  conv=>whnf
  refine ⟨_,hc9,?_⟩
  conv=>whnf
  refine gu tM dM t3 z3 Br (k:=m.cl t) rfl rfl hM1 (lD adr) ?_
  conv=>whnf
  refine hz1.J9 (i:=2) rfl hw1 (by omega) ?_
  intro w' K2 hw' hb2 hz2' kv2
  obtain ⟨a9,n9,rfl⟩:=hw'
  have Mr:=kv2.map (M:=M) (by simp) hM1
  have hu2:=kv2.bW (v:=.slice au3 (nI T1).length (nI T1).length) (by simp) hu1
  conv=>whnf
  repeat (refine ak.go ?_; conv=>whnf)
  refine ⟨((d + 1:Nat):Int),wie (by omega) (by omega),?_⟩
  conv=>whnf
  exact Rnd.mk (d + 1,_,_,K2) ⟨by show d + 1≤m.base; omega,hz2',by show dN K2 M encI (dZ m (fO m S s (d + 1))); rw [eT1]; exact Mr,by show bD H3 K2 3 1 _ (nI (fO m S s (d + 1))).length ((nI (fO m S s (d + 1))).map int); rw [eT1]; exact hu2,by show bD H3 K2 3 1 _ (nG m S s (d + 1)).length ((nG m S s (d + 1)).map int); rw [ePr]; exact hb2⟩ (by show m.base - (d + 1) < m.base - d; omega) ⟨rfl,rfl,rfl,rfl,rfl,rfl,rfl,rfl,rfl,rfl,trivial⟩ (Hp.Le.refl _) rfl
 rintro ⟨u2,w2,K⟩ φ9 _ ⟨rfl,hzK,hMK,huK,hwK⟩
 dsimp only at hzK hMK huK hwK ⊢
 have hpre:=I7 m S s m.base
 obtain ⟨rr,err⟩:=hpre
 have ab7:=rq.next hm.ok hs
 have ZR:=UW hm.ok rq err
 have ab8:∃ S',fO m S s m.base = S':=⟨_,rfl⟩
 obtain ⟨S',eS'⟩:=ab8
 have ePR:nG m S s m.base = vk m S' s:=by rw [← eS']; rfl
 rw [eS'] at hMK huK err ab7 ZR
 rw [ePR] at hwK
 have hs':S'[a]? = some s:=by rw [err,List.getElem?_append_left haS]; exact hs
 have etk:S'.take a = S.take a:=by rw [err,List.take_append_of_le_length Rh]
 have eO:((S.take a).map m.o) ++ [m.o s] = (S'.take (a + 1)).map m.o:=by rw [fZ hs',List.map_append,etk]; rfl
 have eN:((S.take a).map (vk m S)) ++ [vk m S' s] = (S'.take (a + 1)).map (vk m S'):=by rw [fZ hs',List.map_append,etk,ZR]; rfl
 have htl:(S.take a).length = a:=by rw [List.length_take]; omega
 have hus:=huK.slice
 obtain ⟨au2,eu2,-⟩:=hus
 subst eu2
 have Bz:=hwK.slice
 obtain ⟨aw2,ew2,-⟩:=Bz
 subst ew2
 have hov:=hzK.jE
 obtain ⟨ax,eov⟩:=hov
 subst eov
 have hnv:=hzK.jh
 obtain ⟨ay,env⟩:=hnv
 subst env
 have z1:=aQ (o:=1) hzK.z rfl
 have z2:=aQ (o:=2) hzK.z rfl
 have kK:=hcx K h.next 26 (gh3.trans hzK.gr) (hzK.gr.at_ _ _ aX3)
 have f1:cellAt K h.next 1 = some (.slice ao m.out.length co):=kK.c1
 have hoM:=kK.EY hsl
 obtain ⟨r5,o5,sp5,ea,E8,hc5⟩:=hoM
 subst ea
 conv=>whnf
 repeat (refine ak.go ?_; conv=>whnf)
 refine ⟨_,z1,?_⟩
 conv=>whnf
 refine ⟨_,z2,?_⟩
 conv=>whnf
 repeat (refine ak.go ?_; conv=>whnf)
 refine ⟨_,f1,?_⟩
 conv=>whnf
 refine ⟨E8,⟨by omega,by omega⟩,?_⟩
 conv=>whnf
 refine ⟨_,hc5,?_⟩
 conv=>whnf
 refine hzK.Da (by rw [List.length_map]; omega) ?_
 intro ov7 K7 Bt hz7 kv7
 obtain ⟨a7,n7,rfl⟩:=Bt
 have hM7:=kv7.map (M:=M) (by simp) hMK
 have hu7:=kv7.bW (v:=.slice au2 (nI S').length (nI S').length) (by simp) huK
 have hw7:=kv7.bW (v:=.slice aw2 (vk m S' s).length (vk m S' s).length) (by simp) hwK
 conv=>whnf
 refine ⟨rfl,_,dK hz7.z (by simp) rfl,?_⟩
 have hz8:=hz7.put [int m.base,.slice a7 n7 n7,.slice ay ((S.take a).map (vk m S)).length ((S.take a).map (vk m S)).length]
 have hM8:=hz8.2.map (M:=M) (by simp) hM7
 have hu8:=hz8.2.bW (v:=.slice au2 (nI S').length (nI S').length) (by simp) hu7
 have hw8:=hz8.2.bW (v:=.slice aw2 (vk m S' s).length (vk m S' s).length) (by simp) hw7
 conv=>whnf
 repeat (refine ak.go ?_; conv=>whnf)
 refine hz8.1.Az (i:=2) (by rw [List.length_map]; omega) rfl hw8.b ?_
 intro nv9 K9 Ed hz9 kv9
 obtain ⟨a9,n9,rfl⟩:=Ed
 have hM9:=kv9.map (M:=M) (by simp) hM8
 have hu9:=kv9.bW (v:=.slice au2 (nI S').length (nI S').length) (by simp) hu8
 conv=>whnf
 refine ⟨rfl,_,dK hz9.z (by simp) rfl,?_⟩
 have jM:=hz9.put [int m.base,.slice a7 n7 n7,.slice a9 n9 n9]
 have mI:=jM.2.map (M:=M) (by simp) hM9
 have Rl:=jM.2.bW (v:=.slice au2 (nI S').length (nI S').length) (by simp) hu9
 have rC:=jM.1
 rw [eO,eN] at rC
 conv=>whnf
 repeat (refine ak.go ?_; conv=>whnf)
 refine ⟨((a + 1:Nat):Int),wie (by omega) (by omega),?_⟩
 conv=>whnf
 exact Rnd.mk (S',a + 1,_,_,_,_,_) ⟨ab7,rC,mI,Rl⟩ (by show 20000 - (a + 1) < 20000 - a; omega) ⟨rfl,rfl,rfl,rfl,rfl,rfl,rfl,trivial⟩ (Hp.Le.refl _) rfl
end
end Go.Proofs.Ytedneplaibmppaa
namespace Go.Proofs.Ytedneplaibmppaa
open Go.Rx Go.RowKit
attribute [local irreducible] E iV cellAt bM storeAt callable dz dI dP findKey eD bT Hp.at Hp.set Hp.lay dO dw setAt aJ dA bO dG Rnd gD fK iN Int.tmod Int.tdiv Int.fdiv
section
variable [bE]
attribute [local irreducible] jZ sameAt
theorem wR (a:Option Addr) (n c M:Nat) (L:List (Int×Int)) (kk:Int×Int) (h:Hp) (hM:dN h M dH L) (hn:n = L.length):aJ E 83 [.slice a n c,bK M,dH kk] h (fun r h'=>((kk ∈ L→r = .tuple ⟨[int (kS L kk:Nat),.bool true]⟩)∧(kk ∉ L→r = .tuple ⟨[int L.length,.bool false]⟩))∧aC h h'):=by
 subst hn
 obtain ⟨i3,t3,-,z3⟩:=ty3
 obtain ⟨iM,tM,dM⟩:=Si
 obtain ⟨x,y⟩:=kk
 unfold dH
 refine enter83 (by simp) ?_
 conv=>whnf
 refine ak.cut (α:=Hp) (fun _=>[(5,ptr h.next 0),(0,.slice a L.length c),(1,bK M)]) (fun q H=>q = H∧aC h H∧H.at h.next = some (.row 64 true [int x,int y])) ?_ ?_
 ·conv=>whnf
  exact ⟨_,⟨rfl,rfl,rfl,trivial⟩,⟨rfl,aC.lay _ _,Hp.aA _ _⟩,rfl⟩
 rintro H φ1 _ ⟨rfl,gH,aK⟩
 have hM1:=hM.ext gH
 by_cases hin:(x,y) ∈ L
 ·conv=>whnf
  repeat (refine ak.go ?_; conv=>whnf)
  refine ⟨_,aM aK rfl,?_⟩
  conv=>whnf
  refine gY tM dM t3 z3 EJ (k:=(x,y)) rfl rfl hM1 (lD hin) ?_
  conv=>whnf
  repeat (refine ak.go ?_; conv=>whnf)
  exact ⟨⟨fun _=>rfl,fun q=>absurd hin q⟩,gH⟩
 ·conv=>whnf
  repeat (refine ak.go ?_; conv=>whnf)
  refine ⟨_,aM aK rfl,?_⟩
  conv=>whnf
  refine gZ tM dM t3 z3 EJ (k:=(x,y)) rfl rfl hM1 (qg hin) ?_
  conv=>whnf
  repeat (refine ak.go ?_; conv=>whnf)
  exact ⟨⟨fun q=>absurd q hin,fun _=>rfl⟩,gH⟩
end
end Go.Proofs.Ytedneplaibmppaa
namespace Go.Proofs.Ytedneplaibmppaa
open Go.Rx Go.RowKit
structure Wr (hb H0 H:Hp):Prop where
 gr:aC hb H
 next:H.next = H0.next
 row:∀ (r:Nat) (x:Bool) (l:List Int),H0.at r = some (.row 3 x (l.map int))→∃ l':List Int,l'.length = l.length∧H.at r = some (.row 3 x (l'.map int))
 oth:∀ (r e:Nat) (x:Bool) (cs:List Value),e≠3→H0.at r = some (.row e x cs)→H.at r = some (.row e x cs)
theorem Wr.refl {hb H:Hp} (g:aC hb H):Wr hb H H:=⟨g,rfl,fun r x l e=>⟨l,rfl,e⟩,fun r e x cs _ h=>h⟩
end Go.Proofs.Ytedneplaibmppaa
namespace Go.Proofs.Ytedneplaibmppaa
open Go.Rx Go.RowKit
/-! The machine of the states that are met. -/
def EY (m:Mac) (s:Int):Int:=m.o s.toNat
/-! Other outputs. -/
/-! Two digits at once. -/
/-! Two machines side by side. -/
def OX (a b:Mac) (T:List (List Int)) (p:Int×Int):Int:=gl (rw_ T (a.o p.1.toNat).toNat) (b.o p.2.toNat).toNat
noncomputable def vw (a b:Mac) (T:List (List Int)):Mac:=built a.base ((0:Int),(0:Int)) (OX a b T) (kr a b)
theorem I9 {a b:Mac} (ha:a.Ok) (hb:b.Ok) (hbb:a.base = b.base):yQ (kr a b) a.base (sq a.out.length b.out.length):=⟨fun _ hp _ hd=>OO ha hb hbb hp hd⟩
theorem Ja {a b:Mac} (ha:a.Ok) (hb:b.Ok):((0:Int),(0:Int)) ∈ sq a.out.length b.out.length:=iX.2 (by have:=ha.n1; have:=hb.n1; dsimp only; omega)
theorem Jb {a b:Mac} (ha:a.Ok) (hb:b.Ok) (hbb:a.base = b.base) (T:List (List Int)):(vw a b T).Ok∧(vw a b T).out.length≤a.out.length * b.out.length:=by
 have:=IJ (I9 ha hb hbb) (Ja ha hb) (OX a b T) ha.b1
 rw [wP] at this
 exact this
structure OkT (T:List (List Int)):Prop where
 len:T.length = 10
 row:∀ i,i < 10→(rw_ T i).length = 10
 dig:∀ i j,i < 10→j < 10→0≤gl (rw_ T i) j∧gl (rw_ T i) j≤9
def idT:List (List Int):=(List.range 10).map fun i=>(List.range 10).map fun j=>if i = j then (1:Int) else 0
theorem X6 {i j:Nat} (hi:i < 10) (hj:j < 10):gl (rw_ idT i) j = if i = j then 1 else 0:=by
 unfold gl rw_ idT
 rw [List.getD_eq_getElem?_getD (l:=List.map _ (List.range 10)),List.getElem?_map,List.getElem?_range hi]
 simp [List.getD_eq_getElem?_getD,List.getElem?_map,List.getElem?_range hj]
theorem aa7:OkT idT where
 len:=rfl
 row:=fun i hi=>by
  unfold rw_ idT
  rw [List.getD_eq_getElem?_getD,List.getElem?_map,List.getElem?_range hi]; simp
 dig:=fun i j hi hj=>by
  rw [X6 hi hj]; split <;> omega
theorem SG {a b:Mac} (oa:∀ x ∈ a.out,0≤x∧x≤9) (ob:∀ x ∈ b.out,0≤x∧x≤9) {p:Int×Int} (hp:p ∈ sq a.out.length b.out.length):OX a b idT p≠0↔pF a b p:=by
 have h:=iX.1 hp
 have h1:0≤a.o p.1.toNat∧a.o p.1.toNat≤9:=gM (P:=fun x=>0≤x∧x≤9) oa (j:=p.1.toNat) (by omega)
 have h2:0≤b.o p.2.toNat∧b.o p.2.toNat≤9:=gM (P:=fun x=>0≤x∧x≤9) ob (j:=p.2.toNat) (by omega)
 unfold OX pF
 rw [X6 (by omega) (by omega)]
 split <;> omega
theorem Rm {a b:Mac} (ha:a.Ok) (hb:b.Ok) (hbb:a.base = b.base) (oa:∀ x ∈ a.out,0≤x∧x≤9) (ob:∀ x ∈ b.out,0≤x∧x≤9):(∀ x ∈ (vw a b idT).out,x≠0)↔Mac.Alike a b 0 0:=by
 have hf:=I9 ha hb hbb
 have hm:=Ja ha hb
 have hw:=qz hf hm
 have hrun:∀ w,Mac.Wd a.base w→wG (kr a b) ((0:Int),(0:Int)) w ∈ sq a.out.length b.out.length:=fun w hw=>by
  have e:=QU a b w 0 0
  rw [show ((0:Nat):Int) = 0 from rfl] at e
  rw [e]
  have h1:=ha.run (w:=w) (s:=0) ha.n1 hw
  have h2:=hb.run (w:=w) (s:=0) hb.n1 (hbb ▸ hw)
  exact iX.2 (by dsimp only; omega)
 have hsame:∀ w,pF a b (wG (kr a b) ((0:Int),(0:Int)) w)↔a.o (a.run 0 w) = b.o (b.run 0 w):=fun w=>by
  have e:=QU a b w 0 0
  rw [show ((0:Nat):Int) = 0 from rfl] at e
  rw [e]
  unfold pF
  dsimp only
  rw [Int.toNat_natCast,Int.toNat_natCast]
 constructor
 ·intro h w hw2
  have hs:=IK hf hm (OX a b idT) hw2
  have hl:=(Jb ha hb hbb idT).1.run (w:=w) (s:=0) (Jb ha hb hbb idT).1.n1 hw2
  have hx:=h _ (List.getElem_mem hl)
  have e:(vw a b idT).out[(vw a b idT).run 0 w] = (vw a b idT).o ((vw a b idT).run 0 w):=by
   unfold Mac.o
   rw [List.getD_eq_getElem?_getD,List.getElem?_eq_getElem hl]; rfl
  rw [e,show (vw a b idT).o ((vw a b idT).run 0 w) = _ from hs] at hx
  exact (hsame w).1 ((SG oa ob (hrun w hw2)).1 hx)
 ·intro h x hx
  have hx:x ∈ (bfs (kr a b) a.base ((0:Int),(0:Int))).map (OX a b idT):=hx
  obtain ⟨p,hp,rfl⟩:=List.mem_map.1 hx
  obtain ⟨w,hw2,rfl⟩:=hw.way p hp
  exact (SG oa ob (hrun w hw2)).2 ((hsame w).2 (h w hw2))
end Go.Proofs.Ytedneplaibmppaa
namespace Go.Proofs.Ytedneplaibmppaa
open Go.Rx Go.RowKit
theorem X7 {x y r:Int} {h:Hp} (hy:y≠0) (e:x.tmod y = r):hval h (arK .i64 .rem x y) = .val (int r) h:=by
 unfold arK
 dsimp only
 rw [if_neg hy,e]
 rfl
theorem SH:∀ (l:List (Int×Int)) (k:Nat) (x:Int×Int),l[k]? = some x→(fl2 l)[k * 2]? = some (int x.1)∧(fl2 l)[k * 2 + 1]? = some (int x.2)
 | p :: l,0,x,h=>by cases h; exact ⟨rfl,rfl⟩
 | p :: l,k + 1,x,h=>by
  have:=SH l k x (by simpa using h)
  rw [show (k + 1) * 2 = k * 2 + 1 + 1 by omega]
  exact this
theorem Rn {h0 H:Hp} {e:Nat} {v:Value} {L:List (Int×Int)} (k:bD h0 H e 2 v L.length (fl2 L)) {i:Nat} {x:Int×Int} (hi:L[i]? = some x):∃ r,v = slc r 0 L.length L.length∧cellAt H r (iy (iy 0 i 2) 0 1) = some (int x.1)∧cellAt H r (iy (iy 0 i 2) 1 1) = some (int x.2):=by
 have hl:=(List.getElem?_eq_some_iff.1 hi).1
 obtain ⟨hlen,⟨_,e1⟩ | ⟨r,er,_,y,hr⟩⟩:=k
 ·omega
 ·have h2:=SH L i x hi
  refine ⟨r,er,?_,?_⟩
  ·rw [iL,iL]
   exact aQ hr (by simpa using h2.1)
  ·rw [iL,iL]
   exact aQ hr (by simpa using h2.2)
section
variable {S:Type} [DecidableEq S]
theorem BA {next:S→Nat→S} {d:Nat} {L L':List S} {s:S} (hL:∀ j,j < d→next s j ∈ L) {r:List S} (e:L' = L ++ r):rowOf next (d + 1) L' s = rowOf next d L s ++ [((kS L' (next s d):Nat):Int)]:=by
 unfold rowOf
 rw [List.range_succ,List.map_append]
 congr 1
 refine List.map_congr_left fun j hj=>?_
 unfold kS
 rw [e,mQ (hL j (List.mem_range.1 hj))]
theorem qC {next:S→Nat→S} {b:Nat} {L:List S} {s:S}:(rowOf next b L s).length = b:=by unfold rowOf; rw [List.length_map,List.length_range]
end
attribute [local irreducible] E iV cellAt bM storeAt callable dz dI dP findKey eD bT Hp.at Hp.set Hp.lay dO dw setAt aJ dA bO dG Rnd gD fK iN Int.tmod Int.tdiv Int.fdiv
section
variable [bE]
attribute [local irreducible] jZ sameAt lH
theorem ES (v:Value) (m:Mac) (step from_:Nat) (h:Hp) (hv:MV h v m.i) (hm:OkS m) (ab9:step≤1000) (hf_:from_≤1000):aJ E 44 [v,int step,int from_] h (fun r h'=>jD h h' r (m.every step from_).i∧aC h h'):=by
 obtain ⟨bx,rfl,hbx⟩:=hv.box
 obtain ⟨ao,an,co,cn,hcx⟩:=hbx.cx
 have hb5:=hm.b5
 have hb2:=hm.b2
 have tJ:=hm.n12
 have hil:=hm.ok.yT
 have hU0:=Mac.qA hm.ok (step:=step) (B:=1000) ab9
 have hs0:=Mac.qB hm.ok (f:=from_) (B:=1000) hf_
 have adO:m.out.length * 1001≤12 * 1001:=Nat.mul_le_mul_right _ tJ
 have Ir:∃ next,m.nK step = next:=⟨_,rfl⟩
 obtain ⟨next,uW⟩:=Ir
 have X8:∃ out,m.IL = out:=⟨_,rfl⟩
 obtain ⟨out,OY⟩:=X8
 have OZ:built m.base (0,(from_:Int)) out next = m.every step from_:=by rw [← OY,← uW]; rfl
 rw [uW] at hU0
 have Zu:(sq m.out.length (1000 + 1)).length = m.out.length * 1001:=wP m.out.length 1001
 have X9:∃ U,sq m.out.length (1000 + 1) = U:=⟨_,rfl⟩
 obtain ⟨U,eU⟩:=X9
 have hsq:∀ p ∈ U,(0≤p.1∧p.1 < m.out.length)∧(0≤p.2∧p.2 < 1001):=fun p hp=>by rw [← eU] at hp; exact iX.1 hp
 have hU:=hU0
 rw [eU] at hU hs0
 have hUl:U.length≤1000000:=by rw [← eU]; omega
 obtain ⟨i3,t3,-,z3⟩:=ty3
 obtain ⟨iM,tM,dM⟩:=Si
 refine enter44 (by simp) ?_
 conv=>whnf
 refine ak.cut (α:=Hp) (fun _=>[(6,ptr (h.next + 1) 0),(3,ptr h.next 0),(1,int step),(2,int from_)]) (fun x H=>x = H∧aC h H∧H.at h.next = some (.row 26 true bx)∧H.at (h.next + 1) = some (.row 26 true [int 0,bg,bg])∧H.next = h.next + 2) ?_ ?_
 ·conv=>whnf
  have n1:(h.lay (.row 26 true bx)).next = h.next + 1:=Hp.bG _ _
  exact ⟨_,⟨congrArg (fun k=>ptr k 0) n1,rfl,rfl,rfl,trivial⟩,⟨rfl,(aC.lay _ _).bL _,Hp.bC _ (Hp.aA _ _),fM n1 (Hp.aA _ _),by rw [Hp.bG,n1]⟩,rfl⟩
 rintro H φ1 _ ⟨rfl,gH,aX,aR,nH⟩
 have IU:=Hp.aU aR
 have Ya:∃ RR,h.next + 1 = RR:=⟨_,rfl⟩
 obtain ⟨RR,eRR⟩:=Ya
 rw [eRR] at aR IU ⊢
 have hRh:h.next≤RR:=by omega
 conv=>whnf
 refine ak.cut (α:=Hp) (fun _=>[(7,slc H.next 0 1 1),(6,ptr RR 0),(3,ptr h.next 0),(1,int step),(2,int from_)]) (fun x H2=>x = H2∧aC H H2∧H2.at H.next = some (.row 64 true [int 0,int from_])∧H2.next = H.next + 1) ?_ ?_
 ·conv=>whnf
  exact ⟨_,⟨rfl,rfl,rfl,rfl,rfl,trivial⟩,⟨rfl,aC.lay _ _,Hp.aA _ _,Hp.bG _ _⟩,rfl⟩
 rintro H2 φ2 _ ⟨rfl,g2,a2,n2⟩
 conv=>whnf
 refine ak.cut (α:=Hp) (fun _=>[(8,bK H2.next),(7,slc H.next 0 1 1),(6,ptr RR 0),(3,ptr h.next 0),(1,int step),(2,int from_)]) (fun x H3=>x = H3∧aC H2 H3∧dN H3 H2.next dH [((0:Int),(from_:Int))]) ?_ ?_
 ·conv=>whnf
  refine kR tM dM EJ (k:=((0:Int),(from_:Int))) (v:=int 0) (n:=0) rfl rfl rfl (MapAt.new _) ?_
  intro H4 hM4 y4
  have gl4:aC H2 (H2.lay (.map [] 0)):=aC.lay _ _
  have gk4:aC H2 H4:=⟨by rw [y4.next]; exact gl4.next,fun r o e=>y4.at_ r o (by have:=Hp.aU e; omega) (gl4.at_ r o e)⟩
  conv=>whnf
  exact ⟨H4,⟨rfl,rfl,rfl,rfl,rfl,rfl,trivial⟩,⟨rfl,gk4,hM4.congr fun k=>by
   unfold fN
   by_cases e:k = ((0:Int),(from_:Int))
   ·rw [if_pos e,if_pos (by rw [e]; simp),e]; simp
   ·rw [if_neg e,if_neg (by simpa using e)]⟩,rfl⟩
 rintro H3 φ3 _ ⟨rfl,g3,hM3⟩
 have EZ:H2.next < H3.next:=by
  obtain ⟨_,_,h1,_⟩:=hM3
  exact Hp.aU h1
 have d0:=(hcx H3 h.next 26 ((gH.trans g2).trans g3) (g3.at_ _ _ (g2.at_ _ _ aX))).c0
 conv=>whnf
 refine ak.cut (α:=Hp) (fun q=>[(9,ptr H3.next 0),(8,bK H2.next),(7,slc H.next 0 1 1),(6,ptr RR 0),(3,ptr h.next 0),(1,int step),(2,int from_)]) (fun q H6=>q = H6∧aC H3 H6∧H6.at H3.next = some (.row 26 true [int m.base,bg,bg])) ?_ ?_
 ·conv=>whnf
  refine ⟨_,d0,?_⟩
  conv=>whnf
  refine ⟨rfl,_,cK (vs:=[int m.base,bg,bg]) rfl rfl rfl,?_⟩
  conv=>whnf
  exact ⟨_,⟨rfl,rfl,rfl,rfl,rfl,rfl,rfl,trivial⟩,⟨rfl,aC.lay _ _,Hp.aA _ _⟩,rfl⟩
 rintro H6 φ6 _ ⟨rfl,g6,a6⟩
 have wI:∃ Z,H3.next = Z:=⟨_,rfl⟩
 obtain ⟨Z,eZ⟩:=wI
 have Eh:∃ r6,H.next = r6:=⟨_,rfl⟩
 obtain ⟨r6,er6⟩:=Eh
 have Mc:∃ M,H2.next = M:=⟨_,rfl⟩
 obtain ⟨M,eM⟩:=Mc
 have hRr:RR < r6:=by omega
 rw [eZ] at a6 EZ ⊢
 rw [er6] at a2 n2 ⊢
 rw [eM] at hM3 EZ n2 ⊢
 have Rf:=Hp.aU a6
 have g36:=(g2.trans g3).trans g6
 have hz6:MZ H H6 26 Z bg bg [] [] [] [int m.base,bg,bg] [pl M,slc r6 0 1 1]:=⟨g36,a6,bD.nil,bD.nil,rfl,fun k u l e=>by simp at e,by omega,Ut Rf (by omega) (by omega) (by omega) (by omega) (by omega) 1 1⟩
 have hM6:dN H6 M dH [((0:Int),(from_:Int))]:=hM3.ext g6
 have nE:bD H H6 64 2 (slc r6 0 1 1) [((0:Int),(from_:Int))].length (fl2 [((0:Int),(from_:Int))]):=⟨rfl,.inr ⟨r6,rfl,by omega,true,g6.at_ _ _ (g3.at_ _ _ a2)⟩⟩
 have Jy:=hz6.more (.refl _) (v:=bg) fun r e=>by cases e
 have qh:H.next≤M:=by omega
 have hq0:=Bq.start hU hs0
 clear a6 g6 g36 hM3 a2
 conv=>whnf
 refine ak.cut (α:=Value×Value×List Value×List Int×List (List Int)×Hp) (fun q=>[(9,ptr Z 0),(6,ptr RR 0)]) (fun q H7=>q.2.2.2.2.2 = H7∧∃ rs,MZ H q.2.2.2.2.2 26 Z q.1 q.2.1 q.2.2.2.1 q.2.2.1 q.2.2.2.2.1 [int m.base,q.1,q.2.1] rs∧(m.every step from_).i = ⟨m.base,q.2.2.2.1,q.2.2.2.2.1⟩) ?_ ?_
 rotate_left
 ·rintro ⟨ov,nv,us,O,N,H7⟩ φ7 _ ⟨rfl,rs,hz7,ef⟩
  dsimp only at hz7 ef ⊢
  have hov:=hz7.jE
  obtain ⟨ax,rfl⟩:=hov
  have hnv:=hz7.jh
  obtain ⟨ay,rfl⟩:=hnv
  have aR7:=hz7.gr.at_ _ _ aR
  conv=>whnf
  repeat (refine ak.go ?_; conv=>whnf)
  refine ⟨_,aM hz7.z rfl,?_⟩
  conv=>whnf
  refine ⟨rfl,_,bJ (vs:=[int m.base,.slice ax O.length O.length,.slice ay N.length N.length]) aR7 rfl rfl rfl,?_⟩
  conv=>whnf
  repeat (refine ak.go ?_; conv=>whnf)
  obtain ⟨iR,tR,agR,szR⟩:=Qz
  refine fq (r:=RR) (o:=0) (cs:=[int m.base,.slice ax O.length O.length,.slice ay N.length N.length]) rfl tR agR ?_ ?_
  ·rw [szR]
   exact aM (Hp.bH _ (Hp.aU aR7)) rfl
  ·rw [ef]
   exact hz7.leave (h:=h) (R:=RR) (by omega) (by omega) gH m.base (.row 26 true [int m.base,.slice ax O.length O.length,.slice ay N.length N.length])
 conv=>whnf
 repeat (refine ak.go ?_; conv=>whnf)
 refine bQ (α:=List (Int×Int)×Nat×Value×Value×Value×List Value×Hp) (fun q=>[(10,int q.2.1),(9,ptr Z 0),(8,bK M),(7,q.2.2.1),(6,ptr RR 0),(3,ptr h.next 0),(1,int step),(2,int from_)]) (fun q=>q.2.2.2.2.2.2) (fun q=>Bq next m.base ((0:Int),(from_:Int)) U q.1 q.2.1∧MZ H q.2.2.2.2.2.2 26 Z q.2.2.2.1 q.2.2.2.2.1 ((q.1.take q.2.1).map out) q.2.2.2.2.2.1 (rowsOf next m.base q.1 q.2.1) [int m.base,q.2.2.2.1,q.2.2.2.2.1] [pl M,q.2.2.1,bg]∧dN q.2.2.2.2.2.2 M dH q.1∧bD H q.2.2.2.2.2.2 64 2 q.2.2.1 q.1.length (fl2 q.1)) (fun q=>2000000 - q.2.1) ([((0:Int),(from_:Int))],0,slc r6 0 1 1,bg,bg,[],H6) ⟨hq0,Jy,hM6,nE⟩ ⟨rfl,rfl,rfl,rfl,rfl,rfl,rfl,rfl,trivial⟩ (Hp.Le.refl _) ?_
 rintro ⟨L,a,u6,ov,nv,us,G⟩ φ7 ⟨hq,hz,hM,hst⟩
 dsimp only at hq hz hM hst ⊢
 clear hz6 hM6 nE Jy hq0
 have QL:=hq.few
 have Rh:=hq.le
 have hsk:=hst.slice
 obtain ⟨au,eu,-⟩:=hsk
 subst eu
 conv=>whnf
 repeat (refine ak.go ?_; conv=>whnf)
 refine dB (fun q1=>?_) (fun q1=>?_)
 rotate_left
 ·have hbd:=hq.done (by omega)
  have ea:a = L.length:=by omega
  subst ea
  rw [List.take_length] at hz
  conv=>whnf
  repeat (refine ak.go ?_; conv=>whnf)
  exact ⟨(ov,nv,us,L.map out,rowsOf next m.base L L.length,G),⟨rfl,rfl,trivial⟩,⟨rfl,_,hz,by rw [← OZ]; exact Af hbd⟩,rfl⟩
 have haL:a < L.length:=by omega
 have tF:∃ s,L[a]? = some s:=⟨_,List.getElem?_eq_getElem haL⟩
 obtain ⟨s,hs⟩:=tF
 have hsU:=hq.sub s (List.mem_of_getElem? hs)
 have hOl:((L.take a).map out).length = a:=by rw [List.length_map,List.length_take]; omega
 have hNl:(rowsOf next m.base L a).length = a:=by unfold rowsOf; rw [List.length_map,List.length_take]; omega
 have hq2:=hq.next hU hs
 have hsc:=Rn hst hs
 obtain ⟨rst,IC,hsc1,hsc2⟩:=hsc
 cases IC
 have hpr:∃ s1 s2:Nat,s = ((s1:Int),(s2:Int))∧s1 < m.out.length∧s2 < 1001:=by
  have h1:=hsq s hsU
  obtain ⟨p1,p2⟩:=s
  dsimp only at h1
  exact ⟨p1.toNat,p2.toNat,by rw [Int.toNat_of_nonneg (by omega),Int.toNat_of_nonneg (by omega)],by omega,by omega⟩
 obtain ⟨s1,s2,es,acd⟩:=hpr
 rw [es] at hsc1 hsc2
 dsimp only at hsc1 hsc2
 conv=>whnf
 refine ak.go ?_
 conv=>whnf
 refine ak.cut (α:=Unit) (fun q=>[(11,int s1),(12,int s2),(10,int a),(9,ptr Z 0),(8,bK M),(7,slc rst 0 L.length L.length),(6,ptr RR 0),(3,ptr h.next 0),(1,int step),(2,int from_)]) (fun q H7=>G = H7) ?_ ?_
 ·conv=>whnf
  refine ⟨rfl,⟨by omega,by omega⟩,?_⟩
  conv=>whnf
  refine ⟨⟨by omega,by omega⟩,?_⟩
  conv=>whnf
  refine ⟨_,hsc1,?_⟩
  conv=>whnf
  refine ⟨rfl,⟨by omega,by omega⟩,?_⟩
  conv=>whnf
  refine ⟨⟨by omega,by omega⟩,?_⟩
  conv=>whnf
  refine ⟨_,hsc2,?_⟩
  conv=>whnf
  exact ⟨(),⟨rfl,rfl,rfl,rfl,rfl,rfl,rfl,rfl,rfl,rfl,trivial⟩,rfl,rfl⟩
 rintro _ φ8 _ rfl
 clear hsc1 hsc2
 conv=>whnf
 refine ak.go ?_
 conv=>whnf
 refine ak.cut (α:=Value×Value×Hp) (fun q=>[(13,q.2.1),(11,int s1),(12,int s2),(10,int a),(9,ptr Z 0),(8,bK M),(7,q.1),(6,ptr RR 0),(3,ptr h.next 0),(1,int step),(2,int from_)]) (fun q H7=>q.2.2 = H7∧MZ H q.2.2 26 Z ov nv ((L.take a).map out) us (rowsOf next m.base L a) [int m.base,ov,nv] [pl M,q.1,q.2.1]∧dN q.2.2 M dH (notes L (bR next s m.base))∧bD H q.2.2 64 2 q.1 (notes L (bR next s m.base)).length (fl2 (notes L (bR next s m.base)))∧bD H q.2.2 3 1 q.2.1 (rowOf next m.base (notes L (bR next s m.base)) s).length ((rowOf next m.base (notes L (bR next s m.base)) s).map int)) ?_ ?_
 ·conv=>whnf
  repeat (refine ak.go ?_; conv=>whnf)
  refine bQ (α:=Nat×Value×Value×Hp) (fun q=>[(14,int q.1),(13,q.2.2.1),(11,int s1),(12,int s2),(10,int a),(9,ptr Z 0),(8,bK M),(7,q.2.1),(6,ptr RR 0),(3,ptr h.next 0),(1,int step),(2,int from_)]) (fun q=>q.2.2.2) (fun q=>q.1≤m.base∧MZ H q.2.2.2 26 Z ov nv ((L.take a).map out) us (rowsOf next m.base L a) [int m.base,ov,nv] [pl M,q.2.1,q.2.2.1]∧dN q.2.2.2 M dH (notes L (bR next s q.1))∧bD H q.2.2.2 64 2 q.2.1 (notes L (bR next s q.1)).length (fl2 (notes L (bR next s q.1)))∧bD H q.2.2.2 3 1 q.2.2.1 (rowOf next q.1 (notes L (bR next s q.1)) s).length ((rowOf next q.1 (notes L (bR next s q.1)) s).map int)) (fun q=>m.base - q.1) (0,_,bg,G) ⟨Nat.zero_le _,hz,hM,hst,bD.nil⟩ ⟨rfl,rfl,rfl,rfl,rfl,rfl,rfl,rfl,rfl,rfl,rfl,rfl,trivial⟩ (Hp.Le.refl _) ?_
  rintro ⟨d,u,w,K⟩ φ9 ⟨hd,hzK,hMK,huK,hwK⟩
  dsimp only at hd hzK hMK huK hwK ⊢
  have hpre:=fH (bR next s d) L
  obtain ⟨r8,e8⟩:=hpre
  have yX:=gN hU hq hsU hd
  have yY:∀ j,j < d→next s j ∈ notes L (bR next s d):=fun j hj=>fI (qy hj)
  have hsucc:notes L (bR next s (d + 1)) = note (notes L (bR next s d)) (next s d):=by rw [jl,iE]
  have I8:∃ L',notes L (bR next s d) = L':=⟨_,rfl⟩
  obtain ⟨L',eL'⟩:=I8
  rw [eL'] at hMK huK hwK e8 yX yY hsucc
  have hus:=huK.slice
  obtain ⟨au2,eu2,-⟩:=hus
  subst eu2
  have Bz:=hwK.slice
  obtain ⟨aw2,ew2,-⟩:=Bz
  rw [qC] at ew2
  subst ew2
  have kK:=hcx K h.next 26 (gH.trans hzK.gr) (hzK.gr.at_ _ _ aX)
  have f0:cellAt K h.next 0 = some (int (m.base:Int)):=kK.c0
  have f2:=kK.c2
  conv=>whnf
  repeat (refine ak.go ?_; conv=>whnf)
  refine ⟨_,f0,?_⟩
  conv=>whnf
  refine dB (fun q2=>?_) (fun q2=>?_)
  rotate_left
  ·have:d = m.base:=by omega
   subst this
   conv=>whnf
   repeat (refine ak.go ?_; conv=>whnf)
   exact ⟨(_,_,K),⟨rfl,rfl,rfl,rfl,rfl,rfl,rfl,rfl,rfl,rfl,rfl,trivial⟩,⟨rfl,hzK,by rw [eL']; exact hMK,by rw [eL']; exact huK,by rw [eL']; exact hwK⟩,rfl⟩
  have hd':d < m.base:=by omega
  have jF:=gN hU hq hsU (d:=d + 1) (by omega)
  rw [hsucc] at jF
  have hext:∃ t,next s d = t:=⟨_,rfl⟩
  obtain ⟨t,et⟩:=hext
  rw [et] at jF hsucc
  conv=>whnf
  refine ak.go ?_
  conv=>whnf
  have hmul:step * d≤1000 * 5:=Nat.mul_le_mul ab9 (by omega)
  have XE:(step:Int) * (d:Int) = ((step * d:Nat):Int):=by rw [Int.natCast_mul]
  have IQ:∃ u,step * d = u:=⟨_,rfl⟩
  obtain ⟨u,eu⟩:=IQ
  have eE:t = (((m.nx s1 ((u + s2) % m.base):Nat):Int),(((u + s2) / m.base:Nat):Int)):=by
   rw [← et,← uW,es]
   unfold Mac.nK
   dsimp only
   rw [Int.toNat_natCast,Int.toNat_natCast,eu]
  rw [eu] at hmul XE
  have em:=nu (u + s2) m.base
  have ed:=uN (u + s2) m.base
  have hml:=Nat.mod_lt (u + s2) (show m.base > 0 by omega)
  have hdl:=Nat.div_le_self (u + s2) m.base
  have Bp:∃ q,(u + s2) / m.base = q:=⟨_,rfl⟩
  obtain ⟨q,eq⟩:=Bp
  have Eh:∃ r,(u + s2) % m.base = r:=⟨_,rfl⟩
  obtain ⟨r,er⟩:=Eh
  rw [eq] at eE ed hdl
  rw [er] at eE em hml
  have hnx:=kK.lG hm.ok (s:=s1) (d:=r) (by omega) hml
  obtain ⟨r1,o1,sp1,r2,o2,sp2,c2',ean,hsp1,hc1,hsp2,hc2⟩:=hnx
  subst ean
  refine ak.cut (α:=Unit) (fun _=>[(15,int (u + s2:Nat)),(14,int d),(13,.slice aw2 d d),(11,int s1),(12,int s2),(10,int a),(9,ptr Z 0),(8,bK M),(7,.slice au2 L'.length L'.length),(6,ptr RR 0),(3,ptr h.next 0),(1,int step),(2,int from_)]) (fun _ H3=>K = H3) ?_ ?_
  ·conv=>whnf
   refine ⟨(u:Int),wie XE (by omega),?_⟩
   conv=>whnf
   refine ⟨((u + s2:Nat):Int),wie (by omega) (by omega),?_⟩
   conv=>whnf
   exact ⟨(),⟨rfl,rfl,rfl,rfl,rfl,rfl,rfl,rfl,rfl,rfl,rfl,rfl,rfl,trivial⟩,rfl,rfl⟩
  rintro _ ad6 _ rfl
  conv=>whnf
  refine ak.cut (α:=Nat×Hp) (fun q=>[(16,ptr q.1 0),(14,int d),(13,.slice aw2 d d),(11,int s1),(12,int s2),(10,int a),(9,ptr Z 0),(8,bK M),(7,.slice au2 L'.length L'.length),(6,ptr RR 0),(3,ptr h.next 0),(1,int step),(2,int from_)]) (fun q H7=>q.2 = H7∧aC K q.2∧q.2.at q.1 = some (.row 64 true [int t.1,int t.2])∧K.next≤q.1) ?_ ?_
  ·conv=>whnf
   rw [eE]
   have gl1:aC K (K.lay (.row 64 true [int 0,int 0])):=aC.lay _ _
   have gl2:aC K (K.lay (.row 64 true [int (m.nx s1 r:Nat),int q])):=aC.lay _ _
   have b0:=gl1.cell f0
   have b2:=gl1.cell f2
   have b1:=gl1.cell hc1
   have b3:=gl1.cell hc2
   have e0:=gl2.cell f0
   have e2:=gl2.cell f2
   have e1:=gl2.cell hc1
   have e3:=gl2.cell hc2
   refine ⟨_,f2,?_⟩
   conv=>whnf
   refine ⟨hsp1,⟨by omega,by omega⟩,?_⟩
   conv=>whnf
   refine ⟨_,hc1,?_⟩
   conv=>whnf
   refine ⟨_,f0,?_⟩
   conv=>whnf
   refine ⟨by show (m.base:Int)≠0; omega,?_⟩
   conv=>whnf
   rw [em]
   refine ⟨hsp2,⟨by omega,by omega⟩,?_⟩
   conv=>whnf
   refine ⟨_,hc2,?_⟩
   conv=>whnf
   refine ⟨_,f0,?_⟩
   conv=>whnf
   refine ⟨by show (m.base:Int)≠0; omega,(q:Int),wie ed (by omega),?_⟩
   conv=>whnf
   refine ⟨rfl,_,cK (vs:=[int (m.nx s1 r:Nat),int q]) rfl rfl rfl,?_⟩
   conv=>whnf
   refine ⟨?_,?_⟩
   ·repeat' (first | exact True.intro | (refine And.intro ?_ ?_ <;> (conv=>whnf)))
    all_goals first
     | exact aj (h2:=_) rfl (aI _)
     | exact aj (h2:=_) rfl (dh _ _)
     | exact aj (h2:=_) rfl (aD _ _ _)
     | exact aj (h2:=_) rfl (iP _ _)
     | exact aj (h2:=_) (congrArg (hval _) f0) (aI _)
     | exact aj (h2:=_) (congrArg (hval _) f0) (aD _ _ _)
     | exact aj (h2:=_) (congrArg (hval _) f2) (aI _)
     | exact aj (h2:=_) (congrArg (hval _) f2) (aD _ _ _)
     | exact aj (h2:=_) (congrArg (hval _) hc1) (aI _)
     | exact aj (h2:=_) (congrArg (hval _) hc1) (aD _ _ _)
     | exact aj (h2:=_) (congrArg (hval _) hc2) (aI _)
     | exact aj (h2:=_) (congrArg (hval _) hc2) (aD _ _ _)
     | exact aj (h2:=_) (congrArg (hval _) b0) (aI _)
     | exact aj (h2:=_) (congrArg (hval _) b0) (aD _ _ _)
     | exact aj (h2:=_) (congrArg (hval _) b2) (aI _)
     | exact aj (h2:=_) (congrArg (hval _) b2) (aD _ _ _)
     | exact aj (h2:=_) (congrArg (hval _) b1) (aI _)
     | exact aj (h2:=_) (congrArg (hval _) b1) (aD _ _ _)
     | exact aj (h2:=_) (congrArg (hval _) b3) (aI _)
     | exact aj (h2:=_) (congrArg (hval _) b3) (aD _ _ _)
     | exact aj (h2:=_) (congrArg (hval _) e0) (aI _)
     | exact aj (h2:=_) (congrArg (hval _) e0) (aD _ _ _)
     | exact aj (h2:=_) (congrArg (hval _) e2) (aI _)
     | exact aj (h2:=_) (congrArg (hval _) e2) (aD _ _ _)
     | exact aj (h2:=_) (congrArg (hval _) e1) (aI _)
     | exact aj (h2:=_) (congrArg (hval _) e1) (aD _ _ _)
     | exact aj (h2:=_) (congrArg (hval _) e3) (aI _)
     | exact aj (h2:=_) (congrArg (hval _) e3) (aD _ _ _)
     | exact aj (h2:=_) (show hval _ (jU 1 (.slice (some ⟨_,_,_⟩) _ _) (int _)) = _ from eX hsp1 ⟨by omega,by omega⟩) (dh _ _)
     | exact aj (h2:=_) (show hval _ (jU 1 (.slice (some ⟨_,_,_⟩) _ _) (int _)) = _ from eX hsp2 ⟨by omega,by omega⟩) (dh _ _)
     | exact ⟨_,rfl,Hp.aA _ _,rfl⟩
     | exact aj (h2:=_) (show hval _ (arK .i64 .rem _ _) = _ from X7 (by omega) em) (aI _)
     | exact aj (h2:=_) (show hval _ (arK .i64 .quo _ _) = _ from YS (by omega) ed (by omega)) (aI _)
   exact ⟨(K.next,_),⟨rfl,rfl,rfl,rfl,rfl,rfl,rfl,rfl,rfl,rfl,rfl,rfl,rfl,trivial⟩,⟨rfl,aC.lay _ _,Hp.aA _ _,Nat.le_refl _⟩,rfl⟩
  rintro ⟨x15,K9⟩ E5 _ ⟨rfl,g9,aK,IG⟩
  dsimp only at g9 aK IG ⊢
  have ZT:M < K.next:=by
   obtain ⟨_,_,h1,_⟩:=hMK
   exact Hp.aU h1
  have hz9:=hzK.ext g9
  have hM9:=hMK.ext g9
  have hu9:=huK.ext g9
  have hw9:=hwK.ext g9
  have ace:ad (.slice au2 L'.length L'.length)≠some x15:=fun e=>by
   have h1:=(huK.jf x15 e).2
   omega
  clear hzK hMK huK hwK
  conv=>whnf
  refine ak.cut (α:=Nat×Bool×Hp) (fun q=>[(17,int q.1),(18,.bool q.2.1),(16,ptr x15 0),(14,int d),(13,.slice aw2 d d),(11,int s1),(12,int s2),(10,int a),(9,ptr Z 0),(8,bK M),(7,.slice au2 L'.length L'.length),(6,ptr RR 0),(3,ptr h.next 0),(1,int step),(2,int from_)]) (fun q H7=>q.2.2 = H7∧aC K9 H7∧(t ∈ L'→q.1 = kS L' t∧q.2.1 = true)∧(t ∉ L'→q.1 = L'.length∧q.2.1 = false)) ?_ ?_
  ·conv=>whnf
   refine ⟨_,aM aK rfl,?_⟩
   conv=>whnf
   refine aJ.mono (wR au2 L'.length L'.length M L' t K9 hM9 rfl) ?_
   rintro r H9 ⟨hr,g10⟩
   by_cases hin:t ∈ L'
   ·have hr:=hr.1 hin
    subst hr
    conv=>whnf
    exact ⟨(kS L' t,true,H9),⟨rfl,rfl,rfl,rfl,rfl,rfl,rfl,rfl,rfl,rfl,rfl,rfl,rfl,rfl,rfl,trivial⟩,⟨rfl,g10,fun _=>⟨rfl,rfl⟩,fun q=>absurd hin q⟩,rfl⟩
   ·have hr:=hr.2 hin
    subst hr
    conv=>whnf
    exact ⟨(L'.length,false,H9),⟨rfl,rfl,rfl,rfl,rfl,rfl,rfl,rfl,rfl,rfl,rfl,rfl,rfl,rfl,rfl,trivial⟩,⟨rfl,g10,fun q=>absurd q hin,fun _=>⟨rfl,rfl⟩⟩,rfl⟩
  rintro ⟨kx,isb,K9⟩ Ri _ ⟨rfl,g10,hin1,hin2⟩
  dsimp only at g10 hin1 hin2 ⊢
  have hz9:=hz9.ext g10
  have hM9:=hM9.ext g10
  have hu9:=hu9.ext g10
  have hw9:=hw9.ext g10
  have aK:=g10.at_ _ _ aK
  clear g10
  conv=>whnf
  refine ak.cut (α:=Value×Hp) (fun q=>[(17,int (kS (note L' t) t:Nat)),(14,int d),(13,.slice aw2 d d),(11,int s1),(12,int s2),(10,int a),(9,ptr Z 0),(8,bK M),(7,q.1),(6,ptr RR 0),(3,ptr h.next 0),(1,int step),(2,int from_)]) (fun q H7=>q.2 = H7∧MZ H q.2 26 Z ov nv ((L.take a).map out) us (rowsOf next m.base L a) [int m.base,ov,nv] [pl M,q.1,.slice aw2 d d]∧dN q.2 M dH (note L' t)∧bD H q.2 64 2 q.1 (note L' t).length (fl2 (note L' t))∧bD H q.2 3 1 (.slice aw2 d d) (rowOf next d L' s).length ((rowOf next d L' s).map int)) ?_ ?_
  ·by_cases hin:t ∈ L'
   ·have iQ:note L' t = L':=by unfold note; rw [if_pos hin]
    have hk:=hin1 hin
    obtain ⟨hk1,hk2⟩:=hk
    subst hk1
    subst hk2
    rw [iQ]
    conv=>whnf
    refine ak.go ?_
    conv=>whnf
    repeat (refine ak.go ?_; conv=>whnf)
    exact ⟨(_,K9),⟨rfl,rfl,rfl,rfl,rfl,rfl,rfl,rfl,rfl,rfl,rfl,rfl,rfl,trivial⟩,⟨rfl,hz9,hM9,hu9,hw9⟩,rfl⟩
   ·have iQ:note L' t = L' ++ [t]:=by unfold note; rw [if_neg hin]
    have hnl:(L' ++ [t]).length = L'.length + 1:=by rw [List.length_append]; rfl
    have hix:kS (L' ++ [t]) t = L'.length:=uP hin
    have hk:=hin2 hin
    obtain ⟨hk1,hk2⟩:=hk
    subst hk1
    subst hk2
    rw [iQ] at jF ⊢
    rw [hix]
    conv=>whnf
    refine ak.go ?_
    conv=>whnf
    repeat (refine ak.go ?_; conv=>whnf)
    refine ⟨_,aM aK rfl,?_⟩
    conv=>whnf
    refine iD tM dM EJ (k:=t) (v:=int L'.length) rfl rfl rfl hM9 ?_
    intro K10 mI y10
    have htz:=hz9.touch (i:=0) (v:=pl M) rfl (Kx.keeps y10) (y10.grows hz9.gr qh) (by rw [y10.next]; exact Nat.le_refl _)
    have za:=dN.add hin mI
    have jV:=htz.2.bW (v:=.slice au2 L'.length L'.length) (by simp) hu9
    have Yb:=htz.2.bW (v:=.slice aw2 d d) (by simp) hw9
    have hzz:=htz.1
    have wN:K10.at x15 = some (.row 64 true [int t.1,int t.2]):=y10.at_ _ _ (by omega) aK
    conv=>whnf
    repeat (refine ak.go ?_; conv=>whnf)
    refine ⟨_,aM wN rfl,?_⟩
    conv=>whnf
    refine hzz.Ke (i:=1) (n:=L'.length) (cl:=fl2 L') (new:=[int t.1,int t.2]) rfl jV rfl rfl (by omega) (by omega) ?_
    intro XB K11 rA ze rC zf QM
    obtain ⟨a11,n11,rfl⟩:=rA
    have II:=zf.map (M:=M) (by simp) za
    have Yc:=zf.bW (v:=.slice aw2 d d) (by simp) Yb
    conv=>whnf
    exact ⟨(_,K11),⟨rfl,rfl,rfl,rfl,rfl,rfl,rfl,rfl,rfl,rfl,rfl,rfl,rfl,trivial⟩,⟨rfl,rC,II,by rw [Ae,hnl]; exact ze,Yc⟩,rfl⟩
  rintro ⟨u2,K1⟩ aa8 _ ⟨rfl,hz1,hM1,hu1,hw1⟩
  dsimp only at hz1 hM1 hu1 hw1 ⊢
  have y8:=pq L' t
  obtain ⟨r10,e10⟩:=y8
  have hrs:=BA (next:=next) (s:=s) yY e10
  rw [et] at hrs
  have Rj:=hu1.slice
  obtain ⟨au3,eu3,-⟩:=Rj
  subst eu3
  have hrl:(rowOf next d L' s).length = d:=qC
  conv=>whnf
  refine hz1.J9 (i:=2) rfl hw1 (by omega) ?_
  intro w' K2 hw' hb2 hz2' kv2
  obtain ⟨a9,n9,rfl⟩:=hw'
  have Mr:=kv2.map (M:=M) (by simp) hM1
  have hu2:=kv2.bW (v:=.slice au3 (note L' t).length (note L' t).length) (by simp) hu1
  rw [← hrs] at hb2
  conv=>whnf
  repeat (refine ak.go ?_; conv=>whnf)
  refine ⟨((d + 1:Nat):Int),wie (by omega) (by omega),?_⟩
  conv=>whnf
  exact Rnd.mk (d + 1,_,_,K2) ⟨by show d + 1≤m.base; omega,hz2',by show dN K2 M dH (notes L (bR next s (d + 1))); rw [hsucc]; exact Mr,by show bD H K2 64 2 _ (notes L (bR next s (d + 1))).length (fl2 (notes L (bR next s (d + 1)))); rw [hsucc]; exact hu2,by show bD H K2 3 1 _ (rowOf next (d + 1) (notes L (bR next s (d + 1))) s).length ((rowOf next (d + 1) (notes L (bR next s (d + 1))) s).map int); rw [hsucc]; exact hb2⟩ (by show m.base - (d + 1) < m.base - d; omega) ⟨rfl,rfl,rfl,rfl,rfl,rfl,rfl,rfl,rfl,rfl,rfl,rfl,trivial⟩ (Hp.Le.refl _) rfl
 rintro ⟨u2,w2,K⟩ φ9 _ ⟨rfl,hzK,hMK,huK,hwK⟩
 dsimp only at hzK hMK huK hwK ⊢
 clear hz hM hst
 have hpre:=fH (bR next s m.base) L
 obtain ⟨r8,e8⟩:=hpre
 have hrows:=mH hq.met hq.le e8
 have O1:outs next m.base s = bR next s m.base:=rfl
 rw [O1] at hq2
 have rz:∃ L',notes L (bR next s m.base) = L':=⟨_,rfl⟩
 obtain ⟨L',eL'⟩:=rz
 rw [eL'] at hMK huK hwK hq2 e8 hrows
 have uX:L'[a]? = some s:=by rw [e8,List.getElem?_append_left haL]; exact hs
 have htk:L'.take a = L.take a:=by rw [e8,List.take_append_of_le_length Rh]
 have eO:((L.take a).map out) ++ [out s] = (L'.take (a + 1)).map out:=by rw [fZ uX,List.map_append,htk]; rfl
 have eN:rowsOf next m.base L a ++ [rowOf next m.base L' s] = rowsOf next m.base L' (a + 1):=by
  rw [← hrows]
  unfold rowsOf
  rw [fZ uX,List.map_append]; rfl
 have hus:=huK.slice
 obtain ⟨au2,eu2,-⟩:=hus
 subst eu2
 have Bz:=hwK.slice
 obtain ⟨aw2,ew2,-⟩:=Bz
 subst ew2
 have hov:=hzK.jE
 obtain ⟨ax,eov⟩:=hov
 subst eov
 have hnv:=hzK.jh
 obtain ⟨ay,env⟩:=hnv
 subst env
 have z1:=aQ (o:=1) hzK.z rfl
 have z2:=aQ (o:=2) hzK.z rfl
 conv=>whnf
 refine ak.cut (α:=Unit) (fun q=>[(19,.slice ax ((L.take a).map out).length ((L.take a).map out).length),(20,.slice ay (rowsOf next m.base L a).length (rowsOf next m.base L a).length),(13,.slice aw2 (rowOf next m.base L' s).length (rowOf next m.base L' s).length),(11,int s1),(12,int s2),(10,int a),(9,ptr Z 0),(8,bK M),(7,.slice au2 L'.length L'.length),(6,ptr RR 0),(3,ptr h.next 0),(1,int step),(2,int from_)]) (fun q H7=>K = H7) ?_ ?_
 ·conv=>whnf
  refine ⟨_,z1,?_⟩
  conv=>whnf
  refine ⟨_,z2,?_⟩
  conv=>whnf
  exact ⟨(),⟨rfl,rfl,rfl,rfl,rfl,rfl,rfl,rfl,rfl,rfl,rfl,rfl,rfl,trivial⟩,rfl,rfl⟩
 rintro _ E5 _ rfl
 have aXK:=hzK.gr.at_ _ _ aX
 conv=>whnf
 refine ak.cut (α:=Value×Hp) (fun q=>[(20,.slice ay (rowsOf next m.base L a).length (rowsOf next m.base L a).length),(13,.slice aw2 (rowOf next m.base L' s).length (rowOf next m.base L' s).length),(10,int a),(9,ptr Z 0),(8,bK M),(7,.slice au2 L'.length L'.length),(6,ptr RR 0),(3,ptr h.next 0),(1,int step),(2,int from_)]) (fun q H7=>q.2 = H7∧(∃ a n,q.1 = .slice a n n)∧MZ H q.2 26 Z q.1 (.slice ay (rowsOf next m.base L a).length (rowsOf next m.base L a).length) ((L'.take (a + 1)).map out) us (rowsOf next m.base L a) [int m.base,q.1,.slice ay (rowsOf next m.base L a).length (rowsOf next m.base L a).length] [pl M,.slice au2 L'.length L'.length,.slice aw2 (rowOf next m.base L' s).length (rowOf next m.base L' s).length]∧dN q.2 M dH L'∧bD H q.2 64 2 (.slice au2 L'.length L'.length) L'.length (fl2 L')∧bD H q.2 3 1 (.slice aw2 (rowOf next m.base L' s).length (rowOf next m.base L' s).length) (rowOf next m.base L' s).length ((rowOf next m.base L' s).map int)) ?_ ?_
 ·conv=>whnf
  refine ⟨_,aM aXK hbx.len,?_⟩
  conv=>whnf
  refine aJ.mono (Iu _ m s1 s2 K (Bx.mv (hbx.ext (gH.trans hzK.gr))) hm.ok ⟨hb2,by omega⟩ (by omega) (by omega) (by omega)) ?_
  rintro _ K6 ⟨rfl,g6⟩
  have hzQ:=hzK.ext g6
  have hMQ:=hMK.ext g6
  have huQ:=huK.ext g6
  have hwQ:=hwK.ext g6
  have eos:m.at_ s1 s2 = out s:=by
   rw [← OY,es]
   unfold Mac.IL
   dsimp only
   rw [Int.toNat_natCast,Int.toNat_natCast]
  rw [eos]
  conv=>whnf
  refine hzQ.Da (by omega) ?_
  intro ov7 K7 Bt hz7 kv7
  obtain ⟨a7,n7,rfl⟩:=Bt
  have hM7:=kv7.map (M:=M) (by simp) hMQ
  have hu7:=kv7.bW (v:=.slice au2 L'.length L'.length) (by simp) huQ
  have hw7:=kv7.bW (v:=.slice aw2 (rowOf next m.base L' s).length (rowOf next m.base L' s).length) (by simp) hwQ
  conv=>whnf
  refine ⟨rfl,_,dK hz7.z (by simp) rfl,?_⟩
  have hz8:=hz7.put [int m.base,.slice a7 n7 n7,.slice ay (rowsOf next m.base L a).length (rowsOf next m.base L a).length]
  have hM8:=hz8.2.map (M:=M) (by simp) hM7
  have hu8:=hz8.2.bW (v:=.slice au2 L'.length L'.length) (by simp) hu7
  have hw8:=hz8.2.bW (v:=.slice aw2 (rowOf next m.base L' s).length (rowOf next m.base L' s).length) (by simp) hw7
  have tH:=hz8.1
  rw [eO] at tH
  conv=>whnf
  exact ⟨(_,_),⟨rfl,rfl,rfl,rfl,rfl,rfl,rfl,rfl,rfl,rfl,trivial⟩,⟨rfl,⟨_,_,rfl⟩,tH,hM8,hu8,hw8⟩,rfl⟩
 rintro ⟨ov8,K8⟩ Ri _ ⟨rfl,O5,hz8,hM8,hu8,hw8⟩
 dsimp only at O5 hz8 hM8 hu8 hw8 ⊢
 obtain ⟨a8,n8,rfl⟩:=O5
 conv=>whnf
 repeat (refine ak.go ?_; conv=>whnf)
 refine hz8.Az (i:=2) (by omega) rfl hw8.b ?_
 intro nv9 K9 Ed hz9 kv9
 obtain ⟨a9,n9,rfl⟩:=Ed
 have hM9:=kv9.map (M:=M) (by simp) hM8
 have hu9:=kv9.bW (v:=.slice au2 L'.length L'.length) (by simp) hu8
 conv=>whnf
 refine ⟨rfl,_,dK hz9.z (by simp) rfl,?_⟩
 have jM:=hz9.put [int m.base,.slice a8 n8 n8,.slice a9 n9 n9]
 have mI:=jM.2.map (M:=M) (by simp) hM9
 have Rl:=jM.2.bW (v:=.slice au2 L'.length L'.length) (by simp) hu9
 have rC:=jM.1
 rw [eN] at rC
 conv=>whnf
 repeat (refine ak.go ?_; conv=>whnf)
 refine ⟨((a + 1:Nat):Int),wie (by omega) (by omega),?_⟩
 conv=>whnf
 exact Rnd.mk (L',a + 1,_,_,_,_,_) ⟨hq2,rC,mI,Rl⟩ (by show 2000000 - (a + 1) < 2000000 - a; omega) ⟨rfl,rfl,rfl,rfl,rfl,rfl,rfl,rfl,trivial⟩ (Hp.Le.refl _) rfl
end
end Go.Proofs.Ytedneplaibmppaa
namespace Go.Proofs.Ytedneplaibmppaa
open Go.Rx Go.RowKit
def Ans (H:Hp) (N:Nat) (e:Int) (P:Prop) (w:Mac):Prop:=∃ bx:List Value,bx.length = 3∧H.at N = some (.row 25 true bx)∧fF 4 (.agg ⟨bx⟩) (.agg ⟨bx⟩) = true∧(P→e = 1∧bx = [int 0,bg,bg])∧(¬ P→(w.form.out.length≤12→e = 0∧MV H (.agg ⟨bx⟩) w.form.i)∧(12 < w.form.out.length→e = 8∧bx = [int 0,bg,bg]))
theorem Ans.ext {H H':Hp} {N:Nat} {e:Int} {P:Prop} {w:Mac} (g:aC H H') (k:Ans H N e P w):Ans H' N e P w:=by
 obtain ⟨bx,h1,h2,h3,h4,h5⟩:=k
 exact ⟨bx,h1,g.at_ _ _ h2,h3,h4,fun q=>⟨fun l=>⟨((h5 q).1 l).1,((h5 q).1 l).2.ext g⟩,(h5 q).2⟩⟩
end Go.Proofs.Ytedneplaibmppaa
namespace Go.Proofs.Ytedneplaibmppaa
open Go.Rx Go.RowKit
theorem uZ.congr {h h':Hp} {r:Value} {m m':Mac} (e:m.form = m'.form) (k:uZ h h' r m):uZ h h' r m':=by
 unfold uZ at k ⊢
 rwa [e] at k
end Go.Proofs.Ytedneplaibmppaa
namespace Go.Proofs.Ytedneplaibmppaa
open Go.Rx Go.RowKit
attribute [local irreducible] E iV cellAt bM storeAt callable dz dI dP findKey eD bT Hp.at Hp.set Hp.lay dO dw setAt aJ dA bO dG Rnd gD fK iN Int.tmod Int.tdiv Int.fdiv
section
variable [bE]
attribute [local irreducible] jZ sameAt lH
theorem Ro (va vb vt:Value) (ma mb:Mac) (Tb:List (List Int)) (h:Hp) (hva:MV h va ma.i) (hvb:MV h vb mb.i) (hvt:Mat h vt Tb) (okT:OkT Tb) (oka:ma.Ok) (okb:mb.Ok) (hbb:ma.base = mb.base) (acf:ma.base≤25) (oa:∀ x ∈ ma.out,0≤x∧x≤9) (ob:∀ x ∈ mb.out,0≤x∧x≤9) (hla:ma.out.length≤1000000) (hlb:mb.out.length≤1000000) (hlab:ma.out.length * mb.out.length≤1000000):aJ E 47 [va,vb,vt] h (fun r h'=>jD h h' r (vw ma mb Tb).i∧aC h h'):=by
 obtain ⟨bx,rfl,hbx⟩:=hva.box
 obtain ⟨by_,rfl,hby⟩:=hvb.box
 obtain ⟨ao,an,co,cn,hcx⟩:=hbx.cx
 obtain ⟨bo,bn,do_,dn,hdx⟩:=hby.cx
 have adu:=hvt
 obtain ⟨at_,ct,evt,-⟩:=adu
 subst evt
 have hTl:=okT.len
 have h00:=Mat.cell hvt (i:=0) (by omega)
 obtain ⟨rT,oT,spT,aT0,cT0,eT,-⟩:=h00
 subst eT
 have ac1:=oka.yT
 have ac2:=okb.yT
 have hU0:=I9 oka okb hbb
 have hs0:=Ja oka okb
 have Zu:=wP ma.out.length mb.out.length
 have Ir:∃ next,kr ma mb = next:=⟨_,rfl⟩
 obtain ⟨next,uW⟩:=Ir
 have X8:∃ out,OX ma mb Tb = out:=⟨_,rfl⟩
 obtain ⟨out,OY⟩:=X8
 have OZ:built ma.base ((0:Int),(0:Int)) out next = vw ma mb Tb:=by rw [← OY,← uW]; rfl
 rw [uW] at hU0
 have X9:∃ U,sq ma.out.length mb.out.length = U:=⟨_,rfl⟩
 obtain ⟨U,eU⟩:=X9
 have hsq:∀ p ∈ U,(0≤p.1∧p.1 < ma.out.length)∧(0≤p.2∧p.2 < mb.out.length):=fun p hp=>by rw [← eU] at hp; exact iX.1 hp
 have hU:=hU0
 rw [eU] at hU hs0 Zu
 have hUl:U.length≤1000000:=by omega
 obtain ⟨i3,t3,-,z3⟩:=ty3
 obtain ⟨iM,tM,dM⟩:=Si
 refine enter47 (by simp) ?_
 conv=>whnf
 refine ak.cut (α:=Hp) (fun _=>[(6,ptr (h.next + 2) 0),(3,ptr h.next 0),(4,ptr (h.next + 1) 0),(2,.slice (some ⟨rT,oT,spT⟩) Tb.length ct)]) (fun x H=>x = H∧aC h H∧H.at h.next = some (.row 26 true bx)∧H.at (h.next + 1) = some (.row 26 true by_)∧H.at (h.next + 2) = some (.row 26 true [int 0,bg,bg])∧H.next = h.next + 3) ?_ ?_
 ·conv=>whnf
  have n1:(h.lay (.row 26 true bx)).next = h.next + 1:=Hp.bG _ _
  have n2:((h.lay (.row 26 true bx)).lay (.row 26 true by_)).next = h.next + 2:=by rw [Hp.bG,n1]
  exact ⟨_,⟨congrArg (fun k=>ptr k 0) n2,rfl,congrArg (fun k=>ptr k 0) n1,rfl,trivial⟩,⟨rfl,((aC.lay _ _).bL _).bL _,Hp.bC _ (Hp.bC _ (Hp.aA _ _)),Hp.bC _ (fM n1 (Hp.aA _ _)),fM n2 (Hp.aA _ _),by rw [Hp.bG,n2]⟩,rfl⟩
 rintro H φ1 _ ⟨rfl,gH,aX,aY,aR,nH⟩
 have IU:=Hp.aU aR
 have Ya:∃ RR,h.next + 2 = RR:=⟨_,rfl⟩
 obtain ⟨RR,eRR⟩:=Ya
 rw [eRR] at aR IU ⊢
 have hRh:h.next≤RR:=by omega
 conv=>whnf
 refine ak.cut (α:=Hp) (fun _=>[(7,slc H.next 0 1 1),(6,ptr RR 0),(3,ptr h.next 0),(4,ptr (h.next + 1) 0),(2,.slice (some ⟨rT,oT,spT⟩) Tb.length ct)]) (fun x H2=>x = H2∧aC H H2∧H2.at H.next = some (.row 64 true [int 0,int 0])∧H2.next = H.next + 1) ?_ ?_
 ·conv=>whnf
  exact ⟨_,⟨rfl,rfl,rfl,rfl,rfl,trivial⟩,⟨rfl,aC.lay _ _,Hp.aA _ _,Hp.bG _ _⟩,rfl⟩
 rintro H2 φ2 _ ⟨rfl,g2,a2,n2⟩
 conv=>whnf
 refine ak.cut (α:=Hp) (fun _=>[(8,bK H2.next),(7,slc H.next 0 1 1),(6,ptr RR 0),(3,ptr h.next 0),(4,ptr (h.next + 1) 0),(2,.slice (some ⟨rT,oT,spT⟩) Tb.length ct)]) (fun x H3=>x = H3∧aC H2 H3∧dN H3 H2.next dH [((0:Int),(0:Int))]) ?_ ?_
 ·conv=>whnf
  refine kR tM dM EJ (k:=((0:Int),(0:Int))) (v:=int 0) (n:=0) rfl rfl rfl (MapAt.new _) ?_
  intro H4 hM4 y4
  have gl4:aC H2 (H2.lay (.map [] 0)):=aC.lay _ _
  have gk4:aC H2 H4:=⟨by rw [y4.next]; exact gl4.next,fun r o e=>y4.at_ r o (by have:=Hp.aU e; omega) (gl4.at_ r o e)⟩
  conv=>whnf
  exact ⟨H4,⟨rfl,rfl,rfl,rfl,rfl,rfl,trivial⟩,⟨rfl,gk4,hM4.congr fun k=>by
   unfold fN
   by_cases e:k = ((0:Int),(0:Int))
   ·rw [if_pos e,if_pos (by rw [e]; simp),e]; simp
   ·rw [if_neg e,if_neg (by simpa using e)]⟩,rfl⟩
 rintro H3 φ3 _ ⟨rfl,g3,hM3⟩
 have EZ:H2.next < H3.next:=by
  obtain ⟨_,_,h1,_⟩:=hM3
  exact Hp.aU h1
 have d0:=(hcx H3 h.next 26 ((gH.trans g2).trans g3) (g3.at_ _ _ (g2.at_ _ _ aX))).c0
 conv=>whnf
 refine ak.cut (α:=Hp) (fun q=>[(9,ptr H3.next 0),(8,bK H2.next),(7,slc H.next 0 1 1),(6,ptr RR 0),(3,ptr h.next 0),(4,ptr (h.next + 1) 0),(2,.slice (some ⟨rT,oT,spT⟩) Tb.length ct)]) (fun q H6=>q = H6∧aC H3 H6∧H6.at H3.next = some (.row 26 true [int ma.base,bg,bg])) ?_ ?_
 ·conv=>whnf
  refine ⟨_,d0,?_⟩
  conv=>whnf
  refine ⟨rfl,_,cK (vs:=[int ma.base,bg,bg]) rfl rfl rfl,?_⟩
  conv=>whnf
  exact ⟨_,⟨rfl,rfl,rfl,rfl,rfl,rfl,rfl,trivial⟩,⟨rfl,aC.lay _ _,Hp.aA _ _⟩,rfl⟩
 rintro H6 φ6 _ ⟨rfl,g6,a6⟩
 have wI:∃ Z,H3.next = Z:=⟨_,rfl⟩
 obtain ⟨Z,eZ⟩:=wI
 have Eh:∃ r6,H.next = r6:=⟨_,rfl⟩
 obtain ⟨r6,er6⟩:=Eh
 have Mc:∃ M,H2.next = M:=⟨_,rfl⟩
 obtain ⟨M,eM⟩:=Mc
 have hRr:RR < r6:=by omega
 rw [eZ] at a6 EZ ⊢
 rw [er6] at a2 n2 ⊢
 rw [eM] at hM3 EZ n2 ⊢
 have Rf:=Hp.aU a6
 have g36:=(g2.trans g3).trans g6
 have hz6:MZ H H6 26 Z bg bg [] [] [] [int ma.base,bg,bg] [pl M,slc r6 0 1 1]:=⟨g36,a6,bD.nil,bD.nil,rfl,fun k u l e=>by simp at e,by omega,Ut Rf (by omega) (by omega) (by omega) (by omega) (by omega) 1 1⟩
 have hM6:dN H6 M dH [((0:Int),(0:Int))]:=hM3.ext g6
 have nE:bD H H6 64 2 (slc r6 0 1 1) [((0:Int),(0:Int))].length (fl2 [((0:Int),(0:Int))]):=⟨rfl,.inr ⟨r6,rfl,by omega,true,g6.at_ _ _ (g3.at_ _ _ a2)⟩⟩
 have Jy:=hz6.more (.refl _) (v:=bg) fun r e=>by cases e
 have qh:H.next≤M:=by omega
 have hq0:=Bq.start hU hs0
 clear a6 g6 g36 hM3 a2
 conv=>whnf
 refine ak.cut (α:=Value×Value×List Value×List Int×List (List Int)×Hp) (fun q=>[(9,ptr Z 0),(6,ptr RR 0)]) (fun q H7=>q.2.2.2.2.2 = H7∧∃ rs,MZ H q.2.2.2.2.2 26 Z q.1 q.2.1 q.2.2.2.1 q.2.2.1 q.2.2.2.2.1 [int ma.base,q.1,q.2.1] rs∧(vw ma mb Tb).i = ⟨ma.base,q.2.2.2.1,q.2.2.2.2.1⟩) ?_ ?_
 rotate_left
 ·rintro ⟨ov,nv,us,O,N,H7⟩ φ7 _ ⟨rfl,rs,hz7,ef⟩
  dsimp only at hz7 ef ⊢
  have hov:=hz7.jE
  obtain ⟨ax,rfl⟩:=hov
  have hnv:=hz7.jh
  obtain ⟨ay,rfl⟩:=hnv
  have aR7:=hz7.gr.at_ _ _ aR
  conv=>whnf
  repeat (refine ak.go ?_; conv=>whnf)
  refine ⟨_,aM hz7.z rfl,?_⟩
  conv=>whnf
  refine ⟨rfl,_,bJ (vs:=[int ma.base,.slice ax O.length O.length,.slice ay N.length N.length]) aR7 rfl rfl rfl,?_⟩
  conv=>whnf
  repeat (refine ak.go ?_; conv=>whnf)
  obtain ⟨iR,tR,agR,szR⟩:=Qz
  refine fq (r:=RR) (o:=0) (cs:=[int ma.base,.slice ax O.length O.length,.slice ay N.length N.length]) rfl tR agR ?_ ?_
  ·rw [szR]
   exact aM (Hp.bH _ (Hp.aU aR7)) rfl
  ·rw [ef]
   exact hz7.leave (h:=h) (R:=RR) (by omega) (by omega) gH ma.base (.row 26 true [int ma.base,.slice ax O.length O.length,.slice ay N.length N.length])
 conv=>whnf
 repeat (refine ak.go ?_; conv=>whnf)
 refine bQ (α:=List (Int×Int)×Nat×Value×Value×Value×List Value×Hp) (fun q=>[(10,int q.2.1),(9,ptr Z 0),(8,bK M),(7,q.2.2.1),(6,ptr RR 0),(3,ptr h.next 0),(4,ptr (h.next + 1) 0),(2,.slice (some ⟨rT,oT,spT⟩) Tb.length ct)]) (fun q=>q.2.2.2.2.2.2) (fun q=>Bq next ma.base ((0:Int),(0:Int)) U q.1 q.2.1∧MZ H q.2.2.2.2.2.2 26 Z q.2.2.2.1 q.2.2.2.2.1 ((q.1.take q.2.1).map out) q.2.2.2.2.2.1 (rowsOf next ma.base q.1 q.2.1) [int ma.base,q.2.2.2.1,q.2.2.2.2.1] [pl M,q.2.2.1,bg]∧dN q.2.2.2.2.2.2 M dH q.1∧bD H q.2.2.2.2.2.2 64 2 q.2.2.1 q.1.length (fl2 q.1)) (fun q=>2000000 - q.2.1) ([((0:Int),(0:Int))],0,slc r6 0 1 1,bg,bg,[],H6) ⟨hq0,Jy,hM6,nE⟩ ⟨rfl,rfl,rfl,rfl,rfl,rfl,rfl,rfl,trivial⟩ (Hp.Le.refl _) ?_
 rintro ⟨L,a,u6,ov,nv,us,G⟩ φ7 ⟨hq,hz,hM,hst⟩
 dsimp only at hq hz hM hst ⊢
 clear hz6 hM6 nE Jy hq0
 have QL:=hq.few
 have Rh:=hq.le
 have hsk:=hst.slice
 obtain ⟨au,eu,-⟩:=hsk
 subst eu
 conv=>whnf
 repeat (refine ak.go ?_; conv=>whnf)
 refine dB (fun q1=>?_) (fun q1=>?_)
 rotate_left
 ·have hbd:=hq.done (by omega)
  have ea:a = L.length:=by omega
  subst ea
  rw [List.take_length] at hz
  conv=>whnf
  repeat (refine ak.go ?_; conv=>whnf)
  exact ⟨(ov,nv,us,L.map out,rowsOf next ma.base L L.length,G),⟨rfl,rfl,trivial⟩,⟨rfl,_,hz,by rw [← OZ]; exact Af hbd⟩,rfl⟩
 have haL:a < L.length:=by omega
 have tF:∃ s,L[a]? = some s:=⟨_,List.getElem?_eq_getElem haL⟩
 obtain ⟨s,hs⟩:=tF
 have hsU:=hq.sub s (List.mem_of_getElem? hs)
 have hOl:((L.take a).map out).length = a:=by rw [List.length_map,List.length_take]; omega
 have hNl:(rowsOf next ma.base L a).length = a:=by unfold rowsOf; rw [List.length_map,List.length_take]; omega
 have hq2:=hq.next hU hs
 have hsc:=Rn hst hs
 obtain ⟨rst,IC,hsc1,hsc2⟩:=hsc
 cases IC
 have hpr:∃ s1 s2:Nat,s = ((s1:Int),(s2:Int))∧s1 < ma.out.length∧s2 < mb.out.length:=by
  have h1:=hsq s hsU
  obtain ⟨p1,p2⟩:=s
  dsimp only at h1
  exact ⟨p1.toNat,p2.toNat,by rw [Int.toNat_of_nonneg (by omega),Int.toNat_of_nonneg (by omega)],by omega,by omega⟩
 obtain ⟨s1,s2,es,acd⟩:=hpr
 rw [es] at hsc1 hsc2
 dsimp only at hsc1 hsc2
 conv=>whnf
 refine ak.go ?_
 conv=>whnf
 refine ak.cut (α:=Unit) (fun q=>[(11,int s1),(12,int s2),(10,int a),(9,ptr Z 0),(8,bK M),(7,slc rst 0 L.length L.length),(6,ptr RR 0),(3,ptr h.next 0),(4,ptr (h.next + 1) 0),(2,.slice (some ⟨rT,oT,spT⟩) Tb.length ct)]) (fun q H7=>G = H7) ?_ ?_
 ·conv=>whnf
  refine ⟨rfl,⟨by omega,by omega⟩,?_⟩
  conv=>whnf
  refine ⟨⟨by omega,by omega⟩,?_⟩
  conv=>whnf
  refine ⟨_,hsc1,?_⟩
  conv=>whnf
  refine ⟨rfl,⟨by omega,by omega⟩,?_⟩
  conv=>whnf
  refine ⟨⟨by omega,by omega⟩,?_⟩
  conv=>whnf
  refine ⟨_,hsc2,?_⟩
  conv=>whnf
  exact ⟨(),⟨rfl,rfl,rfl,rfl,rfl,rfl,rfl,rfl,rfl,rfl,trivial⟩,rfl,rfl⟩
 rintro _ φ8 _ rfl
 clear hsc1 hsc2
 conv=>whnf
 refine ak.go ?_
 conv=>whnf
 refine ak.cut (α:=Value×Value×Hp) (fun q=>[(13,q.2.1),(11,int s1),(12,int s2),(10,int a),(9,ptr Z 0),(8,bK M),(7,q.1),(6,ptr RR 0),(3,ptr h.next 0),(4,ptr (h.next + 1) 0),(2,.slice (some ⟨rT,oT,spT⟩) Tb.length ct)]) (fun q H7=>q.2.2 = H7∧MZ H q.2.2 26 Z ov nv ((L.take a).map out) us (rowsOf next ma.base L a) [int ma.base,ov,nv] [pl M,q.1,q.2.1]∧dN q.2.2 M dH (notes L (bR next s ma.base))∧bD H q.2.2 64 2 q.1 (notes L (bR next s ma.base)).length (fl2 (notes L (bR next s ma.base)))∧bD H q.2.2 3 1 q.2.1 (rowOf next ma.base (notes L (bR next s ma.base)) s).length ((rowOf next ma.base (notes L (bR next s ma.base)) s).map int)) ?_ ?_
 ·conv=>whnf
  repeat (refine ak.go ?_; conv=>whnf)
  refine bQ (α:=Nat×Value×Value×Hp) (fun q=>[(14,int q.1),(13,q.2.2.1),(11,int s1),(12,int s2),(10,int a),(9,ptr Z 0),(8,bK M),(7,q.2.1),(6,ptr RR 0),(3,ptr h.next 0),(4,ptr (h.next + 1) 0),(2,.slice (some ⟨rT,oT,spT⟩) Tb.length ct)]) (fun q=>q.2.2.2) (fun q=>q.1≤ma.base∧MZ H q.2.2.2 26 Z ov nv ((L.take a).map out) us (rowsOf next ma.base L a) [int ma.base,ov,nv] [pl M,q.2.1,q.2.2.1]∧dN q.2.2.2 M dH (notes L (bR next s q.1))∧bD H q.2.2.2 64 2 q.2.1 (notes L (bR next s q.1)).length (fl2 (notes L (bR next s q.1)))∧bD H q.2.2.2 3 1 q.2.2.1 (rowOf next q.1 (notes L (bR next s q.1)) s).length ((rowOf next q.1 (notes L (bR next s q.1)) s).map int)) (fun q=>ma.base - q.1) (0,_,bg,G) ⟨Nat.zero_le _,hz,hM,hst,bD.nil⟩ ⟨rfl,rfl,rfl,rfl,rfl,rfl,rfl,rfl,rfl,rfl,rfl,rfl,trivial⟩ (Hp.Le.refl _) ?_
  rintro ⟨d,u,w,K⟩ φ9 ⟨hd,hzK,hMK,huK,hwK⟩
  dsimp only at hd hzK hMK huK hwK ⊢
  have hpre:=fH (bR next s d) L
  obtain ⟨r8,e8⟩:=hpre
  have yX:=gN hU hq hsU hd
  have yY:∀ j,j < d→next s j ∈ notes L (bR next s d):=fun j hj=>fI (qy hj)
  have hsucc:notes L (bR next s (d + 1)) = note (notes L (bR next s d)) (next s d):=by rw [jl,iE]
  have I8:∃ L',notes L (bR next s d) = L':=⟨_,rfl⟩
  obtain ⟨L',eL'⟩:=I8
  rw [eL'] at hMK huK hwK e8 yX yY hsucc
  have hus:=huK.slice
  obtain ⟨au2,eu2,-⟩:=hus
  subst eu2
  have Bz:=hwK.slice
  obtain ⟨aw2,ew2,-⟩:=Bz
  rw [qC] at ew2
  subst ew2
  have kK:=hcx K h.next 26 (gH.trans hzK.gr) (hzK.gr.at_ _ _ aX)
  have kD:=hdx K (h.next + 1) 26 (gH.trans hzK.gr) (hzK.gr.at_ _ _ aY)
  have f0:cellAt K h.next 0 = some (int (ma.base:Int)):=kK.c0
  have f2:=kK.c2
  have f3:=kD.c2
  conv=>whnf
  repeat (refine ak.go ?_; conv=>whnf)
  refine ⟨_,f0,?_⟩
  conv=>whnf
  refine dB (fun q2=>?_) (fun q2=>?_)
  rotate_left
  ·have:d = ma.base:=by omega
   subst this
   conv=>whnf
   repeat (refine ak.go ?_; conv=>whnf)
   exact ⟨(_,_,K),⟨rfl,rfl,rfl,rfl,rfl,rfl,rfl,rfl,rfl,rfl,rfl,trivial⟩,⟨rfl,hzK,by rw [eL']; exact hMK,by rw [eL']; exact huK,by rw [eL']; exact hwK⟩,rfl⟩
  have hd':d < ma.base:=by omega
  have jF:=gN hU hq hsU (d:=d + 1) (by omega)
  rw [hsucc] at jF
  have hext:∃ t,next s d = t:=⟨_,rfl⟩
  obtain ⟨t,et⟩:=hext
  rw [et] at jF hsucc
  conv=>whnf
  refine ak.go ?_
  conv=>whnf
  have eE:t = (((ma.nx s1 d:Nat):Int),((mb.nx s2 d:Nat):Int)):=by
   rw [← et,← uW,es]
   unfold kr
   dsimp only
   rw [Int.toNat_natCast,Int.toNat_natCast]
  have hna:=kK.lG oka (s:=s1) (d:=d) (by omega) (by omega)
  obtain ⟨r1,o1,sp1,r2,o2,sp2,c2',ean,hsp1,hc1,hsp2,hc2⟩:=hna
  subst ean
  have hnb:=kD.lG okb (s:=s2) (d:=d) (by omega) (by omega)
  obtain ⟨r3,o3,sp3,r4,o4,sp4,c4',ebn,xg,hc3,Jt,hc4⟩:=hnb
  subst ebn
  refine ak.cut (α:=Nat×Hp) (fun q=>[(15,ptr q.1 0),(14,int d),(13,.slice aw2 d d),(11,int s1),(12,int s2),(10,int a),(9,ptr Z 0),(8,bK M),(7,.slice au2 L'.length L'.length),(6,ptr RR 0),(3,ptr h.next 0),(4,ptr (h.next + 1) 0),(2,.slice (some ⟨rT,oT,spT⟩) Tb.length ct)]) (fun q H7=>q.2 = H7∧aC K q.2∧q.2.at q.1 = some (.row 64 true [int t.1,int t.2])∧K.next≤q.1) ?_ ?_
  ·conv=>whnf
   rw [eE]
   have gl1:aC K (K.lay (.row 64 true [int 0,int 0])):=aC.lay _ _
   have gl2:aC K (K.lay (.row 64 true [int (ma.nx s1 d:Nat),int (mb.nx s2 d:Nat)])):=aC.lay _ _
   have b0:=gl1.cell f2
   have b1:=gl1.cell f3
   have b2:=gl1.cell hc1
   have b3:=gl1.cell hc2
   have b4:=gl1.cell hc3
   have b5:=gl1.cell hc4
   have e0:=gl2.cell f2
   have e1:=gl2.cell f3
   have e2:=gl2.cell hc1
   have e3:=gl2.cell hc2
   have e4:=gl2.cell hc3
   have e5:=gl2.cell hc4
   refine ⟨_,f2,?_⟩
   conv=>whnf
   refine ⟨hsp1,⟨by omega,by omega⟩,?_⟩
   conv=>whnf
   refine ⟨_,hc1,?_⟩
   conv=>whnf
   refine ⟨hsp2,⟨by omega,by omega⟩,?_⟩
   conv=>whnf
   refine ⟨_,hc2,?_⟩
   conv=>whnf
   refine ⟨_,f3,?_⟩
   conv=>whnf
   refine ⟨xg,⟨by omega,by omega⟩,?_⟩
   conv=>whnf
   refine ⟨_,hc3,?_⟩
   conv=>whnf
   refine ⟨Jt,⟨by omega,by omega⟩,?_⟩
   conv=>whnf
   refine ⟨_,hc4,?_⟩
   conv=>whnf
   refine ⟨rfl,_,cK (vs:=[int (ma.nx s1 d:Nat),int (mb.nx s2 d:Nat)]) rfl rfl rfl,?_⟩
   conv=>whnf
   refine ⟨?_,?_⟩
   ·repeat' (first | exact True.intro | (refine And.intro ?_ ?_ <;> (conv=>whnf)))
    all_goals first
     | exact aj (h2:=_) rfl (aI _)
     | exact aj (h2:=_) rfl (dh _ _)
     | exact aj (h2:=_) rfl (aD _ _ _)
     | exact aj (h2:=_) rfl (iP _ _)
     | exact aj (h2:=_) (congrArg (hval _) f2) (aI _)
     | exact aj (h2:=_) (congrArg (hval _) f2) (aD _ _ _)
     | exact aj (h2:=_) (congrArg (hval _) f3) (aI _)
     | exact aj (h2:=_) (congrArg (hval _) f3) (aD _ _ _)
     | exact aj (h2:=_) (congrArg (hval _) hc1) (aI _)
     | exact aj (h2:=_) (congrArg (hval _) hc1) (aD _ _ _)
     | exact aj (h2:=_) (congrArg (hval _) hc2) (aI _)
     | exact aj (h2:=_) (congrArg (hval _) hc2) (aD _ _ _)
     | exact aj (h2:=_) (congrArg (hval _) hc3) (aI _)
     | exact aj (h2:=_) (congrArg (hval _) hc3) (aD _ _ _)
     | exact aj (h2:=_) (congrArg (hval _) hc4) (aI _)
     | exact aj (h2:=_) (congrArg (hval _) hc4) (aD _ _ _)
     | exact aj (h2:=_) (congrArg (hval _) b0) (aI _)
     | exact aj (h2:=_) (congrArg (hval _) b0) (aD _ _ _)
     | exact aj (h2:=_) (congrArg (hval _) b1) (aI _)
     | exact aj (h2:=_) (congrArg (hval _) b1) (aD _ _ _)
     | exact aj (h2:=_) (congrArg (hval _) b2) (aI _)
     | exact aj (h2:=_) (congrArg (hval _) b2) (aD _ _ _)
     | exact aj (h2:=_) (congrArg (hval _) b3) (aI _)
     | exact aj (h2:=_) (congrArg (hval _) b3) (aD _ _ _)
     | exact aj (h2:=_) (congrArg (hval _) b4) (aI _)
     | exact aj (h2:=_) (congrArg (hval _) b4) (aD _ _ _)
     | exact aj (h2:=_) (congrArg (hval _) b5) (aI _)
     | exact aj (h2:=_) (congrArg (hval _) b5) (aD _ _ _)
     | exact aj (h2:=_) (congrArg (hval _) e0) (aI _)
     | exact aj (h2:=_) (congrArg (hval _) e0) (aD _ _ _)
     | exact aj (h2:=_) (congrArg (hval _) e1) (aI _)
     | exact aj (h2:=_) (congrArg (hval _) e1) (aD _ _ _)
     | exact aj (h2:=_) (congrArg (hval _) e2) (aI _)
     | exact aj (h2:=_) (congrArg (hval _) e2) (aD _ _ _)
     | exact aj (h2:=_) (congrArg (hval _) e3) (aI _)
     | exact aj (h2:=_) (congrArg (hval _) e3) (aD _ _ _)
     | exact aj (h2:=_) (congrArg (hval _) e4) (aI _)
     | exact aj (h2:=_) (congrArg (hval _) e4) (aD _ _ _)
     | exact aj (h2:=_) (congrArg (hval _) e5) (aI _)
     | exact aj (h2:=_) (congrArg (hval _) e5) (aD _ _ _)
     | exact aj (h2:=_) (show hval _ (jU 1 (.slice (some ⟨_,_,_⟩) _ _) (int _)) = _ from eX hsp1 ⟨by omega,by omega⟩) (dh _ _)
     | exact aj (h2:=_) (show hval _ (jU 1 (.slice (some ⟨_,_,_⟩) _ _) (int _)) = _ from eX hsp2 ⟨by omega,by omega⟩) (dh _ _)
     | exact aj (h2:=_) (show hval _ (jU 1 (.slice (some ⟨_,_,_⟩) _ _) (int _)) = _ from eX xg ⟨by omega,by omega⟩) (dh _ _)
     | exact aj (h2:=_) (show hval _ (jU 1 (.slice (some ⟨_,_,_⟩) _ _) (int _)) = _ from eX Jt ⟨by omega,by omega⟩) (dh _ _)
     | exact ⟨_,rfl,Hp.aA _ _,rfl⟩
   exact ⟨(K.next,_),⟨rfl,rfl,rfl,rfl,rfl,rfl,rfl,rfl,rfl,rfl,rfl,rfl,rfl,trivial⟩,⟨rfl,aC.lay _ _,Hp.aA _ _,Nat.le_refl _⟩,rfl⟩
  rintro ⟨x15,K9⟩ E5 _ ⟨rfl,g9,aK,IG⟩
  dsimp only at g9 aK IG ⊢
  have ZT:M < K.next:=by
   obtain ⟨_,_,h1,_⟩:=hMK
   exact Hp.aU h1
  have hz9:=hzK.ext g9
  have hM9:=hMK.ext g9
  have hu9:=huK.ext g9
  have hw9:=hwK.ext g9
  have ace:ad (.slice au2 L'.length L'.length)≠some x15:=fun e=>by
   have h1:=(huK.jf x15 e).2
   omega
  clear hzK hMK huK hwK
  conv=>whnf
  refine ak.cut (α:=Nat×Bool×Hp) (fun q=>[(16,int q.1),(17,.bool q.2.1),(15,ptr x15 0),(14,int d),(13,.slice aw2 d d),(11,int s1),(12,int s2),(10,int a),(9,ptr Z 0),(8,bK M),(7,.slice au2 L'.length L'.length),(6,ptr RR 0),(3,ptr h.next 0),(4,ptr (h.next + 1) 0),(2,.slice (some ⟨rT,oT,spT⟩) Tb.length ct)]) (fun q H7=>q.2.2 = H7∧aC K9 H7∧(t ∈ L'→q.1 = kS L' t∧q.2.1 = true)∧(t ∉ L'→q.1 = L'.length∧q.2.1 = false)) ?_ ?_
  ·conv=>whnf
   refine ⟨_,aM aK rfl,?_⟩
   conv=>whnf
   refine aJ.mono (wR au2 L'.length L'.length M L' t K9 hM9 rfl) ?_
   rintro r H9 ⟨hr,g10⟩
   by_cases hin:t ∈ L'
   ·have hr:=hr.1 hin
    subst hr
    conv=>whnf
    exact ⟨(kS L' t,true,H9),⟨rfl,rfl,rfl,rfl,rfl,rfl,rfl,rfl,rfl,rfl,rfl,rfl,rfl,rfl,rfl,trivial⟩,⟨rfl,g10,fun _=>⟨rfl,rfl⟩,fun q=>absurd hin q⟩,rfl⟩
   ·have hr:=hr.2 hin
    subst hr
    conv=>whnf
    exact ⟨(L'.length,false,H9),⟨rfl,rfl,rfl,rfl,rfl,rfl,rfl,rfl,rfl,rfl,rfl,rfl,rfl,rfl,rfl,trivial⟩,⟨rfl,g10,fun q=>absurd q hin,fun _=>⟨rfl,rfl⟩⟩,rfl⟩
  rintro ⟨kx,isb,K9⟩ Ri _ ⟨rfl,g10,hin1,hin2⟩
  dsimp only at g10 hin1 hin2 ⊢
  have hz9:=hz9.ext g10
  have hM9:=hM9.ext g10
  have hu9:=hu9.ext g10
  have hw9:=hw9.ext g10
  have aK:=g10.at_ _ _ aK
  clear g10
  conv=>whnf
  refine ak.cut (α:=Value×Hp) (fun q=>[(16,int (kS (note L' t) t:Nat)),(14,int d),(13,.slice aw2 d d),(11,int s1),(12,int s2),(10,int a),(9,ptr Z 0),(8,bK M),(7,q.1),(6,ptr RR 0),(3,ptr h.next 0),(4,ptr (h.next + 1) 0),(2,.slice (some ⟨rT,oT,spT⟩) Tb.length ct)]) (fun q H7=>q.2 = H7∧MZ H q.2 26 Z ov nv ((L.take a).map out) us (rowsOf next ma.base L a) [int ma.base,ov,nv] [pl M,q.1,.slice aw2 d d]∧dN q.2 M dH (note L' t)∧bD H q.2 64 2 q.1 (note L' t).length (fl2 (note L' t))∧bD H q.2 3 1 (.slice aw2 d d) (rowOf next d L' s).length ((rowOf next d L' s).map int)) ?_ ?_
  ·by_cases hin:t ∈ L'
   ·have iQ:note L' t = L':=by unfold note; rw [if_pos hin]
    have hk:=hin1 hin
    obtain ⟨hk1,hk2⟩:=hk
    subst hk1
    subst hk2
    rw [iQ]
    conv=>whnf
    refine ak.go ?_
    conv=>whnf
    repeat (refine ak.go ?_; conv=>whnf)
    exact ⟨(_,K9),⟨rfl,rfl,rfl,rfl,rfl,rfl,rfl,rfl,rfl,rfl,rfl,rfl,rfl,trivial⟩,⟨rfl,hz9,hM9,hu9,hw9⟩,rfl⟩
   ·have iQ:note L' t = L' ++ [t]:=by unfold note; rw [if_neg hin]
    have hnl:(L' ++ [t]).length = L'.length + 1:=by rw [List.length_append]; rfl
    have hix:kS (L' ++ [t]) t = L'.length:=uP hin
    have hk:=hin2 hin
    obtain ⟨hk1,hk2⟩:=hk
    subst hk1
    subst hk2
    rw [iQ] at jF ⊢
    rw [hix]
    conv=>whnf
    refine ak.go ?_
    conv=>whnf
    repeat (refine ak.go ?_; conv=>whnf)
    refine ⟨_,aM aK rfl,?_⟩
    conv=>whnf
    refine iD tM dM EJ (k:=t) (v:=int L'.length) rfl rfl rfl hM9 ?_
    intro K10 mI y10
    have htz:=hz9.touch (i:=0) (v:=pl M) rfl (Kx.keeps y10) (y10.grows hz9.gr qh) (by rw [y10.next]; exact Nat.le_refl _)
    have za:=dN.add hin mI
    have jV:=htz.2.bW (v:=.slice au2 L'.length L'.length) (by simp) hu9
    have Yb:=htz.2.bW (v:=.slice aw2 d d) (by simp) hw9
    have hzz:=htz.1
    have wN:K10.at x15 = some (.row 64 true [int t.1,int t.2]):=y10.at_ _ _ (by omega) aK
    conv=>whnf
    repeat (refine ak.go ?_; conv=>whnf)
    refine ⟨_,aM wN rfl,?_⟩
    conv=>whnf
    refine hzz.Ke (i:=1) (n:=L'.length) (cl:=fl2 L') (new:=[int t.1,int t.2]) rfl jV rfl rfl (by omega) (by omega) ?_
    intro XB K11 rA ze rC zf QM
    obtain ⟨a11,n11,rfl⟩:=rA
    have II:=zf.map (M:=M) (by simp) za
    have Yc:=zf.bW (v:=.slice aw2 d d) (by simp) Yb
    conv=>whnf
    exact ⟨(_,K11),⟨rfl,rfl,rfl,rfl,rfl,rfl,rfl,rfl,rfl,rfl,rfl,rfl,rfl,trivial⟩,⟨rfl,rC,II,by rw [Ae,hnl]; exact ze,Yc⟩,rfl⟩
  rintro ⟨u2,K1⟩ aa8 _ ⟨rfl,hz1,hM1,hu1,hw1⟩
  dsimp only at hz1 hM1 hu1 hw1 ⊢
  have y8:=pq L' t
  obtain ⟨r10,e10⟩:=y8
  have hrs:=BA (next:=next) (s:=s) yY e10
  rw [et] at hrs
  have Rj:=hu1.slice
  obtain ⟨au3,eu3,-⟩:=Rj
  subst eu3
  have hrl:(rowOf next d L' s).length = d:=qC
  conv=>whnf
  refine hz1.J9 (i:=2) rfl hw1 (by omega) ?_
  intro w' K2 hw' hb2 hz2' kv2
  obtain ⟨a9,n9,rfl⟩:=hw'
  have Mr:=kv2.map (M:=M) (by simp) hM1
  have hu2:=kv2.bW (v:=.slice au3 (note L' t).length (note L' t).length) (by simp) hu1
  rw [← hrs] at hb2
  conv=>whnf
  repeat (refine ak.go ?_; conv=>whnf)
  refine ⟨((d + 1:Nat):Int),wie (by omega) (by omega),?_⟩
  conv=>whnf
  exact Rnd.mk (d + 1,_,_,K2) ⟨by show d + 1≤ma.base; omega,hz2',by show dN K2 M dH (notes L (bR next s (d + 1))); rw [hsucc]; exact Mr,by show bD H K2 64 2 _ (notes L (bR next s (d + 1))).length (fl2 (notes L (bR next s (d + 1)))); rw [hsucc]; exact hu2,by show bD H K2 3 1 _ (rowOf next (d + 1) (notes L (bR next s (d + 1))) s).length ((rowOf next (d + 1) (notes L (bR next s (d + 1))) s).map int); rw [hsucc]; exact hb2⟩ (by show ma.base - (d + 1) < ma.base - d; omega) ⟨rfl,rfl,rfl,rfl,rfl,rfl,rfl,rfl,rfl,rfl,rfl,rfl,trivial⟩ (Hp.Le.refl _) rfl
 rintro ⟨u2,w2,K⟩ φ9 _ ⟨rfl,hzK,hMK,huK,hwK⟩
 dsimp only at hzK hMK huK hwK ⊢
 clear hz hM hst
 have hpre:=fH (bR next s ma.base) L
 obtain ⟨r8,e8⟩:=hpre
 have hrows:=mH hq.met hq.le e8
 have O1:outs next ma.base s = bR next s ma.base:=rfl
 rw [O1] at hq2
 have rz:∃ L',notes L (bR next s ma.base) = L':=⟨_,rfl⟩
 obtain ⟨L',eL'⟩:=rz
 rw [eL'] at hMK huK hwK hq2 e8 hrows
 have uX:L'[a]? = some s:=by rw [e8,List.getElem?_append_left haL]; exact hs
 have htk:L'.take a = L.take a:=by rw [e8,List.take_append_of_le_length Rh]
 have eO:((L.take a).map out) ++ [out s] = (L'.take (a + 1)).map out:=by rw [fZ uX,List.map_append,htk]; rfl
 have eN:rowsOf next ma.base L a ++ [rowOf next ma.base L' s] = rowsOf next ma.base L' (a + 1):=by
  rw [← hrows]
  unfold rowsOf
  rw [fZ uX,List.map_append]; rfl
 have hus:=huK.slice
 obtain ⟨au2,eu2,-⟩:=hus
 subst eu2
 have Bz:=hwK.slice
 obtain ⟨aw2,ew2,-⟩:=Bz
 subst ew2
 have hov:=hzK.jE
 obtain ⟨ax,eov⟩:=hov
 subst eov
 have hnv:=hzK.jh
 obtain ⟨ay,env⟩:=hnv
 subst env
 have z1:=aQ (o:=1) hzK.z rfl
 have z2:=aQ (o:=2) hzK.z rfl
 conv=>whnf
 refine ak.cut (α:=Unit) (fun q=>[(18,.slice ax ((L.take a).map out).length ((L.take a).map out).length),(19,.slice ay (rowsOf next ma.base L a).length (rowsOf next ma.base L a).length),(13,.slice aw2 (rowOf next ma.base L' s).length (rowOf next ma.base L' s).length),(11,int s1),(12,int s2),(10,int a),(9,ptr Z 0),(8,bK M),(7,.slice au2 L'.length L'.length),(6,ptr RR 0),(3,ptr h.next 0),(4,ptr (h.next + 1) 0),(2,.slice (some ⟨rT,oT,spT⟩) Tb.length ct)]) (fun q H7=>K = H7) ?_ ?_
 ·conv=>whnf
  refine ⟨_,z1,?_⟩
  conv=>whnf
  refine ⟨_,z2,?_⟩
  conv=>whnf
  exact ⟨(),⟨rfl,rfl,rfl,rfl,rfl,rfl,rfl,rfl,rfl,rfl,rfl,rfl,rfl,trivial⟩,rfl,rfl⟩
 rintro _ E5 _ rfl
 have kA:=hcx H h.next 26 gH aX
 have kB:=hdx H (h.next + 1) 26 gH aY
 have d1:cellAt H h.next 1 = some (.slice ao ma.out.length co):=kA.c1
 have d2:cellAt H (h.next + 1) 1 = some (.slice bo mb.out.length do_):=kB.c1
 have hoA:=kA.EY (s:=s1) (by omega)
 obtain ⟨r1,o1,sp1,ea1,hsp1,d3⟩:=hoA
 subst ea1
 have hoB:=kB.EY (s:=s2) (by omega)
 obtain ⟨r2,o2,sp2,ea2,hsp2,d4⟩:=hoB
 subst ea2
 have bdA:0≤ma.o s1∧ma.o s1≤9:=gM (P:=fun x=>0≤x∧x≤9) oa (j:=s1) (by omega)
 have bdB:0≤mb.o s2∧mb.o s2≤9:=gM (P:=fun x=>0≤x∧x≤9) ob (j:=s2) (by omega)
 have hiT:(ma.o s1).toNat < Tb.length:=by omega
 have hmt:=Mat.cell (hvt.ext gH) hiT
 obtain ⟨r3,o3,sp3,a3,c3,ea3,xg,-,d5,vT⟩:=hmt
 injection ea3 with ea3
 injection ea3 with ea31 ea32 ea33
 subst ea31
 subst ea32
 subst ea33
 have erw:Tb[(ma.o s1).toNat] = rw_ Tb (ma.o s1).toNat:=by unfold rw_; rw [List.getD_eq_getElem?_getD,List.getElem?_eq_getElem hiT]; rfl
 have hrow:=okT.row (ma.o s1).toNat (by omega)
 rw [erw,hrow] at d5
 rw [erw,hrow] at vT
 have hct:=View.iO vT (i:=(mb.o s2).toNat) (by omega)
 obtain ⟨r4,o4,sp4,ea4,Jt,-,d6⟩:=hct
 subst ea4
 have eos:gl (rw_ Tb (ma.o s1).toNat) (mb.o s2).toNat = out s:=by
  rw [← OY,es]
  unfold OX
  dsimp only
  rw [Int.toNat_natCast,Int.toNat_natCast]
 rw [eos] at d6
 conv=>whnf
 refine ak.cut (α:=Value×Hp) (fun q=>[(19,.slice ay (rowsOf next ma.base L a).length (rowsOf next ma.base L a).length),(13,.slice aw2 (rowOf next ma.base L' s).length (rowOf next ma.base L' s).length),(10,int a),(9,ptr Z 0),(8,bK M),(7,.slice au2 L'.length L'.length),(6,ptr RR 0),(3,ptr h.next 0),(4,ptr (h.next + 1) 0),(2,.slice (some ⟨rT,oT,spT⟩) Tb.length ct)]) (fun q H7=>q.2 = H7∧(∃ a n,q.1 = .slice a n n)∧MZ H q.2 26 Z q.1 (.slice ay (rowsOf next ma.base L a).length (rowsOf next ma.base L a).length) ((L'.take (a + 1)).map out) us (rowsOf next ma.base L a) [int ma.base,q.1,.slice ay (rowsOf next ma.base L a).length (rowsOf next ma.base L a).length] [pl M,.slice au2 L'.length L'.length,.slice aw2 (rowOf next ma.base L' s).length (rowOf next ma.base L' s).length]∧dN q.2 M dH L'∧bD H q.2 64 2 (.slice au2 L'.length L'.length) L'.length (fl2 L')∧bD H q.2 3 1 (.slice aw2 (rowOf next ma.base L' s).length (rowOf next ma.base L' s).length) (rowOf next ma.base L' s).length ((rowOf next ma.base L' s).map int)) ?_ ?_
 ·conv=>whnf
  have g0:=hzK.gr
  have k1:=g0.cell d1
  have k2:=g0.cell d2
  have k3:=g0.cell d3
  have k4:=g0.cell d4
  have k5:=g0.cell d5
  have k6:=g0.cell d6
  have gl1:aC K (K.lay (.row 3 true [int (out s)])):=aC.lay _ _
  have l1:=gl1.cell k1
  have l2:=gl1.cell k2
  have l3:=gl1.cell k3
  have l4:=gl1.cell k4
  have l5:=gl1.cell k5
  have l6:=gl1.cell k6
  have hzQ:=hzK
  have hMQ:=hMK
  have huQ:=huK
  have hwQ:=hwK
  refine ⟨_,k1,?_⟩
  conv=>whnf
  refine ⟨hsp1,⟨by omega,by omega⟩,?_⟩
  conv=>whnf
  refine ⟨_,k3,?_⟩
  conv=>whnf
  refine ⟨xg,⟨by omega,by omega⟩,?_⟩
  conv=>whnf
  refine ⟨_,k5,?_⟩
  conv=>whnf
  refine ⟨_,k2,?_⟩
  conv=>whnf
  refine ⟨hsp2,⟨by omega,by omega⟩,?_⟩
  conv=>whnf
  refine ⟨_,k4,?_⟩
  conv=>whnf
  refine ⟨Jt,⟨by omega,by omega⟩,?_⟩
  conv=>whnf
  refine ⟨_,k6,?_⟩
  conv=>whnf
  refine hzQ.Da (by omega) ?_
  intro ov7 K7 Bt hz7 kv7
  obtain ⟨a7,n7,rfl⟩:=Bt
  have hM7:=kv7.map (M:=M) (by simp) hMQ
  have hu7:=kv7.bW (v:=.slice au2 L'.length L'.length) (by simp) huQ
  have hw7:=kv7.bW (v:=.slice aw2 (rowOf next ma.base L' s).length (rowOf next ma.base L' s).length) (by simp) hwQ
  conv=>whnf
  refine ⟨rfl,_,dK hz7.z (by simp) rfl,?_⟩
  have hz8:=hz7.put [int ma.base,.slice a7 n7 n7,.slice ay (rowsOf next ma.base L a).length (rowsOf next ma.base L a).length]
  have hM8:=hz8.2.map (M:=M) (by simp) hM7
  have hu8:=hz8.2.bW (v:=.slice au2 L'.length L'.length) (by simp) hu7
  have hw8:=hz8.2.bW (v:=.slice aw2 (rowOf next ma.base L' s).length (rowOf next ma.base L' s).length) (by simp) hw7
  have tH:=hz8.1
  rw [eO] at tH
  conv=>whnf
  have g7:=hz7.gr
  have p1:=g7.cell d1
  have p2:=g7.cell d2
  have p3:=g7.cell d3
  have p4:=g7.cell d4
  have p5:=g7.cell d5
  have p6:=g7.cell d6
  have g8:=tH.gr
  have q1:=g8.cell d1
  have q2:=g8.cell d2
  have q3:=g8.cell d3
  have q4:=g8.cell d4
  have q5:=g8.cell d5
  have q6:=g8.cell d6
  refine ⟨?_,?_⟩
  ·repeat' (first | exact True.intro | (refine And.intro ?_ ?_ <;> (conv=>whnf)))
   all_goals first
    | exact aj (h2:=_) rfl (aI _)
    | exact aj (h2:=_) rfl (dh _ _)
    | exact aj (h2:=_) rfl (aD _ _ _)
    | exact aj (h2:=_) rfl (iP _ _)
    | exact aj (h2:=_) (congrArg (hval _) k1) (aI _)
    | exact aj (h2:=_) (congrArg (hval _) k1) (aD _ _ _)
    | exact aj (h2:=_) (congrArg (hval _) k2) (aI _)
    | exact aj (h2:=_) (congrArg (hval _) k2) (aD _ _ _)
    | exact aj (h2:=_) (congrArg (hval _) k3) (aI _)
    | exact aj (h2:=_) (congrArg (hval _) k3) (aD _ _ _)
    | exact aj (h2:=_) (congrArg (hval _) k4) (aI _)
    | exact aj (h2:=_) (congrArg (hval _) k4) (aD _ _ _)
    | exact aj (h2:=_) (congrArg (hval _) k5) (aI _)
    | exact aj (h2:=_) (congrArg (hval _) k5) (aD _ _ _)
    | exact aj (h2:=_) (congrArg (hval _) k6) (aI _)
    | exact aj (h2:=_) (congrArg (hval _) k6) (aD _ _ _)
    | exact aj (h2:=_) (congrArg (hval _) l1) (aI _)
    | exact aj (h2:=_) (congrArg (hval _) l1) (aD _ _ _)
    | exact aj (h2:=_) (congrArg (hval _) l2) (aI _)
    | exact aj (h2:=_) (congrArg (hval _) l2) (aD _ _ _)
    | exact aj (h2:=_) (congrArg (hval _) l3) (aI _)
    | exact aj (h2:=_) (congrArg (hval _) l3) (aD _ _ _)
    | exact aj (h2:=_) (congrArg (hval _) l4) (aI _)
    | exact aj (h2:=_) (congrArg (hval _) l4) (aD _ _ _)
    | exact aj (h2:=_) (congrArg (hval _) l5) (aI _)
    | exact aj (h2:=_) (congrArg (hval _) l5) (aD _ _ _)
    | exact aj (h2:=_) (congrArg (hval _) l6) (aI _)
    | exact aj (h2:=_) (congrArg (hval _) l6) (aD _ _ _)
    | exact aj (h2:=_) (congrArg (hval _) p1) (aI _)
    | exact aj (h2:=_) (congrArg (hval _) p1) (aD _ _ _)
    | exact aj (h2:=_) (congrArg (hval _) p2) (aI _)
    | exact aj (h2:=_) (congrArg (hval _) p2) (aD _ _ _)
    | exact aj (h2:=_) (congrArg (hval _) p3) (aI _)
    | exact aj (h2:=_) (congrArg (hval _) p3) (aD _ _ _)
    | exact aj (h2:=_) (congrArg (hval _) p4) (aI _)
    | exact aj (h2:=_) (congrArg (hval _) p4) (aD _ _ _)
    | exact aj (h2:=_) (congrArg (hval _) p5) (aI _)
    | exact aj (h2:=_) (congrArg (hval _) p5) (aD _ _ _)
    | exact aj (h2:=_) (congrArg (hval _) p6) (aI _)
    | exact aj (h2:=_) (congrArg (hval _) p6) (aD _ _ _)
    | exact aj (h2:=_) (congrArg (hval _) q1) (aI _)
    | exact aj (h2:=_) (congrArg (hval _) q1) (aD _ _ _)
    | exact aj (h2:=_) (congrArg (hval _) q2) (aI _)
    | exact aj (h2:=_) (congrArg (hval _) q2) (aD _ _ _)
    | exact aj (h2:=_) (congrArg (hval _) q3) (aI _)
    | exact aj (h2:=_) (congrArg (hval _) q3) (aD _ _ _)
    | exact aj (h2:=_) (congrArg (hval _) q4) (aI _)
    | exact aj (h2:=_) (congrArg (hval _) q4) (aD _ _ _)
    | exact aj (h2:=_) (congrArg (hval _) q5) (aI _)
    | exact aj (h2:=_) (congrArg (hval _) q5) (aD _ _ _)
    | exact aj (h2:=_) (congrArg (hval _) q6) (aI _)
    | exact aj (h2:=_) (congrArg (hval _) q6) (aD _ _ _)
    | exact aj (h2:=_) (show hval _ (jU 1 (.slice (some ⟨_,_,_⟩) _ _) (int _)) = _ from eX hsp1 ⟨by omega,by omega⟩) (dh _ _)
    | exact aj (h2:=_) (show hval _ (jU 1 (.slice (some ⟨_,_,_⟩) _ _) (int _)) = _ from eX hsp2 ⟨by omega,by omega⟩) (dh _ _)
    | exact aj (h2:=_) (show hval _ (jU 1 (.slice (some ⟨_,_,_⟩) _ _) (int _)) = _ from eX xg ⟨by omega,by omega⟩) (dh _ _)
    | exact aj (h2:=_) (show hval _ (jU 1 (.slice (some ⟨_,_,_⟩) _ _) (int _)) = _ from eX Jt ⟨by omega,by omega⟩) (dh _ _)
    | exact ⟨_,rfl,Hp.aA _ _,rfl⟩
    | trace_state
  exact ⟨(_,_),⟨rfl,rfl,rfl,rfl,rfl,rfl,rfl,rfl,rfl,rfl,trivial⟩,⟨rfl,⟨_,_,rfl⟩,tH,hM8,hu8,hw8⟩,rfl⟩
 rintro ⟨ov8,K8⟩ Ri _ ⟨rfl,O5,hz8,hM8,hu8,hw8⟩
 dsimp only at O5 hz8 hM8 hu8 hw8 ⊢
 obtain ⟨a8,n8,rfl⟩:=O5
 conv=>whnf
 repeat (refine ak.go ?_; conv=>whnf)
 refine hz8.Az (i:=2) (by omega) rfl hw8.b ?_
 intro nv9 K9 Ed hz9 kv9
 obtain ⟨a9,n9,rfl⟩:=Ed
 have hM9:=kv9.map (M:=M) (by simp) hM8
 have hu9:=kv9.bW (v:=.slice au2 L'.length L'.length) (by simp) hu8
 conv=>whnf
 refine ⟨rfl,_,dK hz9.z (by simp) rfl,?_⟩
 have jM:=hz9.put [int ma.base,.slice a8 n8 n8,.slice a9 n9 n9]
 have mI:=jM.2.map (M:=M) (by simp) hM9
 have Rl:=jM.2.bW (v:=.slice au2 L'.length L'.length) (by simp) hu9
 have rC:=jM.1
 rw [eN] at rC
 conv=>whnf
 repeat (refine ak.go ?_; conv=>whnf)
 refine ⟨((a + 1:Nat):Int),wie (by omega) (by omega),?_⟩
 conv=>whnf
 exact Rnd.mk (L',a + 1,_,_,_,_,_) ⟨hq2,rC,mI,Rl⟩ (by show 2000000 - (a + 1) < 2000000 - a; omega) ⟨rfl,rfl,rfl,rfl,rfl,rfl,rfl,rfl,trivial⟩ (Hp.Le.refl _) rfl
end
end Go.Proofs.Ytedneplaibmppaa
namespace Go.Proofs.Ytedneplaibmppaa
open Go.Rx Go.RowKit
def idR (i:Nat):List Int:=(List.range 10).map fun j=>if i = j then (1:Int) else 0
def idC (f:Nat→Nat) (i:Nat):List Value:=yK 10 fun j=>if j < i then slc (f j) 0 10 10 else bg
theorem Yd (f:Nat→Nat):times [bg] 10 = idC f 0:=by
 rw [uM]
 refine wC fun j _=>?_
 rw [if_neg (by omega)]
theorem Ye (f:Nat→Nat) (i r:Nat):(idC f i).set i (slc r 0 10 10) = idC (fun j=>if j = i then r else f j) (i + 1):=by
 unfold idC
 rw [CV]
 refine wC fun j _=>?_
 by_cases h:j = i
 ·subst h
  dsimp only
  rw [if_pos rfl,if_pos (by omega),if_pos rfl]
 ·dsimp only
  rw [if_neg h]
  by_cases h2:j < i
  ·rw [if_pos h2,if_pos (by omega),if_neg h]
  ·rw [if_neg h2,if_neg (by omega)]
theorem Zv (i:Nat):(times [int 0] 10).set i (int 1) = (idR i).map int:=by
 rw [uM,CV]
 unfold yK idR
 rw [List.map_map]
 refine List.map_congr_left fun j _=>?_
 by_cases h:j = i
 ·subst h
  show (if j = j then int 1 else int 0) = int (if j = j then 1 else 0)
  rw [if_pos rfl,if_pos rfl]
 ·show (if j = i then int 1 else int 0) = int (if i = j then 1 else 0)
  rw [if_neg h,if_neg (fun e=>h e.symm)]
theorem Zw (i:Nat):(idR i).length = 10:=by unfold idR; rw [List.length_map,List.length_range]
theorem aa9 {G:Hp} {TB:Nat} {f:Nat→Nat} (a:G.at TB = some (.row 22 true (idC f 10))) (k:∀ j,j < 10→G.at (f j) = some (.row 3 true ((idR j).map int))):Mat G (slc TB 0 10 10) idT:=by
 refine ⟨some ⟨TB,0,none⟩,10,rfl,fun j hj=>?_⟩
 have hj':j < 10:=hj
 refine ⟨TB,0,none,slc (f j) 0 10 10,rfl,rfl,?_,?_⟩
 ·refine aQ a ?_
  unfold idC
  rw [Nat.add_zero,CU hj',if_pos hj']
 ·have e:idT[j]'hj = idR j:=by
   rw [← EI hj]
   unfold rw_ idT idR
   simp [hj']
  exact (congrArg (View G _) e).mpr (u7 (k j hj') (Zw j))
attribute [local irreducible] E iV cellAt bM storeAt callable dz dI dP findKey eD bT Hp.at Hp.set Hp.lay dO dw setAt aJ dA bO dG Rnd gD fK iN Int.tmod Int.tdiv Int.fdiv
section
variable [bE]
attribute [local irreducible] jZ sameAt
theorem Rp (va vb:Value) (ma mb:Mac) (h:Hp) (hva:MV h va ma.i) (hvb:MV h vb mb.i) (oka:ma.Ok) (okb:mb.Ok) (hbb:ma.base = mb.base) (acf:ma.base≤25) (oa:∀ x ∈ ma.out,0≤x∧x≤9) (ob:∀ x ∈ mb.out,0≤x∧x≤9) (hla:ma.out.length≤1000000) (hlb:mb.out.length≤1000000) (hlab:ma.out.length * mb.out.length≤1000000):aJ E 42 [va,vb] h (fun r h'=>(∃ x,r = .bool x∧bO x (Mac.Alike ma mb 0 0))∧aC h h'):=by
 obtain ⟨bx,rfl,hbx⟩:=hva.box
 obtain ⟨by_,rfl,hby⟩:=hvb.box
 have abb:=Rm oka okb hbb oa ob
 refine enter42 (by simp) ?_
 conv=>whnf
 refine ak.cut (α:=Hp) (fun _=>[(2,ptr h.next 0),(3,ptr (h.next + 1) 0)]) (fun x H=>x = H∧aC h H∧H.at h.next = some (.row 26 true bx)∧H.at (h.next + 1) = some (.row 26 true by_)) ?_ ?_
 ·conv=>whnf
  have n1:(h.lay (.row 26 true bx)).next = h.next + 1:=Hp.bG _ _
  exact ⟨_,⟨rfl,congrArg (fun k=>ptr k 0) n1,trivial⟩,⟨rfl,(aC.lay _ _).bL _,Hp.bC _ (Hp.aA _ _),fM n1 (Hp.aA _ _)⟩,rfl⟩
 rintro H φ1 _ ⟨rfl,gH,aX,aY⟩
 conv=>whnf
 refine ak.cut (α:=Hp) (fun _=>[(5,slc H.next 0 10 10),(2,ptr h.next 0),(3,ptr (h.next + 1) 0)]) (fun x H2=>x = H2∧aC H H2∧H2.at H.next = some (.row 22 true (times [bg] 10))) ?_ ?_
 ·conv=>whnf
  refine ⟨⟨by omega,by omega,by omega,by omega⟩,?_⟩
  conv=>whnf
  exact ⟨_,⟨rfl,rfl,rfl,trivial⟩,⟨rfl,aC.lay _ _,Hp.aA _ _⟩,rfl⟩
 rintro H2 φ2 _ ⟨rfl,g2,aT⟩
 rw [Yd (fun _=>0)] at aT
 have I8:∃ TB,H.next = TB:=⟨_,rfl⟩
 obtain ⟨TB,eTB⟩:=I8
 rw [eTB] at aT ⊢
 conv=>whnf
 refine ak.cut (α:=Hp) (fun _=>[(5,slc TB 0 10 10),(2,ptr h.next 0),(3,ptr (h.next + 1) 0)]) (fun x H3=>x = H3∧aC H H3∧Mat H3 (slc TB 0 10 10) idT) ?_ ?_
 ·conv=>whnf
  repeat (refine ak.go ?_; conv=>whnf)
  refine bQ (α:=Nat×(Nat→Nat)×Hp) (fun q=>[(6,int q.1),(5,slc TB 0 10 10),(2,ptr h.next 0),(3,ptr (h.next + 1) 0)]) (fun q=>q.2.2) (fun q=>q.1≤10∧aC H q.2.2∧q.2.2.at TB = some (.row 22 true (idC q.2.1 q.1))∧∀ j,j < q.1→TB < q.2.1 j∧q.2.2.at (q.2.1 j) = some (.row 3 true ((idR j).map int))) (fun q=>10 - q.1) (0,(fun _=>0),H2) ⟨by omega,g2,aT,fun j hj=>by omega⟩ ⟨rfl,rfl,rfl,rfl,trivial⟩ (Hp.Le.refl _) ?_
  clear aT g2
  rintro ⟨i,f,G⟩ φ3 ⟨hi,gG,aT,hf⟩
  dsimp only at hi gG aT hf ⊢
  have ad7:=Hp.aU aT
  conv=>whnf
  repeat (refine ak.go ?_; conv=>whnf)
  refine dB (fun q1=>?_) (fun q1=>?_)
  rotate_left
  ·have:i = 10:=by omega
   subst this
   conv=>whnf
   repeat (refine ak.go ?_; conv=>whnf)
   exact ⟨G,⟨rfl,rfl,rfl,trivial⟩,⟨rfl,gG,aa9 aT fun j hj=>(hf j hj).2⟩,rfl⟩
  have gl1:aC G (G.lay (.row 3 true (times [int 0] 10))):=aC.lay _ _
  have aT1:=gl1.at_ _ _ aT
  have aW1:(G.lay (.row 3 true (times [int 0] 10))).at G.next = some (.row 3 true (times [int 0] 10)):=Hp.aA _ _
  have hstep:=Ye f i G.next
  have hcl:(idC f i).length = 10:=je _ _
  have htl:(times [int 0] 10).length = 10:=by rw [uM,je]
  conv=>whnf
  refine ak.go ?_
  conv=>whnf
  refine ak.go ?_
  conv=>whnf
  refine ⟨⟨by omega,by omega,by omega,by omega⟩,?_⟩
  conv=>whnf
  refine ⟨rfl,⟨by omega,by omega⟩,?_⟩
  conv=>whnf
  refine ⟨rfl,_,iH aT1 (by omega) rfl,?_⟩
  have Xv:∃ K,(G.lay (.row 3 true (times [int 0] 10))).set TB (.row 22 true ((idC f i).set i (slc G.next 0 10 10))) = K:=⟨_,rfl⟩
  obtain ⟨K,eK⟩:=Xv
  have aTK:K.at TB = some (.row 22 true (idC (fun j=>if j = i then G.next else f j) (i + 1))):=by
   rw [← eK,Hp.bH _ (Hp.aU aT1),hstep]
  have aWK:K.at G.next = some (.row 3 true (times [int 0] 10)):=by
   rw [← eK,Hp.bU _ (by omega)]
   exact aW1
  have gK:aC H K:=by rw [← eK]; exact (gG.trans gl1).dD _ (by omega)
  have hfK:∀ j,j < i→K.at (f j) = some (.row 3 true ((idR j).map int)):=fun j hj=>by
   rw [← eK,Hp.bU _ (by have:=(hf j hj).1; omega)]
   exact gl1.at_ _ _ (hf j hj).2
  have cT:cellAt K TB (iy 0 i 1) = some (slc G.next 0 10 10):=yS aTK (by
   unfold idC
   rw [CU (by omega),if_pos (by omega)]
   dsimp only
   rw [if_pos rfl])
  conv=>whnf
  repeat (refine ak.go ?_; conv=>whnf)
  refine ⟨rfl,⟨by omega,by omega⟩,?_⟩
  conv=>whnf
  refine ⟨_,(show cellAt ((G.lay (.row 3 true (times [int 0] 10))).set TB (.row 22 true ((idC f i).set i (slc G.next 0 10 10)))) TB (iy 0 i 1) = _ from (by rw [eK]; exact cT)),?_⟩
  conv=>whnf
  refine ⟨rfl,⟨by omega,by omega⟩,?_⟩
  conv=>whnf
  refine ⟨rfl,_,(show storeAt ((G.lay (.row 3 true (times [int 0] 10))).set TB (.row 22 true ((idC f i).set i (slc G.next 0 10 10)))) G.next (iy 0 i 1) [int 1] = some (K.set G.next (.row 3 true ((times [int 0] 10).set i (int 1)))) from (by rw [eK]; exact iH aWK (by omega) rfl)),?_⟩
  conv=>whnf
  repeat (refine ak.go ?_; conv=>whnf)
  refine ⟨((i + 1:Nat):Int),wie (by omega) (by omega),?_⟩
  conv=>whnf
  refine Rnd.mk (i + 1,(fun j=>if j = i then G.next else f j),K.set G.next (.row 3 true ((times [int 0] 10).set i (int 1)))) ⟨by show i + 1≤10; omega,gK.dD _ (by have:=gG.next; omega),by rw [Hp.bU _ (by omega)]; exact aTK,fun j hj=>?_⟩ (by show 10 - (i + 1) < 10 - i; omega) ⟨rfl,rfl,rfl,rfl,trivial⟩ (Hp.Le.refl _) rfl
  dsimp only at hj ⊢
  by_cases h:j = i
  ·subst h
   rw [if_pos rfl]
   exact ⟨by omega,by rw [Hp.bH _ (Hp.aU aWK),Zv]⟩
  ·rw [if_neg h]
   have h2:=hf j (by omega)
   have h3:=Hp.aU h2.2
   exact ⟨h2.1,by rw [Hp.bU _ (by omega)]; exact hfK j (by omega)⟩
 rintro H3 φ3 _ ⟨rfl,g3,adv⟩
 have aX3:=g3.at_ _ _ aX
 have aY3:=g3.at_ _ _ aY
 have gh3:=gH.trans g3
 have hbo:=Jb oka okb hbb idT
 have adw:∃ w,vw ma mb idT = w:=⟨_,rfl⟩
 obtain ⟨w,ew⟩:=adw
 rw [ew] at hbo abb
 conv=>whnf
 refine ak.cut (α:=Nat×List Value×Hp) (fun q=>[(7,ptr q.1 0)]) (fun q H4=>q.2.2 = H4∧aC H3 H4∧H4.at q.1 = some (.row 26 true q.2.1)∧Bx H4 q.2.1 w.i) ?_ ?_
 ·conv=>whnf
  refine ⟨_,aM aX3 hbx.len,?_⟩
  conv=>whnf
  refine ⟨_,aM aY3 hby.len,?_⟩
  conv=>whnf
  refine aJ.mono (Ro _ _ _ ma mb idT _ (Bx.mv (hbx.ext gh3)) (Bx.mv (hby.ext gh3)) adv aa7 oka okb hbb acf oa ob hla hlb hlab) ?_
  rintro r H4 ⟨hw,g4⟩
  rw [ew] at hw
  have hk:=hw.known
  obtain ⟨p,q,rfl⟩:=hk
  conv=>whnf
  refine ⟨rfl,_,cK (vs:=[int w.i.base,.slice p w.i.out.length w.i.out.length,.slice q w.i.next.length w.i.next.length]) rfl rfl rfl,?_⟩
  conv=>whnf
  exact ⟨(H4.next,_,_),⟨rfl,trivial⟩,⟨rfl,g4.bL _,Hp.aA _ _,(hw.mv.ext (aC.lay _ _)).bx⟩,rfl⟩
 rintro ⟨N7,b7,H4⟩ φ4 _ ⟨rfl,g4,a7,hb7⟩
 dsimp only at g4 a7 hb7 ⊢
 have gh4:=gh3.trans g4
 obtain ⟨ao,an,co,cn,hcx⟩:=hb7.cx
 have k7:=hcx H4 N7 26 (.refl _) a7
 have c1:cellAt H4 N7 1 = some (.slice ao w.out.length co):=k7.c1
 conv=>whnf
 refine ak.cut (α:=Unit) (fun q=>[]) (fun q H7=>H4 = H7∧∀ x ∈ w.out,x≠0) ?_ ?_
 rotate_left
 ·rintro _ φ5 _ ⟨rfl,hall⟩
  conv=>whnf
  repeat (refine ak.go ?_; conv=>whnf)
  exact ⟨⟨true,rfl,pU (abb.1 hall)⟩,gh4⟩
 conv=>whnf
 repeat (refine ak.go ?_; conv=>whnf)
 refine bQ (α:=Nat) (fun q=>[(8,int q),(7,ptr N7 0)]) (fun q=>H4) (fun q=>q≤w.out.length∧∀ j,j < q→gl w.out j≠0) (fun q=>w.out.length - q) 0 ⟨Nat.zero_le _,fun j hj=>by omega⟩ ⟨rfl,rfl,trivial⟩ (Hp.Le.refl _) ?_
 rintro s φ5 ⟨hs,hall⟩
 conv=>whnf
 repeat (refine ak.go ?_; conv=>whnf)
 refine ⟨_,c1,?_⟩
 conv=>whnf
 refine dB (fun q1=>?_) (fun q1=>?_)
 rotate_left
 ·have:s = w.out.length:=by omega
  subst this
  conv=>whnf
  repeat (refine ak.go ?_; conv=>whnf)
  exact ⟨(),trivial,⟨rfl,fun x hx=>by
   obtain ⟨j,hj,rfl⟩:=List.getElem_of_mem hx
   have:=hall j hj
   rwa [nA hj] at this⟩,rfl⟩
 have hsn:s < w.out.length:=by omega
 have hoM:=k7.EY hsn
 obtain ⟨r5,o5,sp5,ea,E8,hc5⟩:=hoM
 subst ea
 have ego:w.o s = gl w.out s:=rfl
 conv=>whnf
 refine ak.go ?_
 conv=>whnf
 refine ak.go ?_
 conv=>whnf
 refine ⟨_,c1,?_⟩
 conv=>whnf
 refine ⟨E8,⟨by omega,by omega⟩,?_⟩
 conv=>whnf
 refine ⟨_,hc5,?_⟩
 conv=>whnf
 refine dB (fun q2=>?_) (fun q2=>?_)
 ·conv=>whnf
  repeat (refine ak.go ?_; conv=>whnf)
  exact ⟨⟨false,rfl,uT fun k=>abb.2 k (gl w.out s) (by rw [nA hsn]; exact List.getElem_mem hsn) (by rw [← ego]; exact q2)⟩,gh4⟩
 conv=>whnf
 repeat (refine ak.go ?_; conv=>whnf)
 refine ⟨((s + 1:Nat):Int),wie (by omega) (by omega),?_⟩
 conv=>whnf
 refine Rnd.mk (s + 1) ⟨by omega,fun j hj=>?_⟩ (by omega) ⟨rfl,rfl,trivial⟩ (Hp.Le.refl _) rfl
 by_cases h:j = s
 ·subst h
  rw [← ego]; exact q2
 ·exact hall j (by omega)
end
end Go.Proofs.Ytedneplaibmppaa
namespace Go.Proofs.Ytedneplaibmppaa
open Go.Rx Go.RowKit
theorem Zx:Try.prog.underlying 64 = some (.array 2 3):=Try.underlying64
theorem Yf {ts:List Tr} (hy:TyT Try.prog 64 ts):∃ a b:Int,Rx.InR a∧Rx.InR b∧∀ h v,oV h v (.ag ts)→v = .agg ⟨[int a,int b]⟩:=by
 obtain ⟨hl,hx⟩:=W9 Zx hy
 have hl:ts.length = 2:=hl.trans (by kernel_rfl)
 have f0:=hx 0 (by omega)
 have f1:=hx 1 (by omega)
 rw [cells3] at f0 f1
 match ts,hl with
 | [t0,t1],_ =>
 obtain ⟨a,e0,r0⟩:=Ig zq f0
 obtain ⟨b,e1,r1⟩:=Ig zq f1
 cases e0
 cases e1
 refine ⟨a,b,r0,r1,fun h v k=>?_⟩
 obtain ⟨vs,rfl,hvl,hk⟩:=Q8 k
 match vs,hvl with
 | [v0,v1],_ =>
  have k0:=hk 0 v0 _ rfl rfl
  have k1:=hk 1 v1 _ rfl rfl
  cases k0
  cases k1
  rfl
end Go.Proofs.Ytedneplaibmppaa
