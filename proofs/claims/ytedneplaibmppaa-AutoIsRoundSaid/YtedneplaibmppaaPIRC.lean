/- Contracts of the functions that PIRG comes to. -/
import Derived.Test.YtedneplaibmppaaPIRB
set_option maxRecDepth 100000
set_option maxHeartbeats 2000000
set_option linter.unusedVariables false
set_option linter.unusedSectionVars false
set_option linter.unusedSimpArgs false
namespace Go.Proofs.Ytedneplaibmppaa
open Go.Rx Go.RowKit
attribute [local irreducible] E iV cellAt bM storeAt callable dz dI dP findKey eD bT Hp.at Hp.set Hp.lay dO dw setAt aJ dA bO dG Rnd gD fK iN Int.tmod Int.tdiv Int.fdiv
section
variable [bE]
attribute [local irreducible] sameAt lH
theorem Md (b:Nat) (s0:Int×Int) (out:Int×Int→Int) (next:(Int×Int)→Nat→(Int×Int)) (U:List (Int×Int)) (go gn:FuncId) (Eb Ec:List Value) (h:Hp) (hb:1≤b∧b≤1000) (hU:yQ next b U) (hs0:s0 ∈ U) (hUl:U.length≤100000) (ho:UH go Eb dH out U h) (hn:Kg gn Ec dH next b U h):aJ E 97 [int b,dH s0,.func (.func go) ⟨[]⟩ ⟨Eb⟩,.func (.func gn) ⟨[]⟩ ⟨Ec⟩] h (fun r h'=>jD h h' r (built b s0 out next).i∧aC h h'):=by
 obtain ⟨i3,t3,-,z3⟩:=ty3
 obtain ⟨iM,tM,dM⟩:=abz
 have OE:∃ fo,Value.func (.func go) ⟨[]⟩ ⟨Eb⟩ = fo:=⟨_,rfl⟩
 obtain ⟨fo,efo⟩:=OE
 have OG:∃ fn,Value.func (.func gn) ⟨[]⟩ ⟨Ec⟩ = fn:=⟨_,rfl⟩
 obtain ⟨fn,efn⟩:=OG
 rw [efo,efn]
 refine enter97 (by simp) ?_
 conv=>whnf
 refine ak.cut (α:=Nat×Hp) (fun s=>[(8,ptr s.1 0),(5,ptr h.next 0),(0,int b),(2,fo),(3,fn)]) (fun s H=>s.2 = H∧aC h s.2∧s.2.at s.1 = some (.row 25 true [int 0,bg,bg])∧h.next≤s.1∧s.1 < s.2.next∧s.2.at h.next = some (.row 136 true [int s0.1,int s0.2])) ?_ ?_
 ·unfold dH
  conv=>whnf
  have n1:(h.lay (.row 136 true [int s0.1,int s0.2])).next = h.next + 1:=Hp.bG _ _
  exact ⟨(h.next + 1,_),⟨congrArg (fun k=>ptr k 0) n1,rfl,rfl,rfl,rfl,trivial⟩,⟨rfl,(aC.lay _ _).bL _,fM n1 (Hp.aA _ _),Nat.le_succ _,by dsimp only; rw [Hp.bG,n1]; omega,Hp.bC _ (Hp.aA _ _)⟩,rfl⟩
 rintro ⟨R,H⟩ φ1 _ ⟨rfl,gH,aR,hRh,hRn,aP⟩
 dsimp only at gH aR hRh hRn aP ⊢
 conv=>whnf
 refine ak.cut (α:=Hp) (fun _=>[(9,ptr H.next 0),(8,ptr R 0),(0,int b),(5,ptr h.next 0),(2,fo),(3,fn)]) (fun x H2=>x = H2∧MZ H H2 25 H.next bg bg [] [] [] [int b,bg,bg] []∧H2.at h.next = some (.row 136 true [int s0.1,int s0.2])) ?_ ?_
 ·conv=>whnf
  refine ⟨rfl,_,cK (vs:=[int b,bg,bg]) rfl rfl rfl,?_⟩
  conv=>whnf
  exact ⟨_,⟨rfl,rfl,rfl,rfl,rfl,rfl,trivial⟩,⟨rfl,MZ.start (.refl _),Hp.bC _ aP⟩,rfl⟩
 rintro H2 φ2 _ ⟨rfl,hz2,aP2⟩
 have wI:∃ Z,H.next = Z:=⟨_,rfl⟩
 obtain ⟨Z,eZ⟩:=wI
 rw [eZ] at hz2 ⊢
 conv=>whnf
 refine ak.cut (α:=Nat×Hp) (fun s=>[(10,bK s.1),(9,ptr Z 0),(8,ptr R 0),(0,int b),(5,ptr h.next 0),(2,fo),(3,fn)]) (fun s H3=>s.2 = H3∧MZ H s.2 25 Z bg bg [] [] [] [int b,bg,bg] [pl s.1]∧dN s.2 s.1 dH [s0]∧H.next≤s.1∧s.2.at h.next = some (.row 136 true [int s0.1,int s0.2])) ?_ ?_
 ·conv=>whnf
  refine ⟨_,aM (Hp.bC _ aP2) rfl,?_⟩
  conv=>whnf
  refine kR tM dM Iw (k:=s0) (v:=int 0) (n:=0) rfl rfl rfl (MapAt.new _) ?_
  intro H3 hM3 y3
  have gl3:aC H2 (H2.lay (.map [] 0)):=aC.lay _ _
  have gk3:aC H2 H3:=⟨by rw [y3.next]; exact gl3.next,fun r o e=>y3.at_ r o (by have:=Hp.aU e; omega) (gl3.at_ r o e)⟩
  have hz3:=(hz2.more gk3 (v:=pl H2.next) fun r e=>by cases e; exact ⟨Nat.le_refl _,by rw [y3.next,Hp.bG]; omega⟩)
  conv=>whnf
  exact ⟨(H2.next,H3),⟨rfl,rfl,rfl,rfl,rfl,rfl,rfl,trivial⟩,⟨rfl,hz3,hM3.congr fun k=>by
   unfold fN
   by_cases e:k = s0
   ·rw [if_pos e,if_pos (by rw [e]; simp),e]; simp
   ·rw [if_neg e,if_neg (by simpa using e)],hz2.gr.next,gk3.at_ _ _ aP2⟩,rfl⟩
 rintro ⟨M,H3⟩ φ3 _ ⟨rfl,hz3,hM3,qh,aP3⟩
 dsimp only at hz3 hM3 qh aP3 ⊢
 conv=>whnf
 refine ak.cut (α:=Value×Hp) (fun s=>[(11,s.1),(10,bK M),(9,ptr Z 0),(8,ptr R 0),(0,int b),(2,fo),(3,fn)]) (fun s H4=>s.2 = H4∧MZ H s.2 25 Z bg bg [] [] [] [int b,bg,bg] [pl M,s.1,bg]∧dN s.2 M dH [s0]∧bD H s.2 136 2 s.1 [s0].length (fl2 [s0])) ?_ ?_
 ·conv=>whnf
  refine ⟨_,aM aP3 rfl,?_⟩
  conv=>whnf
  have gl4:aC H3 (H3.lay (.row 136 true (fl2 [s0]))):=aC.lay _ _
  have hz4:=(hz3.more gl4 (v:=slc H3.next 0 1 1) fun r e=>by cases e; exact ⟨Nat.le_refl _,by rw [Hp.bG]; omega⟩).more (.refl _) (v:=bg) fun r e=>by cases e
  exact ⟨(slc H3.next 0 1 1,_),⟨rfl,rfl,rfl,rfl,rfl,rfl,rfl,trivial⟩,⟨rfl,hz4,hM3.ext gl4,⟨rfl,.inr ⟨H3.next,rfl,hz3.gr.next,true,Hp.aA _ _⟩⟩⟩,rfl⟩
 rintro ⟨st,H4⟩ φ4 _ ⟨rfl,hz4,hM4,OH⟩
 dsimp only at hz4 hM4 OH ⊢
 conv=>whnf
 refine ak.cut (α:=Value×Value×List Int×List Value×List (List Int)×Hp) (fun s=>[(9,ptr Z 0),(8,ptr R 0)]) (fun s H5=>s.2.2.2.2.2 = H5∧∃ rs,MZ H s.2.2.2.2.2 25 Z s.1 s.2.1 s.2.2.1 s.2.2.2.1 s.2.2.2.2.1 [int b,s.1,s.2.1] rs∧(built b s0 out next).i = ⟨b,s.2.2.1,s.2.2.2.2.1⟩) ?_ ?_
 rotate_left
 ·rintro ⟨ov,nv,O,us,N,H5⟩ φ5 _ ⟨rfl,rs,hz5,eb⟩
  dsimp only at hz5 eb ⊢
  have hov:=hz5.jE
  obtain ⟨ax,rfl⟩:=hov
  have hnv:=hz5.jh
  obtain ⟨ay,rfl⟩:=hnv
  have aR5:=hz5.gr.at_ _ _ aR
  conv=>whnf
  repeat (refine ak.go ?_; conv=>whnf)
  refine ⟨_,aM hz5.z rfl,?_⟩
  conv=>whnf
  refine ⟨rfl,_,bJ (vs:=[int b,.slice ax O.length O.length,.slice ay N.length N.length]) aR5 rfl rfl rfl,?_⟩
  conv=>whnf
  repeat (refine ak.go ?_; conv=>whnf)
  obtain ⟨i25,t25,lI,lJ⟩:=Io
  refine fq (r:=R) (o:=0) (cs:=[int b,.slice ax O.length O.length,.slice ay N.length N.length]) rfl t25 lI ?_ ?_
  ·rw [lJ]
   exact aM (Hp.bH _ (Hp.aU aR5)) rfl
  ·rw [eb]
   exact hz5.leave (h:=h) (R:=R) hRn hRh gH b (.row 25 true [int b,.slice ax O.length O.length,.slice ay N.length N.length])
 conv=>whnf
 refine ak.go ?_
 conv=>whnf
 refine bQ (α:=Nat×List (Int×Int)×Value×Value×Value×List Value×Hp) (fun s=>[(12,int s.1),(11,s.2.2.1),(10,bK M),(9,ptr Z 0),(8,ptr R 0),(0,int b),(2,fo),(3,fn)]) (fun s=>s.2.2.2.2.2.2) (fun s=>Bq next b s0 U s.2.1 s.1∧MZ H s.2.2.2.2.2.2 25 Z s.2.2.2.1 s.2.2.2.2.1 ((s.2.1.take s.1).map out) s.2.2.2.2.2.1 (rowsOf next b s.2.1 s.1) [int b,s.2.2.2.1,s.2.2.2.2.1] [pl M,s.2.2.1,bg]∧dN s.2.2.2.2.2.2 M dH s.2.1∧bD H s.2.2.2.2.2.2 136 2 s.2.2.1 s.2.1.length (fl2 s.2.1)) (fun s=>100000 - s.1) (0,[s0],st,bg,bg,[],H4) ⟨Bq.start hU hs0,hz4,hM4,OH⟩ ⟨rfl,rfl,rfl,rfl,rfl,rfl,rfl,rfl,trivial⟩ (Hp.Le.refl _) ?_
 rintro ⟨a,L,st,ov,nv,us,H5⟩ φ5 ⟨hq,hz5,hM5,yV⟩
 dsimp only at hq hz5 hM5 yV ⊢
 have QL:=hq.few
 have hsk:=yV.slice
 obtain ⟨as5,rfl,-⟩:=hsk
 have hql:=hq.le
 conv=>whnf
 repeat (refine ak.go ?_; conv=>whnf)
 refine dB (fun q1=>?_) (fun q1=>?_)
 rotate_left
 ·have hle:L.length≤a:=by omega
  have ea:a = L.length:=by omega
  have hbd:=hq.done hle
  subst ea
  rw [List.take_length] at hz5
  conv=>whnf
  exact ⟨(ov,nv,L.map out,us,rowsOf next b L L.length,H5),⟨rfl,rfl,trivial⟩,⟨rfl,_,hz5,Af hbd⟩,rfl⟩
 have haL:a < L.length:=by omega
 have tF:∃ s,L[a]? = some s:=⟨_,List.getElem?_eq_getElem haL⟩
 obtain ⟨s,hs⟩:=tF
 have hsU:=hq.sub s (List.mem_of_getElem? hs)
 have hOl:((L.take a).map out).length = a:=by rw [List.length_map,List.length_take]; omega
 have hNl:(rowsOf next b L a).length = a:=by unfold rowsOf; rw [List.length_map,List.length_take]; omega
 have hq2:=hq.next hU hs
 conv=>whnf
 refine ak.cut (α:=List (Int×Int)×Value×Value×Value×List Value×Hp) (fun s=>[(12,int a),(11,s.2.1),(10,bK M),(9,ptr Z 0),(8,ptr R 0),(0,int b),(2,fo),(3,fn)]) (fun s H6=>s.2.2.2.2.2 = H6∧Bq next b s0 U s.1 (a + 1)∧MZ H s.2.2.2.2.2 25 Z s.2.2.1 s.2.2.2.1 ((s.1.take (a + 1)).map out) s.2.2.2.2.1 (rowsOf next b s.1 (a + 1)) [int b,s.2.2.1,s.2.2.2.1] [pl M,s.2.1,bg]∧dN s.2.2.2.2.2 M dH s.1∧bD H s.2.2.2.2.2 136 2 s.2.1 s.1.length (fl2 s.1)) ?_ ?_
 rotate_left
 ·rintro ⟨L6,st6,ov6,nv6,us6,H6⟩ φ6 _ ⟨rfl,hq6,hz6,hM6,nE⟩
  dsimp only at hq6 hz6 hM6 nE ⊢
  conv=>whnf
  refine ⟨((a + 1:Nat):Int),wie (by omega) (by omega),?_⟩
  conv=>whnf
  exact Rnd.mk (a + 1,L6,st6,ov6,nv6,us6,H6) ⟨hq6,hz6,hM6,nE⟩ (by show 100000 - (a + 1) < 100000 - a; omega) ⟨rfl,rfl,rfl,rfl,rfl,rfl,rfl,rfl,trivial⟩ (Hp.Le.refl _) rfl
 have hsc:=Di yV hs
 obtain ⟨rst,IC,hsc⟩:=hsc
 cases IC
 have z1:cellAt H5 Z 1 = some ov:=aQ hz5.z rfl
 conv=>whnf
 refine ak.cut (α:=Value×Hp) (fun x=>[(12,int a),(11,slc rst 0 L.length L.length),(10,bK M),(9,ptr Z 0),(8,ptr R 0),(0,int b),(2,fo),(3,fn)]) (fun x H6=>x.2 = H6∧MZ H x.2 25 Z x.1 nv ((L.take (a + 1)).map out) us (rowsOf next b L a) [int b,x.1,nv] [pl M,slc rst 0 L.length L.length,bg]∧dN x.2 M dH L∧bD H x.2 136 2 (slc rst 0 L.length L.length) L.length (fl2 L)) ?_ ?_
 ·have hov:=hz5.jE
  obtain ⟨ax,eov⟩:=hov
  rw [hOl] at eov
  subst eov
  conv=>whnf
  refine ⟨_,z1,?_⟩
  conv=>whnf
  refine ⟨rfl,⟨by omega,by omega⟩,?_⟩
  conv=>whnf
  refine ⟨_,hsc,?_⟩
  rw [← efo]
  conv=>whnf
  refine ⟨ho.1,?_⟩
  refine aJ.mono (ho.2 s hsU H5 (gH.trans hz5.gr)) ?_
  rintro _ H6 ⟨rfl,g6⟩
  have hz6:=hz5.ext g6
  have f1:=g6.cell z1
  have f2:cellAt (H6.lay (.row 3 true [int (out s)])) Z 1 = some (.slice ax a a):=(aC.lay _ _).cell f1
  conv=>whnf
  refine hz6.Da (by omega) ?_
  intro ov7 H7 Bt hz7 kv7
  obtain ⟨a7,n7,rfl⟩:=Bt
  have f3:cellAt H7 Z 1 = some (.slice ax a a):=aQ hz7.z rfl
  conv=>whnf
  refine ⟨rfl,_,dK hz7.z (by simp) rfl,?_⟩
  conv=>whnf
  refine ⟨?_,?_⟩
  ·repeat' (first | exact True.intro | (refine And.intro ?_ ?_ <;> (conv=>whnf)))
   all_goals first
    | exact aj (h2:=_) rfl (aI _)
    | exact aj (h2:=_) rfl (dh _ _)
    | exact aj (h2:=_) rfl (aD _ _ _)
    | exact aj (h2:=_) rfl (iP _ _)
    | exact aj (h2:=_) (congrArg (hval _) z1) (aI _)
    | exact aj (h2:=_) (congrArg (hval _) z1) (aD _ _ _)
    | exact aj (h2:=_) (congrArg (hval _) f1) (aI _)
    | exact aj (h2:=_) (congrArg (hval _) f1) (aD _ _ _)
    | exact aj (h2:=_) (congrArg (hval _) f2) (aI _)
    | exact aj (h2:=_) (congrArg (hval _) f2) (aD _ _ _)
    | exact aj (h2:=_) (congrArg (hval _) f3) (aI _)
    | exact aj (h2:=_) (congrArg (hval _) f3) (aD _ _ _)
    | exact ⟨_,rfl,Hp.aA _ _,rfl⟩
  have hz8:=hz7.put [int b,.slice a7 n7 n7,nv]
  have eO:(L.take a).map out ++ [out s] = (L.take (a + 1)).map out:=by rw [fZ hs,List.map_append]; rfl
  have tH:=hz8.1
  rw [eO] at tH
  exact ⟨(_,_),⟨rfl,rfl,rfl,rfl,rfl,rfl,rfl,rfl,trivial⟩,⟨rfl,tH,hz8.2.map (by simp) (kv7.map (by simp) (hM5.ext g6)),hz8.2.bW mem1 (kv7.bW mem1 (yV.ext g6))⟩,rfl⟩
 rintro ⟨ov,H6⟩ φ6 _ ⟨rfl,hz6,hM6,nE⟩
 dsimp only at hz6 hM6 nE ⊢
 clear hz5 hM5 yV z1
 conv=>whnf
 refine ak.cut (α:=Hp) (fun _=>[(13,slc H6.next 0 b b),(12,int a),(11,slc rst 0 L.length L.length),(10,bK M),(9,ptr Z 0),(8,ptr R 0),(0,int b),(2,fo),(3,fn)]) (fun x H7=>x = H7∧MZ H x 25 Z ov nv ((L.take (a + 1)).map out) us (rowsOf next b L a) [int b,ov,nv] [pl M,slc rst 0 L.length L.length,slc H6.next 0 b b]∧dN x M dH L∧bD H x 136 2 (slc rst 0 L.length L.length) L.length (fl2 L)∧x.at H6.next = some (.row 3 true (dW next b L s 0))) ?_ ?_
 ·conv=>whnf
  refine ⟨⟨by omega,by omega,by omega,by omega⟩,?_⟩
  conv=>whnf
  have gl7:aC H6 (H6.lay (.row 3 true (times [int 0] (b:Int).toNat))):=aC.lay _ _
  refine ⟨_,⟨rfl,rfl,rfl,rfl,rfl,rfl,rfl,rfl,rfl,trivial⟩,⟨rfl,hz6.add gl7 (i:=2) rfl fun r e=>by cases e; exact ⟨Nat.le_refl _,by rw [Hp.bG]; omega⟩,hM6.ext gl7,nE.ext gl7,?_⟩,rfl⟩
  rw [wM]
  exact Hp.aA _ _
 rintro H7 φ7 _ ⟨rfl,hz7,hM7,OI,aW7⟩
 have hnW:=hz6.gr.next
 have Xw:∃ W,H6.next = W:=⟨_,rfl⟩
 obtain ⟨W,eW⟩:=Xw
 rw [eW] at hz7 aW7 hnW ⊢
 conv=>whnf
 refine ak.cut (α:=Value×Hp) (fun x=>[(13,slc W 0 b b),(12,int a),(11,x.1),(10,bK M),(9,ptr Z 0),(8,ptr R 0),(0,int b),(2,fo),(3,fn)]) (fun x H8=>x.2 = H8∧MZ H x.2 25 Z ov nv ((L.take (a + 1)).map out) us (rowsOf next b L a) [int b,ov,nv] [pl M,x.1,slc W 0 b b]∧dN x.2 M dH (notes L (outs next b s))∧bD H x.2 136 2 x.1 (notes L (outs next b s)).length (fl2 (notes L (outs next b s)))∧x.2.at W = some (.row 3 true (dW next b (notes L (outs next b s)) s b))) ?_ ?_
 rotate_left
 ·rintro ⟨st8,H8⟩ φ8 _ ⟨rfl,hz8,hM8,j5,aW8⟩
  dsimp only at hz8 hM8 j5 aW8 ⊢
  have hpre:=fH (outs next b s) L
  obtain ⟨r8,e8⟩:=hpre
  have rz:∃ L',notes L (outs next b s) = L':=⟨_,rfl⟩
  obtain ⟨L',eL'⟩:=rz
  rw [eL'] at hM8 j5 aW8 hq2 e8
  have hrows:=mH hq.met hq.le e8
  have uX:L'[a]? = some s:=by rw [e8,List.getElem?_append_left haL]; exact hs
  have htk:L'.take (a + 1) = L.take (a + 1):=by rw [e8,List.take_append_of_le_length (by omega)]
  have hbu:Built H H8 3 (slc W 0 b b) (rowOf next b L' s):=by
   refine .inr ⟨W,?_,by omega,true,?_⟩
   ·rw [show (rowOf next b L' s).length = b from by unfold rowOf; rw [List.length_map,List.length_range]]
   ·rw [aW8,wL]
  have hnv:=hz8.jh
  obtain ⟨ay,eny⟩:=hnv
  rw [hNl] at eny
  subst eny
  have hs8:=j5.slice
  obtain ⟨as8,rfl,-⟩:=hs8
  have z2:cellAt H8 Z 2 = some (.slice ay a a):=aQ hz8.z rfl
  conv=>whnf
  refine ⟨_,z2,?_⟩
  conv=>whnf
  refine hz8.Az (i:=2) (by omega) rfl hbu ?_
  intro nv9 H9 Ed hz9 kv9
  obtain ⟨a9,n9,rfl⟩:=Ed
  have jM:=hz9.put [int b,ov,.slice a9 n9 n9]
  conv=>whnf
  refine ⟨rfl,_,dK hz9.z (by simp) rfl,?_⟩
  conv=>whnf
  have eN:rowsOf next b L a ++ [rowOf next b L' s] = rowsOf next b L' (a + 1):=by
   rw [← hrows]
   unfold rowsOf
   rw [fZ uX,List.map_append]; rfl
  have EK:=jM.1
  rw [eN,← htk] at EK
  exact ⟨(L',_,ov,_,_,_),⟨rfl,rfl,rfl,rfl,rfl,rfl,rfl,rfl,trivial⟩,⟨rfl,hq2,EK,jM.2.map (by simp) (kv9.map (by simp) hM8),jM.2.bW mem1 (kv9.bW mem1 j5)⟩,rfl⟩
 conv=>whnf
 refine ak.go ?_
 conv=>whnf
 refine bQ (α:=Nat×Value×Hp) (fun x=>[(46,int x.1),(45,int b),(13,slc W 0 b b),(12,int a),(11,x.2.1),(10,bK M),(9,ptr Z 0),(8,ptr R 0),(0,int b),(2,fo),(3,fn)]) (fun x=>x.2.2) (fun x=>x.1≤b∧MZ H x.2.2 25 Z ov nv ((L.take (a + 1)).map out) us (rowsOf next b L a) [int b,ov,nv] [pl M,x.2.1,slc W 0 b b]∧dN x.2.2 M dH (notes L (bR next s x.1))∧bD H x.2.2 136 2 x.2.1 (notes L (bR next s x.1)).length (fl2 (notes L (bR next s x.1)))∧x.2.2.at W = some (.row 3 true (dW next b (notes L (bR next s x.1)) s x.1))) (fun x=>b - x.1) (0,slc rst 0 L.length L.length,H7) ⟨Nat.zero_le _,hz7,hM7,OI,aW7⟩ ⟨rfl,rfl,rfl,rfl,rfl,rfl,rfl,rfl,rfl,rfl,rfl,trivial⟩ (Hp.Le.refl _) ?_
 rintro ⟨d,st8,H8⟩ φ8 ⟨hd,hz8,hM8,j5,aW8⟩
 dsimp only at hd hz8 hM8 j5 aW8 ⊢
 clear hz7 hM7 OI aW7
 conv=>whnf
 repeat (refine ak.go ?_; conv=>whnf)
 refine dB (fun q2=>?_) (fun q2=>?_)
 rotate_left
 ·have:d = b:=by omega
  subst this
  conv=>whnf
  exact ⟨(st8,H8),⟨rfl,rfl,rfl,rfl,rfl,rfl,rfl,rfl,rfl,trivial⟩,⟨rfl,hz8,hM8,j5,aW8⟩,rfl⟩
 have hdb:d < b:=by omega
 have hpre:=fH (bR next s d) L
 obtain ⟨r8,e8⟩:=hpre
 have yX:=gN hU hq hsU hd
 have jF:=gN hU hq hsU (d:=d + 1) (by omega)
 have yY:∀ j,j < d→next s j ∈ notes L (bR next s d):=fun j hj=>fI (qy hj)
 rw [jl,iE] at jF
 have hsucc:notes L (bR next s (d + 1)) = note (notes L (bR next s d)) (next s d):=by rw [jl,iE]
 have rz:∃ L',notes L (bR next s d) = L':=⟨_,rfl⟩
 obtain ⟨L',eL'⟩:=rz
 rw [eL'] at hM8 j5 aW8 e8 yX jF yY hsucc
 have uX:L'[a]? = some s:=by rw [e8,List.getElem?_append_left haL]; exact hs
 have Xx:=j5.slice
 obtain ⟨as8,rfl,-⟩:=Xx
 have IE:=Di j5 uX
 obtain ⟨rs8,Xy,IE⟩:=IE
 cases Xy
 have abE:a < L'.length:=by rw [e8,List.length_append]; omega
 conv=>whnf
 refine ak.go ?_
 conv=>whnf
 refine ak.cut (α:=Value×Hp) (fun x=>[(46,int d),(45,int b),(13,slc W 0 b b),(12,int a),(11,x.1),(10,bK M),(9,ptr Z 0),(8,ptr R 0),(0,int b),(2,fo),(3,fn)]) (fun x H9=>x.2 = H9∧MZ H x.2 25 Z ov nv ((L.take (a + 1)).map out) us (rowsOf next b L a) [int b,ov,nv] [pl M,x.1,slc W 0 b b]∧dN x.2 M dH (note L' (next s d))∧bD H x.2 136 2 x.1 (note L' (next s d)).length (fl2 (note L' (next s d)))∧x.2.at W = some (.row 3 true (dW next b (note L' (next s d)) s (d + 1)))) ?_ ?_
 rotate_left
 ·rintro ⟨st9,H9⟩ φ9 _ ⟨rfl,hz9,hM9,uY,aW9⟩
  dsimp only at hz9 hM9 uY aW9 ⊢
  rw [← hsucc] at hM9 uY aW9
  conv=>whnf
  refine ⟨((d + 1:Nat):Int),wie (by omega) (by omega),?_⟩
  conv=>whnf
  exact Rnd.mk (d + 1,st9,H9) ⟨by show d + 1≤b; omega,hz9,hM9,uY,aW9⟩ (by show b - (d + 1) < b - d; omega) ⟨rfl,rfl,rfl,rfl,rfl,rfl,rfl,rfl,rfl,rfl,rfl,trivial⟩ (Hp.Le.refl _) rfl
 have hext:∃ t,next s d = t:=⟨_,rfl⟩
 obtain ⟨t,et⟩:=hext
 have hn2:=hn.2 s hsU d hdb H8 (gH.trans hz8.gr)
 rw [et] at jF hn2 ⊢
 conv=>whnf
 refine ak.go ?_
 conv=>whnf
 refine ak.cut (α:=Nat×Hp) (fun x=>[(15,ptr x.1 0),(14,int d),(46,int d),(45,int b),(13,slc W 0 b b),(12,int a),(11,slc rs8 0 L'.length L'.length),(10,bK M),(9,ptr Z 0),(8,ptr R 0),(0,int b),(2,fo),(3,fn)]) (fun x H9=>x.2 = H9∧aC H8 x.2∧x.2.at x.1 = some (.row 136 true [int t.1,int t.2])∧H8.next≤x.1) ?_ ?_
 ·conv=>whnf
  refine ⟨rfl,⟨by omega,by omega⟩,?_⟩
  conv=>whnf
  refine ⟨_,IE,?_⟩
  rw [← efn]
  conv=>whnf
  refine ⟨hn.1,?_⟩
  refine aJ.mono hn2 ?_
  rintro _ H9 ⟨rfl,g9⟩
  unfold dH
  conv=>whnf
  refine ⟨rfl,_,cK (vs:=[int t.1,int t.2]) rfl rfl rfl,?_⟩
  conv=>whnf
  exact ⟨(H9.next,_),⟨rfl,rfl,rfl,rfl,rfl,rfl,rfl,rfl,rfl,rfl,rfl,rfl,rfl,trivial⟩,⟨rfl,g9.bL _,Hp.aA _ _,g9.next⟩,rfl⟩
 rintro ⟨x15,H9⟩ φ9 _ ⟨rfl,g9,aK,IG⟩
 dsimp only at g9 aK IG ⊢
 have Xz:ad (slc rs8 0 L'.length L'.length)≠some x15:=fun e=>by
  have h1:=(j5.jf rs8 rfl).2
  cases e
  omega
 have hz9:=hz8.ext g9
 have hM9:=hM8.ext g9
 have uY:=j5.ext g9
 have aW9:=g9.at_ _ _ aW8
 have hgW:=hz8.gr.next
 conv=>whnf
 refine ak.cut (α:=Value×Hp) (fun x=>[(15,ptr x15 0),(14,int d),(46,int d),(45,int b),(13,slc W 0 b b),(12,int a),(11,x.1),(10,bK M),(9,ptr Z 0),(8,ptr R 0),(0,int b),(2,fo),(3,fn)]) (fun x H10=>x.2 = H10∧MZ H x.2 25 Z ov nv ((L.take (a + 1)).map out) us (rowsOf next b L a) [int b,ov,nv] [pl M,x.1,slc W 0 b b]∧dN x.2 M dH (note L' t)∧bD H x.2 136 2 x.1 (note L' t).length (fl2 (note L' t))∧x.2.at W = some (.row 3 true (dW next b L' s d))∧x.2.at x15 = some (.row 136 true [int t.1,int t.2])) ?_ ?_
 rotate_left
 ·rintro ⟨aaK,H10⟩ E5 _ ⟨rfl,jM,mI,jV,yZ,wN⟩
  dsimp only at jM mI jV yZ wN ⊢
  have XA:t ∈ note L' t:=oZ L' t
  have y8:=pq L' t
  obtain ⟨r10,e10⟩:=y8
  have hstep:=wK (b:=b) (L':=note L' t) yY e10
  rw [et] at hstep
  have OJ:=jV.slice
  obtain ⟨abF,rfl,-⟩:=OJ
  conv=>whnf
  refine ⟨_,aM wN rfl,?_⟩
  conv=>whnf
  refine gu tM dM t3 z3 Iw (k:=t) rfl rfl mI (lD XA) ?_
  conv=>whnf
  refine ⟨rfl,⟨by omega,by omega⟩,?_⟩
  conv=>whnf
  refine ⟨rfl,_,iH yZ (by unfold dW; rw [je]; omega) rfl,?_⟩
  conv=>whnf
  have hx:Kx (ad (slc W 0 b b)) H10 (H10.set W (.row 3 true (dW next b (note L' t) s (d + 1)))):=Kx.set _ _ _
  have htz:=jM.touch (i:=2) rfl hx (jM.gr.dD _ (by omega)) (by rw [Hp.GV]; exact Nat.le_refl _)
  rw [← hstep] at htz
  refine ⟨(_,H10.set W (.row 3 true ((dW next b L' s d).set d (int (kS (note L' t) t:Nat))))),⟨rfl,rfl,rfl,rfl,rfl,rfl,rfl,rfl,rfl,rfl,rfl,trivial⟩,⟨rfl,htz.1,htz.2.map (by simp) mI,htz.2.bW mem1 jV,?_⟩,rfl⟩
  show (H10.set W _).at W = _
  rw [Hp.bH _ (Hp.aU yZ),hstep]
 by_cases hin:t ∈ L'
 ·have iQ:note L' t = L':=by unfold note; rw [if_pos hin]
  rw [iQ]
  conv=>whnf
  refine ak.go ?_
  conv=>whnf
  refine ⟨_,aM aK rfl,?_⟩
  conv=>whnf
  refine gY tM dM t3 z3 Iw (k:=t) rfl rfl hM9 (lD hin) ?_
  conv=>whnf
  repeat (refine ak.go ?_; conv=>whnf)
  exact ⟨(_,H9),⟨rfl,rfl,rfl,rfl,rfl,rfl,rfl,rfl,rfl,rfl,rfl,rfl,rfl,trivial⟩,⟨rfl,hz9,hM9,uY,aW9,aK⟩,rfl⟩
 ·have iQ:note L' t = L' ++ [t]:=by unfold note; rw [if_neg hin]
  have hnl:(L' ++ [t]).length = L'.length + 1:=by rw [List.length_append]; rfl
  rw [iQ] at jF ⊢
  conv=>whnf
  refine ak.go ?_
  conv=>whnf
  refine ⟨_,aM aK rfl,?_⟩
  conv=>whnf
  refine gZ tM dM t3 z3 Iw (k:=t) rfl rfl hM9 (qg hin) ?_
  conv=>whnf
  repeat (refine ak.go ?_; conv=>whnf)
  refine ⟨_,aM aK rfl,?_⟩
  conv=>whnf
  refine iD tM dM Iw (k:=t) (v:=int L'.length) rfl rfl rfl hM9 ?_
  intro H10 mI y10
  have htz:=hz9.touch (i:=0) (v:=pl M) rfl (Kx.keeps y10) (y10.grows hz9.gr qh) (by rw [y10.next]; exact Nat.le_refl _)
  have za:=dN.add hin mI
  have jV:=htz.2.bW (v:=slc rs8 0 L'.length L'.length) mem1 uY
  have hMW:M≠W:=fun e=>by
   have:=hz9.sep.ap 3 5 (pl M) (slc W 0 b b) (by decide) rfl rfl M rfl
   exact this (by rw [e]; rfl)
  have yZ:=y10.at_ _ _ (fun e=>hMW e.symm) aW9
  have hzz:=htz.1
  have wN:H10.at x15 = some (.row 136 true [int t.1,int t.2]):=y10.at_ _ _ (fun e=>by
   obtain ⟨_,_,h1,_⟩:=hM8
   have h2:=Hp.aU h1
   have h3:=IG
   omega) aK
  conv=>whnf
  refine ⟨_,aM wN rfl,?_⟩
  conv=>whnf
  refine hzz.Ke (i:=1) (n:=L'.length) (cl:=fl2 L') (new:=[int t.1,int t.2]) rfl jV rfl rfl (by omega) (by omega) ?_
  intro XB H11 rA ze rC zf QM
  obtain ⟨a11,n11,rfl⟩:=rA
  have II:=zf.map (M:=M) (by simp) za
  have XC:=zf.at_ (v:=slc W 0 b b) mem2 rfl yZ
  conv=>whnf
  exact ⟨(_,H11),⟨rfl,rfl,rfl,rfl,rfl,rfl,rfl,rfl,rfl,rfl,rfl,rfl,rfl,trivial⟩,⟨rfl,rC,II,by rw [Ae,hnl]; exact ze,XC,QM.at_ wN Xz⟩,rfl⟩
end
end Go.Proofs.Ytedneplaibmppaa
namespace Go.Proofs.Ytedneplaibmppaa
open Go.Rx Go.RowKit
attribute [local irreducible] E iV cellAt bM storeAt callable dz dI dP findKey eD bT Hp.at Hp.set Hp.lay dO dw setAt aJ dA bO dG Rnd gD fK iN Int.tmod Int.tdiv Int.fdiv
section
variable [bE]
attribute [local irreducible] sameAt lH
theorem Ju (b:Nat) (s0:Int×Int) (out:Int×Int→Int) (next:(Int×Int)→Nat→(Int×Int)) (U:List (Int×Int)) (go gn:FuncId) (Eb Ec:List Value) (h:Hp) (hb:1≤b∧b≤1000) (hU:yQ next b U) (hs0:s0 ∈ U) (hUl:U.length≤100000) (ho:UH go Eb dH out U h) (hn:Kg gn Ec dH next b U h):aJ E 103 [int b,dH s0,.func (.func go) ⟨[]⟩ ⟨Eb⟩,.func (.func gn) ⟨[]⟩ ⟨Ec⟩] h (fun r h'=>jD h h' r (built b s0 out next).i∧aC h h'):=by
 obtain ⟨i3,t3,-,z3⟩:=ty3
 obtain ⟨iM,tM,dM⟩:=abA
 have OE:∃ fo,Value.func (.func go) ⟨[]⟩ ⟨Eb⟩ = fo:=⟨_,rfl⟩
 obtain ⟨fo,efo⟩:=OE
 have OG:∃ fn,Value.func (.func gn) ⟨[]⟩ ⟨Ec⟩ = fn:=⟨_,rfl⟩
 obtain ⟨fn,efn⟩:=OG
 rw [efo,efn]
 refine enter103 (by simp) ?_
 conv=>whnf
 refine ak.cut (α:=Nat×Hp) (fun s=>[(8,ptr s.1 0),(5,ptr h.next 0),(0,int b),(2,fo),(3,fn)]) (fun s H=>s.2 = H∧aC h s.2∧s.2.at s.1 = some (.row 25 true [int 0,bg,bg])∧h.next≤s.1∧s.1 < s.2.next∧s.2.at h.next = some (.row 147 true [int s0.1,int s0.2])) ?_ ?_
 ·unfold dH
  conv=>whnf
  have n1:(h.lay (.row 147 true [int s0.1,int s0.2])).next = h.next + 1:=Hp.bG _ _
  exact ⟨(h.next + 1,_),⟨congrArg (fun k=>ptr k 0) n1,rfl,rfl,rfl,rfl,trivial⟩,⟨rfl,(aC.lay _ _).bL _,fM n1 (Hp.aA _ _),Nat.le_succ _,by dsimp only; rw [Hp.bG,n1]; omega,Hp.bC _ (Hp.aA _ _)⟩,rfl⟩
 rintro ⟨R,H⟩ φ1 _ ⟨rfl,gH,aR,hRh,hRn,aP⟩
 dsimp only at gH aR hRh hRn aP ⊢
 conv=>whnf
 refine ak.cut (α:=Hp) (fun _=>[(9,ptr H.next 0),(8,ptr R 0),(0,int b),(5,ptr h.next 0),(2,fo),(3,fn)]) (fun x H2=>x = H2∧MZ H H2 25 H.next bg bg [] [] [] [int b,bg,bg] []∧H2.at h.next = some (.row 147 true [int s0.1,int s0.2])) ?_ ?_
 ·conv=>whnf
  refine ⟨rfl,_,cK (vs:=[int b,bg,bg]) rfl rfl rfl,?_⟩
  conv=>whnf
  exact ⟨_,⟨rfl,rfl,rfl,rfl,rfl,rfl,trivial⟩,⟨rfl,MZ.start (.refl _),Hp.bC _ aP⟩,rfl⟩
 rintro H2 φ2 _ ⟨rfl,hz2,aP2⟩
 have wI:∃ Z,H.next = Z:=⟨_,rfl⟩
 obtain ⟨Z,eZ⟩:=wI
 rw [eZ] at hz2 ⊢
 conv=>whnf
 refine ak.cut (α:=Nat×Hp) (fun s=>[(10,bK s.1),(9,ptr Z 0),(8,ptr R 0),(0,int b),(5,ptr h.next 0),(2,fo),(3,fn)]) (fun s H3=>s.2 = H3∧MZ H s.2 25 Z bg bg [] [] [] [int b,bg,bg] [pl s.1]∧dN s.2 s.1 dH [s0]∧H.next≤s.1∧s.2.at h.next = some (.row 147 true [int s0.1,int s0.2])) ?_ ?_
 ·conv=>whnf
  refine ⟨_,aM (Hp.bC _ aP2) rfl,?_⟩
  conv=>whnf
  refine kR tM dM Iy (k:=s0) (v:=int 0) (n:=0) rfl rfl rfl (MapAt.new _) ?_
  intro H3 hM3 y3
  have gl3:aC H2 (H2.lay (.map [] 0)):=aC.lay _ _
  have gk3:aC H2 H3:=⟨by rw [y3.next]; exact gl3.next,fun r o e=>y3.at_ r o (by have:=Hp.aU e; omega) (gl3.at_ r o e)⟩
  have hz3:=(hz2.more gk3 (v:=pl H2.next) fun r e=>by cases e; exact ⟨Nat.le_refl _,by rw [y3.next,Hp.bG]; omega⟩)
  conv=>whnf
  exact ⟨(H2.next,H3),⟨rfl,rfl,rfl,rfl,rfl,rfl,rfl,trivial⟩,⟨rfl,hz3,hM3.congr fun k=>by
   unfold fN
   by_cases e:k = s0
   ·rw [if_pos e,if_pos (by rw [e]; simp),e]; simp
   ·rw [if_neg e,if_neg (by simpa using e)],hz2.gr.next,gk3.at_ _ _ aP2⟩,rfl⟩
 rintro ⟨M,H3⟩ φ3 _ ⟨rfl,hz3,hM3,qh,aP3⟩
 dsimp only at hz3 hM3 qh aP3 ⊢
 conv=>whnf
 refine ak.cut (α:=Value×Hp) (fun s=>[(11,s.1),(10,bK M),(9,ptr Z 0),(8,ptr R 0),(0,int b),(2,fo),(3,fn)]) (fun s H4=>s.2 = H4∧MZ H s.2 25 Z bg bg [] [] [] [int b,bg,bg] [pl M,s.1,bg]∧dN s.2 M dH [s0]∧bD H s.2 147 2 s.1 [s0].length (fl2 [s0])) ?_ ?_
 ·conv=>whnf
  refine ⟨_,aM aP3 rfl,?_⟩
  conv=>whnf
  have gl4:aC H3 (H3.lay (.row 147 true (fl2 [s0]))):=aC.lay _ _
  have hz4:=(hz3.more gl4 (v:=slc H3.next 0 1 1) fun r e=>by cases e; exact ⟨Nat.le_refl _,by rw [Hp.bG]; omega⟩).more (.refl _) (v:=bg) fun r e=>by cases e
  exact ⟨(slc H3.next 0 1 1,_),⟨rfl,rfl,rfl,rfl,rfl,rfl,rfl,trivial⟩,⟨rfl,hz4,hM3.ext gl4,⟨rfl,.inr ⟨H3.next,rfl,hz3.gr.next,true,Hp.aA _ _⟩⟩⟩,rfl⟩
 rintro ⟨st,H4⟩ φ4 _ ⟨rfl,hz4,hM4,OH⟩
 dsimp only at hz4 hM4 OH ⊢
 conv=>whnf
 refine ak.cut (α:=Value×Value×List Int×List Value×List (List Int)×Hp) (fun s=>[(9,ptr Z 0),(8,ptr R 0)]) (fun s H5=>s.2.2.2.2.2 = H5∧∃ rs,MZ H s.2.2.2.2.2 25 Z s.1 s.2.1 s.2.2.1 s.2.2.2.1 s.2.2.2.2.1 [int b,s.1,s.2.1] rs∧(built b s0 out next).i = ⟨b,s.2.2.1,s.2.2.2.2.1⟩) ?_ ?_
 rotate_left
 ·rintro ⟨ov,nv,O,us,N,H5⟩ φ5 _ ⟨rfl,rs,hz5,eb⟩
  dsimp only at hz5 eb ⊢
  have hov:=hz5.jE
  obtain ⟨ax,rfl⟩:=hov
  have hnv:=hz5.jh
  obtain ⟨ay,rfl⟩:=hnv
  have aR5:=hz5.gr.at_ _ _ aR
  conv=>whnf
  repeat (refine ak.go ?_; conv=>whnf)
  refine ⟨_,aM hz5.z rfl,?_⟩
  conv=>whnf
  refine ⟨rfl,_,bJ (vs:=[int b,.slice ax O.length O.length,.slice ay N.length N.length]) aR5 rfl rfl rfl,?_⟩
  conv=>whnf
  repeat (refine ak.go ?_; conv=>whnf)
  obtain ⟨i25,t25,lI,lJ⟩:=Io
  refine fq (r:=R) (o:=0) (cs:=[int b,.slice ax O.length O.length,.slice ay N.length N.length]) rfl t25 lI ?_ ?_
  ·rw [lJ]
   exact aM (Hp.bH _ (Hp.aU aR5)) rfl
  ·rw [eb]
   exact hz5.leave (h:=h) (R:=R) hRn hRh gH b (.row 25 true [int b,.slice ax O.length O.length,.slice ay N.length N.length])
 conv=>whnf
 refine ak.go ?_
 conv=>whnf
 refine bQ (α:=Nat×List (Int×Int)×Value×Value×Value×List Value×Hp) (fun s=>[(12,int s.1),(11,s.2.2.1),(10,bK M),(9,ptr Z 0),(8,ptr R 0),(0,int b),(2,fo),(3,fn)]) (fun s=>s.2.2.2.2.2.2) (fun s=>Bq next b s0 U s.2.1 s.1∧MZ H s.2.2.2.2.2.2 25 Z s.2.2.2.1 s.2.2.2.2.1 ((s.2.1.take s.1).map out) s.2.2.2.2.2.1 (rowsOf next b s.2.1 s.1) [int b,s.2.2.2.1,s.2.2.2.2.1] [pl M,s.2.2.1,bg]∧dN s.2.2.2.2.2.2 M dH s.2.1∧bD H s.2.2.2.2.2.2 147 2 s.2.2.1 s.2.1.length (fl2 s.2.1)) (fun s=>100000 - s.1) (0,[s0],st,bg,bg,[],H4) ⟨Bq.start hU hs0,hz4,hM4,OH⟩ ⟨rfl,rfl,rfl,rfl,rfl,rfl,rfl,rfl,trivial⟩ (Hp.Le.refl _) ?_
 rintro ⟨a,L,st,ov,nv,us,H5⟩ φ5 ⟨hq,hz5,hM5,yV⟩
 dsimp only at hq hz5 hM5 yV ⊢
 have QL:=hq.few
 have hsk:=yV.slice
 obtain ⟨as5,rfl,-⟩:=hsk
 have hql:=hq.le
 conv=>whnf
 repeat (refine ak.go ?_; conv=>whnf)
 refine dB (fun q1=>?_) (fun q1=>?_)
 rotate_left
 ·have hle:L.length≤a:=by omega
  have ea:a = L.length:=by omega
  have hbd:=hq.done hle
  subst ea
  rw [List.take_length] at hz5
  conv=>whnf
  exact ⟨(ov,nv,L.map out,us,rowsOf next b L L.length,H5),⟨rfl,rfl,trivial⟩,⟨rfl,_,hz5,Af hbd⟩,rfl⟩
 have haL:a < L.length:=by omega
 have tF:∃ s,L[a]? = some s:=⟨_,List.getElem?_eq_getElem haL⟩
 obtain ⟨s,hs⟩:=tF
 have hsU:=hq.sub s (List.mem_of_getElem? hs)
 have hOl:((L.take a).map out).length = a:=by rw [List.length_map,List.length_take]; omega
 have hNl:(rowsOf next b L a).length = a:=by unfold rowsOf; rw [List.length_map,List.length_take]; omega
 have hq2:=hq.next hU hs
 conv=>whnf
 refine ak.cut (α:=List (Int×Int)×Value×Value×Value×List Value×Hp) (fun s=>[(12,int a),(11,s.2.1),(10,bK M),(9,ptr Z 0),(8,ptr R 0),(0,int b),(2,fo),(3,fn)]) (fun s H6=>s.2.2.2.2.2 = H6∧Bq next b s0 U s.1 (a + 1)∧MZ H s.2.2.2.2.2 25 Z s.2.2.1 s.2.2.2.1 ((s.1.take (a + 1)).map out) s.2.2.2.2.1 (rowsOf next b s.1 (a + 1)) [int b,s.2.2.1,s.2.2.2.1] [pl M,s.2.1,bg]∧dN s.2.2.2.2.2 M dH s.1∧bD H s.2.2.2.2.2 147 2 s.2.1 s.1.length (fl2 s.1)) ?_ ?_
 rotate_left
 ·rintro ⟨L6,st6,ov6,nv6,us6,H6⟩ φ6 _ ⟨rfl,hq6,hz6,hM6,nE⟩
  dsimp only at hq6 hz6 hM6 nE ⊢
  conv=>whnf
  refine ⟨((a + 1:Nat):Int),wie (by omega) (by omega),?_⟩
  conv=>whnf
  exact Rnd.mk (a + 1,L6,st6,ov6,nv6,us6,H6) ⟨hq6,hz6,hM6,nE⟩ (by show 100000 - (a + 1) < 100000 - a; omega) ⟨rfl,rfl,rfl,rfl,rfl,rfl,rfl,rfl,trivial⟩ (Hp.Le.refl _) rfl
 have hsc:=Di yV hs
 obtain ⟨rst,IC,hsc⟩:=hsc
 cases IC
 have z1:cellAt H5 Z 1 = some ov:=aQ hz5.z rfl
 conv=>whnf
 refine ak.cut (α:=Value×Hp) (fun x=>[(12,int a),(11,slc rst 0 L.length L.length),(10,bK M),(9,ptr Z 0),(8,ptr R 0),(0,int b),(2,fo),(3,fn)]) (fun x H6=>x.2 = H6∧MZ H x.2 25 Z x.1 nv ((L.take (a + 1)).map out) us (rowsOf next b L a) [int b,x.1,nv] [pl M,slc rst 0 L.length L.length,bg]∧dN x.2 M dH L∧bD H x.2 147 2 (slc rst 0 L.length L.length) L.length (fl2 L)) ?_ ?_
 ·have hov:=hz5.jE
  obtain ⟨ax,eov⟩:=hov
  rw [hOl] at eov
  subst eov
  conv=>whnf
  refine ⟨_,z1,?_⟩
  conv=>whnf
  refine ⟨rfl,⟨by omega,by omega⟩,?_⟩
  conv=>whnf
  refine ⟨_,hsc,?_⟩
  rw [← efo]
  conv=>whnf
  refine ⟨ho.1,?_⟩
  refine aJ.mono (ho.2 s hsU H5 (gH.trans hz5.gr)) ?_
  rintro _ H6 ⟨rfl,g6⟩
  have hz6:=hz5.ext g6
  have f1:=g6.cell z1
  have f2:cellAt (H6.lay (.row 3 true [int (out s)])) Z 1 = some (.slice ax a a):=(aC.lay _ _).cell f1
  conv=>whnf
  refine hz6.Da (by omega) ?_
  intro ov7 H7 Bt hz7 kv7
  obtain ⟨a7,n7,rfl⟩:=Bt
  have f3:cellAt H7 Z 1 = some (.slice ax a a):=aQ hz7.z rfl
  conv=>whnf
  refine ⟨rfl,_,dK hz7.z (by simp) rfl,?_⟩
  conv=>whnf
  refine ⟨?_,?_⟩
  ·repeat' (first | exact True.intro | (refine And.intro ?_ ?_ <;> (conv=>whnf)))
   all_goals first
    | exact aj (h2:=_) rfl (aI _)
    | exact aj (h2:=_) rfl (dh _ _)
    | exact aj (h2:=_) rfl (aD _ _ _)
    | exact aj (h2:=_) rfl (iP _ _)
    | exact aj (h2:=_) (congrArg (hval _) z1) (aI _)
    | exact aj (h2:=_) (congrArg (hval _) z1) (aD _ _ _)
    | exact aj (h2:=_) (congrArg (hval _) f1) (aI _)
    | exact aj (h2:=_) (congrArg (hval _) f1) (aD _ _ _)
    | exact aj (h2:=_) (congrArg (hval _) f2) (aI _)
    | exact aj (h2:=_) (congrArg (hval _) f2) (aD _ _ _)
    | exact aj (h2:=_) (congrArg (hval _) f3) (aI _)
    | exact aj (h2:=_) (congrArg (hval _) f3) (aD _ _ _)
    | exact ⟨_,rfl,Hp.aA _ _,rfl⟩
  have hz8:=hz7.put [int b,.slice a7 n7 n7,nv]
  have eO:(L.take a).map out ++ [out s] = (L.take (a + 1)).map out:=by rw [fZ hs,List.map_append]; rfl
  have tH:=hz8.1
  rw [eO] at tH
  exact ⟨(_,_),⟨rfl,rfl,rfl,rfl,rfl,rfl,rfl,rfl,trivial⟩,⟨rfl,tH,hz8.2.map (by simp) (kv7.map (by simp) (hM5.ext g6)),hz8.2.bW mem1 (kv7.bW mem1 (yV.ext g6))⟩,rfl⟩
 rintro ⟨ov,H6⟩ φ6 _ ⟨rfl,hz6,hM6,nE⟩
 dsimp only at hz6 hM6 nE ⊢
 clear hz5 hM5 yV z1
 conv=>whnf
 refine ak.cut (α:=Hp) (fun _=>[(13,slc H6.next 0 b b),(12,int a),(11,slc rst 0 L.length L.length),(10,bK M),(9,ptr Z 0),(8,ptr R 0),(0,int b),(2,fo),(3,fn)]) (fun x H7=>x = H7∧MZ H x 25 Z ov nv ((L.take (a + 1)).map out) us (rowsOf next b L a) [int b,ov,nv] [pl M,slc rst 0 L.length L.length,slc H6.next 0 b b]∧dN x M dH L∧bD H x 147 2 (slc rst 0 L.length L.length) L.length (fl2 L)∧x.at H6.next = some (.row 3 true (dW next b L s 0))) ?_ ?_
 ·conv=>whnf
  refine ⟨⟨by omega,by omega,by omega,by omega⟩,?_⟩
  conv=>whnf
  have gl7:aC H6 (H6.lay (.row 3 true (times [int 0] (b:Int).toNat))):=aC.lay _ _
  refine ⟨_,⟨rfl,rfl,rfl,rfl,rfl,rfl,rfl,rfl,rfl,trivial⟩,⟨rfl,hz6.add gl7 (i:=2) rfl fun r e=>by cases e; exact ⟨Nat.le_refl _,by rw [Hp.bG]; omega⟩,hM6.ext gl7,nE.ext gl7,?_⟩,rfl⟩
  rw [wM]
  exact Hp.aA _ _
 rintro H7 φ7 _ ⟨rfl,hz7,hM7,OI,aW7⟩
 have hnW:=hz6.gr.next
 have Xw:∃ W,H6.next = W:=⟨_,rfl⟩
 obtain ⟨W,eW⟩:=Xw
 rw [eW] at hz7 aW7 hnW ⊢
 conv=>whnf
 refine ak.cut (α:=Value×Hp) (fun x=>[(13,slc W 0 b b),(12,int a),(11,x.1),(10,bK M),(9,ptr Z 0),(8,ptr R 0),(0,int b),(2,fo),(3,fn)]) (fun x H8=>x.2 = H8∧MZ H x.2 25 Z ov nv ((L.take (a + 1)).map out) us (rowsOf next b L a) [int b,ov,nv] [pl M,x.1,slc W 0 b b]∧dN x.2 M dH (notes L (outs next b s))∧bD H x.2 147 2 x.1 (notes L (outs next b s)).length (fl2 (notes L (outs next b s)))∧x.2.at W = some (.row 3 true (dW next b (notes L (outs next b s)) s b))) ?_ ?_
 rotate_left
 ·rintro ⟨st8,H8⟩ φ8 _ ⟨rfl,hz8,hM8,j5,aW8⟩
  dsimp only at hz8 hM8 j5 aW8 ⊢
  have hpre:=fH (outs next b s) L
  obtain ⟨r8,e8⟩:=hpre
  have rz:∃ L',notes L (outs next b s) = L':=⟨_,rfl⟩
  obtain ⟨L',eL'⟩:=rz
  rw [eL'] at hM8 j5 aW8 hq2 e8
  have hrows:=mH hq.met hq.le e8
  have uX:L'[a]? = some s:=by rw [e8,List.getElem?_append_left haL]; exact hs
  have htk:L'.take (a + 1) = L.take (a + 1):=by rw [e8,List.take_append_of_le_length (by omega)]
  have hbu:Built H H8 3 (slc W 0 b b) (rowOf next b L' s):=by
   refine .inr ⟨W,?_,by omega,true,?_⟩
   ·rw [show (rowOf next b L' s).length = b from by unfold rowOf; rw [List.length_map,List.length_range]]
   ·rw [aW8,wL]
  have hnv:=hz8.jh
  obtain ⟨ay,eny⟩:=hnv
  rw [hNl] at eny
  subst eny
  have hs8:=j5.slice
  obtain ⟨as8,rfl,-⟩:=hs8
  have z2:cellAt H8 Z 2 = some (.slice ay a a):=aQ hz8.z rfl
  conv=>whnf
  refine ⟨_,z2,?_⟩
  conv=>whnf
  refine hz8.Az (i:=2) (by omega) rfl hbu ?_
  intro nv9 H9 Ed hz9 kv9
  obtain ⟨a9,n9,rfl⟩:=Ed
  have jM:=hz9.put [int b,ov,.slice a9 n9 n9]
  conv=>whnf
  refine ⟨rfl,_,dK hz9.z (by simp) rfl,?_⟩
  conv=>whnf
  have eN:rowsOf next b L a ++ [rowOf next b L' s] = rowsOf next b L' (a + 1):=by
   rw [← hrows]
   unfold rowsOf
   rw [fZ uX,List.map_append]; rfl
  have EK:=jM.1
  rw [eN,← htk] at EK
  exact ⟨(L',_,ov,_,_,_),⟨rfl,rfl,rfl,rfl,rfl,rfl,rfl,rfl,trivial⟩,⟨rfl,hq2,EK,jM.2.map (by simp) (kv9.map (by simp) hM8),jM.2.bW mem1 (kv9.bW mem1 j5)⟩,rfl⟩
 conv=>whnf
 refine ak.go ?_
 conv=>whnf
 refine bQ (α:=Nat×Value×Hp) (fun x=>[(46,int x.1),(45,int b),(13,slc W 0 b b),(12,int a),(11,x.2.1),(10,bK M),(9,ptr Z 0),(8,ptr R 0),(0,int b),(2,fo),(3,fn)]) (fun x=>x.2.2) (fun x=>x.1≤b∧MZ H x.2.2 25 Z ov nv ((L.take (a + 1)).map out) us (rowsOf next b L a) [int b,ov,nv] [pl M,x.2.1,slc W 0 b b]∧dN x.2.2 M dH (notes L (bR next s x.1))∧bD H x.2.2 147 2 x.2.1 (notes L (bR next s x.1)).length (fl2 (notes L (bR next s x.1)))∧x.2.2.at W = some (.row 3 true (dW next b (notes L (bR next s x.1)) s x.1))) (fun x=>b - x.1) (0,slc rst 0 L.length L.length,H7) ⟨Nat.zero_le _,hz7,hM7,OI,aW7⟩ ⟨rfl,rfl,rfl,rfl,rfl,rfl,rfl,rfl,rfl,rfl,rfl,trivial⟩ (Hp.Le.refl _) ?_
 rintro ⟨d,st8,H8⟩ φ8 ⟨hd,hz8,hM8,j5,aW8⟩
 dsimp only at hd hz8 hM8 j5 aW8 ⊢
 clear hz7 hM7 OI aW7
 conv=>whnf
 repeat (refine ak.go ?_; conv=>whnf)
 refine dB (fun q2=>?_) (fun q2=>?_)
 rotate_left
 ·have:d = b:=by omega
  subst this
  conv=>whnf
  exact ⟨(st8,H8),⟨rfl,rfl,rfl,rfl,rfl,rfl,rfl,rfl,rfl,trivial⟩,⟨rfl,hz8,hM8,j5,aW8⟩,rfl⟩
 have hdb:d < b:=by omega
 have hpre:=fH (bR next s d) L
 obtain ⟨r8,e8⟩:=hpre
 have yX:=gN hU hq hsU hd
 have jF:=gN hU hq hsU (d:=d + 1) (by omega)
 have yY:∀ j,j < d→next s j ∈ notes L (bR next s d):=fun j hj=>fI (qy hj)
 rw [jl,iE] at jF
 have hsucc:notes L (bR next s (d + 1)) = note (notes L (bR next s d)) (next s d):=by rw [jl,iE]
 have rz:∃ L',notes L (bR next s d) = L':=⟨_,rfl⟩
 obtain ⟨L',eL'⟩:=rz
 rw [eL'] at hM8 j5 aW8 e8 yX jF yY hsucc
 have uX:L'[a]? = some s:=by rw [e8,List.getElem?_append_left haL]; exact hs
 have Xx:=j5.slice
 obtain ⟨as8,rfl,-⟩:=Xx
 have IE:=Di j5 uX
 obtain ⟨rs8,Xy,IE⟩:=IE
 cases Xy
 have abE:a < L'.length:=by rw [e8,List.length_append]; omega
 conv=>whnf
 refine ak.go ?_
 conv=>whnf
 refine ak.cut (α:=Value×Hp) (fun x=>[(46,int d),(45,int b),(13,slc W 0 b b),(12,int a),(11,x.1),(10,bK M),(9,ptr Z 0),(8,ptr R 0),(0,int b),(2,fo),(3,fn)]) (fun x H9=>x.2 = H9∧MZ H x.2 25 Z ov nv ((L.take (a + 1)).map out) us (rowsOf next b L a) [int b,ov,nv] [pl M,x.1,slc W 0 b b]∧dN x.2 M dH (note L' (next s d))∧bD H x.2 147 2 x.1 (note L' (next s d)).length (fl2 (note L' (next s d)))∧x.2.at W = some (.row 3 true (dW next b (note L' (next s d)) s (d + 1)))) ?_ ?_
 rotate_left
 ·rintro ⟨st9,H9⟩ φ9 _ ⟨rfl,hz9,hM9,uY,aW9⟩
  dsimp only at hz9 hM9 uY aW9 ⊢
  rw [← hsucc] at hM9 uY aW9
  conv=>whnf
  refine ⟨((d + 1:Nat):Int),wie (by omega) (by omega),?_⟩
  conv=>whnf
  exact Rnd.mk (d + 1,st9,H9) ⟨by show d + 1≤b; omega,hz9,hM9,uY,aW9⟩ (by show b - (d + 1) < b - d; omega) ⟨rfl,rfl,rfl,rfl,rfl,rfl,rfl,rfl,rfl,rfl,rfl,trivial⟩ (Hp.Le.refl _) rfl
 have hext:∃ t,next s d = t:=⟨_,rfl⟩
 obtain ⟨t,et⟩:=hext
 have hn2:=hn.2 s hsU d hdb H8 (gH.trans hz8.gr)
 rw [et] at jF hn2 ⊢
 conv=>whnf
 refine ak.go ?_
 conv=>whnf
 refine ak.cut (α:=Nat×Hp) (fun x=>[(15,ptr x.1 0),(14,int d),(46,int d),(45,int b),(13,slc W 0 b b),(12,int a),(11,slc rs8 0 L'.length L'.length),(10,bK M),(9,ptr Z 0),(8,ptr R 0),(0,int b),(2,fo),(3,fn)]) (fun x H9=>x.2 = H9∧aC H8 x.2∧x.2.at x.1 = some (.row 147 true [int t.1,int t.2])∧H8.next≤x.1) ?_ ?_
 ·conv=>whnf
  refine ⟨rfl,⟨by omega,by omega⟩,?_⟩
  conv=>whnf
  refine ⟨_,IE,?_⟩
  rw [← efn]
  conv=>whnf
  refine ⟨hn.1,?_⟩
  refine aJ.mono hn2 ?_
  rintro _ H9 ⟨rfl,g9⟩
  unfold dH
  conv=>whnf
  refine ⟨rfl,_,cK (vs:=[int t.1,int t.2]) rfl rfl rfl,?_⟩
  conv=>whnf
  exact ⟨(H9.next,_),⟨rfl,rfl,rfl,rfl,rfl,rfl,rfl,rfl,rfl,rfl,rfl,rfl,rfl,trivial⟩,⟨rfl,g9.bL _,Hp.aA _ _,g9.next⟩,rfl⟩
 rintro ⟨x15,H9⟩ φ9 _ ⟨rfl,g9,aK,IG⟩
 dsimp only at g9 aK IG ⊢
 have Xz:ad (slc rs8 0 L'.length L'.length)≠some x15:=fun e=>by
  have h1:=(j5.jf rs8 rfl).2
  cases e
  omega
 have hz9:=hz8.ext g9
 have hM9:=hM8.ext g9
 have uY:=j5.ext g9
 have aW9:=g9.at_ _ _ aW8
 have hgW:=hz8.gr.next
 conv=>whnf
 refine ak.cut (α:=Value×Hp) (fun x=>[(15,ptr x15 0),(14,int d),(46,int d),(45,int b),(13,slc W 0 b b),(12,int a),(11,x.1),(10,bK M),(9,ptr Z 0),(8,ptr R 0),(0,int b),(2,fo),(3,fn)]) (fun x H10=>x.2 = H10∧MZ H x.2 25 Z ov nv ((L.take (a + 1)).map out) us (rowsOf next b L a) [int b,ov,nv] [pl M,x.1,slc W 0 b b]∧dN x.2 M dH (note L' t)∧bD H x.2 147 2 x.1 (note L' t).length (fl2 (note L' t))∧x.2.at W = some (.row 3 true (dW next b L' s d))∧x.2.at x15 = some (.row 147 true [int t.1,int t.2])) ?_ ?_
 rotate_left
 ·rintro ⟨aaK,H10⟩ E5 _ ⟨rfl,jM,mI,jV,yZ,wN⟩
  dsimp only at jM mI jV yZ wN ⊢
  have XA:t ∈ note L' t:=oZ L' t
  have y8:=pq L' t
  obtain ⟨r10,e10⟩:=y8
  have hstep:=wK (b:=b) (L':=note L' t) yY e10
  rw [et] at hstep
  have OJ:=jV.slice
  obtain ⟨abF,rfl,-⟩:=OJ
  conv=>whnf
  refine ⟨_,aM wN rfl,?_⟩
  conv=>whnf
  refine gu tM dM t3 z3 Iy (k:=t) rfl rfl mI (lD XA) ?_
  conv=>whnf
  refine ⟨rfl,⟨by omega,by omega⟩,?_⟩
  conv=>whnf
  refine ⟨rfl,_,iH yZ (by unfold dW; rw [je]; omega) rfl,?_⟩
  conv=>whnf
  have hx:Kx (ad (slc W 0 b b)) H10 (H10.set W (.row 3 true (dW next b (note L' t) s (d + 1)))):=Kx.set _ _ _
  have htz:=jM.touch (i:=2) rfl hx (jM.gr.dD _ (by omega)) (by rw [Hp.GV]; exact Nat.le_refl _)
  rw [← hstep] at htz
  refine ⟨(_,H10.set W (.row 3 true ((dW next b L' s d).set d (int (kS (note L' t) t:Nat))))),⟨rfl,rfl,rfl,rfl,rfl,rfl,rfl,rfl,rfl,rfl,rfl,trivial⟩,⟨rfl,htz.1,htz.2.map (by simp) mI,htz.2.bW mem1 jV,?_⟩,rfl⟩
  show (H10.set W _).at W = _
  rw [Hp.bH _ (Hp.aU yZ),hstep]
 by_cases hin:t ∈ L'
 ·have iQ:note L' t = L':=by unfold note; rw [if_pos hin]
  rw [iQ]
  conv=>whnf
  refine ak.go ?_
  conv=>whnf
  refine ⟨_,aM aK rfl,?_⟩
  conv=>whnf
  refine gY tM dM t3 z3 Iy (k:=t) rfl rfl hM9 (lD hin) ?_
  conv=>whnf
  repeat (refine ak.go ?_; conv=>whnf)
  exact ⟨(_,H9),⟨rfl,rfl,rfl,rfl,rfl,rfl,rfl,rfl,rfl,rfl,rfl,rfl,rfl,trivial⟩,⟨rfl,hz9,hM9,uY,aW9,aK⟩,rfl⟩
 ·have iQ:note L' t = L' ++ [t]:=by unfold note; rw [if_neg hin]
  have hnl:(L' ++ [t]).length = L'.length + 1:=by rw [List.length_append]; rfl
  rw [iQ] at jF ⊢
  conv=>whnf
  refine ak.go ?_
  conv=>whnf
  refine ⟨_,aM aK rfl,?_⟩
  conv=>whnf
  refine gZ tM dM t3 z3 Iy (k:=t) rfl rfl hM9 (qg hin) ?_
  conv=>whnf
  repeat (refine ak.go ?_; conv=>whnf)
  refine ⟨_,aM aK rfl,?_⟩
  conv=>whnf
  refine iD tM dM Iy (k:=t) (v:=int L'.length) rfl rfl rfl hM9 ?_
  intro H10 mI y10
  have htz:=hz9.touch (i:=0) (v:=pl M) rfl (Kx.keeps y10) (y10.grows hz9.gr qh) (by rw [y10.next]; exact Nat.le_refl _)
  have za:=dN.add hin mI
  have jV:=htz.2.bW (v:=slc rs8 0 L'.length L'.length) mem1 uY
  have hMW:M≠W:=fun e=>by
   have:=hz9.sep.ap 3 5 (pl M) (slc W 0 b b) (by decide) rfl rfl M rfl
   exact this (by rw [e]; rfl)
  have yZ:=y10.at_ _ _ (fun e=>hMW e.symm) aW9
  have hzz:=htz.1
  have wN:H10.at x15 = some (.row 147 true [int t.1,int t.2]):=y10.at_ _ _ (fun e=>by
   obtain ⟨_,_,h1,_⟩:=hM8
   have h2:=Hp.aU h1
   have h3:=IG
   omega) aK
  conv=>whnf
  refine ⟨_,aM wN rfl,?_⟩
  conv=>whnf
  refine hzz.Ke (i:=1) (n:=L'.length) (cl:=fl2 L') (new:=[int t.1,int t.2]) rfl jV rfl rfl (by omega) (by omega) ?_
  intro XB H11 rA ze rC zf QM
  obtain ⟨a11,n11,rfl⟩:=rA
  have II:=zf.map (M:=M) (by simp) za
  have XC:=zf.at_ (v:=slc W 0 b b) mem2 rfl yZ
  conv=>whnf
  exact ⟨(_,H11),⟨rfl,rfl,rfl,rfl,rfl,rfl,rfl,rfl,rfl,rfl,rfl,rfl,rfl,trivial⟩,⟨rfl,rC,II,by rw [Ae,hnl]; exact ze,XC,QM.at_ wN Xz⟩,rfl⟩
end
end Go.Proofs.Ytedneplaibmppaa
namespace Go.Proofs.Ytedneplaibmppaa
open Go.Rx Go.RowKit
attribute [local irreducible] E iV cellAt bM storeAt callable dz dI dP findKey eD bT Hp.at Hp.set Hp.lay dO dw setAt aJ dA bO dG Rnd gD fK iN Int.tmod Int.tdiv Int.fdiv
section
variable [bE]
attribute [local irreducible] sameAt lH
theorem Me (b:Nat) (s0:Int) (out:Int→Int) (next:Int→Nat→Int) (U:List (Int)) (go gn:FuncId) (Eb Ec:List Value) (h:Hp) (hb:1≤b∧b≤1000) (hU:yQ next b U) (hs0:s0 ∈ U) (hUl:U.length≤100000) (ho:UH go Eb encI out U h) (hn:Kg gn Ec encI next b U h):aJ E 70 [int b,encI s0,.func (.func go) ⟨[]⟩ ⟨Eb⟩,.func (.func gn) ⟨[]⟩ ⟨Ec⟩] h (fun r h'=>jD h h' r (built b s0 out next).i∧aC h h'):=by
 obtain ⟨i3,t3,-,z3⟩:=ty3
 obtain ⟨iM,tM,dM⟩:=OA
 have OE:∃ fo,Value.func (.func go) ⟨[]⟩ ⟨Eb⟩ = fo:=⟨_,rfl⟩
 obtain ⟨fo,efo⟩:=OE
 have OG:∃ fn,Value.func (.func gn) ⟨[]⟩ ⟨Ec⟩ = fn:=⟨_,rfl⟩
 obtain ⟨fn,efn⟩:=OG
 rw [efo,efn]
 refine enter70 (by simp) ?_
 conv=>whnf
 refine ak.cut (α:=Nat×Hp) (fun s=>[(8,ptr s.1 0),(1,int s0),(0,int b),(2,fo),(3,fn)]) (fun s H=>s.2 = H∧aC h s.2∧s.2.at s.1 = some (.row 25 true [int 0,bg,bg])∧h.next≤s.1∧s.1 < s.2.next) ?_ ?_
 ·conv=>whnf
  exact ⟨(h.next,_),⟨rfl,rfl,rfl,rfl,rfl,trivial⟩,⟨rfl,aC.lay _ _,Hp.aA _ _,Nat.le_refl _,by dsimp only; rw [Hp.bG]; omega⟩,rfl⟩
 rintro ⟨R,H⟩ φ1 _ ⟨rfl,gH,aR,hRh,hRn⟩
 dsimp only at gH aR hRh hRn ⊢
 conv=>whnf
 refine ak.cut (α:=Hp) (fun _=>[(9,ptr H.next 0),(8,ptr R 0),(0,int b),(1,int s0),(2,fo),(3,fn)]) (fun x H2=>x = H2∧MZ H H2 25 H.next bg bg [] [] [] [int b,bg,bg] []) ?_ ?_
 ·conv=>whnf
  refine ⟨rfl,_,cK (vs:=[int b,bg,bg]) rfl rfl rfl,?_⟩
  conv=>whnf
  exact ⟨_,⟨rfl,rfl,rfl,rfl,rfl,rfl,trivial⟩,⟨rfl,MZ.start (.refl _)⟩,rfl⟩
 rintro H2 φ2 _ ⟨rfl,hz2⟩
 have wI:∃ Z,H.next = Z:=⟨_,rfl⟩
 obtain ⟨Z,eZ⟩:=wI
 rw [eZ] at hz2 ⊢
 conv=>whnf
 refine ak.cut (α:=Nat×Hp) (fun s=>[(10,bK s.1),(9,ptr Z 0),(8,ptr R 0),(0,int b),(1,int s0),(2,fo),(3,fn)]) (fun s H3=>s.2 = H3∧MZ H s.2 25 Z bg bg [] [] [] [int b,bg,bg] [pl s.1]∧dN s.2 s.1 encI [s0]∧H.next≤s.1) ?_ ?_
 ·conv=>whnf
  refine kR tM dM Br (k:=s0) (v:=int 0) (n:=0) rfl rfl rfl (MapAt.new _) ?_
  intro H3 hM3 y3
  have gl3:aC H2 (H2.lay (.map [] 0)):=aC.lay _ _
  have gk3:aC H2 H3:=⟨by rw [y3.next]; exact gl3.next,fun r o e=>y3.at_ r o (by have:=Hp.aU e; omega) (gl3.at_ r o e)⟩
  have hz3:=(hz2.more gk3 (v:=pl H2.next) fun r e=>by cases e; exact ⟨Nat.le_refl _,by rw [y3.next,Hp.bG]; omega⟩)
  conv=>whnf
  exact ⟨(H2.next,H3),⟨rfl,rfl,rfl,rfl,rfl,rfl,rfl,trivial⟩,⟨rfl,hz3,hM3.congr fun k=>by
   unfold fN
   by_cases e:k = s0
   ·rw [if_pos e,if_pos (by rw [e]; simp),e]; simp
   ·rw [if_neg e,if_neg (by simpa using e)],hz2.gr.next⟩,rfl⟩
 rintro ⟨M,H3⟩ φ3 _ ⟨rfl,hz3,hM3,qh⟩
 dsimp only at hz3 hM3 qh ⊢
 conv=>whnf
 refine ak.cut (α:=Value×Hp) (fun s=>[(11,s.1),(10,bK M),(9,ptr Z 0),(8,ptr R 0),(0,int b),(2,fo),(3,fn)]) (fun s H4=>s.2 = H4∧MZ H s.2 25 Z bg bg [] [] [] [int b,bg,bg] [pl M,s.1,bg]∧dN s.2 M encI [s0]∧bD H s.2 3 1 s.1 [s0].length (fl1 [s0])) ?_ ?_
 ·conv=>whnf

  have gl4:aC H3 (H3.lay (.row 3 true (fl1 [s0]))):=aC.lay _ _
  have hz4:=(hz3.more gl4 (v:=slc H3.next 0 1 1) fun r e=>by cases e; exact ⟨Nat.le_refl _,by rw [Hp.bG]; omega⟩).more (.refl _) (v:=bg) fun r e=>by cases e
  exact ⟨(slc H3.next 0 1 1,_),⟨rfl,rfl,rfl,rfl,rfl,rfl,rfl,trivial⟩,⟨rfl,hz4,hM3.ext gl4,⟨rfl,.inr ⟨H3.next,rfl,hz3.gr.next,true,Hp.aA _ _⟩⟩⟩,rfl⟩
 rintro ⟨st,H4⟩ φ4 _ ⟨rfl,hz4,hM4,OH⟩
 dsimp only at hz4 hM4 OH ⊢
 conv=>whnf
 refine ak.cut (α:=Value×Value×List Int×List Value×List (List Int)×Hp) (fun s=>[(9,ptr Z 0),(8,ptr R 0)]) (fun s H5=>s.2.2.2.2.2 = H5∧∃ rs,MZ H s.2.2.2.2.2 25 Z s.1 s.2.1 s.2.2.1 s.2.2.2.1 s.2.2.2.2.1 [int b,s.1,s.2.1] rs∧(built b s0 out next).i = ⟨b,s.2.2.1,s.2.2.2.2.1⟩) ?_ ?_
 rotate_left
 ·rintro ⟨ov,nv,O,us,N,H5⟩ φ5 _ ⟨rfl,rs,hz5,eb⟩
  dsimp only at hz5 eb ⊢
  have hov:=hz5.jE
  obtain ⟨ax,rfl⟩:=hov
  have hnv:=hz5.jh
  obtain ⟨ay,rfl⟩:=hnv
  have aR5:=hz5.gr.at_ _ _ aR
  conv=>whnf
  repeat (refine ak.go ?_; conv=>whnf)
  refine ⟨_,aM hz5.z rfl,?_⟩
  conv=>whnf
  refine ⟨rfl,_,bJ (vs:=[int b,.slice ax O.length O.length,.slice ay N.length N.length]) aR5 rfl rfl rfl,?_⟩
  conv=>whnf
  repeat (refine ak.go ?_; conv=>whnf)
  obtain ⟨i25,t25,lI,lJ⟩:=Io
  refine fq (r:=R) (o:=0) (cs:=[int b,.slice ax O.length O.length,.slice ay N.length N.length]) rfl t25 lI ?_ ?_
  ·rw [lJ]
   exact aM (Hp.bH _ (Hp.aU aR5)) rfl
  ·rw [eb]
   exact hz5.leave (h:=h) (R:=R) hRn hRh gH b (.row 25 true [int b,.slice ax O.length O.length,.slice ay N.length N.length])
 conv=>whnf
 refine ak.go ?_
 conv=>whnf
 refine bQ (α:=Nat×List (Int)×Value×Value×Value×List Value×Hp) (fun s=>[(12,int s.1),(11,s.2.2.1),(10,bK M),(9,ptr Z 0),(8,ptr R 0),(0,int b),(2,fo),(3,fn)]) (fun s=>s.2.2.2.2.2.2) (fun s=>Bq next b s0 U s.2.1 s.1∧MZ H s.2.2.2.2.2.2 25 Z s.2.2.2.1 s.2.2.2.2.1 ((s.2.1.take s.1).map out) s.2.2.2.2.2.1 (rowsOf next b s.2.1 s.1) [int b,s.2.2.2.1,s.2.2.2.2.1] [pl M,s.2.2.1,bg]∧dN s.2.2.2.2.2.2 M encI s.2.1∧bD H s.2.2.2.2.2.2 3 1 s.2.2.1 s.2.1.length (fl1 s.2.1)) (fun s=>100000 - s.1) (0,[s0],st,bg,bg,[],H4) ⟨Bq.start hU hs0,hz4,hM4,OH⟩ ⟨rfl,rfl,rfl,rfl,rfl,rfl,rfl,rfl,trivial⟩ (Hp.Le.refl _) ?_
 rintro ⟨a,L,st,ov,nv,us,H5⟩ φ5 ⟨hq,hz5,hM5,yV⟩
 dsimp only at hq hz5 hM5 yV ⊢
 have QL:=hq.few
 have hsk:=yV.slice
 obtain ⟨as5,rfl,-⟩:=hsk
 have hql:=hq.le
 conv=>whnf
 repeat (refine ak.go ?_; conv=>whnf)
 refine dB (fun q1=>?_) (fun q1=>?_)
 rotate_left
 ·have hle:L.length≤a:=by omega
  have ea:a = L.length:=by omega
  have hbd:=hq.done hle
  subst ea
  rw [List.take_length] at hz5
  conv=>whnf
  exact ⟨(ov,nv,L.map out,us,rowsOf next b L L.length,H5),⟨rfl,rfl,trivial⟩,⟨rfl,_,hz5,Af hbd⟩,rfl⟩
 have haL:a < L.length:=by omega
 have tF:∃ s,L[a]? = some s:=⟨_,List.getElem?_eq_getElem haL⟩
 obtain ⟨s,hs⟩:=tF
 have hsU:=hq.sub s (List.mem_of_getElem? hs)
 have hOl:((L.take a).map out).length = a:=by rw [List.length_map,List.length_take]; omega
 have hNl:(rowsOf next b L a).length = a:=by unfold rowsOf; rw [List.length_map,List.length_take]; omega
 have hq2:=hq.next hU hs
 conv=>whnf
 refine ak.cut (α:=List (Int)×Value×Value×Value×List Value×Hp) (fun s=>[(12,int a),(11,s.2.1),(10,bK M),(9,ptr Z 0),(8,ptr R 0),(0,int b),(2,fo),(3,fn)]) (fun s H6=>s.2.2.2.2.2 = H6∧Bq next b s0 U s.1 (a + 1)∧MZ H s.2.2.2.2.2 25 Z s.2.2.1 s.2.2.2.1 ((s.1.take (a + 1)).map out) s.2.2.2.2.1 (rowsOf next b s.1 (a + 1)) [int b,s.2.2.1,s.2.2.2.1] [pl M,s.2.1,bg]∧dN s.2.2.2.2.2 M encI s.1∧bD H s.2.2.2.2.2 3 1 s.2.1 s.1.length (fl1 s.1)) ?_ ?_
 rotate_left
 ·rintro ⟨L6,st6,ov6,nv6,us6,H6⟩ φ6 _ ⟨rfl,hq6,hz6,hM6,nE⟩
  dsimp only at hq6 hz6 hM6 nE ⊢
  conv=>whnf
  refine ⟨((a + 1:Nat):Int),wie (by omega) (by omega),?_⟩
  conv=>whnf
  exact Rnd.mk (a + 1,L6,st6,ov6,nv6,us6,H6) ⟨hq6,hz6,hM6,nE⟩ (by show 100000 - (a + 1) < 100000 - a; omega) ⟨rfl,rfl,rfl,rfl,rfl,rfl,rfl,rfl,trivial⟩ (Hp.Le.refl _) rfl
 have hsc:=Sl yV hs
 obtain ⟨rst,IC,hsc⟩:=hsc
 cases IC
 have z1:cellAt H5 Z 1 = some ov:=aQ hz5.z rfl
 conv=>whnf
 refine ak.cut (α:=Value×Hp) (fun x=>[(12,int a),(11,slc rst 0 L.length L.length),(10,bK M),(9,ptr Z 0),(8,ptr R 0),(0,int b),(2,fo),(3,fn)]) (fun x H6=>x.2 = H6∧MZ H x.2 25 Z x.1 nv ((L.take (a + 1)).map out) us (rowsOf next b L a) [int b,x.1,nv] [pl M,slc rst 0 L.length L.length,bg]∧dN x.2 M encI L∧bD H x.2 3 1 (slc rst 0 L.length L.length) L.length (fl1 L)) ?_ ?_
 ·have hov:=hz5.jE
  obtain ⟨ax,eov⟩:=hov
  rw [hOl] at eov
  subst eov
  conv=>whnf
  refine ⟨_,z1,?_⟩
  conv=>whnf
  refine ⟨rfl,⟨by omega,by omega⟩,?_⟩
  conv=>whnf
  refine ⟨_,hsc,?_⟩
  rw [← efo]
  conv=>whnf
  refine ⟨ho.1,?_⟩
  refine aJ.mono (ho.2 s hsU H5 (gH.trans hz5.gr)) ?_
  rintro _ H6 ⟨rfl,g6⟩
  have hz6:=hz5.ext g6
  have f1:=g6.cell z1
  have f2:cellAt (H6.lay (.row 3 true [int (out s)])) Z 1 = some (.slice ax a a):=(aC.lay _ _).cell f1
  conv=>whnf
  refine hz6.Da (by omega) ?_
  intro ov7 H7 Bt hz7 kv7
  obtain ⟨a7,n7,rfl⟩:=Bt
  have f3:cellAt H7 Z 1 = some (.slice ax a a):=aQ hz7.z rfl
  conv=>whnf
  refine ⟨rfl,_,dK hz7.z (by simp) rfl,?_⟩
  conv=>whnf
  refine ⟨?_,?_⟩
  ·repeat' (first | exact True.intro | (refine And.intro ?_ ?_ <;> (conv=>whnf)))
   all_goals first
    | exact aj (h2:=_) rfl (aI _)
    | exact aj (h2:=_) rfl (dh _ _)
    | exact aj (h2:=_) rfl (aD _ _ _)
    | exact aj (h2:=_) rfl (iP _ _)
    | exact aj (h2:=_) (congrArg (hval _) z1) (aI _)
    | exact aj (h2:=_) (congrArg (hval _) z1) (aD _ _ _)
    | exact aj (h2:=_) (congrArg (hval _) f1) (aI _)
    | exact aj (h2:=_) (congrArg (hval _) f1) (aD _ _ _)
    | exact aj (h2:=_) (congrArg (hval _) f2) (aI _)
    | exact aj (h2:=_) (congrArg (hval _) f2) (aD _ _ _)
    | exact aj (h2:=_) (congrArg (hval _) f3) (aI _)
    | exact aj (h2:=_) (congrArg (hval _) f3) (aD _ _ _)
    | exact ⟨_,rfl,Hp.aA _ _,rfl⟩
  have hz8:=hz7.put [int b,.slice a7 n7 n7,nv]
  have eO:(L.take a).map out ++ [out s] = (L.take (a + 1)).map out:=by rw [fZ hs,List.map_append]; rfl
  have tH:=hz8.1
  rw [eO] at tH
  exact ⟨(_,_),⟨rfl,rfl,rfl,rfl,rfl,rfl,rfl,rfl,trivial⟩,⟨rfl,tH,hz8.2.map (by simp) (kv7.map (by simp) (hM5.ext g6)),hz8.2.bW mem1 (kv7.bW mem1 (yV.ext g6))⟩,rfl⟩
 rintro ⟨ov,H6⟩ φ6 _ ⟨rfl,hz6,hM6,nE⟩
 dsimp only at hz6 hM6 nE ⊢
 clear hz5 hM5 yV z1
 conv=>whnf
 refine ak.cut (α:=Hp) (fun _=>[(13,slc H6.next 0 b b),(12,int a),(11,slc rst 0 L.length L.length),(10,bK M),(9,ptr Z 0),(8,ptr R 0),(0,int b),(2,fo),(3,fn)]) (fun x H7=>x = H7∧MZ H x 25 Z ov nv ((L.take (a + 1)).map out) us (rowsOf next b L a) [int b,ov,nv] [pl M,slc rst 0 L.length L.length,slc H6.next 0 b b]∧dN x M encI L∧bD H x 3 1 (slc rst 0 L.length L.length) L.length (fl1 L)∧x.at H6.next = some (.row 3 true (dW next b L s 0))) ?_ ?_
 ·conv=>whnf
  refine ⟨⟨by omega,by omega,by omega,by omega⟩,?_⟩
  conv=>whnf
  have gl7:aC H6 (H6.lay (.row 3 true (times [int 0] (b:Int).toNat))):=aC.lay _ _
  refine ⟨_,⟨rfl,rfl,rfl,rfl,rfl,rfl,rfl,rfl,rfl,trivial⟩,⟨rfl,hz6.add gl7 (i:=2) rfl fun r e=>by cases e; exact ⟨Nat.le_refl _,by rw [Hp.bG]; omega⟩,hM6.ext gl7,nE.ext gl7,?_⟩,rfl⟩
  rw [wM]
  exact Hp.aA _ _
 rintro H7 φ7 _ ⟨rfl,hz7,hM7,OI,aW7⟩
 have hnW:=hz6.gr.next
 have Xw:∃ W,H6.next = W:=⟨_,rfl⟩
 obtain ⟨W,eW⟩:=Xw
 rw [eW] at hz7 aW7 hnW ⊢
 conv=>whnf
 refine ak.cut (α:=Value×Hp) (fun x=>[(13,slc W 0 b b),(12,int a),(11,x.1),(10,bK M),(9,ptr Z 0),(8,ptr R 0),(0,int b),(2,fo),(3,fn)]) (fun x H8=>x.2 = H8∧MZ H x.2 25 Z ov nv ((L.take (a + 1)).map out) us (rowsOf next b L a) [int b,ov,nv] [pl M,x.1,slc W 0 b b]∧dN x.2 M encI (notes L (outs next b s))∧bD H x.2 3 1 x.1 (notes L (outs next b s)).length (fl1 (notes L (outs next b s)))∧x.2.at W = some (.row 3 true (dW next b (notes L (outs next b s)) s b))) ?_ ?_
 rotate_left
 ·rintro ⟨st8,H8⟩ φ8 _ ⟨rfl,hz8,hM8,j5,aW8⟩
  dsimp only at hz8 hM8 j5 aW8 ⊢
  have hpre:=fH (outs next b s) L
  obtain ⟨r8,e8⟩:=hpre
  have rz:∃ L',notes L (outs next b s) = L':=⟨_,rfl⟩
  obtain ⟨L',eL'⟩:=rz
  rw [eL'] at hM8 j5 aW8 hq2 e8
  have hrows:=mH hq.met hq.le e8
  have uX:L'[a]? = some s:=by rw [e8,List.getElem?_append_left haL]; exact hs
  have htk:L'.take (a + 1) = L.take (a + 1):=by rw [e8,List.take_append_of_le_length (by omega)]
  have hbu:Built H H8 3 (slc W 0 b b) (rowOf next b L' s):=by
   refine .inr ⟨W,?_,by omega,true,?_⟩
   ·rw [show (rowOf next b L' s).length = b from by unfold rowOf; rw [List.length_map,List.length_range]]
   ·rw [aW8,wL]
  have hnv:=hz8.jh
  obtain ⟨ay,eny⟩:=hnv
  rw [hNl] at eny
  subst eny
  have hs8:=j5.slice
  obtain ⟨as8,rfl,-⟩:=hs8
  have z2:cellAt H8 Z 2 = some (.slice ay a a):=aQ hz8.z rfl
  conv=>whnf
  refine ⟨_,z2,?_⟩
  conv=>whnf
  refine hz8.Az (i:=2) (by omega) rfl hbu ?_
  intro nv9 H9 Ed hz9 kv9
  obtain ⟨a9,n9,rfl⟩:=Ed
  have jM:=hz9.put [int b,ov,.slice a9 n9 n9]
  conv=>whnf
  refine ⟨rfl,_,dK hz9.z (by simp) rfl,?_⟩
  conv=>whnf
  have eN:rowsOf next b L a ++ [rowOf next b L' s] = rowsOf next b L' (a + 1):=by
   rw [← hrows]
   unfold rowsOf
   rw [fZ uX,List.map_append]; rfl
  have EK:=jM.1
  rw [eN,← htk] at EK
  exact ⟨(L',_,ov,_,_,_),⟨rfl,rfl,rfl,rfl,rfl,rfl,rfl,rfl,trivial⟩,⟨rfl,hq2,EK,jM.2.map (by simp) (kv9.map (by simp) hM8),jM.2.bW mem1 (kv9.bW mem1 j5)⟩,rfl⟩
 conv=>whnf
 refine ak.go ?_
 conv=>whnf
 refine bQ (α:=Nat×Value×Hp) (fun x=>[(46,int x.1),(45,int b),(13,slc W 0 b b),(12,int a),(11,x.2.1),(10,bK M),(9,ptr Z 0),(8,ptr R 0),(0,int b),(2,fo),(3,fn)]) (fun x=>x.2.2) (fun x=>x.1≤b∧MZ H x.2.2 25 Z ov nv ((L.take (a + 1)).map out) us (rowsOf next b L a) [int b,ov,nv] [pl M,x.2.1,slc W 0 b b]∧dN x.2.2 M encI (notes L (bR next s x.1))∧bD H x.2.2 3 1 x.2.1 (notes L (bR next s x.1)).length (fl1 (notes L (bR next s x.1)))∧x.2.2.at W = some (.row 3 true (dW next b (notes L (bR next s x.1)) s x.1))) (fun x=>b - x.1) (0,slc rst 0 L.length L.length,H7) ⟨Nat.zero_le _,hz7,hM7,OI,aW7⟩ ⟨rfl,rfl,rfl,rfl,rfl,rfl,rfl,rfl,rfl,rfl,rfl,trivial⟩ (Hp.Le.refl _) ?_
 rintro ⟨d,st8,H8⟩ φ8 ⟨hd,hz8,hM8,j5,aW8⟩
 dsimp only at hd hz8 hM8 j5 aW8 ⊢
 clear hz7 hM7 OI aW7
 conv=>whnf
 repeat (refine ak.go ?_; conv=>whnf)
 refine dB (fun q2=>?_) (fun q2=>?_)
 rotate_left
 ·have:d = b:=by omega
  subst this
  conv=>whnf
  exact ⟨(st8,H8),⟨rfl,rfl,rfl,rfl,rfl,rfl,rfl,rfl,rfl,trivial⟩,⟨rfl,hz8,hM8,j5,aW8⟩,rfl⟩
 have hdb:d < b:=by omega
 have hpre:=fH (bR next s d) L
 obtain ⟨r8,e8⟩:=hpre
 have yX:=gN hU hq hsU hd
 have jF:=gN hU hq hsU (d:=d + 1) (by omega)
 have yY:∀ j,j < d→next s j ∈ notes L (bR next s d):=fun j hj=>fI (qy hj)
 rw [jl,iE] at jF
 have hsucc:notes L (bR next s (d + 1)) = note (notes L (bR next s d)) (next s d):=by rw [jl,iE]
 have rz:∃ L',notes L (bR next s d) = L':=⟨_,rfl⟩
 obtain ⟨L',eL'⟩:=rz
 rw [eL'] at hM8 j5 aW8 e8 yX jF yY hsucc
 have uX:L'[a]? = some s:=by rw [e8,List.getElem?_append_left haL]; exact hs
 have Xx:=j5.slice
 obtain ⟨as8,rfl,-⟩:=Xx
 have IE:=Sl j5 uX
 obtain ⟨rs8,Xy,IE⟩:=IE
 cases Xy
 have abE:a < L'.length:=by rw [e8,List.length_append]; omega
 conv=>whnf
 refine ak.go ?_
 conv=>whnf
 refine ak.cut (α:=Value×Hp) (fun x=>[(46,int d),(45,int b),(13,slc W 0 b b),(12,int a),(11,x.1),(10,bK M),(9,ptr Z 0),(8,ptr R 0),(0,int b),(2,fo),(3,fn)]) (fun x H9=>x.2 = H9∧MZ H x.2 25 Z ov nv ((L.take (a + 1)).map out) us (rowsOf next b L a) [int b,ov,nv] [pl M,x.1,slc W 0 b b]∧dN x.2 M encI (note L' (next s d))∧bD H x.2 3 1 x.1 (note L' (next s d)).length (fl1 (note L' (next s d)))∧x.2.at W = some (.row 3 true (dW next b (note L' (next s d)) s (d + 1)))) ?_ ?_
 rotate_left
 ·rintro ⟨st9,H9⟩ φ9 _ ⟨rfl,hz9,hM9,uY,aW9⟩
  dsimp only at hz9 hM9 uY aW9 ⊢
  rw [← hsucc] at hM9 uY aW9
  conv=>whnf
  refine ⟨((d + 1:Nat):Int),wie (by omega) (by omega),?_⟩
  conv=>whnf
  exact Rnd.mk (d + 1,st9,H9) ⟨by show d + 1≤b; omega,hz9,hM9,uY,aW9⟩ (by show b - (d + 1) < b - d; omega) ⟨rfl,rfl,rfl,rfl,rfl,rfl,rfl,rfl,rfl,rfl,rfl,trivial⟩ (Hp.Le.refl _) rfl
 have hext:∃ t,next s d = t:=⟨_,rfl⟩
 obtain ⟨t,et⟩:=hext
 have hn2:=hn.2 s hsU d hdb H8 (gH.trans hz8.gr)
 rw [et] at jF hn2 ⊢
 conv=>whnf
 refine ak.go ?_
 conv=>whnf
 refine ak.cut (α:=Hp) (fun x=>[(15,int t),(14,int d),(46,int d),(45,int b),(13,slc W 0 b b),(12,int a),(11,slc rs8 0 L'.length L'.length),(10,bK M),(9,ptr Z 0),(8,ptr R 0),(0,int b),(2,fo),(3,fn)]) (fun x H9=>x = H9∧aC H8 x) ?_ ?_
 ·conv=>whnf
  refine ⟨rfl,⟨by omega,by omega⟩,?_⟩
  conv=>whnf
  refine ⟨_,IE,?_⟩
  rw [← efn]
  conv=>whnf
  refine ⟨hn.1,?_⟩
  refine aJ.mono hn2 ?_
  rintro _ H9 ⟨rfl,g9⟩
  conv=>whnf
  exact ⟨H9,⟨rfl,rfl,rfl,rfl,rfl,rfl,rfl,rfl,rfl,rfl,rfl,rfl,rfl,trivial⟩,⟨rfl,g9⟩,rfl⟩
 rintro H9 φ9 _ ⟨rfl,g9⟩

 have hz9:=hz8.ext g9
 have hM9:=hM8.ext g9
 have uY:=j5.ext g9
 have aW9:=g9.at_ _ _ aW8
 have hgW:=hz8.gr.next
 conv=>whnf
 refine ak.cut (α:=Value×Hp) (fun x=>[(15,int t),(14,int d),(46,int d),(45,int b),(13,slc W 0 b b),(12,int a),(11,x.1),(10,bK M),(9,ptr Z 0),(8,ptr R 0),(0,int b),(2,fo),(3,fn)]) (fun x H10=>x.2 = H10∧MZ H x.2 25 Z ov nv ((L.take (a + 1)).map out) us (rowsOf next b L a) [int b,ov,nv] [pl M,x.1,slc W 0 b b]∧dN x.2 M encI (note L' t)∧bD H x.2 3 1 x.1 (note L' t).length (fl1 (note L' t))∧x.2.at W = some (.row 3 true (dW next b L' s d))) ?_ ?_
 rotate_left
 ·rintro ⟨aaK,H10⟩ E5 _ ⟨rfl,jM,mI,jV,yZ⟩
  dsimp only at jM mI jV yZ ⊢
  have XA:t ∈ note L' t:=oZ L' t
  have y8:=pq L' t
  obtain ⟨r10,e10⟩:=y8
  have hstep:=wK (b:=b) (L':=note L' t) yY e10
  rw [et] at hstep
  have OJ:=jV.slice
  obtain ⟨abF,rfl,-⟩:=OJ
  conv=>whnf

  refine gu tM dM t3 z3 Br (k:=t) rfl rfl mI (lD XA) ?_
  conv=>whnf
  refine ⟨rfl,⟨by omega,by omega⟩,?_⟩
  conv=>whnf
  refine ⟨rfl,_,iH yZ (by unfold dW; rw [je]; omega) rfl,?_⟩
  conv=>whnf
  have hx:Kx (ad (slc W 0 b b)) H10 (H10.set W (.row 3 true (dW next b (note L' t) s (d + 1)))):=Kx.set _ _ _
  have htz:=jM.touch (i:=2) rfl hx (jM.gr.dD _ (by omega)) (by rw [Hp.GV]; exact Nat.le_refl _)
  rw [← hstep] at htz
  refine ⟨(_,H10.set W (.row 3 true ((dW next b L' s d).set d (int (kS (note L' t) t:Nat))))),⟨rfl,rfl,rfl,rfl,rfl,rfl,rfl,rfl,rfl,rfl,rfl,trivial⟩,⟨rfl,htz.1,htz.2.map (by simp) mI,htz.2.bW mem1 jV,?_⟩,rfl⟩
  show (H10.set W _).at W = _
  rw [Hp.bH _ (Hp.aU yZ),hstep]
 by_cases hin:t ∈ L'
 ·have iQ:note L' t = L':=by unfold note; rw [if_pos hin]
  rw [iQ]
  conv=>whnf
  refine ak.go ?_
  conv=>whnf

  refine gY tM dM t3 z3 Br (k:=t) rfl rfl hM9 (lD hin) ?_
  conv=>whnf
  repeat (refine ak.go ?_; conv=>whnf)
  exact ⟨(_,H9),⟨rfl,rfl,rfl,rfl,rfl,rfl,rfl,rfl,rfl,rfl,rfl,rfl,rfl,trivial⟩,⟨rfl,hz9,hM9,uY,aW9⟩,rfl⟩
 ·have iQ:note L' t = L' ++ [t]:=by unfold note; rw [if_neg hin]
  have hnl:(L' ++ [t]).length = L'.length + 1:=by rw [List.length_append]; rfl
  rw [iQ] at jF ⊢
  conv=>whnf
  refine ak.go ?_
  conv=>whnf

  refine gZ tM dM t3 z3 Br (k:=t) rfl rfl hM9 (qg hin) ?_
  conv=>whnf
  repeat (refine ak.go ?_; conv=>whnf)

  refine iD tM dM Br (k:=t) (v:=int L'.length) rfl rfl rfl hM9 ?_
  intro H10 mI y10
  have htz:=hz9.touch (i:=0) (v:=pl M) rfl (Kx.keeps y10) (y10.grows hz9.gr qh) (by rw [y10.next]; exact Nat.le_refl _)
  have za:=dN.add hin mI
  have jV:=htz.2.bW (v:=slc rs8 0 L'.length L'.length) mem1 uY
  have hMW:M≠W:=fun e=>by
   have:=hz9.sep.ap 3 5 (pl M) (slc W 0 b b) (by decide) rfl rfl M rfl
   exact this (by rw [e]; rfl)
  have yZ:=y10.at_ _ _ (fun e=>hMW e.symm) aW9
  have hzz:=htz.1

  conv=>whnf
  refine hzz.Ke (i:=1) (n:=L'.length) (cl:=fl1 L') (new:=[int t]) rfl jV rfl rfl (by omega) (by omega) ?_
  intro XB H11 rA ze rC zf QM
  obtain ⟨a11,n11,rfl⟩:=rA
  have II:=zf.map (M:=M) (by simp) za
  have XC:=zf.at_ (v:=slc W 0 b b) mem2 rfl yZ
  conv=>whnf
  exact ⟨(_,H11),⟨rfl,rfl,rfl,rfl,rfl,rfl,rfl,rfl,rfl,rfl,rfl,rfl,rfl,trivial⟩,⟨rfl,rC,II,by rw [Y7,hnl]; exact ze,XC⟩,rfl⟩
end
end Go.Proofs.Ytedneplaibmppaa
namespace Go.Proofs.Ytedneplaibmppaa
open Go.Rx Go.RowKit
theorem jD.put {hb H:Hp} {v:Value} {M:jL} (k:jD hb H v M) {R:Nat} (hR:R < hb.next) (o:Rx.Obj):jD hb (H.set R o) v M:=by
 obtain ⟨vo,vn,us,e,h1,h2,h3,h4⟩:=k
 have hx:∀ (e:TypeId) (sz j:Nat) (w:Value) (cs:List Value),bD hb H e sz w j cs→bD hb (H.set R o) e sz w j cs:=fun e sz j w cs hc=>pz hc fun r o2 hr ho=>by
  rw [Hp.bU _ (by have:=(hc.jf r hr).1; omega)]; exact ho
 refine ⟨vo,vn,us,e,hx _ _ _ _ _ h1,hx _ _ _ _ _ h2,h3,fun j u l e1 e2=>?_⟩
 have hb2:=h4 j u l e1 e2
 exact oh hb2 fun r o2 hr ho=>by
  rw [Hp.bU _ (by have:=(hb2.jf r hr).1; omega)]; exact ho
theorem jD.known {h0 h:Hp} {v:Value} {M:jL} (k:jD h0 h v M):∃ a b,v = .agg ⟨[int M.base,.slice a M.out.length M.out.length,.slice b M.next.length M.next.length]⟩:=by
 obtain ⟨vo,vn,us,rfl,h1,h2,h3,_⟩:=k
 obtain ⟨a,rfl,-⟩:=h1.slice
 obtain ⟨b,rfl,-⟩:=h2.slice
 rw [h3]
 exact ⟨a,b,rfl⟩
def stF {κ:Type} [DecidableEq κ] (l:List κ) (c:κ):Option Value:=if c ∈ l then some (int (kS l c:Nat)) else none
def wO (h:Hp) (M:Nat) (l:List Int):Prop:=∃ n,MapAt h M encI (stF l) n
theorem wO.ext {h h':Hp} {M:Nat} {l:List Int} (g:aC h h') (k:wO h M l):wO h' M l:=let ⟨n,k⟩:=k; ⟨n,k.ext g⟩
theorem Y8 {κ:Type} [DecidableEq κ] {l:List κ} {x:κ} (h:x ∈ l) (c:κ):stF l c = stF (l ++ [x]) c:=by
 unfold stF
 by_cases hc:c ∈ l
 ·rw [if_pos hc,if_pos (List.mem_append_left _ hc)]
  unfold kS
  rw [mQ hc]
 ·rw [if_neg hc,if_neg fun k=>by
   rcases List.mem_append.1 k with k | k
   ·exact hc k
   ·rw [List.mem_singleton.1 k] at hc; exact hc h]
theorem Y9 {κ:Type} [DecidableEq κ] {l:List κ} {x:κ} (h:x ∉ l) (c:κ):(if c = x then some (int (l.length:Nat)) else stF l c) = stF (l ++ [x]) c:=by
 unfold stF
 by_cases e:c = x
 ·subst e
  rw [if_pos rfl,if_pos (by simp)]
  unfold kS
  rw [uP h]
 ·rw [if_neg e]
  by_cases hc:c ∈ l
  ·rw [if_pos hc,if_pos (List.mem_append_left _ hc)]
   unfold kS
   rw [mQ hc]
  ·rw [if_neg hc,if_neg fun k=>by
    rcases List.mem_append.1 k with k | k
    ·exact hc k
    ·exact e (List.mem_singleton.1 k)]
theorem XD {m:Mac} (hm:m.Ok) {c:Int} (hc:c ∈ m.cls):m.rep c < m.out.length:=by
 have:=List.idxOf_lt_length_of_mem hc
 rw [Mac.ny hm] at this
 exact this
theorem Sm {m:Mac} {c:Int} (hc:c ∈ m.cls):stF m.cls c = some (int (m.rep c:Nat)):=by
 unfold stF
 rw [if_pos hc]
 rfl
attribute [local irreducible] E iV cellAt bM storeAt callable dz dI dP findKey eD bT Hp.at Hp.set Hp.lay dO dw setAt aJ dA bO dG Rnd gD fK iN Int.tmod Int.tdiv Int.fdiv
section
variable [bE]
attribute [local irreducible] sameAt
theorem Mf (v:Value) (m:Mac) (h:Hp) (hv:MV h v m.i) (hm:m.Ok) (hl:m.out.length≤100000) (hbl:m.base≤1000):aJ E 92 [v] h (fun r h'=>Built h h' 3 r m.cls∧aC h h'):=by
 obtain ⟨bx,rfl,hbx⟩:=hv.box
 obtain ⟨ao,an,co,cn,hcx⟩:=hbx.cx
 have hlenx:=hbx.len
 refine enter92 (by simp) ?_
 conv=>whnf
 refine ak.cut (α:=Hp) (fun _=>[(1,ptr h.next 0)]) (fun x H=>x = H∧aC h H∧H.at h.next = some (.row 25 true bx)) ?_ ?_
 ·conv=>whnf
  exact ⟨_,⟨rfl,trivial⟩,⟨rfl,aC.lay _ _,Hp.aA _ _⟩,rfl⟩
 rintro H φ1 _ ⟨rfl,gH,aX⟩
 have kx:=hcx H h.next 25 gH aX
 have c1:cellAt H h.next 1 = some (.slice ao m.out.length co):=kx.c1
 conv=>whnf
 refine ak.cut (α:=Value×Hp) (fun s=>[(3,s.1),(4,int (m.cnt m.out:Nat)),(1,ptr h.next 0)]) (fun s H2=>s.2 = H2∧aC H s.2∧Built h s.2 3 s.1 (m.ref m.out)) ?_ ?_
 ·conv=>whnf
  refine ⟨_,aM aX hlenx,?_⟩
  conv=>whnf
  refine ⟨_,c1,?_⟩
  conv=>whnf
  refine aJ.mono (Dh _ _ m m.out _ (Bx.mv (hbx.ext gH)) kx.o hm rfl hl hbl) ?_
  rintro _ H2 ⟨⟨u,rfl,hu⟩,g2⟩
  have hub:=hu.c.slice
  obtain ⟨au,rfl,-⟩:=hub
  conv=>whnf
  exact ⟨(_,H2),⟨rfl,rfl,rfl,trivial⟩,⟨rfl,g2,hu.back gH.next⟩,rfl⟩
 rintro ⟨w,H2⟩ φ2 _ ⟨rfl,g2,hw⟩
 dsimp only at g2 hw ⊢
 conv=>whnf
 refine bQ (α:=Nat×List Int×Nat×Value×Hp) (fun s=>[(3,s.2.2.2.1),(4,int (s.2.2.1:Nat)),(1,ptr h.next 0)]) (fun s=>s.2.2.2.2) (fun s=>m.Js s.1 s.2.1 s.2.2.1 = m.cls∧(∃ j,Mac.Good m s.2.1 j s.2.2.1)∧m.out.length + 1≤s.1 + s.2.2.1∧aC H s.2.2.2.2∧Built h s.2.2.2.2 3 s.2.2.2.1 s.2.1) (fun s=>s.1) (m.out.length,m.ref m.out,m.cnt m.out,w,H2) ⟨rfl,⟨1,Mac.Good.start hm⟩,by have:=(Mac.Good.start hm).le; dsimp only; omega,g2,hw⟩ ⟨rfl,rfl,rfl,trivial⟩ (Hp.Le.refl _) ?_
 rintro ⟨f,c,k,w,H3⟩ φ3 ⟨hcl,⟨j,hj⟩,hfk,g3,hw3⟩
 dsimp only at hcl hj hfk g3 hw3 ⊢
 have hkn:k≤m.out.length:=by
  have h2:=hj.cnt
  have h3:=LU ((List.range m.out.length).map fun s=>c.getD s 0)
  rw [List.length_map,List.length_range] at h3
  omega
 have QN:∃ f',f = f' + 1:=⟨f - 1,by omega⟩
 obtain ⟨f,rfl⟩:=QN
 have acY:=Mac.LW m c
 have hge:=Mac.LV m c
 have aX3:=g3.at_ _ _ aX
 have hws:=hw3.c.slice
 obtain ⟨aw,rfl,-⟩:=hws
 unfold Mac.Js at hcl
 conv=>whnf
 refine ak.cut (α:=Value×Hp) (fun s=>[(5,s.1),(6,int (m.cnt c:Nat)),(3,.slice aw c.length c.length),(4,int k),(1,ptr h.next 0)]) (fun s H4=>s.2 = H4∧aC H3 s.2∧Built h s.2 3 s.1 (m.ref c)) ?_ ?_
 ·conv=>whnf
  refine ⟨_,aM aX3 hlenx,?_⟩
  conv=>whnf
  refine aJ.mono (Dh _ _ m c _ (Bx.mv (hbx.ext (gH.trans g3))) hw3.view hm hj.len hl hbl) ?_
  rintro _ H4 ⟨⟨u,rfl,hu⟩,g4⟩
  have hub:=hu.c.slice
  obtain ⟨au,rfl,-⟩:=hub
  conv=>whnf
  exact ⟨(_,H4),⟨rfl,rfl,rfl,rfl,rfl,trivial⟩,⟨rfl,g4,hu.back (gH.trans g3).next⟩,rfl⟩
 rintro ⟨w4,H4⟩ φ4 _ ⟨rfl,g4,hw4⟩
 dsimp only at g4 hw4 ⊢
 have acZ:=hw4.c.slice
 obtain ⟨aw4,rfl,-⟩:=acZ
 conv=>whnf
 repeat (refine ak.go ?_; conv=>whnf)
 refine dB (fun q1=>?_) (fun q1=>?_)
 ·rw [if_pos (by omega)] at hcl
  subst hcl
  conv=>whnf
  repeat (refine ak.go ?_; conv=>whnf)
  exact ⟨hw3.ext g4,(gH.trans g3).trans g4⟩
 ·rw [if_neg (by omega)] at hcl
  have hne:m.cnt c≠k:=fun e=>q1 (by rw [e])
  have hgc:=hj.cnt
  conv=>whnf
  repeat (refine ak.go ?_; conv=>whnf)
  exact Rnd.mk (f,m.ref c,m.cnt c,_,H4) ⟨hcl,⟨j + 1,hj.next hm hne⟩,by show m.out.length + 1≤f + m.cnt c; omega,g3.trans g4,hw4⟩ (by show f < f + 1; omega) ⟨rfl,rfl,rfl,trivial⟩ (Hp.Le.refl _) rfl
theorem QO (m:Mac) (c:Int) (X D4 M:Nat) (bx:List Value) (h H:Hp) (hbx:Bx h bx m.i) (hm:m.Ok) (hc:c ∈ m.cls) (g:aC h H) (aX:H.at X = some (.row 25 true bx)) (a4:cellAt H D4 0 = some (bK M)) (hM:wO H M m.cls):aJ E 93 [int c,ptr X 0,ptr D4 0] H (fun r H'=>r = int (m.Og c)∧aC H H'):=by
 obtain ⟨ao,an,co,cn,hcx⟩:=hbx.cx
 obtain ⟨i3,t3,-,z3⟩:=ty3
 obtain ⟨iM,tM,dM⟩:=OA
 obtain ⟨nM,hM⟩:=hM
 have kx:=hcx H X 25 g aX
 have c1:cellAt H X 1 = some (.slice ao m.out.length co):=kx.c1
 have hr:=XD hm hc
 have ho:=kx.EY hr
 obtain ⟨r,o,sp,rfl,hsp,hco⟩:=ho
 refine enter93 (by simp) ?_
 conv=>whnf
 repeat (refine ak.go ?_; conv=>whnf)
 refine ⟨_,c1,?_⟩
 conv=>whnf
 refine ⟨_,a4,?_⟩
 conv=>whnf
 refine gu tM dM t3 z3 Br (k:=c) rfl rfl hM (Sm hc) ?_
 conv=>whnf
 refine ⟨hsp,⟨by omega,by omega⟩,?_⟩
 conv=>whnf
 refine ⟨_,hco,?_⟩
 conv=>whnf
 repeat (refine ak.go ?_; conv=>whnf)
 exact ⟨rfl,.refl _⟩
theorem QS (m:Mac) (c:Int) (d:Nat) (D3 X D4 M:Nat) (w:Value) (bx:List Value) (h H:Hp) (hbx:Bx h bx m.i) (hm:m.Ok) (hc:c ∈ m.cls) (hd:d < m.base) (g:aC h H) (aX:H.at X = some (.row 25 true bx)) (a3:cellAt H D3 0 = some w) (hw:View H w m.cls) (a4:cellAt H D4 0 = some (bK M)) (hM:wO H M m.cls):aJ E 94 [int c,int d,ptr D3 0,ptr X 0,ptr D4 0] H (fun r H'=>r = int (m.q9 c d)∧aC H H'):=by
 obtain ⟨ao,an,co,cn,hcx⟩:=hbx.cx
 obtain ⟨i3,t3,-,z3⟩:=ty3
 obtain ⟨iM,tM,dM⟩:=OA
 obtain ⟨nM,hM⟩:=hM
 have kx:=hcx H X 25 g aX
 have c2:=kx.c2
 have hil:=hm.yT
 have hr:=XD hm hc
 have hcl:=Mac.ny hm
 have hnx:=kx.lG hm hr hd
 obtain ⟨r,o,sp,r',o',sp',c',rfl,hsp,hc1,Ov,hc2⟩:=hnx
 have hnl:=hm.lt _ d hr hd
 obtain ⟨aw,cw,rfl⟩:=hw.known
 have hwc:=View.iO hw (i:=m.nx (m.rep c) d) (by omega)
 obtain ⟨r2,o2,sp2,rfl,hsp2,-,hcw⟩:=hwc
 refine enter94 (by simp) ?_
 conv=>whnf
 repeat (refine ak.go ?_; conv=>whnf)
 refine ⟨_,a3,?_⟩
 conv=>whnf
 refine ⟨_,c2,?_⟩
 conv=>whnf
 refine ⟨_,a4,?_⟩
 conv=>whnf
 refine gu tM dM t3 z3 Br (k:=c) rfl rfl hM (Sm hc) ?_
 conv=>whnf
 refine ⟨hsp,⟨by omega,by omega⟩,?_⟩
 conv=>whnf
 refine ⟨_,hc1,?_⟩
 conv=>whnf
 refine ⟨Ov,⟨by omega,by omega⟩,?_⟩
 conv=>whnf
 refine ⟨_,hc2,?_⟩
 conv=>whnf
 refine ⟨hsp2,⟨by omega,by omega⟩,?_⟩
 conv=>whnf
 refine ⟨_,hcw,?_⟩
 conv=>whnf
 repeat (refine ak.go ?_; conv=>whnf)
 exact ⟨rfl,.refl _⟩
end
end Go.Proofs.Ytedneplaibmppaa
namespace Go.Proofs.Ytedneplaibmppaa
open Go.Rx Go.RowKit
attribute [local irreducible] E iV cellAt bM storeAt callable dz dI dP findKey eD bT Hp.at Hp.set Hp.lay dO dw setAt aJ dA bO dG Rnd gD fK iN Int.tmod Int.tdiv Int.fdiv
section
variable [bE]
attribute [local irreducible] sameAt lH
theorem UJ (v:Value) (m:Mac) (h:Hp) (hv:MV h v m.i) (hm:m.Ok) (hl:m.out.length≤100000) (hbl:m.base≤1000):aJ E 63 [v] h (fun r h'=>jD h h' r m.form.i∧aC h h'):=by
 obtain ⟨bx,rfl,hbx⟩:=hv.box
 obtain ⟨ao,an,co,cn,hcx⟩:=hbx.cx
 have hlenx:=hbx.len
 have hn1:=hm.n1
 have hcl:=Mac.ny hm
 obtain ⟨i3,t3,-,z3⟩:=ty3
 obtain ⟨iM,tM,dM⟩:=OA
 refine enter63 (by simp) ?_
 conv=>whnf
 refine ak.cut (α:=Hp) (fun _=>[(2,ptr (h.next + 1) 0),(1,ptr h.next 0)]) (fun x H=>x = H∧aC h H∧H.at h.next = some (.row 25 true bx)∧H.at (h.next + 1) = some (.row 25 true [int 0,bg,bg])∧H.next = h.next + 2) ?_ ?_
 ·conv=>whnf
  have n1:(h.lay (.row 25 true bx)).next = h.next + 1:=Hp.bG _ _
  exact ⟨_,⟨congrArg (fun k=>ptr k 0) n1,rfl,trivial⟩,⟨rfl,(aC.lay _ _).bL _,Hp.bC _ (Hp.aA _ _),fM n1 (Hp.aA _ _),by rw [Hp.bG,n1]⟩,rfl⟩
 rintro H φ1 _ ⟨rfl,gH,aX,aR,nH⟩
 conv=>whnf
 refine ak.cut (α:=Value×Nat×Hp) (fun s=>[(3,ptr s.2.1 0),(2,ptr (h.next + 1) 0),(1,ptr h.next 0)]) (fun s H2=>s.2.2 = H2∧aC H s.2.2∧Built h s.2.2 3 s.1 m.cls∧s.2.2.at s.2.1 = some (.row 22 true [s.1])) ?_ ?_
 ·conv=>whnf
  refine ⟨_,aM aX hlenx,?_⟩
  conv=>whnf
  refine aJ.mono (Mf _ m _ (Bx.mv (hbx.ext gH)) hm hl hbl) ?_
  rintro w H2 ⟨hw,g2⟩
  have hws:=hw.c.slice
  obtain ⟨aw,rfl,-⟩:=hws
  conv=>whnf
  refine ⟨rfl,_,cK (vs:=[.slice aw m.cls.length m.cls.length]) rfl rfl rfl,?_⟩
  conv=>whnf
  exact ⟨(_,H2.next,_),⟨rfl,rfl,rfl,trivial⟩,⟨rfl,g2.bL _,(hw.ext (aC.lay _ _)).back gH.next,Hp.aA _ _⟩,rfl⟩
 rintro ⟨w,D3,H2⟩ φ2 _ ⟨rfl,g2,hw,a3⟩
 dsimp only at g2 hw a3 ⊢
 have hws:=hw.c.slice
 obtain ⟨aw,rfl,haw⟩:=hws
 have haw:=haw 0 (by omega)
 obtain ⟨rw,erw,-⟩:=haw
 subst erw
 conv=>whnf
 refine ak.cut (α:=Nat×Nat×Hp) (fun s=>[(4,ptr s.1 0),(3,ptr D3 0),(2,ptr (h.next + 1) 0),(1,ptr h.next 0)]) (fun s H3=>s.2.2 = H3∧aC H2 s.2.2∧s.2.2.at s.1 = some (.row 114 true [bK s.2.1])∧wO s.2.2 s.2.1 []∧s.2.1 < s.1∧H2.next≤s.2.1) ?_ ?_
 ·conv=>whnf
  refine ⟨rfl,_,cK (vs:=[bK H2.next]) rfl rfl rfl,?_⟩
  conv=>whnf
  have n2:(H2.lay (.map [] 0)).next = H2.next + 1:=Hp.bG _ _
  refine ⟨(H2.next + 1,H2.next,_),⟨congrArg (fun k=>ptr k 0) n2,rfl,rfl,rfl,trivial⟩,⟨rfl,(aC.lay _ _).bL _,fM n2 (Hp.aA _ _),⟨0,?_⟩,Nat.lt_succ_self _,Nat.le_refl _⟩,rfl⟩
  exact ((MapAt.new (enc:=encI) H2).ext (aC.lay _ _)).congr fun k=>(if_neg (by simp)).symm
 rintro ⟨D4,M,H3⟩ φ3 _ ⟨rfl,g3,a4,hM3,hMD,qh⟩
 dsimp only at g3 a4 hM3 hMD qh ⊢
 have g23:=g2.trans g3
 have a33:=g3.at_ _ _ a3
 have hlt3:=Hp.aU a3
 have hlt1:=Hp.aU (g2.at_ _ _ aR)
 conv=>whnf
 refine ak.cut (α:=Hp) (fun s=>[(4,ptr D4 0),(3,ptr D3 0),(2,ptr (h.next + 1) 0),(1,ptr h.next 0)]) (fun s H4=>s = H4∧aC H s∧s.at D4 = some (.row 114 true [bK M])∧s.at D3 = some (.row 22 true [slc rw 0 m.cls.length m.cls.length])∧wO s M m.cls∧Built h s 3 (slc rw 0 m.cls.length m.cls.length) m.cls) ?_ ?_
 ·have cl3:cellAt H3 D3 0 = some (slc rw 0 m.cls.length m.cls.length):=aQ a33 rfl
  conv=>whnf
  refine ak.go ?_
  conv=>whnf
  refine ⟨_,cl3,?_⟩
  conv=>whnf
  refine bQ (α:=Nat×Hp) (fun s=>[(16,int s.1),(15,int m.cls.length),(14,slc rw 0 m.cls.length m.cls.length),(4,ptr D4 0),(3,ptr D3 0),(2,ptr (h.next + 1) 0),(1,ptr h.next 0)]) (fun s=>s.2) (fun s=>s.1≤m.cls.length∧aC H s.2∧s.2.at D4 = some (.row 114 true [bK M])∧s.2.at D3 = some (.row 22 true [slc rw 0 m.cls.length m.cls.length])∧wO s.2 M (m.cls.take s.1)∧Built h s.2 3 (slc rw 0 m.cls.length m.cls.length) m.cls) (fun s=>m.cls.length - s.1) (0,H3) ⟨Nat.zero_le _,g23,a4,a33,hM3,hw.ext g3⟩ ⟨rfl,rfl,rfl,rfl,rfl,rfl,rfl,trivial⟩ (Hp.Le.refl _) ?_
  rintro ⟨k,H4⟩ φ4 ⟨hk,g4,b4,b3,hM4,hw4⟩
  dsimp only at hk g4 b4 b3 hM4 hw4 ⊢
  conv=>whnf
  repeat (refine ak.go ?_; conv=>whnf)
  refine dB (fun q1=>?_) (fun q1=>?_)
  rotate_left
  ·have:k = m.cls.length:=by omega
   rw [this,List.take_length] at hM4
   conv=>whnf
   exact ⟨H4,⟨rfl,rfl,rfl,rfl,trivial⟩,⟨rfl,g4,b4,b3,hM4,hw4⟩,rfl⟩
  have hkl:k < m.cls.length:=by omega
  have hvc:=View.iO hw4.view hkl
  obtain ⟨r,o,sp,er,hsp,-,hc⟩:=hvc
  cases er
  have ac0:∃ c,gl m.cls k = c:=⟨_,rfl⟩
  obtain ⟨c,ec⟩:=ac0
  have hck:m.cls[k]? = some c:=by rw [← ec,nA hkl]; exact List.getElem?_eq_getElem hkl
  have htk:=fZ hck
  rw [ec] at hc
  obtain ⟨n4,hM4⟩:=hM4
  have c4:cellAt H4 D4 0 = some (bK M):=aQ b4 rfl
  have htl:(m.cls.take k).length = k:=by rw [List.length_take]; omega
  have Za:M < H4.next:=by have:=Hp.aU b4; omega
  conv=>whnf
  refine ak.go ?_
  conv=>whnf
  refine ak.cut (α:=Hp) (fun s=>[(16,int k),(15,int m.cls.length),(14,slc rw 0 m.cls.length m.cls.length),(4,ptr D4 0),(3,ptr D3 0),(2,ptr (h.next + 1) 0),(1,ptr h.next 0)]) (fun s H5=>s = H5∧aC H s∧s.at D4 = some (.row 114 true [bK M])∧s.at D3 = some (.row 22 true [slc rw 0 m.cls.length m.cls.length])∧wO s M (m.cls.take (k + 1))∧Built h s 3 (slc rw 0 m.cls.length m.cls.length) m.cls) ?_ ?_
  rotate_left
  ·rintro H5 φ5 _ ⟨rfl,g5,b4',b3',hM5,hw5⟩
   conv=>whnf
   refine ⟨((k + 1:Nat):Int),wie (by omega) (by omega),?_⟩
   conv=>whnf
   exact Rnd.mk (k + 1,H5) ⟨by show k + 1≤_; omega,g5,b4',b3',hM5,hw5⟩ (by show _ - (k + 1) < _ - k; omega) ⟨rfl,rfl,rfl,rfl,rfl,rfl,rfl,trivial⟩ (Hp.Le.refl _) rfl
  rw [htk]
  by_cases hin:c ∈ m.cls.take k
  ·have hf:stF (m.cls.take k) c = some (int (kS (m.cls.take k) c:Nat)):=if_pos hin
   conv=>whnf
   refine ak.go ?_
   conv=>whnf
   refine ⟨hsp,⟨by omega,by omega⟩,?_⟩
   conv=>whnf
   refine ⟨_,hc,?_⟩
   conv=>whnf
   refine ak.go ?_
   conv=>whnf
   refine ⟨_,c4,?_⟩
   conv=>whnf
   refine gY tM dM t3 z3 Br (k:=c) rfl rfl hM4 hf ?_
   conv=>whnf
   repeat (refine ak.go ?_; conv=>whnf)
   exact ⟨H4,⟨rfl,rfl,rfl,rfl,rfl,rfl,rfl,trivial⟩,⟨rfl,g4,b4,b3,⟨n4,hM4.congr (Y8 hin)⟩,hw4⟩,rfl⟩
  ·have hf:stF (m.cls.take k) c = none:=if_neg hin
   conv=>whnf
   refine ak.go ?_
   conv=>whnf
   refine ⟨hsp,⟨by omega,by omega⟩,?_⟩
   conv=>whnf
   refine ⟨_,hc,?_⟩
   conv=>whnf
   refine ak.go ?_
   conv=>whnf
   refine ⟨_,c4,?_⟩
   conv=>whnf
   refine gZ tM dM t3 z3 Br (k:=c) rfl rfl hM4 hf ?_
   conv=>whnf
   repeat (refine ak.go ?_; conv=>whnf)
   refine ⟨_,c4,?_⟩
   conv=>whnf
   refine iD tM dM Br (k:=c) (v:=int k) rfl rfl rfl hM4 ?_
   intro H5 hM5 y5
   have hnew:=Y9 hin
   rw [htl] at hnew
   have hrM:rw≠M:=fun e=>by
    subst e
    rcases hw with ⟨e1,_⟩ | ⟨r',e1,h2,x,hr'⟩
    ·cases e1
    ·cases e1
     have:=Hp.aU hr'
     omega
   conv=>whnf
   exact ⟨H5,⟨rfl,rfl,rfl,rfl,rfl,rfl,rfl,trivial⟩,⟨rfl,y5.grows g4 (by have:=g2.next; omega),y5.at_ _ _ (by omega) b4,y5.at_ _ _ (by omega) b3,⟨_,hM5.congr hnew⟩,oh hw4 fun r' o' e1 e2=>y5.at_ _ _ (by cases e1; exact hrM) e2⟩,rfl⟩
 rintro H4 φ4 _ ⟨rfl,g4,b4,b3,hM4,hw4⟩
 have gh4:=gH.trans g4
 have aX4:=g4.at_ _ _ aX
 have aR4:=g4.at_ _ _ aR
 have c0:=(hcx H4 h.next 25 gh4 aX4).c0
 have c3:cellAt H4 D3 0 = some (slc rw 0 m.cls.length m.cls.length):=aQ b3 rfl
 have hv0:=View.iO hw4.view (i:=0) (by omega)
 obtain ⟨r,o,sp,er,hsp,-,hc0⟩:=hv0
 cases er
 have ho:UH 93 [ptr h.next 0,ptr D4 0] encI m.Og m.cls H4:=⟨can93,fun c hc H5 g5=>QO m c h.next D4 M bx h H5 hbx hm hc (gh4.trans g5) (g5.at_ _ _ aX4) (g5.cell (aQ b4 rfl)) (hM4.ext g5)⟩
 have hn:Kg 94 [ptr D3 0,ptr h.next 0,ptr D4 0] encI m.q9 m.base m.cls H4:=⟨can94,fun c hc d hd H5 g5=>QS m c d D3 h.next D4 M _ bx h H5 hbx hm hc hd (gh4.trans g5) (g5.at_ _ _ aX4) (g5.cell c3) (hw4.view.ext g5) (g5.cell (aQ b4 rfl)) (hM4.ext g5)⟩
 have hb:=Me m.base (m.cl 0) m.Og m.q9 m.cls 93 94 _ _ H4 ⟨hm.b1,hbl⟩ (Mac.ru hm) (List.mem_of_getElem? (Mac.pR hm hm.n1)) (by omega) ho hn
 conv=>whnf
 refine ak.go ?_
 conv=>whnf
 refine ak.go ?_
 conv=>whnf
 refine ak.go ?_
 conv=>whnf
 refine ⟨_,c0,?_⟩
 conv=>whnf
 refine ⟨_,c3,?_⟩
 conv=>whnf
 refine ⟨hsp,⟨by omega,by omega⟩,?_⟩
 conv=>whnf
 refine ⟨_,hc0,?_⟩
 conv=>whnf
 refine aJ.mono hb ?_
 rintro w5 H5 ⟨hown,g5⟩
 have hk5:=hown.known
 obtain ⟨a5,b5,rfl⟩:=hk5
 have aR5:=g5.at_ _ _ aR4
 conv=>whnf
 refine ⟨rfl,_,bJ (vs:=[int m.form.i.base,.slice a5 m.form.i.out.length m.form.i.out.length,.slice b5 m.form.i.next.length m.form.i.next.length]) aR5 rfl rfl rfl,?_⟩
 conv=>whnf
 obtain ⟨i25,t25,lI,lJ⟩:=Io
 refine fq (r:=h.next + 1) (o:=0) (cs:=[int m.form.i.base,.slice a5 m.form.i.out.length m.form.i.out.length,.slice b5 m.form.i.next.length m.form.i.next.length]) rfl t25 lI ?_ ?_
 ·rw [lJ]
  exact aM (Hp.bH _ (Hp.aU aR5)) rfl
 ·exact ⟨(hown.put (Hp.aU aR4) _).back gh4.next,(gh4.trans g5).dD _ (by omega)⟩
end
end Go.Proofs.Ytedneplaibmppaa
namespace Go.Proofs.Ytedneplaibmppaa
open Go.Rx
section
variable {S:Type} [DecidableEq S]
theorem qz {next:S→Nat→S} {b:Nat} {s:S} {U:List S} (hU:yQ next b U) (hs:s ∈ U):Whole next b s (bfs next b s):=(D9 hU hs).whole
theorem IJ {next:S→Nat→S} {b:Nat} {s:S} {U:List S} (hU:yQ next b U) (hs:s ∈ U) (out:S→Int) (hb:1≤b):(built b s out next).Ok∧(built b s out next).out.length≤U.length:=by
 refine ⟨(qz hU hs).ok out hb,?_⟩
 unfold built
 rw [Il]
 refine jY (qz hU hs).nodup ?_
 exact (D9 hU hs).all (P:=fun s=>s ∈ U) (fun s h d hd=>hU.cl s h d hd) (fun x hx=>by rw [List.mem_singleton.1 hx]; exact hs)
theorem IK {next:S→Nat→S} {b:Nat} {s:S} {U:List S} (hU:yQ next b U) (hs:s ∈ U) (out:S→Int) {w:List Nat} (hw:Mac.Wd b w):(built b s out next).o ((built b s out next).run 0 w) = out (wG next s w):=(qz hU hs).says (qz hU hs).first hw
theorem Bu {next:S→Nat→S} {b:Nat} {s:S} {U:List S} (hU:yQ next b U) (hs:s ∈ U) {out:S→Int} {P:Int→Prop} (h:∀ s ∈ U,P (out s)):∀ x ∈ (built b s out next).out,P x:=fun x hx=>by
 unfold built yR at hx
 obtain ⟨y,hy,rfl⟩:=List.mem_map.1 hx
 exact h y ((D9 hU hs).all (P:=fun s=>s ∈ U) (fun s h d hd=>hU.cl s h d hd) (fun x hx=>by rw [List.mem_singleton.1 hx]; exact hs) y hy)
theorem Ee {next:S→Nat→S} {b:Nat} {s:S} {U:List S} (hU:yQ next b U) (hs:s ∈ U) {out:S→Int} (hb:1≤b) (h:∀ s ∈ U,out (next s 0) = out s):(built b s out next).Zer:=fun i hi=>by
 unfold built at hi ⊢
 rw [Il] at hi
 have w:=qz hU hs
 have hi':=List.getElem?_eq_getElem hi
 have hm:=List.getElem_mem hi
 have hu:=(D9 hU hs).all (P:=fun s=>s ∈ U) (fun s h d hd=>hU.cl s h d hd) (fun x hx=>by rw [List.mem_singleton.1 hx]; exact hs) _ hm
 rw [LX hi' (by omega),Qw hi',Qw (uQ (w.cl _ hm 0 (by omega)))]
 exact h _ hu
end
def sq (n k:Nat):List (Int×Int):=(List.range n).flatMap fun s:Nat=>(List.range k).map fun c:Nat=>((s:Int),(c:Int))
theorem iX {n k:Nat} {p:Int×Int}:p ∈ sq n k↔(0≤p.1∧p.1 < n)∧(0≤p.2∧p.2 < k):=by
 unfold sq
 rw [List.mem_flatMap]
 constructor
 ·rintro ⟨s,hs,h⟩
  obtain ⟨c,hc,rfl⟩:=List.mem_map.1 h
  have:=List.mem_range.1 hs
  have:=List.mem_range.1 hc
  dsimp only
  omega
 ·rintro ⟨⟨h1,h2⟩,h3,h4⟩
  refine ⟨p.1.toNat,List.mem_range.2 (by omega),List.mem_map.2 ⟨p.2.toNat,List.mem_range.2 (by omega),?_⟩⟩
  obtain ⟨a,b⟩:=p
  dsimp only at h1 h3 ⊢
  rw [Prod.mk.injEq]
  omega
theorem Kh (k:Nat):∀ l:List Nat,(l.map fun _=>k).sum = l.length * k
 | []=>by simp
 | x :: l=>by rw [List.map_cons,List.sum_cons,Kh k l,List.length_cons,Nat.add_mul]; omega
theorem wP (n k:Nat):(sq n k).length = n * k:=by
 unfold sq
 rw [List.length_flatMap]
 have h:=Kh k (List.range n)
 rw [List.length_range] at h
 rw [← h]
 simp
namespace Mac
def nK (m:Mac) (step:Nat) (p:Int×Int) (d:Nat):Int×Int:=((m.nx p.1.toNat ((step * d + p.2.toNat) % m.base):Nat),((step * d + p.2.toNat) / m.base:Nat))
def IL (m:Mac) (p:Int×Int):Int:=m.at_ p.1.toNat p.2.toNat
noncomputable def every (m:Mac) (step from_:Nat):Mac:=built m.base (0,(from_:Int)) m.IL (m.nK step)
theorem qA {m:Mac} (hm:m.Ok) {step B:Nat} (hB:step≤B):yQ (m.nK step) m.base (sq m.out.length (B + 1)):=⟨fun p hp d hd=>by
 have h:=iX.1 hp
 refine iX.2 ?_
 unfold nK
 dsimp only
 have hb:=hm.b1
 have h1:=hm.lt p.1.toNat ((step * d + p.2.toNat) % m.base) (by omega) (Nat.mod_lt _ (by omega))
 have h2:(step * d + p.2.toNat) / m.base≤B:=by
  have h3:step * d≤B * (m.base - 1):=Nat.mul_le_mul hB (by omega)
  have h4:B * (m.base - 1) + B = B * m.base:=by
   obtain ⟨c,hc⟩:∃ c,m.base = c + 1:=⟨m.base - 1,by omega⟩
   rw [hc,Nat.add_sub_cancel,Nat.mul_add,Nat.mul_one]
  have h5:(step * d + p.2.toNat) / m.base≤(B * m.base) / m.base:=Nat.div_le_div_right (by omega)
  rw [Nat.mul_div_cancel _ (by omega)] at h5
  exact h5
 have Bp:∃ q,(step * d + p.2.toNat) / m.base = q:=⟨_,rfl⟩
 obtain ⟨q,eq⟩:=Bp
 rw [eq] at h2 ⊢
 omega⟩
theorem qB {m:Mac} (hm:m.Ok) {f B:Nat} (hf:f≤B):((0:Int),(f:Int)) ∈ sq m.out.length (B + 1):=iX.2 (by have:=hm.n1; dsimp only; omega)
theorem pE {m:Mac} (hm:m.Ok) (step f:Nat):(m.every step f).Ok∧(m.every step f).out.length≤m.out.length * (max step f + 1):=by
 have:=IJ (qA hm (Nat.le_max_left step f)) (qB hm (Nat.le_max_right step f)) m.IL hm.b1
 rw [wP] at this
 exact this
theorem Ag {m:Mac} (hm:m.Ok) (hb:2≤m.base) (hz:m.Zer) (step:Nat):∀ (w:List Nat) (p:Int×Int),Wd m.base w→0≤p.1→p.1 < m.out.length→m.IL (wG (m.nK step) p w) = m.at_ p.1.toNat (step * val m.base w + p.2.toNat)
 | [],p,_,_,_=>by show m.at_ _ _ = m.at_ _ (step * 0 + _); rw [Nat.mul_zero,Nat.zero_add]; rfl
 | d :: w,p,hw,h0,h1=>by
  have hd:=hw d (by simp)
  have hl:=hm.lt p.1.toNat ((step * d + p.2.toNat) % m.base) (by omega) (Nat.mod_lt _ (by omega))
  have ih:=Ag hm hb hz step w (m.nK step p d) (fun x hx=>hw x (by simp [hx])) (by unfold nK; dsimp only; omega) (by unfold nK; dsimp only; omega)
  show m.IL (wG (m.nK step) (m.nK step p d) w) = _
  rw [ih]
  unfold nK
  dsimp only
  rw [Int.toNat_natCast,Int.toNat_natCast,← Sd hm hb hz (by omega) (Nat.mod_lt _ (by omega))]
  congr 1
  show _ = step * (d + m.base * val m.base w) + p.2.toNat
  have e:=Nat.mod_add_div (step * d + p.2.toNat) m.base
  rw [Nat.mul_add,Nat.mul_add]
  have e2:m.base * (step * val m.base w) = step * (m.base * val m.base w):=by rw [Nat.mul_left_comm]
  omega
theorem Ef {m:Mac} (hm:m.Ok) (hb:2≤m.base) (hz:m.Zer) (step f:Nat):(m.every step f).Zer:=Ee (qA hm (Nat.le_max_left step f)) (qB hm (Nat.le_max_right step f)) hm.b1 fun p hp=>by
 have h:=iX.1 hp
 have h1:=Ag hm hb hz step [0] p (by intro x hx; rw [List.mem_singleton.1 hx]; omega) h.1.1 h.1.2
 have h2:=Ag hm hb hz step [] p (by simp [Wd]) h.1.1 h.1.2
 have e:val m.base [0] = 0:=by simp [val]
 rw [e] at h1
 exact h1.trans h2.symm
theorem zh {m:Mac} (hm:m.Ok) (hb:2≤m.base) (hz:m.Zer) (step f n:Nat):(m.every step f).at_ 0 n = m.at_ 0 (step * n + f):=by
 have h:=IK (qA hm (Nat.le_max_left step f)) (qB hm (Nat.le_max_right step f)) m.IL (w:=dg m.base n) (wX hb n)
 have h2:=Ag hm hb hz step (dg m.base n) (0,(f:Int)) (wX hb n) (by dsimp only; omega) (by have:=hm.n1; dsimp only; omega)
 rw [Xh hb] at h2
 exact h.trans h2
end Mac
end Go.Proofs.Ytedneplaibmppaa
namespace Go.Proofs.Ytedneplaibmppaa
open Go.Rx Go.RowKit
abbrev noM:Value:=.agg ⟨[int 0,bg,bg]⟩
def uZ (h h':Hp) (r:Value) (m:Mac):Prop:=∃ u e,r = .tuple ⟨[u,int e]⟩∧(m.form.out.length≤12→e = 0∧jD h h' u m.form.i)∧(12 < m.form.out.length→e = 8∧u = noM)
theorem uZ.back {h1 h h':Hp} {r:Value} {m:Mac} (g:h1.next≤h.next) (k:uZ h h' r m):uZ h1 h' r m:=by
 obtain ⟨u,e,rfl,h1,h2⟩:=k
 exact ⟨u,e,rfl,fun q=>⟨(h1 q).1,(h1 q).2.back g⟩,h2⟩
theorem aaL {a b c:Nat} (h:a≤b * c) (hb:b≤12) (hc:c≤1001):a≤100000:=by
 have:=Nat.mul_le_mul hb hc
 omega
attribute [local irreducible] E iV cellAt bM storeAt callable dz dI dP findKey eD bT Hp.at Hp.set Hp.lay dO dw setAt aJ dA bO dG Rnd gD fK iN Int.tmod Int.tdiv Int.fdiv
section
variable [bE]
attribute [local irreducible] sameAt lH
theorem OL (m:Mac) (p:Int×Int) (X:Nat) (bx:List Value) (h H:Hp) (hbx:Bx h bx m.i) (hm:OkS m) (hp:(0≤p.1∧p.1 < m.out.length)∧0≤p.2∧p.2 < 100000) (g:aC h H) (aX:H.at X = some (.row 25 true bx)):aJ E 95 [dH p,ptr X 0] H (fun r H'=>r = int (m.IL p)∧aC H H'):=by
 obtain ⟨a,c⟩:=p
 obtain ⟨⟨h1,h2⟩,h3,h4⟩:=hp
 dsimp only at h1 h2 h3 h4
 obtain ⟨s,rfl⟩:∃ s:Nat,a = s:=⟨a.toNat,by omega⟩
 obtain ⟨k,rfl⟩:∃ k:Nat,c = k:=⟨c.toNat,by omega⟩
 have hlen:=hbx.len
 have aP:(H.lay (.row 136 true [int s,int k])).at H.next = some (.row 136 true [int s,int k]):=Hp.aA _ _
 have g1:aC H (H.lay (.row 136 true [int s,int k])):=aC.lay _ _
 unfold dH
 refine enter95 (by simp) ?_
 conv=>whnf
 refine ak.go ?_
 conv=>whnf
 refine ak.go ?_
 conv=>whnf
 refine ⟨_,aM (g1.at_ _ _ aX) hlen,?_⟩
 conv=>whnf
 refine ⟨_,aQ aP rfl,?_⟩
 conv=>whnf
 refine ⟨_,aQ aP rfl,?_⟩
 conv=>whnf
 refine aJ.mono (FL _ m s k _ (Bx.mv (hbx.ext (g.trans g1))) hm.ok hm.b25 (by omega) (by have:=hm.n12; omega) (by omega)) ?_
 rintro r H2 ⟨rfl,g2⟩
 conv=>whnf
 exact Ia rfl rfl ⟨rfl,g1.trans g2⟩
theorem OM (m:Mac) (p:Int×Int) (step d:Nat) (S4 X:Nat) (bx:List Value) (h H:Hp) (hbx:Bx h bx m.i) (hm:OkS m) (hp:(0≤p.1∧p.1 < m.out.length)∧0≤p.2∧p.2 < 100000) (hst:step≤1000) (hd:d < m.base) (g:aC h H) (aX:H.at X = some (.row 25 true bx)) (a4:cellAt H S4 0 = some (int step)):aJ E 96 [dH p,int d,ptr S4 0,ptr X 0] H (fun r H'=>r = dH (m.nK step p d)∧aC H H'):=by
 obtain ⟨a,c⟩:=p
 obtain ⟨⟨h1,h2⟩,h3,h4⟩:=hp
 dsimp only at h1 h2 h3 h4
 obtain ⟨s,rfl⟩:∃ s:Nat,a = s:=⟨a.toNat,by omega⟩
 obtain ⟨k,rfl⟩:∃ k:Nat,c = k:=⟨c.toNat,by omega⟩
 obtain ⟨ao,an,co,cn,hcx⟩:=hbx.cx
 have hb5:=hm.b5
 have hb2:=hm.b2
 have g1:aC H ((H.lay (.row 136 true [int s,int k])).lay (.row 136 true [int 0,int 0])):=(aC.lay _ _).bL _
 have n1:(H.lay (.row 136 true [int s,int k])).next = H.next + 1:=Hp.bG _ _
 have aP:((H.lay (.row 136 true [int s,int k])).lay (.row 136 true [int 0,int 0])).at H.next = some (.row 136 true [int s,int k]):=Hp.bC _ (Hp.aA _ _)
 have aR:((H.lay (.row 136 true [int s,int k])).lay (.row 136 true [int 0,int 0])).at (H.next + 1) = some (.row 136 true [int 0,int 0]):=fM n1 (Hp.aA _ _)
 unfold dH
 refine enter96 (by simp) ?_
 conv=>whnf
 refine ak.cut (α:=Hp) (fun _=>[(4,ptr H.next 0),(6,ptr (H.next + 1) 0),(1,int d),(2,ptr S4 0),(3,ptr X 0)]) (fun x H2=>x = H2∧aC H x∧x.at H.next = some (.row 136 true [int s,int k])∧x.at (H.next + 1) = some (.row 136 true [int 0,int 0])) ?_ ?_
 ·conv=>whnf
  exact ⟨_,⟨rfl,congrArg (fun k=>ptr k 0) n1,rfl,rfl,rfl,trivial⟩,⟨rfl,g1,aP,aR⟩,rfl⟩
 rintro H2 φ1 _ ⟨rfl,g2,aP,aR⟩
 have b4:=g2.cell a4
 have kx:=hcx H2 X 25 (g.trans g2) (g2.at_ _ _ aX)
 have c0:cellAt H2 X 0 = some (int (m.base:Int)):=kx.c0
 have c2:=kx.c2
 have hil:=hm.ok.yT
 have hmul:step * d≤1000 * 5:=Nat.mul_le_mul hst (by omega)
 have XE:(step:Int) * (d:Int) = ((step * d:Nat):Int):=by rw [Int.natCast_mul]
 have IQ:∃ u,step * d = u:=⟨_,rfl⟩
 obtain ⟨u,eu⟩:=IQ
 have eE:m.nK step ((s:Int),(k:Int)) d = (((m.nx s ((u + k) % m.base):Nat):Int),(((u + k) / m.base:Nat):Int)):=by
  unfold Mac.nK
  dsimp only
  rw [Int.toNat_natCast,Int.toNat_natCast,eu]
 rw [eE]
 rw [eu] at hmul XE
 have em:=nu (u + k) m.base
 have ed:=uN (u + k) m.base
 have hml:=Nat.mod_lt (u + k) (show m.base > 0 by omega)
 have hdl:=Nat.div_le_self (u + k) m.base
 have Bp:∃ q,(u + k) / m.base = q:=⟨_,rfl⟩
 obtain ⟨q,eq⟩:=Bp
 have Eh:∃ r,(u + k) % m.base = r:=⟨_,rfl⟩
 obtain ⟨r,er⟩:=Eh
 rw [eq] at ed hdl ⊢
 rw [er] at em hml ⊢
 have hnx:=kx.lG hm.ok (s:=s) (d:=r) (by omega) hml
 obtain ⟨r1,o1,sp1,r2,o2,sp2,c2',rfl,hsp1,hc1,hsp2,hc2⟩:=hnx
 conv=>whnf
 refine ak.cut (α:=Unit) (fun _=>[(7,int (u + k:Nat)),(4,ptr H.next 0),(6,ptr (H.next + 1) 0),(3,ptr X 0)]) (fun _ H3=>H2 = H3) ?_ ?_
 ·conv=>whnf
  refine ⟨_,b4,?_⟩
  conv=>whnf
  refine ⟨(u:Int),wie XE (by omega),?_⟩
  conv=>whnf
  refine ⟨_,aQ aP rfl,?_⟩
  conv=>whnf
  refine ⟨((u + k:Nat):Int),wie (by omega) (by omega),?_⟩
  conv=>whnf
  exact ⟨(),⟨rfl,rfl,rfl,rfl,trivial⟩,rfl,rfl⟩
 rintro _ φ2 _ rfl
 conv=>whnf
 refine ak.go ?_
 conv=>whnf
 refine ⟨_,c2,?_⟩
 conv=>whnf
 refine ⟨_,aQ aP rfl,?_⟩
 conv=>whnf
 refine ⟨hsp1,⟨by omega,by omega⟩,?_⟩
 conv=>whnf
 refine ⟨_,hc1,?_⟩
 conv=>whnf
 refine ⟨_,c0,?_⟩
 conv=>whnf
 refine ⟨by show (m.base:Int)≠0; omega,?_⟩
 conv=>whnf
 rw [em]
 refine ⟨hsp2,⟨by omega,by omega⟩,?_⟩
 conv=>whnf
 refine ⟨_,hc2,?_⟩
 conv=>whnf
 refine ⟨_,c0,?_⟩
 conv=>whnf
 refine ⟨by show (m.base:Int)≠0; omega,(q:Int),wie ed (by omega),?_⟩
 conv=>whnf
 refine ⟨rfl,_,bJ (vs:=[int (m.nx s r),int q]) aR rfl rfl rfl,?_⟩
 conv=>whnf
 have hs:(kW Try.prog 136).isSome = true:=by kernel_rfl
 refine fq (i:=(kW Try.prog 136).get hs) (r:=H.next + 1) (o:=0) (cs:=[int (m.nx s r),int q]) rfl (nZ (by kernel_rfl) (Option.some_get hs).symm) (by kernel_rfl) ?_ ?_
 ·rw [show ((kW Try.prog 136).get hs).size = 2 from by kernel_rfl]
  exact aM (Hp.bH _ (Hp.aU aR)) rfl
 ·exact ⟨rfl,g2.dD _ (by omega)⟩
theorem Bv (v:Value) (m:Mac) (step from_:Nat) (h:Hp) (hv:MV h v m.i) (hm:OkS m) (hs:step≤1000) (hf:from_≤1000):aJ E 67 [v,int step,int from_] h (fun r h'=>jD h h' r (m.every step from_).i∧aC h h'):=by
 obtain ⟨bx,rfl,hbx⟩:=hv.box
 obtain ⟨ao,an,co,cn,hcx⟩:=hbx.cx
 have hb5:=hm.b5
 refine enter67 (by simp) ?_
 conv=>whnf
 refine ak.cut (α:=Hp) (fun _=>[(3,ptr h.next 0),(4,ptr (h.next + 1) 0),(6,ptr (h.next + 2) 0),(2,int from_)]) (fun x H=>x = H∧aC h x∧x.at h.next = some (.row 25 true bx)∧x.at (h.next + 1) = some (.row 3 true [int step])∧x.at (h.next + 2) = some (.row 25 true [int 0,bg,bg])) ?_ ?_
 ·conv=>whnf
  have n1:(h.lay (.row 25 true bx)).next = h.next + 1:=Hp.bG _ _
  have n2:((h.lay (.row 25 true bx)).lay (.row 3 true [int step])).next = h.next + 2:=by rw [Hp.bG,n1]
  exact ⟨_,⟨rfl,congrArg (fun k=>ptr k 0) n1,congrArg (fun k=>ptr k 0) n2,rfl,trivial⟩,⟨rfl,((aC.lay _ _).bL _).bL _,Hp.bC _ (Hp.bC _ (Hp.aA _ _)),Hp.bC _ (fM n1 (Hp.aA _ _)),fM n2 (Hp.aA _ _)⟩,rfl⟩
 rintro H φ1 _ ⟨rfl,gH,aX,aS,aR⟩
 have c0:=(hcx H h.next 25 gH aX).c0
 have hU:∀ p ∈ sq m.out.length (1000 + 1),(0≤p.1∧p.1 < (m.out.length:Int))∧0≤p.2∧p.2 < 100000:=fun p hp=>by have:=iX.1 hp; omega
 have ho:UH 95 [ptr h.next 0] dH m.IL (sq m.out.length (1000 + 1)) H:=⟨can95,fun p hp H5 g5=>OL m p h.next bx h H5 hbx hm (hU p hp) (gH.trans g5) (g5.at_ _ _ aX)⟩
 have hn:Kg 96 [ptr (h.next + 1) 0,ptr h.next 0] dH (m.nK step) m.base (sq m.out.length (1000 + 1)) H:=⟨can96,fun p hp d hd H5 g5=>OM m p step d (h.next + 1) h.next bx h H5 hbx hm (hU p hp) hs hd (gH.trans g5) (g5.at_ _ _ aX) (g5.cell (aQ aS rfl))⟩
 have hb:=Md m.base (0,(from_:Int)) m.IL (m.nK step) (sq m.out.length (1000 + 1)) 95 96 _ _ H ⟨hm.ok.b1,by omega⟩ (Mac.qA hm.ok hs) (Mac.qB hm.ok hf) (by rw [wP]; have:=hm.n12; have:=Nat.mul_le_mul this (Nat.le_refl 1001); omega) ho hn
 conv=>whnf
 refine ak.go ?_
 conv=>whnf
 refine ak.go ?_
 conv=>whnf
 refine ak.go ?_
 conv=>whnf
 refine ⟨_,c0,?_⟩
 conv=>whnf
 refine aJ.mono hb ?_
 rintro w5 H5 ⟨hown,g5⟩
 have XF:∃ m',built m.base (0,(from_:Int)) m.IL (m.nK step) = m':=⟨_,rfl⟩
 obtain ⟨m',em⟩:=XF
 rw [em] at hown
 have em':m.every step from_ = m':=em
 rw [em']
 have hk5:=hown.known
 obtain ⟨a5,b5,rfl⟩:=hk5
 have aR5:=g5.at_ _ _ aR
 conv=>whnf
 refine ⟨rfl,_,bJ (vs:=[int m'.i.base,.slice a5 m'.i.out.length m'.i.out.length,.slice b5 m'.i.next.length m'.i.next.length]) aR5 rfl rfl rfl,?_⟩
 conv=>whnf
 obtain ⟨i25,t25,lI,lJ⟩:=Io
 refine fq (r:=h.next + 2) (o:=0) (cs:=[int m'.i.base,.slice a5 m'.i.out.length m'.i.out.length,.slice b5 m'.i.next.length m'.i.next.length]) rfl t25 lI ?_ ?_
 ·rw [lJ]
  exact aM (Hp.bH _ (Hp.aU aR5)) rfl
 ·exact ⟨(hown.put (Hp.aU aR) _).back gH.next,(gH.trans g5).dD _ (by omega)⟩
theorem EM (v:Value) (m:Mac) (h:Hp) (hv:MV h v m.i) (hm:m.Ok) (hl:m.out.length≤100000) (hbl:m.base≤1000):aJ E 66 [v] h (fun r h'=>uZ h h' r m∧aC h h'):=by
 obtain ⟨bx,rfl,hbx⟩:=hv.box
 have hlenx:=hbx.len
 refine enter66 (by simp) ?_
 conv=>whnf
 refine ak.cut (α:=Hp) (fun _=>[(3,int 0),(2,ptr (h.next + 1) 0),(1,ptr h.next 0)]) (fun x H=>x = H∧aC h H∧H.at h.next = some (.row 25 true bx)∧H.at (h.next + 1) = some (.row 25 true [int 0,bg,bg])) ?_ ?_
 ·conv=>whnf
  have n1:(h.lay (.row 25 true bx)).next = h.next + 1:=Hp.bG _ _
  exact ⟨_,⟨rfl,congrArg (fun k=>ptr k 0) n1,rfl,trivial⟩,⟨rfl,(aC.lay _ _).bL _,Hp.bC _ (Hp.aA _ _),fM n1 (Hp.aA _ _)⟩,rfl⟩
 rintro H φ1 _ ⟨rfl,gH,aX,aR⟩
 have IU:=Hp.aU aR
 conv=>whnf
 refine ak.cut (α:=List Value×Nat×Hp) (fun s=>[(4,ptr s.2.1 0),(3,int 0),(2,ptr (h.next + 1) 0),(1,ptr h.next 0)]) (fun s H2=>s.2.2 = H2∧aC H s.2.2∧jD H s.2.2 (.agg ⟨s.1⟩) m.form.i∧s.2.2.at s.2.1 = some (.row 25 true s.1)) ?_ ?_
 ·conv=>whnf
  refine ⟨_,aM aX hlenx,?_⟩
  conv=>whnf
  refine aJ.mono (UJ _ m _ (Bx.mv (hbx.ext gH)) hm hl hbl) ?_
  rintro w H2 ⟨hw,g2⟩
  have hk:=hw.known
  obtain ⟨a2,b2,rfl⟩:=hk
  conv=>whnf
  refine ⟨rfl,_,cK (vs:=[int m.form.i.base,.slice a2 m.form.i.out.length m.form.i.out.length,.slice b2 m.form.i.next.length m.form.i.next.length]) rfl rfl rfl,?_⟩
  conv=>whnf
  exact ⟨(_,H2.next,_),⟨rfl,rfl,rfl,rfl,trivial⟩,⟨rfl,g2.bL _,hw.ext (aC.lay _ _),Hp.aA _ _⟩,rfl⟩
 rintro ⟨cs,D4,H2⟩ φ2 _ ⟨rfl,g2,hw,a4⟩
 dsimp only at g2 hw a4 ⊢
 have gh2:=gH.trans g2
 have hk:=hw.known
 obtain ⟨a2,b2,ecs⟩:=hk
 have ecs:cs = [int m.form.i.base,.slice a2 m.form.i.out.length m.form.i.out.length,.slice b2 m.form.i.next.length m.form.i.next.length]:=by injection ecs with e; injection e
 subst ecs
 have c1:cellAt H2 D4 1 = some (.slice a2 m.form.i.out.length m.form.i.out.length):=aQ a4 rfl
 have aR2:=g2.at_ _ _ aR
 obtain ⟨i25,t25,lI,lJ⟩:=Io
 have efl:m.form.i.out.length = m.form.out.length:=rfl
 by_cases hle:m.form.out.length≤12
 ·conv=>whnf
  refine ak.cut (α:=Unit) (fun _=>[(4,ptr D4 0),(3,int 0),(2,ptr (h.next + 1) 0)]) (fun _ H3=>H2 = H3) ?_ ?_
  ·conv=>whnf
   refine ak.go ?_
   conv=>whnf
   refine ⟨_,c1,?_⟩
   conv=>whnf
   refine yH (by omega) ?_
   conv=>whnf
   exact ⟨(),⟨rfl,rfl,rfl,trivial⟩,rfl,rfl⟩
  rintro _ φ3 _ rfl
  conv=>whnf
  refine ak.go ?_
  conv=>whnf
  refine ⟨_,aM a4 rfl,?_⟩
  conv=>whnf
  refine ⟨rfl,_,bJ (vs:=[int m.form.i.base,.slice a2 m.form.i.out.length m.form.i.out.length,.slice b2 m.form.i.next.length m.form.i.next.length]) aR2 rfl rfl rfl,?_⟩
  conv=>whnf
  refine fu (r:=h.next + 1) (o:=0) (cs:=[int m.form.i.base,.slice a2 m.form.i.out.length m.form.i.out.length,.slice b2 m.form.i.next.length m.form.i.next.length]) (w:=int 0) rfl rfl rfl t25 lI ?_ ?_
  ·rw [lJ]
   exact aM (Hp.bH _ (Hp.aU aR2)) rfl
  ·exact ⟨⟨_,0,rfl,fun _=>⟨rfl,(hw.put IU _).back gH.next⟩,fun q=>by omega⟩,gh2.dD _ (by omega)⟩
 ·conv=>whnf
  refine ak.go ?_
  conv=>whnf
  refine ak.go ?_
  conv=>whnf
  refine ⟨_,c1,?_⟩
  conv=>whnf
  refine yG (by omega) ?_
  conv=>whnf
  refine ak.go ?_
  conv=>whnf
  refine ⟨rfl,_,bJ (vs:=[int 0,bg,bg]) aR2 rfl rfl rfl,?_⟩
  conv=>whnf
  refine fu (r:=h.next + 1) (o:=0) (cs:=[int 0,bg,bg]) (w:=int 8) rfl rfl rfl t25 lI ?_ ?_
  ·rw [lJ]
   exact aM (Hp.bH _ (Hp.aU aR2)) rfl
  ·exact ⟨⟨_,8,rfl,fun q=>absurd q hle,fun _=>⟨rfl,rfl⟩⟩,gh2.dD _ (by omega)⟩
end
end Go.Proofs.Ytedneplaibmppaa
