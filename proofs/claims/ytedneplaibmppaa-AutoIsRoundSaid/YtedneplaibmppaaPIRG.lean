/- Contracts of the functions that PIRG comes to. -/
import Derived.Test.YtedneplaibmppaaPIRF
set_option maxRecDepth 100000
set_option maxHeartbeats 2000000
set_option linter.unusedVariables false
set_option linter.unusedSectionVars false
set_option linter.unusedSimpArgs false
namespace Go.Proofs.Ytedneplaibmppaa
open Go.Rx Go.RowKit
theorem O6 {f p n:Nat} (hp:0 < p):iF (f + p) f n = if n < f + p then n else f + (n - f) % p:=by
 unfold iF
 rw [Nat.add_sub_cancel_left]
 by_cases h:n < f
 ·rw [if_pos h,if_pos (by omega)]
 ·rw [if_neg h]
  by_cases h2:n < f + p
  ·rw [if_pos h2,Nat.mod_eq_of_lt (by omega)]; omega
  ·rw [if_neg h2]
theorem Zy {l r:List Int} {i:Nat} (h:i < l.length):gl (l ++ r) i = gl l i:=by
 unfold gl
 rw [List.getD_eq_getElem?_getD,List.getD_eq_getElem?_getD,List.getElem?_append_left h]
theorem Zz {l r:List Int} {i:Nat} (h:l.length≤i):gl (l ++ r) i = gl r (i - l.length):=by
 unfold gl
 rw [List.getD_eq_getElem?_getD,List.getD_eq_getElem?_getD,List.getElem?_append_right h]
attribute [local irreducible] E iV cellAt bM storeAt callable dz dI dP findKey eD bT Hp.at Hp.set Hp.lay dO dw setAt aJ dA bO dG Rnd gD fK iN Int.tmod Int.tdiv Int.fdiv
section
variable [bE]
attribute [local irreducible] jZ sameAt
theorem wS (n f p:Nat) (h:Hp) (hp:0 < p) (hn:n≤1000000) (hf:f≤1000000) (hpb:p≤1000000):aJ E 86 [int n,int f,int p] h (fun r h'=>r = int (iF (f + p) f n:Nat)∧h' = h):=by
 have ef:=O6 (f:=f) (n:=n) hp
 have ed:=nu (n - f) p
 have hml:=Nat.mod_lt (n - f) hp
 have Bp:∃ q,(n - f) % p = q:=⟨_,rfl⟩
 obtain ⟨q,eq⟩:=Bp
 rw [eq] at ef ed hml
 refine enter86 (by simp) ?_
 conv=>whnf
 refine ak.go ?_
 conv=>whnf
 refine ak.go ?_
 conv=>whnf
 refine ak.go ?_
 conv=>whnf
 refine ⟨((f + p:Nat):Int),wie (by omega) (by omega),?_⟩
 conv=>whnf
 refine dB (fun q1=>?_) (fun q1=>?_)
 ·conv=>whnf
  repeat (refine ak.go ?_; conv=>whnf)
  rw [ef,if_pos (by omega)]
  exact ⟨rfl,rfl⟩
 rw [if_neg (by omega)] at ef
 conv=>whnf
 repeat (refine ak.go ?_; conv=>whnf)
 refine ⟨((n - f:Nat):Int),wie (by omega) (by omega),?_⟩
 conv=>whnf
 refine ⟨by omega,?_⟩
 conv=>whnf
 rw [ed]
 refine ⟨((f + q:Nat):Int),wie (by omega) (by omega),?_⟩
 conv=>whnf
 repeat (refine ak.go ?_; conv=>whnf)
 rw [ef]
 exact ⟨rfl,rfl⟩
end
end Go.Proofs.Ytedneplaibmppaa
namespace Go.Proofs.Ytedneplaibmppaa
open Go.Rx Go.RowKit
attribute [local irreducible] E iV cellAt bM storeAt callable dz dI dP findKey eD bT Hp.at Hp.set Hp.lay dO dw setAt aJ dA bO dG Rnd gD fK iN Int.tmod Int.tdiv Int.fdiv
section
variable [bE]
attribute [local irreducible] jZ sameAt lH
theorem O7 (va vb:Value) (la lb:List Int) (bb:Nat) (h:Hp) (hva:View h va la) (hvb:View h vb lb) (hlb:1≤lb.length) (hLL:la.length + lb.length≤100) (hbb:1≤bb∧bb≤10):aJ E 51 [int bb,va,vb] h (fun r h'=>jD h h' r (mR bb (la ++ lb) la.length).i∧aC h h'):=by
 obtain ⟨av,cv,rfl⟩:=hva.known
 obtain ⟨bv,dv,rfl⟩:=hvb.known
 have hLn:(la ++ lb).length = la.length + lb.length:=List.length_append
 have hff:la.length < (la ++ lb).length:=by omega
 have hU0:=zl (b:=bb) hff
 have acg:=zm hff
 have Zu:=wP (la ++ lb).length (la ++ lb).length
 have ad8:(la ++ lb).length * (la ++ lb).length≤100 * 100:=Nat.mul_le_mul (by omega) (by omega)
 have Ir:∃ next,nextR (la ++ lb).length la.length bb = next:=⟨_,rfl⟩
 obtain ⟨next,uW⟩:=Ir
 have X8:∃ out,Jw (la ++ lb) = out:=⟨_,rfl⟩
 obtain ⟨out,OY⟩:=X8
 have QN:∃ f1,iF (la ++ lb).length la.length 1 = f1:=⟨_,rfl⟩
 obtain ⟨f1,ef1⟩:=QN
 have OZ:built bb ((f1:Int),(0:Int)) out next = mR bb (la ++ lb) la.length:=by rw [← OY,← uW,← ef1]; rfl
 rw [uW] at hU0
 rw [ef1] at acg
 have X9:∃ U,sq (la ++ lb).length (la ++ lb).length = U:=⟨_,rfl⟩
 obtain ⟨U,eU⟩:=X9
 have hsq:∀ p ∈ U,(0≤p.1∧p.1 < (la ++ lb).length)∧(0≤p.2∧p.2 < (la ++ lb).length):=fun p hp=>by rw [← eU] at hp; exact iX.1 hp
 have hU:=hU0
 have hs0:=acg
 rw [eU] at hU hs0 Zu
 have hUl:U.length≤1000000:=by omega
 obtain ⟨i3,t3,-,z3⟩:=ty3
 obtain ⟨iM,tM,dM⟩:=Si
 refine enter51 (by simp) ?_
 conv=>whnf
 refine ak.cut (α:=Hp) (fun _=>[(6,ptr h.next 0),(0,int bb),(1,.slice av la.length cv),(2,.slice bv lb.length dv)]) (fun x H=>x = H∧aC h H∧H.at h.next = some (.row 26 true [int 0,bg,bg])∧H.next = h.next + 1) ?_ ?_
 ·conv=>whnf
  exact ⟨_,⟨rfl,rfl,rfl,rfl,trivial⟩,⟨rfl,aC.lay _ _,Hp.aA _ _,Hp.bG _ _⟩,rfl⟩
 rintro H φ1 _ ⟨rfl,gH,aR,nH⟩
 have vA:=hva.ext gH
 have vB:=hvb.ext gH
 have IU:=Hp.aU aR
 have Ya:∃ RR,h.next = RR:=⟨_,rfl⟩
 obtain ⟨RR,eRR⟩:=Ya
 rw [eRR] at aR IU ⊢
 have hRh:h.next≤RR:=by omega
 conv=>whnf
 refine ak.cut (α:=Unit) (fun _=>[(6,ptr RR 0),(0,int bb),(1,.slice av la.length cv),(2,.slice bv lb.length dv),(7,int la.length),(8,int lb.length)]) (fun x H2=>H = H2) ?_ ?_
 ·conv=>whnf
  exact ⟨(),⟨rfl,rfl,rfl,rfl,rfl,rfl,trivial⟩,rfl,rfl⟩
 rintro _ ad9 _ rfl
 conv=>whnf
 refine ak.cut (α:=Hp) (fun _=>[(9,slc H.next 0 1 1),(6,ptr RR 0),(0,int bb),(1,.slice av la.length cv),(2,.slice bv lb.length dv),(7,int la.length),(8,int lb.length)]) (fun x H2=>x = H2∧aC H H2∧H2.at H.next = some (.row 64 true [int f1,int 0])∧H2.next = H.next + 1) ?_ ?_
 ·conv=>whnf
  refine aJ.mono (wS 1 la.length lb.length _ (by omega) (by omega) (by omega) (by omega)) ?_
  rintro _ H' ⟨rfl,eH⟩
  have eH:=eH.symm
  subst eH
  rw [← hLn,ef1]
  conv=>whnf
  exact ⟨_,⟨rfl,rfl,rfl,rfl,rfl,rfl,rfl,trivial⟩,⟨rfl,aC.lay _ _,Hp.aA _ _,Hp.bG _ _⟩,rfl⟩
 rintro H2 φ2 _ ⟨rfl,g2,a2,n2⟩
 conv=>whnf
 refine ak.cut (α:=Hp) (fun _=>[(10,bK H2.next),(9,slc H.next 0 1 1),(6,ptr RR 0),(0,int bb),(1,.slice av la.length cv),(2,.slice bv lb.length dv),(7,int la.length),(8,int lb.length)]) (fun x H3=>x = H3∧aC H2 H3∧dN H3 H2.next dH [((f1:Int),(0:Int))]) ?_ ?_
 ·conv=>whnf
  refine ⟨rfl,⟨by omega,by omega⟩,?_⟩
  conv=>whnf
  refine ⟨_,(show bM (H2.lay (.map [] 0)) H.next (iy 0 0 2) 2 = some [int f1,int 0] from aM (Hp.bC _ a2) rfl),?_⟩
  conv=>whnf
  refine kR tM dM EJ (k:=((f1:Int),(0:Int))) (v:=int 0) (n:=0) rfl rfl rfl (MapAt.new _) ?_
  intro H4 hM4 y4
  have gl4:aC H2 (H2.lay (.map [] 0)):=aC.lay _ _
  have gk4:aC H2 H4:=⟨by rw [y4.next]; exact gl4.next,fun r o e=>y4.at_ r o (by have:=Hp.aU e; omega) (gl4.at_ r o e)⟩
  conv=>whnf
  exact ⟨H4,⟨rfl,rfl,rfl,rfl,rfl,rfl,rfl,rfl,trivial⟩,⟨rfl,gk4,hM4.congr fun k=>by
   unfold fN
   by_cases e:k = ((f1:Int),(0:Int))
   ·rw [if_pos e,if_pos (by rw [e]; simp),e]; simp
   ·rw [if_neg e,if_neg (by simpa using e)]⟩,rfl⟩
 rintro H3 φ3 _ ⟨rfl,g3,hM3⟩
 have EZ:H2.next < H3.next:=by
  obtain ⟨_,_,h1,_⟩:=hM3
  exact Hp.aU h1
 conv=>whnf
 refine ak.cut (α:=Hp) (fun q=>[(11,ptr H3.next 0),(10,bK H2.next),(9,slc H.next 0 1 1),(6,ptr RR 0),(0,int bb),(1,.slice av la.length cv),(2,.slice bv lb.length dv),(7,int la.length),(8,int lb.length)]) (fun q H6=>q = H6∧aC H3 H6∧H6.at H3.next = some (.row 26 true [int bb,bg,bg])) ?_ ?_
 ·conv=>whnf
  refine ⟨rfl,_,cK (vs:=[int bb,bg,bg]) rfl rfl rfl,?_⟩
  conv=>whnf
  exact ⟨_,⟨rfl,rfl,rfl,rfl,rfl,rfl,rfl,rfl,rfl,trivial⟩,⟨rfl,aC.lay _ _,Hp.aA _ _⟩,rfl⟩
 rintro H6 φ6 _ ⟨rfl,g6,a6⟩
 have wI:∃ Z,H3.next = Z:=⟨_,rfl⟩
 obtain ⟨Z,eZ⟩:=wI
 have Eh:∃ r6,H.next = r6:=⟨_,rfl⟩
 obtain ⟨r6,er6⟩:=Eh
 have Mc:∃ M,H2.next = M:=⟨_,rfl⟩
 obtain ⟨M,eM⟩:=Mc
 have hRr:RR < r6:=by omega
 rw [eZ] at a6 EZ ⊢
 rw [er6] at a2 n2 ⊢
 rw [eM] at hM3 EZ n2 ⊢
 have Rf:=Hp.aU a6
 have g36:=(g2.trans g3).trans g6
 have hz6:MZ H H6 26 Z bg bg [] [] [] [int bb,bg,bg] [pl M,slc r6 0 1 1]:=⟨g36,a6,bD.nil,bD.nil,rfl,fun k u l e=>by simp at e,by omega,Ut Rf (by omega) (by omega) (by omega) (by omega) (by omega) 1 1⟩
 have hM6:dN H6 M dH [((f1:Int),(0:Int))]:=hM3.ext g6
 have nE:bD H H6 64 2 (slc r6 0 1 1) [((f1:Int),(0:Int))].length (fl2 [((f1:Int),(0:Int))]):=⟨rfl,.inr ⟨r6,rfl,by omega,true,g6.at_ _ _ (g3.at_ _ _ a2)⟩⟩
 have Jy:=hz6.more (.refl _) (v:=bg) fun r e=>by cases e
 have qh:H.next≤M:=by omega
 have hq0:=Bq.start hU hs0
 clear a6 g6 g36 hM3 a2
 conv=>whnf
 refine ak.cut (α:=Value×Value×List Value×List Int×List (List Int)×Hp) (fun q=>[(11,ptr Z 0),(6,ptr RR 0)]) (fun q H7=>q.2.2.2.2.2 = H7∧∃ rs,MZ H q.2.2.2.2.2 26 Z q.1 q.2.1 q.2.2.2.1 q.2.2.1 q.2.2.2.2.1 [int bb,q.1,q.2.1] rs∧(mR bb (la ++ lb) la.length).i = ⟨bb,q.2.2.2.1,q.2.2.2.2.1⟩) ?_ ?_
 rotate_left
 ·rintro ⟨ov,nv,us,O,N,H7⟩ φ7 _ ⟨rfl,rs,hz7,ef⟩
  dsimp only at hz7 ef ⊢
  have hov:=hz7.jE
  obtain ⟨ax,rfl⟩:=hov
  have hnv:=hz7.jh
  obtain ⟨ay,rfl⟩:=hnv
  have aR7:=hz7.gr.at_ _ _ aR
  conv=>whnf
  repeat (refine ak.go ?_; conv=>whnf)
  refine ⟨_,aM hz7.z rfl,?_⟩
  conv=>whnf
  refine ⟨rfl,_,bJ (vs:=[int bb,.slice ax O.length O.length,.slice ay N.length N.length]) aR7 rfl rfl rfl,?_⟩
  conv=>whnf
  repeat (refine ak.go ?_; conv=>whnf)
  obtain ⟨iR,tR,agR,szR⟩:=Qz
  refine fq (r:=RR) (o:=0) (cs:=[int bb,.slice ax O.length O.length,.slice ay N.length N.length]) rfl tR agR ?_ ?_
  ·rw [szR]
   exact aM (Hp.bH _ (Hp.aU aR7)) rfl
  ·rw [ef]
   exact hz7.leave (h:=h) (R:=RR) (by omega) (by omega) gH bb (.row 26 true [int bb,.slice ax O.length O.length,.slice ay N.length N.length])
 conv=>whnf
 repeat (refine ak.go ?_; conv=>whnf)
 refine bQ (α:=List (Int×Int)×Nat×Value×Value×Value×List Value×Hp) (fun q=>[(12,int q.2.1),(11,ptr Z 0),(10,bK M),(9,q.2.2.1),(6,ptr RR 0),(0,int bb),(1,.slice av la.length cv),(2,.slice bv lb.length dv),(7,int la.length),(8,int lb.length)]) (fun q=>q.2.2.2.2.2.2) (fun q=>Bq next bb ((f1:Int),(0:Int)) U q.1 q.2.1∧MZ H q.2.2.2.2.2.2 26 Z q.2.2.2.1 q.2.2.2.2.1 ((q.1.take q.2.1).map out) q.2.2.2.2.2.1 (rowsOf next bb q.1 q.2.1) [int bb,q.2.2.2.1,q.2.2.2.2.1] [pl M,q.2.2.1,bg]∧dN q.2.2.2.2.2.2 M dH q.1∧bD H q.2.2.2.2.2.2 64 2 q.2.2.1 q.1.length (fl2 q.1)) (fun q=>2000000 - q.2.1) ([((f1:Int),(0:Int))],0,slc r6 0 1 1,bg,bg,[],H6) ⟨hq0,Jy,hM6,nE⟩ ⟨rfl,rfl,rfl,rfl,rfl,rfl,rfl,rfl,rfl,rfl,trivial⟩ (Hp.Le.refl _) ?_
 rintro ⟨L,a,u6,ov,nv,us,G⟩ φ7 ⟨hq,hz,hM,hst⟩
 dsimp only at hq hz hM hst ⊢
 clear hz6 hM6 nE Jy hq0
 have QL:=hq.few
 have Rh:=hq.le
 have hsk:=hst.slice
 obtain ⟨au,eu,-⟩:=hsk
 subst eu
 conv=>whnf
 repeat (refine ak.go ?_; conv=>whnf)
 refine dB (fun q1=>?_) (fun q1=>?_)
 rotate_left
 ·have hbd:=hq.done (by omega)
  have ea:a = L.length:=by omega
  subst ea
  rw [List.take_length] at hz
  conv=>whnf
  repeat (refine ak.go ?_; conv=>whnf)
  exact ⟨(ov,nv,us,L.map out,rowsOf next bb L L.length,G),⟨rfl,rfl,trivial⟩,⟨rfl,_,hz,by rw [← OZ]; exact Af hbd⟩,rfl⟩
 have haL:a < L.length:=by omega
 have tF:∃ s,L[a]? = some s:=⟨_,List.getElem?_eq_getElem haL⟩
 obtain ⟨s,hs⟩:=tF
 have hsU:=hq.sub s (List.mem_of_getElem? hs)
 have hOl:((L.take a).map out).length = a:=by rw [List.length_map,List.length_take]; omega
 have hNl:(rowsOf next bb L a).length = a:=by unfold rowsOf; rw [List.length_map,List.length_take]; omega
 have hq2:=hq.next hU hs
 have hsc:=Rn hst hs
 obtain ⟨rst,IC,hsc1,hsc2⟩:=hsc
 cases IC
 have hpr:∃ s1 s2:Nat,s = ((s1:Int),(s2:Int))∧s1 < (la ++ lb).length∧s2 < (la ++ lb).length:=by
  have h1:=hsq s hsU
  obtain ⟨p1,p2⟩:=s
  dsimp only at h1
  exact ⟨p1.toNat,p2.toNat,by rw [Int.toNat_of_nonneg (by omega),Int.toNat_of_nonneg (by omega)],by omega,by omega⟩
 obtain ⟨s1,s2,es,acd⟩:=hpr
 rw [es] at hsc1 hsc2
 dsimp only at hsc1 hsc2
 conv=>whnf
 refine ak.go ?_
 conv=>whnf
 refine ak.cut (α:=Unit) (fun q=>[(13,int s1),(14,int s2),(12,int a),(11,ptr Z 0),(10,bK M),(9,slc rst 0 L.length L.length),(6,ptr RR 0),(0,int bb),(1,.slice av la.length cv),(2,.slice bv lb.length dv),(7,int la.length),(8,int lb.length)]) (fun q H7=>G = H7) ?_ ?_
 ·conv=>whnf
  refine ⟨rfl,⟨by omega,by omega⟩,?_⟩
  conv=>whnf
  refine ⟨⟨by omega,by omega⟩,?_⟩
  conv=>whnf
  refine ⟨_,hsc1,?_⟩
  conv=>whnf
  refine ⟨rfl,⟨by omega,by omega⟩,?_⟩
  conv=>whnf
  refine ⟨⟨by omega,by omega⟩,?_⟩
  conv=>whnf
  refine ⟨_,hsc2,?_⟩
  conv=>whnf
  exact ⟨(),⟨rfl,rfl,rfl,rfl,rfl,rfl,rfl,rfl,rfl,rfl,rfl,rfl,trivial⟩,rfl,rfl⟩
 rintro _ φ8 _ rfl
 clear hsc1 hsc2
 conv=>whnf
 refine ak.go ?_
 conv=>whnf
 refine ak.cut (α:=Value×Value×Hp) (fun q=>[(15,q.2.1),(13,int s1),(14,int s2),(12,int a),(11,ptr Z 0),(10,bK M),(9,q.1),(6,ptr RR 0),(0,int bb),(1,.slice av la.length cv),(2,.slice bv lb.length dv),(7,int la.length),(8,int lb.length)]) (fun q H7=>q.2.2 = H7∧MZ H q.2.2 26 Z ov nv ((L.take a).map out) us (rowsOf next bb L a) [int bb,ov,nv] [pl M,q.1,q.2.1]∧dN q.2.2 M dH (notes L (bR next s bb))∧bD H q.2.2 64 2 q.1 (notes L (bR next s bb)).length (fl2 (notes L (bR next s bb)))∧bD H q.2.2 3 1 q.2.1 (rowOf next bb (notes L (bR next s bb)) s).length ((rowOf next bb (notes L (bR next s bb)) s).map int)) ?_ ?_
 ·conv=>whnf
  repeat (refine ak.go ?_; conv=>whnf)
  refine bQ (α:=Nat×Value×Value×Hp) (fun q=>[(16,int q.1),(15,q.2.2.1),(13,int s1),(14,int s2),(12,int a),(11,ptr Z 0),(10,bK M),(9,q.2.1),(6,ptr RR 0),(0,int bb),(1,.slice av la.length cv),(2,.slice bv lb.length dv),(7,int la.length),(8,int lb.length)]) (fun q=>q.2.2.2) (fun q=>q.1≤bb∧MZ H q.2.2.2 26 Z ov nv ((L.take a).map out) us (rowsOf next bb L a) [int bb,ov,nv] [pl M,q.2.1,q.2.2.1]∧dN q.2.2.2 M dH (notes L (bR next s q.1))∧bD H q.2.2.2 64 2 q.2.1 (notes L (bR next s q.1)).length (fl2 (notes L (bR next s q.1)))∧bD H q.2.2.2 3 1 q.2.2.1 (rowOf next q.1 (notes L (bR next s q.1)) s).length ((rowOf next q.1 (notes L (bR next s q.1)) s).map int)) (fun q=>bb - q.1) (0,_,bg,G) ⟨Nat.zero_le _,hz,hM,hst,bD.nil⟩ ⟨rfl,rfl,rfl,rfl,rfl,rfl,rfl,rfl,rfl,rfl,rfl,rfl,rfl,rfl,trivial⟩ (Hp.Le.refl _) ?_
  rintro ⟨d,u,w,K⟩ φ9 ⟨hd,hzK,hMK,huK,hwK⟩
  dsimp only at hd hzK hMK huK hwK ⊢
  have hpre:=fH (bR next s d) L
  obtain ⟨r8,e8⟩:=hpre
  have yX:=gN hU hq hsU hd
  have yY:∀ j,j < d→next s j ∈ notes L (bR next s d):=fun j hj=>fI (qy hj)
  have hsucc:notes L (bR next s (d + 1)) = note (notes L (bR next s d)) (next s d):=by rw [jl,iE]
  have I8:∃ L',notes L (bR next s d) = L':=⟨_,rfl⟩
  obtain ⟨L',eL'⟩:=I8
  rw [eL'] at hMK huK hwK e8 yX yY hsucc
  have hus:=huK.slice
  obtain ⟨au2,eu2,-⟩:=hus
  subst eu2
  have Bz:=hwK.slice
  obtain ⟨aw2,ew2,-⟩:=Bz
  rw [qC] at ew2
  subst ew2
  conv=>whnf
  repeat (refine ak.go ?_; conv=>whnf)
  refine dB (fun q2=>?_) (fun q2=>?_)
  rotate_left
  ·have:d = bb:=by omega
   subst this
   conv=>whnf
   repeat (refine ak.go ?_; conv=>whnf)
   exact ⟨(_,_,K),⟨rfl,rfl,rfl,rfl,rfl,rfl,rfl,rfl,rfl,rfl,rfl,rfl,rfl,trivial⟩,⟨rfl,hzK,by rw [eL']; exact hMK,by rw [eL']; exact huK,by rw [eL']; exact hwK⟩,rfl⟩
  have hd':d < bb:=by omega
  have jF:=gN hU hq hsU (d:=d + 1) (by omega)
  rw [hsucc] at jF
  have hext:∃ t,next s d = t:=⟨_,rfl⟩
  obtain ⟨t,et⟩:=hext
  rw [et] at jF hsucc
  conv=>whnf
  refine ak.go ?_
  conv=>whnf
  have eE:t = (((iF (la.length + lb.length) la.length (s1 * bb):Nat):Int),((iF (la.length + lb.length) la.length (s2 + s1 * d):Nat):Int)):=by
   rw [← et,← uW,es,← hLn]
   unfold nextR
   dsimp only
   rw [Int.toNat_natCast,Int.toNat_natCast]
  have hm1:s1 * bb≤100 * 10:=Nat.mul_le_mul (by omega) (by omega)
  have hm2:s1 * d≤100 * 10:=Nat.mul_le_mul (by omega) (by omega)
  have em1:(s1:Int) * (bb:Int) = ((s1 * bb:Nat):Int):=by rw [Int.natCast_mul]
  have em2:(s1:Int) * (d:Int) = ((s1 * d:Nat):Int):=by rw [Int.natCast_mul]
  have IQ:∃ u,s1 * bb = u:=⟨_,rfl⟩
  obtain ⟨u1,eu1⟩:=IQ
  have IQ:∃ u,s1 * d = u:=⟨_,rfl⟩
  obtain ⟨u2,eu2⟩:=IQ
  rw [eu1] at hm1 em1 eE
  rw [eu2] at hm2 em2 eE
  refine ak.cut (α:=Nat×Hp) (fun q=>[(17,ptr q.1 0),(16,int d),(15,.slice aw2 d d),(13,int s1),(14,int s2),(12,int a),(11,ptr Z 0),(10,bK M),(9,.slice au2 L'.length L'.length),(6,ptr RR 0),(0,int bb),(1,.slice av la.length cv),(2,.slice bv lb.length dv),(7,int la.length),(8,int lb.length)]) (fun q H7=>q.2 = H7∧aC K q.2∧q.2.at q.1 = some (.row 64 true [int t.1,int t.2])∧K.next≤q.1) ?_ ?_
  ·conv=>whnf
   rw [eE]
   refine ⟨(u1:Int),wie em1 (by omega),?_⟩
   conv=>whnf
   refine aJ.mono (wS u1 la.length lb.length _ (by omega) (by omega) (by omega) (by omega)) ?_
   rintro _ H' ⟨rfl,eH⟩
   have eH:=eH.symm
   subst eH
   conv=>whnf
   refine ⟨(u2:Int),wie em2 (by omega),?_⟩
   conv=>whnf
   refine ⟨((s2 + u2:Nat):Int),wie (by omega) (by omega),?_⟩
   conv=>whnf
   refine aJ.mono (wS (s2 + u2) la.length lb.length _ (by omega) (by omega) (by omega) (by omega)) ?_
   rintro _ H' ⟨rfl,eH⟩
   have eH:=eH.symm
   subst eH
   conv=>whnf
   refine ⟨rfl,_,cK (vs:=[int (iF (la.length + lb.length) la.length u1:Nat),int (iF (la.length + lb.length) la.length (s2 + u2):Nat)]) rfl rfl rfl,?_⟩
   conv=>whnf
   exact ⟨(K.next,_),⟨rfl,rfl,rfl,rfl,rfl,rfl,rfl,rfl,rfl,rfl,rfl,rfl,rfl,rfl,rfl,trivial⟩,⟨rfl,aC.lay _ _,Hp.aA _ _,Nat.le_refl _⟩,rfl⟩
  rintro ⟨x15,K9⟩ E5 _ ⟨rfl,g9,aK,IG⟩
  dsimp only at g9 aK IG ⊢
  have ZT:M < K.next:=by
   obtain ⟨_,_,h1,_⟩:=hMK
   exact Hp.aU h1
  have hz9:=hzK.ext g9
  have hM9:=hMK.ext g9
  have hu9:=huK.ext g9
  have hw9:=hwK.ext g9
  have ace:ad (.slice au2 L'.length L'.length)≠some x15:=fun e=>by
   have h1:=(huK.jf x15 e).2
   omega
  clear hzK hMK huK hwK
  conv=>whnf
  refine ak.cut (α:=Nat×Bool×Hp) (fun q=>[(18,int q.1),(19,.bool q.2.1),(17,ptr x15 0),(16,int d),(15,.slice aw2 d d),(13,int s1),(14,int s2),(12,int a),(11,ptr Z 0),(10,bK M),(9,.slice au2 L'.length L'.length),(6,ptr RR 0),(0,int bb),(1,.slice av la.length cv),(2,.slice bv lb.length dv),(7,int la.length),(8,int lb.length)]) (fun q H7=>q.2.2 = H7∧aC K9 H7∧(t ∈ L'→q.1 = kS L' t∧q.2.1 = true)∧(t ∉ L'→q.1 = L'.length∧q.2.1 = false)) ?_ ?_
  ·conv=>whnf
   refine ⟨_,aM aK rfl,?_⟩
   conv=>whnf
   refine aJ.mono (wR au2 L'.length L'.length M L' t K9 hM9 rfl) ?_
   rintro r H9 ⟨hr,g10⟩
   by_cases hin:t ∈ L'
   ·have hr:=hr.1 hin
    subst hr
    conv=>whnf
    exact ⟨(kS L' t,true,H9),⟨rfl,rfl,rfl,rfl,rfl,rfl,rfl,rfl,rfl,rfl,rfl,rfl,rfl,rfl,rfl,rfl,rfl,trivial⟩,⟨rfl,g10,fun _=>⟨rfl,rfl⟩,fun q=>absurd hin q⟩,rfl⟩
   ·have hr:=hr.2 hin
    subst hr
    conv=>whnf
    exact ⟨(L'.length,false,H9),⟨rfl,rfl,rfl,rfl,rfl,rfl,rfl,rfl,rfl,rfl,rfl,rfl,rfl,rfl,rfl,rfl,rfl,trivial⟩,⟨rfl,g10,fun q=>absurd q hin,fun _=>⟨rfl,rfl⟩⟩,rfl⟩
  rintro ⟨kx,isb,K9⟩ Ri _ ⟨rfl,g10,hin1,hin2⟩
  dsimp only at g10 hin1 hin2 ⊢
  have hz9:=hz9.ext g10
  have hM9:=hM9.ext g10
  have hu9:=hu9.ext g10
  have hw9:=hw9.ext g10
  have aK:=g10.at_ _ _ aK
  clear g10
  conv=>whnf
  refine ak.cut (α:=Value×Hp) (fun q=>[(18,int (kS (note L' t) t:Nat)),(16,int d),(15,.slice aw2 d d),(13,int s1),(14,int s2),(12,int a),(11,ptr Z 0),(10,bK M),(9,q.1),(6,ptr RR 0),(0,int bb),(1,.slice av la.length cv),(2,.slice bv lb.length dv),(7,int la.length),(8,int lb.length)]) (fun q H7=>q.2 = H7∧MZ H q.2 26 Z ov nv ((L.take a).map out) us (rowsOf next bb L a) [int bb,ov,nv] [pl M,q.1,.slice aw2 d d]∧dN q.2 M dH (note L' t)∧bD H q.2 64 2 q.1 (note L' t).length (fl2 (note L' t))∧bD H q.2 3 1 (.slice aw2 d d) (rowOf next d L' s).length ((rowOf next d L' s).map int)) ?_ ?_
  ·by_cases hin:t ∈ L'
   ·have iQ:note L' t = L':=by unfold note; rw [if_pos hin]
    have hk:=hin1 hin
    obtain ⟨hk1,hk2⟩:=hk
    subst hk1
    subst hk2
    rw [iQ]
    conv=>whnf
    refine ak.go ?_
    conv=>whnf
    repeat (refine ak.go ?_; conv=>whnf)
    exact ⟨(_,K9),⟨rfl,rfl,rfl,rfl,rfl,rfl,rfl,rfl,rfl,rfl,rfl,rfl,rfl,rfl,rfl,trivial⟩,⟨rfl,hz9,hM9,hu9,hw9⟩,rfl⟩
   ·have iQ:note L' t = L' ++ [t]:=by unfold note; rw [if_neg hin]
    have hnl:(L' ++ [t]).length = L'.length + 1:=by rw [List.length_append]; rfl
    have hix:kS (L' ++ [t]) t = L'.length:=uP hin
    have hk:=hin2 hin
    obtain ⟨hk1,hk2⟩:=hk
    subst hk1
    subst hk2
    rw [iQ] at jF ⊢
    rw [hix]
    conv=>whnf
    refine ak.go ?_
    conv=>whnf
    repeat (refine ak.go ?_; conv=>whnf)
    refine ⟨_,aM aK rfl,?_⟩
    conv=>whnf
    refine iD tM dM EJ (k:=t) (v:=int L'.length) rfl rfl rfl hM9 ?_
    intro K10 mI y10
    have htz:=hz9.touch (i:=0) (v:=pl M) rfl (Kx.keeps y10) (y10.grows hz9.gr qh) (by rw [y10.next]; exact Nat.le_refl _)
    have za:=dN.add hin mI
    have jV:=htz.2.bW (v:=.slice au2 L'.length L'.length) (by simp) hu9
    have Yb:=htz.2.bW (v:=.slice aw2 d d) (by simp) hw9
    have hzz:=htz.1
    have wN:K10.at x15 = some (.row 64 true [int t.1,int t.2]):=y10.at_ _ _ (by omega) aK
    conv=>whnf
    repeat (refine ak.go ?_; conv=>whnf)
    refine ⟨_,aM wN rfl,?_⟩
    conv=>whnf
    refine hzz.Ke (i:=1) (n:=L'.length) (cl:=fl2 L') (new:=[int t.1,int t.2]) rfl jV rfl rfl (by omega) (by omega) ?_
    intro XB K11 rA ze rC zf QM
    obtain ⟨a11,n11,rfl⟩:=rA
    have II:=zf.map (M:=M) (by simp) za
    have Yc:=zf.bW (v:=.slice aw2 d d) (by simp) Yb
    conv=>whnf
    exact ⟨(_,K11),⟨rfl,rfl,rfl,rfl,rfl,rfl,rfl,rfl,rfl,rfl,rfl,rfl,rfl,rfl,rfl,trivial⟩,⟨rfl,rC,II,by rw [Ae,hnl]; exact ze,Yc⟩,rfl⟩
  rintro ⟨u2,K1⟩ aa8 _ ⟨rfl,hz1,hM1,hu1,hw1⟩
  dsimp only at hz1 hM1 hu1 hw1 ⊢
  have y8:=pq L' t
  obtain ⟨r10,e10⟩:=y8
  have hrs:=BA (next:=next) (s:=s) yY e10
  rw [et] at hrs
  have Rj:=hu1.slice
  obtain ⟨au3,eu3,-⟩:=Rj
  subst eu3
  have hrl:(rowOf next d L' s).length = d:=qC
  conv=>whnf
  refine hz1.J9 (i:=2) rfl hw1 (by omega) ?_
  intro w' K2 hw' hb2 hz2' kv2
  obtain ⟨a9,n9,rfl⟩:=hw'
  have Mr:=kv2.map (M:=M) (by simp) hM1
  have hu2:=kv2.bW (v:=.slice au3 (note L' t).length (note L' t).length) (by simp) hu1
  rw [← hrs] at hb2
  conv=>whnf
  repeat (refine ak.go ?_; conv=>whnf)
  refine ⟨((d + 1:Nat):Int),wie (by omega) (by omega),?_⟩
  conv=>whnf
  exact Rnd.mk (d + 1,_,_,K2) ⟨by show d + 1≤bb; omega,hz2',by show dN K2 M dH (notes L (bR next s (d + 1))); rw [hsucc]; exact Mr,by show bD H K2 64 2 _ (notes L (bR next s (d + 1))).length (fl2 (notes L (bR next s (d + 1)))); rw [hsucc]; exact hu2,by show bD H K2 3 1 _ (rowOf next (d + 1) (notes L (bR next s (d + 1))) s).length ((rowOf next (d + 1) (notes L (bR next s (d + 1))) s).map int); rw [hsucc]; exact hb2⟩ (by show bb - (d + 1) < bb - d; omega) ⟨rfl,rfl,rfl,rfl,rfl,rfl,rfl,rfl,rfl,rfl,rfl,rfl,rfl,rfl,trivial⟩ (Hp.Le.refl _) rfl
 rintro ⟨u2,w2,K⟩ φ9 _ ⟨rfl,hzK,hMK,huK,hwK⟩
 dsimp only at hzK hMK huK hwK ⊢
 clear hz hM hst
 have hpre:=fH (bR next s bb) L
 obtain ⟨r8,e8⟩:=hpre
 have hrows:=mH hq.met hq.le e8
 have O1:outs next bb s = bR next s bb:=rfl
 rw [O1] at hq2
 have rz:∃ L',notes L (bR next s bb) = L':=⟨_,rfl⟩
 obtain ⟨L',eL'⟩:=rz
 rw [eL'] at hMK huK hwK hq2 e8 hrows
 have uX:L'[a]? = some s:=by rw [e8,List.getElem?_append_left haL]; exact hs
 have htk:L'.take a = L.take a:=by rw [e8,List.take_append_of_le_length Rh]
 have eO:((L.take a).map out) ++ [out s] = (L'.take (a + 1)).map out:=by rw [fZ uX,List.map_append,htk]; rfl
 have eN:rowsOf next bb L a ++ [rowOf next bb L' s] = rowsOf next bb L' (a + 1):=by
  rw [← hrows]
  unfold rowsOf
  rw [fZ uX,List.map_append]; rfl
 have hus:=huK.slice
 obtain ⟨au2,eu2,-⟩:=hus
 subst eu2
 have Bz:=hwK.slice
 obtain ⟨aw2,ew2,-⟩:=Bz
 subst ew2
 have hov:=hzK.jE
 obtain ⟨ax,eov⟩:=hov
 subst eov
 have hnv:=hzK.jh
 obtain ⟨ay,env⟩:=hnv
 subst env
 have z1:=aQ (o:=1) hzK.z rfl
 have z2:=aQ (o:=2) hzK.z rfl
 conv=>whnf
 refine ak.cut (α:=Unit) (fun q=>[(20,.slice ax ((L.take a).map out).length ((L.take a).map out).length),(21,.slice ay (rowsOf next bb L a).length (rowsOf next bb L a).length),(15,.slice aw2 (rowOf next bb L' s).length (rowOf next bb L' s).length),(13,int s1),(14,int s2),(12,int a),(11,ptr Z 0),(10,bK M),(9,.slice au2 L'.length L'.length),(6,ptr RR 0),(0,int bb),(1,.slice av la.length cv),(2,.slice bv lb.length dv),(7,int la.length),(8,int lb.length)]) (fun q H7=>K = H7) ?_ ?_
 ·conv=>whnf
  refine ⟨_,z1,?_⟩
  conv=>whnf
  refine ⟨_,z2,?_⟩
  conv=>whnf
  exact ⟨(),⟨rfl,rfl,rfl,rfl,rfl,rfl,rfl,rfl,rfl,rfl,rfl,rfl,rfl,rfl,rfl,trivial⟩,rfl,rfl⟩
 rintro _ E5 _ rfl
 have eos:gl (la ++ lb) s2 = out s:=by
  rw [← OY,es]
  unfold Jw
  dsimp only
  rw [Int.toNat_natCast]
 conv=>whnf
 refine ak.cut (α:=Value×Hp) (fun q=>[(21,.slice ay (rowsOf next bb L a).length (rowsOf next bb L a).length),(15,.slice aw2 (rowOf next bb L' s).length (rowOf next bb L' s).length),(12,int a),(11,ptr Z 0),(10,bK M),(9,.slice au2 L'.length L'.length),(6,ptr RR 0),(0,int bb),(1,.slice av la.length cv),(2,.slice bv lb.length dv),(7,int la.length),(8,int lb.length)]) (fun q H7=>q.2 = H7∧(∃ a n,q.1 = .slice a n n)∧MZ H q.2 26 Z q.1 (.slice ay (rowsOf next bb L a).length (rowsOf next bb L a).length) ((L'.take (a + 1)).map out) us (rowsOf next bb L a) [int bb,q.1,.slice ay (rowsOf next bb L a).length (rowsOf next bb L a).length] [pl M,.slice au2 L'.length L'.length,.slice aw2 (rowOf next bb L' s).length (rowOf next bb L' s).length]∧dN q.2 M dH L'∧bD H q.2 64 2 (.slice au2 L'.length L'.length) L'.length (fl2 L')∧bD H q.2 3 1 (.slice aw2 (rowOf next bb L' s).length (rowOf next bb L' s).length) (rowOf next bb L' s).length ((rowOf next bb L' s).map int)) ?_ ?_
 ·conv=>whnf
  have hzQ:=hzK
  have hMQ:=hMK
  have huQ:=huK
  have hwQ:=hwK
  refine ak.go ?_
  conv=>whnf
  refine dB (fun q5=>?_) (fun q5=>?_)
  ·have hcA:=View.iO (vA.ext hzK.gr) (i:=s2) (by omega)
   obtain ⟨r1,o1,sp1,ea1,hsp1,-,d3⟩:=hcA
   subst ea1
   rw [← Zy (r:=lb) (by omega),eos] at d3
   conv=>whnf
   refine ⟨hsp1,⟨by omega,by omega⟩,?_⟩
   conv=>whnf
   refine ⟨_,d3,?_⟩
   conv=>whnf
   refine hzQ.Da (by omega) ?_
   intro ov7 K7 Bt hz7 kv7
   obtain ⟨a7,n7,rfl⟩:=Bt
   have hM7:=kv7.map (M:=M) (by simp) hMQ
   have hu7:=kv7.bW (v:=.slice au2 L'.length L'.length) (by simp) huQ
   have hw7:=kv7.bW (v:=.slice aw2 (rowOf next bb L' s).length (rowOf next bb L' s).length) (by simp) hwQ
   conv=>whnf
   refine ⟨rfl,_,dK hz7.z (by simp) rfl,?_⟩
   have hz8:=hz7.put [int bb,.slice a7 n7 n7,.slice ay (rowsOf next bb L a).length (rowsOf next bb L a).length]
   have hM8:=hz8.2.map (M:=M) (by simp) hM7
   have hu8:=hz8.2.bW (v:=.slice au2 L'.length L'.length) (by simp) hu7
   have hw8:=hz8.2.bW (v:=.slice aw2 (rowOf next bb L' s).length (rowOf next bb L' s).length) (by simp) hw7
   have tH:=hz8.1
   rw [eO] at tH
   conv=>whnf
   exact ⟨(_,_),⟨rfl,rfl,rfl,rfl,rfl,rfl,rfl,rfl,rfl,rfl,rfl,rfl,trivial⟩,⟨rfl,⟨_,_,rfl⟩,tH,hM8,hu8,hw8⟩,rfl⟩
  ·have hcB:=View.iO (vB.ext hzK.gr) (i:=s2 - la.length) (by omega)
   obtain ⟨r1,o1,sp1,ea1,hsp1,-,d3⟩:=hcB
   subst ea1
   rw [← Zz (l:=la) (by omega),eos] at d3
   have em:=nu (s2 - la.length) lb.length
   rw [Nat.mod_eq_of_lt (by omega)] at em
   conv=>whnf
   refine ⟨((s2 - la.length:Nat):Int),wie (by omega) (by omega),?_⟩
   conv=>whnf
   refine ⟨by omega,?_⟩
   conv=>whnf
   rw [em]
   refine ⟨hsp1,⟨by omega,by omega⟩,?_⟩
   conv=>whnf
   refine ⟨_,d3,?_⟩
   conv=>whnf
   refine hzQ.Da (by omega) ?_
   intro ov7 K7 Bt hz7 kv7
   obtain ⟨a7,n7,rfl⟩:=Bt
   have hM7:=kv7.map (M:=M) (by simp) hMQ
   have hu7:=kv7.bW (v:=.slice au2 L'.length L'.length) (by simp) huQ
   have hw7:=kv7.bW (v:=.slice aw2 (rowOf next bb L' s).length (rowOf next bb L' s).length) (by simp) hwQ
   conv=>whnf
   refine ⟨rfl,_,dK hz7.z (by simp) rfl,?_⟩
   have hz8:=hz7.put [int bb,.slice a7 n7 n7,.slice ay (rowsOf next bb L a).length (rowsOf next bb L a).length]
   have hM8:=hz8.2.map (M:=M) (by simp) hM7
   have hu8:=hz8.2.bW (v:=.slice au2 L'.length L'.length) (by simp) hu7
   have hw8:=hz8.2.bW (v:=.slice aw2 (rowOf next bb L' s).length (rowOf next bb L' s).length) (by simp) hw7
   have tH:=hz8.1
   rw [eO] at tH
   conv=>whnf
   exact ⟨(_,_),⟨rfl,rfl,rfl,rfl,rfl,rfl,rfl,rfl,rfl,rfl,rfl,rfl,trivial⟩,⟨rfl,⟨_,_,rfl⟩,tH,hM8,hu8,hw8⟩,rfl⟩
 rintro ⟨ov8,K8⟩ Ri _ ⟨rfl,O5,hz8,hM8,hu8,hw8⟩
 dsimp only at O5 hz8 hM8 hu8 hw8 ⊢
 obtain ⟨a8,n8,rfl⟩:=O5
 conv=>whnf
 repeat (refine ak.go ?_; conv=>whnf)
 refine hz8.Az (i:=2) (by omega) rfl hw8.b ?_
 intro nv9 K9 Ed hz9 kv9
 obtain ⟨a9,n9,rfl⟩:=Ed
 have hM9:=kv9.map (M:=M) (by simp) hM8
 have hu9:=kv9.bW (v:=.slice au2 L'.length L'.length) (by simp) hu8
 conv=>whnf
 refine ⟨rfl,_,dK hz9.z (by simp) rfl,?_⟩
 have jM:=hz9.put [int bb,.slice a8 n8 n8,.slice a9 n9 n9]
 have mI:=jM.2.map (M:=M) (by simp) hM9
 have Rl:=jM.2.bW (v:=.slice au2 L'.length L'.length) (by simp) hu9
 have rC:=jM.1
 rw [eN] at rC
 conv=>whnf
 repeat (refine ak.go ?_; conv=>whnf)
 refine ⟨((a + 1:Nat):Int),wie (by omega) (by omega),?_⟩
 conv=>whnf
 exact Rnd.mk (L',a + 1,_,_,_,_,_) ⟨hq2,rC,mI,Rl⟩ (by show 2000000 - (a + 1) < 2000000 - a; omega) ⟨rfl,rfl,rfl,rfl,rfl,rfl,rfl,rfl,rfl,rfl,trivial⟩ (Hp.Le.refl _) rfl
end
end Go.Proofs.Ytedneplaibmppaa
namespace Go.Proofs.Ytedneplaibmppaa
open Go.Rx Go.RowKit
theorem Yg {ts:List Tr} (hy:TyT Try.prog 75 ts):∃ (n:Int) (la lb:List Int),Rx.InR n∧la.length < 9223372036854775808∧lb.length < 9223372036854775808∧∀ h v,oV h v (.ag ts)→∃ va vb,v = .agg ⟨[int n,va,vb]⟩∧View h va la∧View h vb lb:=by
 have hmax:maxLen < 9223372036854775808:=by decide
 have f0:=vg (i:=0) (ft:=3) (off:=0) (by kernel_rfl) hy
 have f1:=vg (i:=1) (ft:=22) (off:=1) (by kernel_rfl) hy
 have f2:=vg (i:=2) (ft:=22) (off:=2) (by kernel_rfl) hy
 have hl:ts.length = 3:=f0.1.trans (by kernel_rfl)
 have f0:=f0.2
 have f1:=f1.2
 have f2:=f2.2
 rw [cells3,IZ (by omega)] at f0
 rw [Ml,IZ (by omega)] at f1 f2
 obtain ⟨n,en,hn⟩:=Ig zq f0
 obtain ⟨l1,e1,m1,r1⟩:=FJ FN cells3 zq f1
 obtain ⟨l2,e2,m2,r2⟩:=FJ FN cells3 zq f2
 refine ⟨n,l1,l2,hn,by omega,by omega,fun h v k=>?_⟩
 obtain ⟨vs,rfl,hvl,hk⟩:=Q8 k
 match vs,hvl with
 | [v0,v1,v2],_ =>
 have k0:=hk 0 v0 _ rfl (List.getElem?_eq_getElem (by omega))
 have k1:=hk 1 v1 _ rfl (List.getElem?_eq_getElem (by omega))
 have k2:=hk 2 v2 _ rfl (List.getElem?_eq_getElem (by omega))
 rw [show ts[0] = .num n from List.cons.inj en |>.1] at k0
 rw [e1] at k1
 rw [e2] at k2
 have:=num_inv k0
 subst this
 exact ⟨v1,v2,rfl,k1.view,k2.view⟩
 | [],h | [_],h | [_,_],h | _ :: _ :: _ :: _ :: _,h=>simp [hl] at h
attribute [local irreducible] E iV cellAt bM storeAt callable dz dI dP findKey eD bT Hp.at Hp.set Hp.lay dO dw setAt aJ dA bO dG Rnd gD fK iN Int.tmod Int.tdiv Int.fdiv
section
variable [bE]
attribute [local irreducible] jZ sameAt
theorem O8 (v:Value) (l:List Int) (h:Hp) (hv:View h v l) (hl:l.length < 9223372036854775808) (most:Nat) (hm:most≤100):aJ E 52 [v,int most] h (fun r h'=>(∃ ds:List Int,Built h h' 3 r ds∧ds.length = min l.length most∧∀ x ∈ ds,0≤x∧x≤9)∧aC h h'):=by
 obtain ⟨av,cv,rfl⟩:=hv.known
 refine enter52 (by simp) ?_
 conv=>whnf
 refine ak.cut (α:=Unit) (fun _=>[(0,.slice av l.length cv),(1,int most)]) (fun _ H=>h = H) ?_ ?_
 ·conv=>whnf
  exact ⟨(),⟨rfl,rfl,trivial⟩,rfl,rfl⟩
 rintro _ φ1 _ rfl
 conv=>whnf
 refine ak.cut (α:=Unit) (fun _=>[(5,bg),(0,.slice av l.length cv),(1,int most)]) (fun _ H=>h = H) ?_ ?_
 ·conv=>whnf
  exact ⟨(),⟨rfl,rfl,rfl,trivial⟩,rfl,rfl⟩
 rintro _ φ2 _ rfl
 conv=>whnf
 refine ak.cut (α:=Value×List Int×Hp) (fun q=>[(5,q.1)]) (fun q H=>q.2.2 = H∧aC h q.2.2∧Built h q.2.2 3 q.1 q.2.1∧q.2.1.length = min l.length most∧∀ x ∈ q.2.1,0≤x∧x≤9) ?_ ?_
 rotate_left
 ·rintro ⟨w,ds,H⟩ φ3 _ ⟨rfl,gH,hb,hlen,hds⟩
  dsimp only at gH hb hlen hds ⊢
  rcases hb with ⟨rfl,e⟩ | ⟨r,rfl,hr,x,hat⟩
  ·conv=>whnf
   repeat (refine ak.go ?_; conv=>whnf)
   exact ⟨⟨ds,.inl ⟨rfl,e⟩,hlen,hds⟩,gH⟩
  ·conv=>whnf
   repeat (refine ak.go ?_; conv=>whnf)
   exact ⟨⟨ds,.inr ⟨r,rfl,hr,x,hat⟩,hlen,hds⟩,gH⟩
 conv=>whnf
 repeat (refine ak.go ?_; conv=>whnf)
 refine bQ (α:=Nat×Value×List Int×Hp) (fun q=>[(6,int q.1),(5,q.2.1),(0,.slice av l.length cv),(1,int most)]) (fun q=>q.2.2.2) (fun q=>q.1≤l.length∧q.1≤most∧aC h q.2.2.2∧Built h q.2.2.2 3 q.2.1 q.2.2.1∧q.2.2.1.length = q.1∧∀ x ∈ q.2.2.1,0≤x∧x≤9) (fun q=>most - q.1) (0,bg,[],h) ⟨Nat.zero_le _,Nat.zero_le _,.refl _,.inl ⟨rfl,rfl⟩,rfl,fun x hx=>by simp at hx⟩ ⟨rfl,rfl,rfl,rfl,trivial⟩ (Hp.Le.refl _) ?_
 rintro ⟨i,w,ds,G⟩ φ4 ⟨hi,hi2,gG,hb,hlen,hds⟩
 dsimp only at hi hi2 gG hb hlen hds ⊢
 conv=>whnf
 repeat (refine ak.go ?_; conv=>whnf)
 refine dB (fun q1=>?_) (fun q1=>?_)
 rotate_left
 ·conv=>whnf
  repeat (refine ak.go ?_; conv=>whnf)
  exact ⟨(w,ds,G),⟨rfl,trivial⟩,⟨rfl,gG,hb,by dsimp only; omega,hds⟩,rfl⟩
 conv=>whnf
 refine dB (fun q2=>?_) (fun q2=>?_)
 rotate_left
 ·conv=>whnf
  repeat (refine ak.go ?_; conv=>whnf)
  exact ⟨(w,ds,G),⟨rfl,trivial⟩,⟨rfl,gG,hb,by dsimp only; omega,hds⟩,rfl⟩
 have hcA:=View.iO (hv.ext gG) (i:=i) (by omega)
 obtain ⟨r1,o1,sp1,ea1,hsp1,-,d3⟩:=hcA
 subst ea1
 have hux:=DX (gl l i)
 obtain ⟨u,u0,u1,hu⟩:=hux
 have e1:=z8 u0 (show (0:Int) < 10 by omega)
 have IB:∃ k:Int,u.tmod 10 = k:=⟨_,rfl⟩
 obtain ⟨k,ek⟩:=IB
 have hbo:=hb
 have hws:∃ aw,w = .slice aw ds.length ds.length:=by
  rcases hb with ⟨rfl,e⟩ | ⟨r,rfl,_,_,_⟩
  ·exact ⟨none,by rw [e]; rfl⟩
  ·exact ⟨_,rfl⟩
 obtain ⟨aw,rfl⟩:=hws
 conv=>whnf
 repeat (refine ak.go ?_; conv=>whnf)
 refine ⟨hsp1,⟨by omega,by omega⟩,?_⟩
 conv=>whnf
 refine ⟨_,d3,?_⟩
 conv=>whnf
 refine ⟨u,hu,?_⟩
 conv=>whnf
 refine ⟨by omega,?_⟩
 conv=>whnf
 refine ⟨k,wie ek (by omega),?_⟩
 conv=>whnf
 refine fK.ints (hbo.ext (aC.lay _ _)) (gG.trans (aC.lay _ _)) J2.abo (by simp; omega) ?_
 intro w' G2 hb2 hg2 _
 have hws:∃ aw n,w' = .slice aw n n:=by
  rcases hb2 with ⟨rfl,e⟩ | ⟨r,rfl,_,_,_⟩
  ·simp at e
  ·exact ⟨_,_,rfl⟩
 obtain ⟨aw2,n2,rfl⟩:=hws
 conv=>whnf
 repeat (refine ak.go ?_; conv=>whnf)
 refine ⟨((i + 1:Nat):Int),wie (by omega) (by omega),?_⟩
 conv=>whnf
 exact Rnd.mk (i + 1,_,ds ++ [k],G2) ⟨by dsimp only; omega,by dsimp only; omega,hg2,hb2,by simp [hlen],fun x hx=>by
  rcases List.mem_append.1 hx with hx | hx
  ·exact hds x hx
  ·rw [List.mem_singleton.1 hx]; omega⟩ (by dsimp only; omega) ⟨rfl,rfl,rfl,rfl,trivial⟩ (Hp.Le.refl _) rfl
end
end Go.Proofs.Ytedneplaibmppaa
namespace Go.Proofs.Ytedneplaibmppaa
open Go.Rx Go.RowKit
theorem Yh {b:Nat} (hb:1≤b) {l:List Int} {f:Nat} (h:f < l.length):(mR b l f).Zer:=Ee (zl (b:=b) h) (zm h) hb fun p hp=>by
 have h1:=(iX.1 hp).2
 unfold Jw nextR
 dsimp only
 rw [Int.toNat_natCast,Nat.mul_zero,Nat.add_zero]
 congr 1
 unfold iF
 split
 ·rfl
 ·rename_i q
  have hh:p.2.toNat < l.length:=by omega
  rw [Nat.mod_eq_of_lt (by omega)]
  omega
theorem UY {b:Nat} {l:List Int} {f:Nat} (h:f < l.length) (k:∀ x ∈ l,0≤x∧x≤9):∀ x ∈ (mR b l f).out,0≤x∧x≤9:=Bu (zl (b:=b) h) (zm h) fun p hp=>by
 have h1:=(iX.1 hp).2
 exact gM (P:=fun x=>0≤x∧x≤9) k (j:=p.2.toNat) (by omega)
end Go.Proofs.Ytedneplaibmppaa
namespace Go.Proofs.Ytedneplaibmppaa
open Go.Rx Go.RowKit
def qj (q p:Int):Prop:=q < 0∨100 < q∨p < 1∨100 < p
def ZU (m:Mac) (r:Value):Prop:=(∃ p,1≤p∧p≤30∧jm m 60 p∧(∀ p',1≤p'→p' < p→¬ jm m 60 p')∧r = .tuple ⟨[int (jN m p 60:Nat),int p,.bool true]⟩)∨((∀ p',1≤p'→p'≤30→¬ jm m 60 p')∧r = .tuple ⟨[int 0,int 0,.bool false]⟩)
theorem UZ {m:Mac} {r s:Value} (k:Sy m r) (j:ZU m s):∃ (a b:Nat) (d:Bool),r = .tuple ⟨[int a,int b,.bool d,int 0]⟩∧s = .tuple ⟨[int a,int b,.bool d]⟩:=by
 rcases k with ⟨p,h1,h2,h3,h4,rfl⟩ | ⟨h,rfl⟩
 ·rcases j with ⟨q,k1,k2,k3,k4,rfl⟩ | ⟨k,rfl⟩
  ·have e:p = q:=by
    rcases Nat.lt_trichotomy p q with l | l | l
    ·exact absurd h3 (k4 p h1 l)
    ·exact l
    ·exact absurd k3 (h4 q k1 l)
   subst e
   exact ⟨_,_,true,rfl,rfl⟩
  ·exact absurd h3 (k p h1 h2)
 ·rcases j with ⟨q,k1,k2,k3,k4,rfl⟩ | ⟨k,rfl⟩
  ·exact absurd k3 (h q k1 k2)
  ·exact ⟨0,0,false,rfl,rfl⟩
attribute [local irreducible] E iV cellAt bM storeAt callable dz dI dP findKey eD bT Hp.at Hp.set Hp.lay dO dw setAt aJ dA bO dG Rnd gD fK iN Int.tmod Int.tdiv Int.fdiv
section
variable [bE]
attribute [local irreducible] jZ sameAt
theorem Ms (v:Value) (m:Mac) (q p:Int) (h:Hp) (hv:MV h v m.i) (hm:OkS m):aJ E 32 [v,int q,int p] h (fun r h'=>((qj q p→r = .tuple ⟨[.bool false,int 1]⟩)∧(¬ qj q p→∃ b,r = .tuple ⟨[.bool b,int 0]⟩∧bO b (jm m q.toNat p.toNat)))∧aC h h'):=by
 obtain ⟨bx,rfl,hbx⟩:=hv.box
 have hL:=hm.lens
 refine enter32 (by simp) ?_
 conv=>whnf
 refine ak.cut (α:=Hp) (fun _=>[(3,ptr h.next 0),(1,int q),(2,int p)]) (fun x H=>x = H∧aC h H∧H.at h.next = some (.row 25 true bx)) ?_ ?_
 ·conv=>whnf
  exact ⟨_,⟨rfl,rfl,rfl,trivial⟩,⟨rfl,aC.lay _ _,Hp.aA _ _⟩,rfl⟩
 rintro H φ1 _ ⟨rfl,gH,aX⟩
 conv=>whnf
 refine ak.cut (α:=Hp) (fun _=>[(3,ptr h.next 0),(1,int q),(2,int p)]) (fun x H2=>x = H2∧aC H H2) ?_ ?_
 ·conv=>whnf
  refine ak.go ?_
  conv=>whnf
  refine ⟨_,aM aX hbx.len,?_⟩
  conv=>whnf
  refine aJ.mono (om _ m.i _ (Bx.mv (hbx.ext gH)) hL.1 hL.2.1 hL.2.2) ?_
  rintro r H2 ⟨⟨e,rfl,he,-⟩,g2⟩
  have he:=he hm.ck
  subst he
  conv=>whnf
  repeat (refine ak.go ?_; conv=>whnf)
  refine yH (by omega) ?_
  conv=>whnf
  exact ⟨_,⟨rfl,rfl,rfl,trivial⟩,⟨rfl,g2⟩,rfl⟩
 rintro H2 φ2 _ ⟨rfl,g2⟩
 have aX2:=g2.at_ _ _ aX
 have gh2:=gH.trans g2
 conv=>whnf
 refine ak.cut (α:=Unit) (fun _=>[(3,ptr h.next 0),(1,int q),(2,int p)]) (fun _ H3=>H2 = H3∧¬ qj q p) ?_ ?_
 ·conv=>whnf
  refine ak.go ?_
  conv=>whnf
  refine dB (fun q0=>?_) (fun q0=>?_)
  ·conv=>whnf
   repeat (refine ak.go ?_; conv=>whnf)
   exact ⟨⟨fun _=>rfl,fun k=>absurd (show qj q p by unfold qj; omega) k⟩,gh2⟩
  conv=>whnf
  refine dB (fun q1=>?_) (fun q1=>?_)
  ·conv=>whnf
   repeat (refine ak.go ?_; conv=>whnf)
   exact ⟨⟨fun _=>rfl,fun k=>absurd (show qj q p by unfold qj; omega) k⟩,gh2⟩
  conv=>whnf
  refine dB (fun q2=>?_) (fun q2=>?_)
  ·conv=>whnf
   repeat (refine ak.go ?_; conv=>whnf)
   exact ⟨⟨fun _=>rfl,fun k=>absurd (show qj q p by unfold qj; omega) k⟩,gh2⟩
  conv=>whnf
  refine dB (fun q3=>?_) (fun q3=>?_)
  ·conv=>whnf
   repeat (refine ak.go ?_; conv=>whnf)
   exact ⟨⟨fun _=>rfl,fun k=>absurd (show qj q p by unfold qj; omega) k⟩,gh2⟩
  conv=>whnf
  exact ⟨(),⟨rfl,rfl,rfl,trivial⟩,⟨rfl,fun k=>by unfold qj at k; omega⟩,rfl⟩
 rintro _ φ3 _ ⟨rfl,hnb⟩
 have hnb':=hnb
 unfold qj at hnb'
 have tF:∃ s:Nat,q = s:=⟨q.toNat,by omega⟩
 obtain ⟨s,rfl⟩:=tF
 have QN:∃ f:Nat,p = f:=⟨p.toNat,by omega⟩
 obtain ⟨f,rfl⟩:=QN
 rw [Int.toNat_natCast,Int.toNat_natCast]
 conv=>whnf
 repeat (refine ak.go ?_; conv=>whnf)
 refine ⟨_,aM aX2 hbx.len,?_⟩
 conv=>whnf
 refine aJ.mono (Dj _ m s f _ (Bx.mv (hbx.ext gh2)) hm (by omega) (by omega)) ?_
 rintro r H3 ⟨⟨b,rfl,hb⟩,g3⟩
 conv=>whnf
 repeat (refine ak.go ?_; conv=>whnf)
 exact ⟨⟨fun k=>absurd k hnb,fun _=>⟨b,rfl,hb⟩⟩,gh2.trans g3⟩
theorem AB (v:Value) (m:Mac) (q p:Nat) (h:Hp) (hv:MV h v m.i) (hm:OkS m) (hq:q≤100) (hp:p≤100) (hsz:(m.out.length * (max 1 (q + p) + 1)) * (m.out.length * (max 1 q + 1))≤1000000):aJ E 53 [v,int q,int p] h (fun r h'=>(∃ b,r = .bool b∧bO b (jm m q p))∧aC h h'):=by
 obtain ⟨bx,rfl,hbx⟩:=hv.box
 have hlenx:=hbx.len
 have hsb:=hbx.same
 have tJ:=hm.n12
 have hb5:=hm.b5
 have e1:=Mac.pE hm.ok 1 q
 have e2:=Mac.pE hm.ok 1 (q + p)
 have l1:(m.every 1 q).out.length≤12 * 101:=Nat.le_trans e1.2 (Nat.mul_le_mul tJ (by omega))
 have l2:(m.every 1 (q + p)).out.length≤12 * 201:=Nat.le_trans e2.2 (Nat.mul_le_mul tJ (by omega))
 have lm:=Nat.le_trans (Nat.mul_le_mul e2.2 e1.2) hsz
 have hbs:(m.every 1 (q + p)).base = m.base:=rfl
 have hal:Mac.Alike (m.every 1 (q + p)) (m.every 1 q) 0 0↔jm m q p:=⟨fun k=>(sM hm q p).1 (k.symm rfl),fun k=>((sM hm q p).2 k).symm rfl⟩
 refine enter53 (by simp) ?_
 conv=>whnf
 refine ak.cut (α:=Hp) (fun _=>[(3,ptr h.next 0),(1,int q),(2,int p)]) (fun x H=>x = H∧aC h H∧H.at h.next = some (.row 26 true bx)) ?_ ?_
 ·conv=>whnf
  exact ⟨_,⟨rfl,rfl,rfl,trivial⟩,⟨rfl,aC.lay _ _,Hp.aA _ _⟩,rfl⟩
 rintro H φ1 _ ⟨rfl,gH,aX⟩
 have c0:=aM aX hlenx
 conv=>whnf
 refine ak.go ?_
 conv=>whnf
 refine ⟨_,c0,?_⟩
 conv=>whnf
 refine ⟨((q + p:Nat):Int),wie (by omega) (by omega),?_⟩
 conv=>whnf
 refine aJ.mono (ES _ m 1 (q + p) _ (Bx.mv (hbx.ext gH)) hm (by omega) (by omega)) ?_
 rintro w1 H1 ⟨hw1,g1⟩
 have c1:=g1.cells c0
 conv=>whnf
 refine ⟨_,c1,?_⟩
 conv=>whnf
 refine aJ.mono (ES _ m 1 q _ (Bx.mv (hbx.ext (gH.trans g1))) hm (by omega) (by omega)) ?_
 rintro w2 H2 ⟨hw2,g2⟩
 have c2:=g2.cells c1
 conv=>whnf
 refine aJ.mono (Rp _ _ (m.every 1 (q + p)) (m.every 1 q) _ (hw1.mv.ext g2) hw2.mv e2.1 e1.1 rfl (by omega) (Mac.I4 hm 1 (q + p)) (Mac.I4 hm 1 q) (by omega) (by omega) lm) ?_
 rintro r H3 ⟨⟨b,rfl,hb⟩,g3⟩
 have c3:=g3.cells c2
 conv=>whnf
 refine ⟨?_,?_⟩
 ·repeat' (first | exact True.intro | (refine And.intro ?_ ?_ <;> (conv=>whnf)))
  all_goals first
   | exact aj (h2:=_) rfl (aI _)
   | exact aj (h2:=_) (congrArg (fun x=>hval _ (gV x)) c0) hsb
   | exact aj (h2:=_) (congrArg (fun x=>hval _ (gV x)) c1) hsb
   | exact aj (h2:=_) (congrArg (fun x=>hval _ (gV x)) c2) hsb
   | exact aj (h2:=_) (congrArg (fun x=>hval _ (gV x)) c3) hsb
   | trace_state
 conv=>whnf
 repeat (refine ak.go ?_; conv=>whnf)
 exact ⟨⟨b,rfl,Xi hb hal⟩,((gH.trans g1).trans g2).trans g3⟩
theorem E9 (v:Value) (m:Mac) (h:Hp) (hv:MV h v m.i) (hm:OkS m):aJ E 54 [v] h (fun r h'=>ZU m r∧aC h h'):=by
 obtain ⟨bx,rfl,hbx⟩:=hv.box
 have hlenx:=hbx.len
 have hsb:=hbx.same
 have tJ:=hm.n12
 have hnn:=hm.n1
 have hb5:=hm.b5
 have hRb:2≤m.base∧m.base≤25:=⟨hm.b2,by omega⟩
 refine enter54 (by simp) ?_
 conv=>whnf
 refine ak.cut (α:=Hp) (fun _=>[(1,ptr h.next 0)]) (fun x H=>x = H∧aC h H∧H.at h.next = some (.row 26 true bx)) ?_ ?_
 ·conv=>whnf
  exact ⟨_,⟨rfl,trivial⟩,⟨rfl,aC.lay _ _,Hp.aA _ _⟩,rfl⟩
 rintro H φ1 _ ⟨rfl,gH,aX⟩
 conv=>whnf
 refine ak.cut (α:=Hp) (fun _=>[]) (fun x H3=>x = H3∧aC h x∧∀ p',1≤p'→p'≤30→¬ jm m 60 p') ?_ ?_
 rotate_left
 ·rintro H3 φ3 _ ⟨rfl,g3,hno⟩
  conv=>whnf
  repeat (refine ak.go ?_; conv=>whnf)
  exact ⟨.inr ⟨hno,rfl⟩,g3⟩
 conv=>whnf
 repeat (refine ak.go ?_; conv=>whnf)
 refine bQ (α:=Nat×Hp) (fun s=>[(5,int s.1),(1,ptr h.next 0)]) (fun s=>s.2) (fun s=>1≤s.1∧s.1≤31∧aC H s.2∧∀ p',1≤p'→p' < s.1→¬ jm m 60 p') (fun s=>31 - s.1) (1,H) ⟨Nat.le_refl _,by omega,.refl _,fun p' h1 h2=>by omega⟩ ⟨rfl,rfl,trivial⟩ (Hp.Le.refl _) ?_
 rintro ⟨p,H3⟩ φ3 ⟨hp1,aaR,g3,hno⟩
 dsimp only at hp1 aaR g3 hno ⊢
 have c0:=g3.cells (aM aX hlenx)
 conv=>whnf
 repeat (refine ak.go ?_; conv=>whnf)
 refine dB (fun q1=>?_) (fun q1=>?_)
 rotate_left
 ·conv=>whnf
  repeat (refine ak.go ?_; conv=>whnf)
  exact ⟨H3,trivial,⟨rfl,gH.trans g3,fun p' h1 h2=>hno p' h1 (by omega)⟩,rfl⟩
 have hsz:(m.out.length * (max 1 (60 + p) + 1)) * (m.out.length * (max 1 60 + 1))≤1000000:=by
  have h1:m.out.length * (max 1 (60 + p) + 1)≤12 * 91:=Nat.mul_le_mul tJ (by omega)
  have h2:m.out.length * (max 1 60 + 1)≤12 * 61:=Nat.mul_le_mul tJ (by omega)
  exact Nat.le_trans (Nat.mul_le_mul h1 h2) (by omega)
 conv=>whnf
 refine ak.cut (α:=Hp) (fun s=>[(5,int p),(1,ptr h.next 0)]) (fun s H4=>s = H4∧aC H s∧¬ jm m 60 p) ?_ ?_
 rotate_left
 ·rintro H4 φ4 _ ⟨rfl,g4,hnp⟩
  conv=>whnf
  refine ⟨((p + 1:Nat):Int),wie (by omega) (by omega),?_⟩
  conv=>whnf
  exact Rnd.mk (p + 1,H4) ⟨by show 1≤p + 1; omega,by show p + 1≤31; omega,g4,fun p' h1 h2=>by
   have h2:p' < p + 1:=h2
   by_cases e:p' = p
   ·rw [e]; exact hnp
   ·exact hno p' h1 (by omega)⟩ (by show 31 - (p + 1) < 31 - p; omega) ⟨rfl,rfl,trivial⟩ (Hp.Le.refl _) rfl
 conv=>whnf
 refine ak.go ?_
 conv=>whnf
 refine ak.go ?_
 conv=>whnf
 refine ⟨_,c0,?_⟩
 conv=>whnf
 refine aJ.mono (AB _ m 60 p _ (Bx.mv (hbx.ext (gH.trans g3))) hm (by omega) (by omega) hsz) ?_
 rintro r H4 ⟨⟨b,rfl,hb⟩,g4⟩
 cases b with
 | false =>
  conv=>whnf
  exact ⟨H4,⟨rfl,rfl,trivial⟩,⟨rfl,g3.trans g4,hb.f⟩,rfl⟩
 | true =>
  have g34:=g3.trans g4
  conv=>whnf
  refine ak.go ?_
  conv=>whnf
  refine ak.cut (α:=Hp) (fun _=>[(6,int (jN m p 60:Nat)),(5,int p)]) (fun x H2=>x = H2∧aC h x) ?_ ?_
  rotate_left
  ·rintro H5 φ5 _ ⟨rfl,g5⟩
   conv=>whnf
   repeat (refine ak.go ?_; conv=>whnf)
   exact ⟨.inl ⟨p,hp1,by omega,hb.t,hno,rfl⟩,g5⟩
  conv=>whnf
  refine bQ (α:=Nat×Hp) (fun s=>[(6,int s.1),(5,int p),(1,ptr h.next 0)]) (fun s=>s.2) (fun s=>s.1≤60∧jN m p s.1 = jN m p 60∧aC H s.2) (fun s=>s.1) (60,H4) ⟨Nat.le_refl _,rfl,g34⟩ ⟨rfl,rfl,rfl,trivial⟩ (Hp.Le.refl _) ?_
  rintro ⟨q,H3⟩ φ3 ⟨hq,hst,g3⟩
  dsimp only at hq hst g3 ⊢
  have c0:=g3.cells (aM aX hlenx)
  conv=>whnf
  refine ak.cut (α:=Hp) (fun s=>[(6,int q),(5,int p),(1,ptr h.next 0)]) (fun s H4=>s = H4∧aC H s∧∃ q',q = q' + 1∧jN m p q' = jN m p 60) ?_ ?_
  rotate_left
  ·rintro H4 φ4 _ ⟨rfl,g4,q',rfl,hq'⟩
   conv=>whnf
   refine ⟨((q':Nat):Int),wie (by omega) (by omega),?_⟩
   conv=>whnf
   exact Rnd.mk (q',H4) ⟨by show q'≤60; omega,hq',g4⟩ (by show q' < q' + 1; omega) ⟨rfl,rfl,rfl,trivial⟩ (Hp.Le.refl _) rfl
  conv=>whnf
  refine ak.go ?_
  conv=>whnf
  refine dB (fun q1=>?_) (fun q1=>?_)
  rotate_left
  ·have:q = 0:=by omega
   subst this
   conv=>whnf
   refine ⟨?_,?_⟩
   ·repeat' (first | exact True.intro | (refine And.intro ?_ ?_ <;> (conv=>whnf)))
    all_goals first
     | exact aj (h2:=_) rfl (aI _)
     | exact True.intro
     | exact aj (h2:=_) (show hval _ (arK .i64 .add _ _) = _ from sN (by omega) (by omega)) (aI _)
     | exact aj (h2:=_) (show hval _ (arK .i64 .sub _ _) = _ from wQ (by omega) (by omega)) (aI _)
   conv=>whnf
   exact ⟨H3,⟨by rw [← hst]; rfl,rfl,trivial⟩,⟨rfl,gH.trans g3⟩,rfl⟩
  have Bp:∃ q',q = q' + 1:=⟨q - 1,by omega⟩
  obtain ⟨q',rfl⟩:=Bp
  conv=>whnf
  refine ⟨_,c0,?_⟩
  conv=>whnf
  refine ⟨(q':Int),wie (by omega) (by omega),?_⟩
  conv=>whnf
  refine aJ.mono (Iu _ m 0 q' _ (Bx.mv (hbx.ext (gH.trans g3))) hm.ok hRb hnn (by omega) (by omega)) ?_
  rintro r H4 ⟨rfl,g4⟩
  have c1:=g4.cells c0
  conv=>whnf
  refine ⟨_,c1,?_⟩
  conv=>whnf
  refine ⟨(q':Int),wie (by omega) (by omega),?_⟩
  conv=>whnf
  refine ⟨((q' + p:Nat):Int),wie (by omega) (by omega),?_⟩
  conv=>whnf
  refine aJ.mono (Iu _ m 0 (q' + p) _ (Bx.mv (hbx.ext ((gH.trans g3).trans g4))) hm.ok hRb hnn (by omega) (by omega)) ?_
  rintro r H5 ⟨rfl,g5⟩
  have c2:=g5.cells c1
  have hok:jN m p (q' + 1) = if m.at_ 0 q' = m.at_ 0 (q' + p) then jN m p q' else q' + 1:=rfl
  conv=>whnf
  refine dB (fun q2=>?_) (fun q2=>?_)
  ·rw [if_pos q2] at hok
   conv=>whnf
   refine ⟨?_,?_⟩
   ·repeat' (first | exact True.intro | (refine And.intro ?_ ?_ <;> (conv=>whnf)))
    all_goals first
     | exact aj (h2:=_) rfl (aI _)
     | exact aj (h2:=_) (congrArg (fun x=>hval _ (gV x)) c0) hsb
     | exact aj (h2:=_) (congrArg (fun x=>hval _ (gV x)) c1) hsb
     | exact aj (h2:=_) (congrArg (fun x=>hval _ (gV x)) c2) hsb
     | exact aj (h2:=_) (show hval _ (arK .i64 .add _ _) = _ from sN (by omega) (by omega)) (aI _)
     | exact aj (h2:=_) (show hval _ (arK .i64 .sub _ _) = _ from wQ (by omega) (by omega)) (aI _)
   conv=>whnf
   exact ⟨H5,⟨rfl,rfl,rfl,trivial⟩,⟨rfl,(g3.trans g4).trans g5,q',rfl,by rw [← hok]; exact hst⟩,rfl⟩
  ·rw [if_neg q2] at hok
   conv=>whnf
   refine ⟨?_,?_⟩
   ·repeat' (first | exact True.intro | (refine And.intro ?_ ?_ <;> (conv=>whnf)))
    all_goals first
     | exact aj (h2:=_) rfl (aI _)
     | exact aj (h2:=_) (congrArg (fun x=>hval _ (gV x)) c0) hsb
     | exact aj (h2:=_) (congrArg (fun x=>hval _ (gV x)) c1) hsb
     | exact aj (h2:=_) (congrArg (fun x=>hval _ (gV x)) c2) hsb
     | exact aj (h2:=_) (show hval _ (arK .i64 .add _ _) = _ from sN (by omega) (by omega)) (aI _)
     | exact aj (h2:=_) (show hval _ (arK .i64 .sub _ _) = _ from wQ (by omega) (by omega)) (aI _)
   conv=>whnf
   exact ⟨H5,⟨by rw [← hst,hok]; rfl,rfl,trivial⟩,⟨rfl,gH.trans ((g3.trans g4).trans g5)⟩,rfl⟩
end
end Go.Proofs.Ytedneplaibmppaa
namespace Go.Proofs.Ytedneplaibmppaa
open Go.Rx Go.RowKit
theorem Ai {hb H:Hp} {v:Value} {l:List Int} (k:Built hb H 3 v l) {R:Nat} (hR:R < hb.next) (o:Rx.Obj):Built hb (H.set R o) 3 v l:=by
 rcases k with h1 | ⟨r,rfl,h2,y,hr⟩
 ·exact .inl h1
 ·exact .inr ⟨r,rfl,h2,y,by rw [Hp.bU _ (by omega)]; exact hr⟩
theorem O9 {hb H:Hp} {v:Value} {l:List Int} (k:Built hb H 3 v l):∃ a,v = .slice a l.length l.length:=by
 rcases k with ⟨rfl,e⟩ | ⟨r,rfl,_,_,_⟩
 ·exact ⟨none,by rw [e]; rfl⟩
 ·exact ⟨_,rfl⟩
theorem Yi {n q p:Nat} (hn:n≤12) (h:n≤6∧q≤100∧p≤100∨q≤5∧p≤6):(n * (max 1 (q + p) + 1)) * (n * (max 1 q + 1))≤1000000:=by
 rcases h with ⟨h,hq,hp⟩ | ⟨hq,hp⟩
 ·have h1:n * (max 1 (q + p) + 1)≤6 * 201:=Nat.mul_le_mul h (by omega)
  have h2:n * (max 1 q + 1)≤6 * 101:=Nat.mul_le_mul h (by omega)
  exact Nat.le_trans (Nat.mul_le_mul h1 h2) (by omega)
 ·have h1:n * (max 1 (q + p) + 1)≤12 * 12:=Nat.mul_le_mul hn (by omega)
  have h2:n * (max 1 q + 1)≤12 * 6:=Nat.mul_le_mul hn (by omega)
  exact Nat.le_trans (Nat.mul_le_mul h1 h2) (by omega)
structure IR (G:Hp) (N7 P:Nat) (b7:List Value) (m:Mac) (pa pb:Int) (va vb:Value) (la lb:List Int):Prop where
 hm:OkS m
 a7:G.at N7 = some (.row 26 true b7)
 l7:b7.length = 3
 o7:∃ Hb:Hp,N7 < Hb.next∧P < Hb.next∧jD Hb G (.agg ⟨b7⟩) m.i
 ab:∃ Hb:Hp,N7 < Hb.next∧P < Hb.next∧Built Hb G 3 va la∧Built Hb G 3 vb lb
 aP:G.at P = some (.row 64 true [int pa,int pb])
 ne:P < N7
theorem IR.ext {G G':Hp} {N7 P:Nat} {b7:List Value} {m:Mac} {pa pb:Int} {va vb:Value} {la lb:List Int} (k:IR G N7 P b7 m pa pb va vb la lb) (g:aC G G'):IR G' N7 P b7 m pa pb va vb la lb where
 hm:=k.hm
 a7:=g.at_ _ _ k.a7
 l7:=k.l7
 o7:=let ⟨Hb,h1,h2,h3⟩:=k.o7; ⟨Hb,h1,h2,h3.ext g⟩
 ab:=let ⟨Hb,h1,h2,h3,h4⟩:=k.ab; ⟨Hb,h1,h2,h3.ext g,h4.ext g⟩
 aP:=g.at_ _ _ k.aP
 ne:=k.ne
theorem IR.mv {G:Hp} {N7 P:Nat} {b7:List Value} {m:Mac} {pa pb:Int} {va vb:Value} {la lb:List Int} (k:IR G N7 P b7 m pa pb va vb la lb):MV G (.agg ⟨b7⟩) m.i:=let ⟨_,_,_,h⟩:=k.o7; h.mv
theorem IR.adx {G:Hp} {N7 P:Nat} {b7 b:List Value} {m m':Mac} {pa pb:Int} {va vb:Value} {la lb:List Int} (k:IR G N7 P b7 m pa pb va vb la lb) (hm':OkS m') (hl:b.length = 3) (ho:∃ Hb:Hp,N7 < Hb.next∧P < Hb.next∧jD Hb G (.agg ⟨b⟩) m'.i):IR (G.set N7 (.row 26 true b)) N7 P b m' pa pb va vb la lb where
 hm:=hm'
 a7:=Hp.bH _ (Hp.aU k.a7)
 l7:=hl
 o7:=let ⟨Hb,h1,h2,h3⟩:=ho; ⟨Hb,h1,h2,h3.put h1 _⟩
 ab:=let ⟨Hb,h1,h2,h3,h4⟩:=k.ab; ⟨Hb,h1,h2,Ai h3 h1 _,Ai h4 h1 _⟩
 aP:=by rw [Hp.bU _ (by have:=k.ne; omega)]; exact k.aP
 ne:=k.ne
theorem IR.newP {G:Hp} {N7 P:Nat} {b7:List Value} {m:Mac} {pa pb pa' pb':Int} {va vb:Value} {la lb:List Int} (k:IR G N7 P b7 m pa pb va vb la lb):IR (G.set P (.row 64 true [int pa',int pb'])) N7 P b7 m pa' pb' va vb la lb where
 hm:=k.hm
 a7:=by rw [Hp.bU _ (by have:=k.ne; omega)]; exact k.a7
 l7:=k.l7
 o7:=let ⟨Hb,h1,h2,h3⟩:=k.o7; ⟨Hb,h1,h2,h3.put h2 _⟩
 ab:=let ⟨Hb,h1,h2,h3,h4⟩:=k.ab; ⟨Hb,h1,h2,Ai h3 h2 _,Ai h4 h2 _⟩
 aP:=Hp.bH _ (Hp.aU k.aP)
 ne:=k.ne
theorem Bx.one {h:Hp} {bx:List Value} {M:jL} (k:Bx h bx M):bx.all oneCell = true:=by
 obtain ⟨hl,hb,⟨a,c,ho,_⟩,⟨a',c',hn,_⟩⟩:=k
 match bx,hl with
 | [x,y,z],_=>cases hb; cases ho; cases hn; rfl
theorem Yj {a b:List Value} (ha:a.length = 3) (hb:b.length = 3):over a 0 b = b:=by
 match a,ha,b,hb with
 | [_,_,_],_,[_,_,_],_=>rfl
attribute [local irreducible] E iV cellAt bM storeAt callable dz dI dP findKey eD bT Hp.at Hp.set Hp.lay dO dw setAt aJ dA bO dG Rnd gD fK iN Int.tmod Int.tdiv Int.fdiv
section
variable [bE]
attribute [local irreducible] jZ sameAt
theorem Pb (ts0:List Tr) (hy0:TyT Try.prog 25 ts0) (ts1:List Tr) (hy1:TyT Try.prog 75 ts1) (ts2:List Tr) (hy2:TyT Try.prog 64 ts2):∀ h vs,Jq h vs [.ag ts0,.ag ts1,.ag ts2]→aJ E 11 vs h (fun r _=>r = .bool true):=by
 intro h vs hvs
 match vs,hvs with
 | [v0,v1,v2],hvs =>
 obtain ⟨k0,k1,k2,-⟩:=hvs
 obtain ⟨M,hMb,hML,hM⟩:=Zp hy0
 obtain ⟨kb,ta,tb,hkb,hta,htb,hT⟩:=Yg hy1
 obtain ⟨pa0,pb0,hpa,hpb,hP⟩:=Yf hy2
 have hM:=hM h v0 k0
 have hT:=hT h v1 k1
 have hP:=hP h v2 k2
 subst hP
 obtain ⟨wa,wb,rfl,hwa,hwb⟩:=hT
 obtain ⟨aw,ca,rfl⟩:=hwa.known
 obtain ⟨bw,cb,rfl⟩:=hwb.known
 obtain ⟨bx,rfl,hbx⟩:=hM.box
 refine enter11 (by simp) ?_
 conv=>whnf
 refine ak.cut (α:=Hp) (fun _=>[(3,ptr h.next 0),(4,ptr (h.next + 1) 0),(5,ptr (h.next + 2) 0)]) (fun s H=>s = H∧H.at h.next = some (.row 25 true bx)∧H.at (h.next + 1) = some (.row 75 true [int kb,.slice aw ta.length ca,.slice bw tb.length cb])∧H.at (h.next + 2) = some (.row 64 true [int pa0,int pb0])∧aC h H∧H.next = h.next + 3) ?_ ?_
 ·conv=>whnf
  have n1:(h.lay (.row 25 true bx)).next = h.next + 1:=Hp.bG _ _
  have n2:((h.lay (.row 25 true bx)).lay (.row 75 true [int kb,.slice aw ta.length ca,.slice bw tb.length cb])).next = h.next + 2:=by rw [Hp.bG,n1]
  exact ⟨_,⟨rfl,congrArg (fun k=>ptr k 0) n1,congrArg (fun k=>ptr k 0) n2,trivial⟩,⟨rfl,Hp.bC _ (Hp.bC _ (Hp.aA _ _)),Hp.bC _ (fM n1 (Hp.aA _ _)),fM n2 (Hp.aA _ _),((aC.lay _ _).bL _).bL _,by rw [Hp.bG,n2]⟩,rfl⟩
 rintro H0 φ0 _ ⟨rfl,aX,aT,aP,g0,n0⟩
 have aaU:∃ P,h.next + 2 = P:=⟨_,rfl⟩
 obtain ⟨P,eP⟩:=aaU
 have I8:∃ TT,h.next + 1 = TT:=⟨_,rfl⟩
 obtain ⟨TT,eTT⟩:=I8
 rw [eP] at aP ⊢
 rw [eTT] at aT ⊢
 have hPn:P < H0.next:=by omega
 have hTn:TT < H0.next:=by omega
 have x0:=aQ (o:=0) aT rfl
 conv=>whnf
 refine ak.cut (α:=Nat×List Value×Mac×Hp) (fun s=>[(7,ptr s.1 0),(5,ptr P 0),(4,ptr TT 0)]) (fun s H=>s.2.2.2 = H∧OkS s.2.2.1∧s.2.2.1.out.length≤6∧H.at s.1 = some (.row 26 true s.2.1)∧s.2.1.length = 3∧(∃ Hb:Hp,s.1 < Hb.next∧jD Hb H (.agg ⟨s.2.1⟩) s.2.2.1.i)∧aC H0 H∧H0.next≤s.1) ?_ ?_
 ·conv=>whnf
  have gl1:aC H0 (H0.lay (.row 26 true [int 0,bg,bg])):=aC.lay _ _
  have aL:(H0.lay (.row 26 true [int 0,bg,bg])).at H0.next = some (.row 26 true [int 0,bg,bg]):=Hp.aA _ _
  have cX:=aM (gl1.at_ _ _ aX) hbx.len
  have x0a:=gl1.cell x0
  refine ⟨_,cX,?_⟩
  conv=>whnf
  refine ⟨_,x0a,?_⟩
  conv=>whnf
  refine aJ.mono (Uu kb _) ?_
  rintro r _ ⟨⟨B,rfl,hB1,hB2⟩,rfl⟩
  conv=>whnf
  refine aJ.mono (Ux _ M B 6 _ (Bx.mv (hbx.ext (g0.trans gl1))) hML ⟨hB1,hB2⟩ (by omega)) ?_
  rintro r H1 ⟨⟨m,hm,hmb,hml,hw⟩,g1⟩
  have hk:=hw.known
  obtain ⟨p,q,rfl⟩:=hk
  have aL1:=g1.at_ _ _ aL
  have hlt:=Hp.aU aL1
  have ach:=Hp.aU aL
  have cX1:=g1.cells cX
  have x0b:=g1.cell x0a
  conv=>whnf
  refine ⟨rfl,_,bJ (vs:=[int m.i.base,.slice p m.i.out.length m.i.out.length,.slice q m.i.next.length m.i.next.length]) aL1 rfl rfl rfl,?_⟩
  have hw2:=hw.put ach (.row 26 true [int m.i.base,.slice p m.i.out.length m.i.out.length,.slice q m.i.next.length m.i.next.length])
  have gs:∀ o,aC H0 (H1.set H0.next o):=fun o=>(gl1.trans g1).dD _ (Nat.le_refl _)
  have cX2:=fun o=>aM ((gs o).at_ _ _ aX) hbx.len
  have x0c:=fun o=>(gs o).cell x0
  conv=>whnf
  refine ⟨?_,?_⟩
  ·repeat' (first | exact True.intro | (refine And.intro ?_ ?_ <;> (conv=>whnf)))
   all_goals first
    | exact aj (h2:=_) rfl (aI _)
    | exact aj (h2:=_) rfl (dh _ _)
    | exact aj (h2:=_) (congrArg (fun x=>hval _ (gV x)) cX) hbx.same
    | exact aj (h2:=_) (congrArg (fun x=>hval _ (gV x)) cX1) hbx.same
    | exact aj (h2:=_) (congrArg (fun x=>hval _ (gV x)) (cX2 _)) hbx.same
    | exact aj (h2:=_) (congrArg (hval _) x0a) (aI _)
    | exact aj (h2:=_) (congrArg (hval _) x0b) (aI _)
    | exact aj (h2:=_) (congrArg (hval _) (x0c _)) (aI _)
    | exact ⟨_,rfl,aL,rfl⟩
    | exact ⟨_,rfl,aL1,rfl⟩
    | exact ⟨_,rfl,Hp.bH _ hlt,rfl⟩
    | trace_state
  exact ⟨(H0.next,_,m,_),⟨rfl,rfl,rfl,trivial⟩,⟨rfl,hm,hml,Hp.bH _ hlt,rfl,⟨_,ach,hw2⟩,gs _,Nat.le_refl _⟩,rfl⟩
 rintro ⟨N7,b7,m,H1⟩ φ1 _ ⟨rfl,hm,h6,a7,l7,⟨Hb,hHb,o7⟩,g1,hN7⟩
 dsimp only at hm h6 a7 l7 o7 g1 hN7 hHb ⊢
 have aT1:=g1.at_ _ _ aT
 have aP1:=g1.at_ _ _ aP
 have x1:=aQ (o:=1) aT1 rfl
 have x2:=aQ (o:=2) aT1 rfl
 have SI:=Hp.aU a7
 have g01:=g0.trans g1
 clear x0
 conv=>whnf
 refine ak.cut (α:=(Option Addr×List Int)×(Option Addr×List Int)×Hp) (fun q=>[(8,.slice q.1.1 q.1.2.length q.1.2.length),(9,.slice q.2.1.1 q.2.1.2.length q.2.1.2.length),(7,ptr N7 0),(5,ptr P 0)]) (fun q H=>q.2.2 = H∧(Built H1 H 3 (.slice q.1.1 q.1.2.length q.1.2.length) q.1.2∧q.1.2.length≤3∧∀ x ∈ q.1.2,0≤x∧x≤9)∧(Built H1 H 3 (.slice q.2.1.1 q.2.1.2.length q.2.1.2.length) q.2.1.2∧q.2.1.2.length≤3∧∀ x ∈ q.2.1.2,0≤x∧x≤9)∧aC H1 H) ?_ ?_
 ·conv=>whnf
  refine ⟨_,x1,?_⟩
  conv=>whnf
  refine aJ.mono (O8 _ ta _ (hwa.ext g01) (by omega) 3 (by omega)) ?_
  rintro r K1 ⟨⟨la,hr,hla,ady⟩,g2⟩
  have hk:=O9 hr
  obtain ⟨p1,rfl⟩:=hk
  have x2a:=g2.cell x2
  conv=>whnf
  refine ⟨_,x2a,?_⟩
  conv=>whnf
  refine aJ.mono (O8 _ tb _ ((hwb.ext g01).ext g2) (by omega) 3 (by omega)) ?_
  rintro r K2 ⟨⟨lb,hr2,hlb,adz⟩,g3⟩
  have hk:=O9 hr2
  obtain ⟨p2,rfl⟩:=hk
  have x2b:=g3.cell x2a
  conv=>whnf
  refine ⟨?_,?_⟩
  ·repeat' (first | exact True.intro | (refine And.intro ?_ ?_ <;> (conv=>whnf)))
   all_goals first
    | exact aj (h2:=_) rfl (aI _)
    | exact aj (h2:=_) rfl (dh _ _)
    | exact aj (h2:=_) rfl (aD _ _ _)
    | exact aj (h2:=_) rfl (iP _ _)
    | exact aj (h2:=_) (congrArg (hval _) x2) (aI _)
    | exact aj (h2:=_) (congrArg (hval _) x2) (aD _ _ _)
    | exact aj (h2:=_) (congrArg (hval _) x2a) (aI _)
    | exact aj (h2:=_) (congrArg (hval _) x2a) (aD _ _ _)
    | exact aj (h2:=_) (congrArg (hval _) x2b) (aI _)
    | exact aj (h2:=_) (congrArg (hval _) x2b) (aD _ _ _)
    | exact ⟨_,rfl,Hp.aA _ _,rfl⟩
  exact ⟨((p1,la),(p2,lb),K2),⟨rfl,rfl,rfl,rfl,trivial⟩,⟨rfl,⟨hr.ext g3,by dsimp only; omega,ady⟩,⟨hr2.back g2.next,by dsimp only; omega,adz⟩,g2.trans g3⟩,rfl⟩
 rintro ⟨⟨p1,la⟩,⟨p2,lb⟩,H2⟩ φ2 _ ⟨rfl,⟨bA,hla,hda⟩,⟨bB,hlb,hdb⟩,g2⟩
 dsimp only at bA hla hda bB hlb hdb g2 ⊢
 have a7:=g2.at_ _ _ a7
 have aP2:=g2.at_ _ _ aP1
 have o7:=o7.ext g2
 have ZV:=Hp.aU aP1
 clear aT1 x1 x2 aX hbx hwa hwb g01
 conv=>whnf
 refine ak.cut (α:=Option Addr×List Int×Hp) (fun q=>[(8,.slice p1 la.length la.length),(9,.slice q.1 q.2.1.length q.2.1.length),(7,ptr N7 0),(5,ptr P 0)]) (fun q H=>q.2.2 = H∧aC H2 H∧Built H1 H 3 (.slice q.1 q.2.1.length q.2.1.length) q.2.1∧1≤q.2.1.length∧q.2.1.length≤3∧∀ x ∈ q.2.1,0≤x∧x≤9) ?_ ?_
 ·conv=>whnf
  refine ak.go ?_
  conv=>whnf
  refine dB (fun q1=>?_) (fun q1=>?_)
  ·conv=>whnf
   repeat (refine ak.go ?_; conv=>whnf)
   exact ⟨(some ⟨H2.next,0,none⟩,[1],H2.lay (.row 3 true [int 1])),⟨rfl,rfl,rfl,rfl,trivial⟩,⟨rfl,aC.lay _ _,.inr ⟨H2.next,rfl,g2.next,true,Hp.aA _ _⟩,by dsimp only; simp,by dsimp only; simp,fun x hx=>by rw [List.mem_singleton.1 hx]; omega⟩,rfl⟩
  conv=>whnf
  repeat (refine ak.go ?_; conv=>whnf)
  exact ⟨(p2,lb,H2),⟨rfl,rfl,rfl,rfl,trivial⟩,⟨rfl,.refl _,bB,by dsimp only; omega,hlb,hdb⟩,rfl⟩
 clear bB hlb hdb
 rintro ⟨p2,lb,H3⟩ φ3 _ ⟨rfl,g3,bB,aci,hlb,hdb⟩
 dsimp only at g3 bB aci hlb hdb ⊢
 have ir:IR H3 N7 P b7 m pa0 pb0 (.slice p1 la.length la.length) (.slice p2 lb.length lb.length) la lb:=⟨hm,g3.at_ _ _ a7,l7,⟨Hb,hHb,by omega,o7.ext g3⟩,⟨H1,SI,ZV,bA.ext g3,bB⟩,g3.at_ _ _ aP2,by omega⟩
 have adA:∀ x ∈ la ++ lb,0≤x∧x≤9:=fun x hx=>(List.mem_append.1 hx).elim (hda x) (hdb x)
 have hLn:(la ++ lb).length = la.length + lb.length:=List.length_append
 have hff:la.length < (la ++ lb).length:=by omega
 clear hm a7 l7 o7 bA bB aP2 aP1 aP g3
 conv=>whnf
 refine ak.cut (α:=Unit) (fun s=>[]) (fun s H=>True) ?_ ?_
 rotate_left
 ·rintro _ φ3 Hz _
  conv=>whnf
  repeat (refine ak.go ?_; conv=>whnf)
  refine aJ.mono (Q7 _) ?_
  rintro r G3 ⟨rfl,g3⟩
  conv=>whnf
  repeat (refine ak.go ?_; conv=>whnf)
  rfl
 conv=>whnf
 repeat (refine ak.go ?_; conv=>whnf)
 refine bQ (α:=Nat×Int×Int×List Value×Mac×Hp) (fun q=>[(10,int q.1),(8,.slice p1 la.length la.length),(9,.slice p2 lb.length lb.length),(7,ptr N7 0),(5,ptr P 0)]) (fun q=>q.2.2.2.2.2) (fun q=>q.1≤2∧IR q.2.2.2.2.2 N7 P q.2.2.2.1 q.2.2.2.2.1 q.2.1 q.2.2.1 (.slice p1 la.length la.length) (.slice p2 lb.length lb.length) la lb∧(q.2.2.2.2.1.out.length≤6∨(0≤q.2.1∧q.2.1≤5)∧(1≤q.2.2.1∧q.2.2.1≤6))) (fun q=>2 - q.1) (0,pa0,pb0,b7,m,H3) ⟨by omega,ir,.inl h6⟩ ⟨rfl,rfl,rfl,rfl,rfl,trivial⟩ (Hp.Le.refl _) ?_
 clear ir h6 g2 hN7 SI ZV g1
 rintro ⟨rd,pa,pb,b7,m,G⟩ φ4 ⟨hrd,ir,hsm⟩
 dsimp only at hrd ir hsm ⊢
 have hm:=ir.hm
 have tJ:=hm.n12
 conv=>whnf
 repeat (refine ak.go ?_; conv=>whnf)
 refine dB (fun q1=>?_) (fun q1=>?_)
 rotate_left
 ·conv=>whnf
  repeat (refine ak.go ?_; conv=>whnf)
  exact ⟨(),trivial,trivial,rfl⟩
 conv=>whnf
 refine ak.go ?_
 conv=>whnf
 refine ak.cut (α:=Nat×List Value×Hp) (fun q=>[(11,ptr q.1 0),(10,int rd),(8,.slice p1 la.length la.length),(9,.slice p2 lb.length lb.length),(7,ptr N7 0),(5,ptr P 0)]) (fun q H=>q.2.2 = H∧aC G H∧H.at q.1 = some (.row 25 true q.2.1)∧q.2.1.length = 3∧MV H (.agg ⟨q.2.1⟩) m.i) ?_ ?_
 ·conv=>whnf
  refine ⟨_,aM ir.a7 ir.l7,?_⟩
  conv=>whnf
  refine aJ.mono (QC _ m.i _ ir.mv (FM hm)) ?_
  rintro r K ⟨hw,g⟩
  rw [hm.cut] at hw
  have hk:=hw.known
  obtain ⟨p,q,rfl⟩:=hk
  conv=>whnf
  refine ⟨rfl,_,cK (vs:=[int m.i.base,.slice p m.i.out.length m.i.out.length,.slice q m.i.next.length m.i.next.length]) rfl rfl rfl,?_⟩
  conv=>whnf
  exact ⟨(K.next,_,_),⟨rfl,rfl,rfl,rfl,rfl,rfl,trivial⟩,⟨rfl,g.bL _,Hp.aA _ _,rfl,hw.mv.ext (aC.lay _ _)⟩,rfl⟩
 rintro ⟨N11,b11,G1⟩ φ5 _ ⟨rfl,g,a11,l11,v11⟩
 dsimp only at g a11 l11 v11 ⊢
 have ir:=ir.ext g
 clear g
 conv=>whnf
 refine ak.cut (α:=Bool×Int×Hp) (fun q=>[(12,.bool q.1),(13,int q.2.1),(11,ptr N11 0),(10,int rd),(8,.slice p1 la.length la.length),(9,.slice p2 lb.length lb.length),(7,ptr N7 0),(5,ptr P 0)]) (fun q H=>q.2.2 = H∧aC G1 H∧(qj pa pb→q.2.1 = 1∧q.1 = false)∧(¬ qj pa pb→q.2.1 = 0∧bO q.1 (jm m pa.toNat pb.toNat))) ?_ ?_
 ·conv=>whnf
  refine ⟨_,aM a11 l11,?_⟩
  conv=>whnf
  refine ⟨⟨by omega,by omega⟩,?_⟩
  conv=>whnf
  refine ⟨_,aQ (o:=0) ir.aP rfl,?_⟩
  conv=>whnf
  refine ⟨⟨by omega,by omega⟩,?_⟩
  conv=>whnf
  refine ⟨_,aQ (o:=1) ir.aP rfl,?_⟩
  conv=>whnf
  refine aJ.mono (Ms _ m pa pb _ v11 hm) ?_
  rintro r K ⟨⟨hbad,hgood⟩,g⟩
  by_cases hB:qj pa pb
  ·have hr:=hbad hB
   subst hr
   conv=>whnf
   exact ⟨(false,1,K),⟨rfl,rfl,rfl,rfl,rfl,rfl,rfl,rfl,trivial⟩,⟨rfl,g,fun _=>⟨rfl,rfl⟩,fun q=>absurd hB q⟩,rfl⟩
  ·have hr:=hgood hB
   obtain ⟨b,rfl,hb⟩:=hr
   conv=>whnf
   exact ⟨(b,0,K),⟨rfl,rfl,rfl,rfl,rfl,rfl,rfl,rfl,trivial⟩,⟨rfl,g,fun q=>absurd q hB,fun _=>⟨rfl,hb⟩⟩,rfl⟩
 rintro ⟨b,e,G2⟩ φ6 _ ⟨rfl,g,hE1,hE2⟩
 dsimp only at g hE1 hE2 ⊢
 have ir:=ir.ext g
 have a11:=g.at_ _ _ a11
 have v11:=v11.ext g
 clear g
 conv=>whnf
 refine ak.cut (α:=Hp) (fun q=>[(11,ptr N11 0),(10,int rd),(8,.slice p1 la.length la.length),(9,.slice p2 lb.length lb.length),(7,ptr N7 0),(5,ptr P 0)]) (fun q H=>q = H∧aC G2 H) ?_ ?_
 ·have aP:=ir.aP
  conv=>whnf
  refine ak.cut (α:=Bool) (fun q=>[(69,.bool q),(12,.bool b),(13,int e),(11,ptr N11 0),(10,int rd),(8,.slice p1 la.length la.length),(9,.slice p2 lb.length lb.length),(7,ptr N7 0),(5,ptr P 0)]) (fun q H=>G2 = H∧(q = true↔qj pa pb)) ?_ ?_
  ·conv=>whnf
   refine ⟨⟨by omega,by omega⟩,?_⟩
   conv=>whnf
   refine ⟨_,aQ aP (o:=0) rfl,?_⟩
   conv=>whnf
   refine dB (fun c0=>?_) (fun c0=>?_)
   ·conv=>whnf
    exact ⟨true,⟨rfl,rfl,rfl,rfl,rfl,rfl,rfl,rfl,rfl,trivial⟩,⟨rfl,fun _=>by unfold qj; omega,fun _=>rfl⟩,rfl⟩
   conv=>whnf
   refine ⟨⟨by omega,by omega⟩,?_⟩
   conv=>whnf
   refine ⟨_,aQ aP (o:=0) rfl,?_⟩
   conv=>whnf
   refine dB (fun c1=>?_) (fun c1=>?_)
   ·conv=>whnf
    exact ⟨true,⟨rfl,rfl,rfl,rfl,rfl,rfl,rfl,rfl,rfl,trivial⟩,⟨rfl,fun _=>by unfold qj; omega,fun _=>rfl⟩,rfl⟩
   conv=>whnf
   refine ⟨⟨by omega,by omega⟩,?_⟩
   conv=>whnf
   refine ⟨_,aQ aP (o:=1) rfl,?_⟩
   conv=>whnf
   refine dB (fun c2=>?_) (fun c2=>?_)
   ·conv=>whnf
    exact ⟨true,⟨rfl,rfl,rfl,rfl,rfl,rfl,rfl,rfl,rfl,trivial⟩,⟨rfl,fun _=>by unfold qj; omega,fun _=>rfl⟩,rfl⟩
   conv=>whnf
   refine ⟨⟨by omega,by omega⟩,?_⟩
   conv=>whnf
   refine ⟨_,aQ aP (o:=1) rfl,?_⟩
   conv=>whnf
   refine dB (fun c3=>?_) (fun c3=>?_)
   ·conv=>whnf
    exact ⟨true,⟨rfl,rfl,rfl,rfl,rfl,rfl,rfl,rfl,rfl,trivial⟩,⟨rfl,fun _=>by unfold qj; omega,fun _=>rfl⟩,rfl⟩
   conv=>whnf
   exact ⟨false,⟨rfl,rfl,rfl,rfl,rfl,rfl,rfl,rfl,rfl,trivial⟩,⟨rfl,fun e=>(by cases e),fun k=>absurd k (by unfold qj; omega)⟩,rfl⟩
  rintro qb φ7 _ ⟨rfl,hqb⟩
  by_cases hB:qj pa pb
  ·have hqt:=hqb.2 hB
   subst hqt
   have hq:=hE1 hB
   obtain ⟨ee,ebx⟩:=hq
   subst ee
   subst ebx
   conv=>whnf
   repeat (refine ak.go ?_; conv=>whnf)
   refine yH (by omega) ?_
   conv=>whnf
   repeat (refine ak.go ?_; conv=>whnf)
   exact ⟨G2,⟨rfl,rfl,rfl,rfl,rfl,rfl,trivial⟩,⟨rfl,.refl _⟩,rfl⟩
  ·have hqf:qb = false:=by
    cases qb with
    | false=>rfl
    | true=>exact absurd (hqb.1 rfl) hB
   subst hqf
   have hq:=hE2 hB
   obtain ⟨ee,hbo⟩:=hq
   subst ee
   have hB':=hB
   unfold qj at hB'
   have adB:∃ k:Nat,pa = k:=⟨pa.toNat,by omega⟩
   obtain ⟨k,ek⟩:=adB
   have adC:∃ k:Nat,pb = k:=⟨pb.toNat,by omega⟩
   obtain ⟨k',ek'⟩:=adC
   have ek2:pa.toNat = k:=by omega
   have adD:pb.toNat = k':=by omega
   rw [ek2,adD] at hbo
   have hsz:=Yi (n:=m.out.length) (q:=k) (p:=k') tJ (by omega)
   conv=>whnf
   repeat (refine ak.go ?_; conv=>whnf)
   refine yH (by omega) ?_
   conv=>whnf
   refine ⟨_,aM ir.a7 ir.l7,?_⟩
   conv=>whnf
   refine ⟨⟨by omega,by omega⟩,?_⟩
   conv=>whnf
   refine ⟨_,aQ aP (o:=0) rfl,?_⟩
   conv=>whnf
   refine ⟨⟨by omega,by omega⟩,?_⟩
   conv=>whnf
   refine ⟨_,aQ aP (o:=1) rfl,?_⟩
   conv=>whnf
   rw [ek,ek']
   refine aJ.mono (AB _ m k k' _ ir.mv hm (by omega) (by omega) hsz) ?_
   rintro r K ⟨⟨x,rfl,hx⟩,g⟩
   have ebx:b = x:=by
    cases b with
    | false=>cases x with
     | false=>rfl
     | true=>exact absurd hx.t hbo.f
    | true=>cases x with
     | false=>exact absurd hbo.t hx.f
     | true=>rfl
   subst ebx
   conv=>whnf
   refine lV (v:=.bool false) (h:=K) ?_ ?_
   ·show hval _ (Jc E .neq 4 _ _ (.bool b) (.bool b)) = _
    rw [SE]
    rfl
   conv=>whnf
   repeat (refine ak.go ?_; conv=>whnf)
   exact ⟨K,⟨rfl,rfl,rfl,rfl,rfl,rfl,trivial⟩,⟨rfl,g⟩,rfl⟩
 clear hE1 hE2
 rintro G3 φ8 _ ⟨rfl,g⟩
 have ir:=ir.ext g
 have a11:=g.at_ _ _ a11
 have v11:=v11.ext g
 clear g
 conv=>whnf
 refine ak.cut (α:=Nat×Nat×Bool×Hp) (fun q=>[(14,int q.1),(15,int q.2.1),(16,.bool q.2.2.1),(17,int 0),(10,int rd),(8,.slice p1 la.length la.length),(9,.slice p2 lb.length lb.length),(7,ptr N7 0),(5,ptr P 0)]) (fun q H=>q.2.2.2 = H∧aC G3 H∧Sy m (.tuple ⟨[int q.1,int q.2.1,.bool q.2.2.1,int 0]⟩)) ?_ ?_
 ·conv=>whnf
  refine ⟨_,aM a11 l11,?_⟩
  conv=>whnf
  refine aJ.mono (zk _ m _ v11 hm) ?_
  rintro r K ⟨hF,g⟩
  have hsh:∃ (a b:Nat) (d:Bool),r = .tuple ⟨[int a,int b,.bool d,int 0]⟩:=by
   rcases hF with ⟨p,h1,h2,h3,h4,rfl⟩ | ⟨h,rfl⟩
   ·exact ⟨_,_,true,rfl⟩
   ·exact ⟨0,0,false,rfl⟩
  obtain ⟨a,b',d,rfl⟩:=hsh
  conv=>whnf
  exact ⟨(a,b',d,K),⟨rfl,rfl,rfl,rfl,rfl,rfl,rfl,rfl,rfl,trivial⟩,⟨rfl,g,hF⟩,rfl⟩
 rintro ⟨fa,fb,fd,G4⟩ φ9 _ ⟨rfl,g,hF⟩
 dsimp only at g hF ⊢
 have ir:=ir.ext g
 clear g a11 v11
 conv=>whnf
 refine ak.cut (α:=Hp) (fun q=>[(18,int fa),(19,int fb),(20,.bool fd),(14,int fa),(15,int fb),(16,.bool fd),(17,int 0),(10,int rd),(8,.slice p1 la.length la.length),(9,.slice p2 lb.length lb.length),(7,ptr N7 0),(5,ptr P 0)]) (fun q H=>q = H∧aC G4 H) ?_ ?_
 ·conv=>whnf
  refine ⟨_,aM ir.a7 ir.l7,?_⟩
  conv=>whnf
  refine aJ.mono (E9 _ m _ ir.mv hm) ?_
  rintro r K ⟨hQ,g⟩
  have hfs:=UZ hF hQ
  obtain ⟨a,b',d,e1,rfl⟩:=hfs
  injection e1 with e1
  injection e1 with e1
  injection e1 with e11 e1
  injection e1 with e12 e1
  injection e1 with e13 e1
  injection e11 with _ e11
  injection e12 with _ e12
  injection e13 with e13
  have e11:=Int.ofNat.inj e11
  have e12:=Int.ofNat.inj e12
  subst e11
  subst e12
  subst e13
  conv=>whnf
  exact ⟨K,⟨rfl,rfl,rfl,rfl,rfl,rfl,rfl,rfl,rfl,rfl,rfl,rfl,trivial⟩,⟨rfl,g⟩,rfl⟩
 clear hF
 rintro G5 E5 _ ⟨rfl,g⟩
 have ir:=ir.ext g
 clear g
 conv=>whnf
 refine ak.cut (α:=Unit) (fun q=>[(10,int rd),(8,.slice p1 la.length la.length),(9,.slice p2 lb.length lb.length),(7,ptr N7 0),(5,ptr P 0)]) (fun q H=>G5 = H) ?_ ?_
 ·conv=>whnf
  refine ak.go ?_
  conv=>whnf
  refine yH (by omega) ?_
  conv=>whnf
  refine lV (v:=.bool false) (h:=G5) ?_ ?_
  ·show hval _ (Jc E .neq 4 _ _ (.bool fd) (.bool fd)) = _
   rw [SE]
   rfl
  conv=>whnf
  refine yH (by omega) ?_
  conv=>whnf
  refine yH (by omega) ?_
  conv=>whnf
  repeat (refine ak.go ?_; conv=>whnf)
  exact ⟨(),⟨rfl,rfl,rfl,rfl,rfl,trivial⟩,rfl,rfl⟩
 rintro _ Ri _ rfl
 have hb2:=hm.b2
 have hb5:=hm.b5
 have hro:=Sz (b:=m.base) (by omega) hff
 have hrz:=Yh (b:=m.base) (by omega) hff
 have hrs:=UY (b:=m.base) hff adA
 have hsz:(la ++ lb).length * (la ++ lb).length≤6 * 6:=Nat.mul_le_mul (by omega) (by omega)
 have hbase:(mR m.base (la ++ lb) la.length).base = m.base:=rfl
 have hev:OkB (mR m.base (la ++ lb) la.length):=⟨hro.1,hrs,by omega,by omega⟩
 have hes:(mR m.base (la ++ lb) la.length).form.out.length≤12→OkS (mR m.base (la ++ lb) la.length).form:=fun n12=>Mac.aa0 hro.1 hrz (by omega) (by omega) hrs n12
 have aaI:∃ F,(mR m.base (la ++ lb) la.length).form = F:=⟨_,rfl⟩
 obtain ⟨F,eF⟩:=aaI
 rw [eF] at hes
 have hi7:=ir.a7
 have SI:=Hp.aU ir.a7
 have adE:=Hp.aU ir.aP
 have hc7:=(ir.mv).bx.cx
 obtain ⟨xo,xn,xc,xd,hcx⟩:=hc7
 have c70:cellAt G5 N7 0 = some (int (m.base:Int)):=(hcx G5 N7 26 (.refl _) hi7).c0
 conv=>whnf
 refine ak.cut (α:=Nat×List Value×Hp) (fun q=>[(21,ptr q.1 0),(10,int rd),(8,.slice p1 la.length la.length),(9,.slice p2 lb.length lb.length),(7,ptr N7 0),(5,ptr P 0)]) (fun q H=>q.2.2 = H∧aC G5 H∧H.at q.1 = some (.row 26 true q.2.1)∧q.2.1.length = 3∧jD G5 H (.agg ⟨q.2.1⟩) F.i) ?_ ?_
 ·have hab:=ir.ab
  obtain ⟨Ha,-,-,bA,bB⟩:=hab
  conv=>whnf
  refine ⟨_,c70,?_⟩
  conv=>whnf
  refine aJ.mono (O7 _ _ la lb m.base _ bA.view bB.view aci (by omega) (by omega)) ?_
  rintro r K1 ⟨hw,g1⟩
  conv=>whnf
  refine aJ.mono (Rc _ _ _ hw.mv hev) ?_
  rintro r K2 ⟨hw2,g2⟩
  rw [eF] at hw2
  have hk:=hw2.known
  obtain ⟨p,q,rfl⟩:=hk
  conv=>whnf
  refine ⟨rfl,_,cK (vs:=[int F.i.base,.slice p F.i.out.length F.i.out.length,.slice q F.i.next.length F.i.next.length]) rfl rfl rfl,?_⟩
  conv=>whnf
  exact ⟨(K2.next,_,_),⟨rfl,rfl,rfl,rfl,rfl,rfl,trivial⟩,⟨rfl,(g1.trans g2).bL _,Hp.aA _ _,rfl,(hw2.back g1.next).ext (aC.lay _ _)⟩,rfl⟩
 rintro ⟨N21,b21,G6⟩ aa8 _ ⟨rfl,g,a21,l21,o21⟩
 dsimp only at g a21 l21 o21 ⊢
 have ir:=ir.ext g
 clear hcx c70 hi7 g
 have hcF:=o21.bx.cx
 obtain ⟨xo,xn,xc,xd,hcx⟩:=hcF
 have c21:cellAt G6 N21 1 = some (.slice xo F.out.length xc):=(hcx G6 N21 26 (.refl _) a21).c1
 conv=>whnf
 refine ak.cut (α:=List Value×Mac×Hp) (fun q=>[(10,int rd),(8,.slice p1 la.length la.length),(9,.slice p2 lb.length lb.length),(7,ptr N7 0),(5,ptr P 0)]) (fun q H=>q.2.2 = H∧IR q.2.2 N7 P q.1 q.2.1 pa pb (.slice p1 la.length la.length) (.slice p2 lb.length lb.length) la lb) ?_ ?_
 ·conv=>whnf
  refine ak.go ?_
  conv=>whnf
  refine ⟨_,c21,?_⟩
  conv=>whnf
  refine dB (fun q5=>?_) (fun q5=>?_)
  ·conv=>whnf
   repeat (refine ak.go ?_; conv=>whnf)
   refine ⟨_,aM a21 l21,?_⟩
   conv=>whnf
   refine ⟨l21,_,bJ (vs:=b21) ir.a7 (by rw [l21,ir.l7]) o21.bx.one (Yj ir.l7 l21),?_⟩
   conv=>whnf
   exact ⟨(b21,F,G6.set N7 (.row 26 true b21)),⟨rfl,rfl,rfl,rfl,rfl,trivial⟩,⟨rfl,ir.adx (hes (by omega)) l21 ⟨G5,SI,adE,o21⟩⟩,rfl⟩
  conv=>whnf
  repeat (refine ak.go ?_; conv=>whnf)
  exact ⟨(b7,m,G6),⟨rfl,rfl,rfl,rfl,rfl,trivial⟩,⟨rfl,ir⟩,rfl⟩
 rintro ⟨b9,m9,G7⟩ aea _ ⟨rfl,ir9⟩
 dsimp only at ir9 ⊢
 have aP:=ir9.aP
 have hux:=DX pa
 obtain ⟨u,u0,u1,hu⟩:=hux
 have e1:=z8 u0 (show (0:Int) < 6 by omega)
 have hux:=DX pb
 obtain ⟨u',u0',u1',hu'⟩:=hux
 have e1':=z8 u0' (show (0:Int) < 6 by omega)
 have IB:∃ k:Int,u.tmod 6 = k:=⟨_,rfl⟩
 obtain ⟨k,ek⟩:=IB
 have IB:∃ k:Int,u'.tmod 6 = k:=⟨_,rfl⟩
 obtain ⟨k',ek'⟩:=IB
 conv=>whnf
 refine ⟨⟨by omega,by omega⟩,?_⟩
 conv=>whnf
 refine ⟨_,aQ aP (o:=0) rfl,?_⟩
 conv=>whnf
 refine ⟨u,hu,?_⟩
 conv=>whnf
 refine ⟨by omega,?_⟩
 conv=>whnf
 refine ⟨k,wie ek (by omega),?_⟩
 conv=>whnf
 refine ⟨⟨by omega,by omega⟩,?_⟩
 conv=>whnf
 refine ⟨_,aQ aP (o:=1) rfl,?_⟩
 conv=>whnf
 refine ⟨u',hu',?_⟩
 conv=>whnf
 refine ⟨by omega,?_⟩
 conv=>whnf
 refine ⟨k',wie ek' (by omega),?_⟩
 conv=>whnf
 refine ⟨k' + 1,wie (by omega) (by omega),?_⟩
 conv=>whnf
 refine ⟨rfl,_,bJ (vs:=[int k,int (k' + 1)]) aP rfl rfl rfl,?_⟩
 conv=>whnf
 repeat (refine ak.go ?_; conv=>whnf)
 refine ⟨((rd + 1:Nat):Int),wie (by omega) (by omega),?_⟩
 conv=>whnf
 exact Rnd.mk (rd + 1,k,k' + 1,b9,m9,G7.set P (.row 64 true [int k,int (k' + 1)])) ⟨by show rd + 1≤2; omega,ir9.newP,.inr ⟨⟨by dsimp only; omega,by dsimp only; omega⟩,⟨by dsimp only; omega,by dsimp only; omega⟩⟩⟩ (by show 2 - (rd + 1) < 2 - rd; omega) ⟨rfl,rfl,rfl,rfl,rfl,trivial⟩ (Hp.Le.refl _) rfl
end
end Go.Proofs.Ytedneplaibmppaa
