/- Contracts of the functions that PROF comes to. -/
import Derived.Test.YtedneplaibmppaaPROE
set_option maxRecDepth 100000
set_option maxHeartbeats 2000000
set_option linter.unusedVariables false
set_option linter.unusedSectionVars false
set_option linter.unusedSimpArgs false
namespace Go.Proofs.Ytedneplaibmppaa
open Go.Rx Go.RowKit
attribute [local irreducible] E idxN cellAt cellsAt storeAt callable helems hmoved lookIn findKey keyOk hentries Hp.at Hp.set Hp.lay arBits hupdated setAt CallP YieldP BoolOf IsWrap Rnd LoopP AppP CutP Int.tmod Int.tdiv Int.fdiv
section
variable [Unknowns]
attribute [local irreducible] ResP sameAt finP
theorem RRound_spec (va vb:Value) (la lb:List Int) (bb:Nat) (h:Hp) (hva:View h va la) (hvb:View h vb lb) (hlb:1≤lb.length) (hLL:la.length + lb.length≤100) (hbb:1≤bb∧bb≤10):CallP E 51 [int bb,va,vb] h (fun r h'=>OwnM h h' r (ringM bb (la ++ lb) la.length).i∧Grows h h'):=by
 obtain ⟨av,cv,rfl⟩:=hva.known
 obtain ⟨bv,dv,rfl⟩:=hvb.known
 have hLn:(la ++ lb).length = la.length + lb.length:=List.length_append
 have hff:la.length < (la ++ lb).length:=by omega
 have hU0:=ring_fin (b:=bb) hff
 have hs00:=ring_mem hff
 have hUl0:=sq_len (la ++ lb).length (la ++ lb).length
 have hUlm:(la ++ lb).length * (la ++ lb).length≤100 * 100:=Nat.mul_le_mul (by omega) (by omega)
 have hexn:∃ next,nextR (la ++ lb).length la.length bb = next:=⟨_,rfl⟩
 obtain ⟨next,enext⟩:=hexn
 have hexo:∃ out,outR (la ++ lb) = out:=⟨_,rfl⟩
 obtain ⟨out,eout⟩:=hexo
 have hexf:∃ f1,foldN (la ++ lb).length la.length 1 = f1:=⟨_,rfl⟩
 obtain ⟨f1,ef1⟩:=hexf
 have emach:built bb ((f1:Int),(0:Int)) out next = ringM bb (la ++ lb) la.length:=by rw [← eout,← enext,← ef1]; rfl
 rw [enext] at hU0
 rw [ef1] at hs00
 have hexU:∃ U,sq (la ++ lb).length (la ++ lb).length = U:=⟨_,rfl⟩
 obtain ⟨U,eU⟩:=hexU
 have hsq:∀ p ∈ U,(0≤p.1∧p.1 < (la ++ lb).length)∧(0≤p.2∧p.2 < (la ++ lb).length):=fun p hp=>by rw [← eU] at hp; exact sq_mem.1 hp
 have hU:=hU0
 have hs0:=hs00
 rw [eU] at hU hs0 hUl0
 have hUl:U.length≤1000000:=by omega
 obtain ⟨i3,t3,-,z3⟩:=ty3
 obtain ⟨iM,tM,dM⟩:=ty117
 refine enter51 (by simp) ?_
 conv=>whnf
 refine SeqP.cut (α:=Hp) (fun _=>[(6,ptr h.next 0),(0,int bb),(1,.slice av la.length cv),(2,.slice bv lb.length dv)]) (fun x H=>x = H∧Grows h H∧H.at h.next = some (.row 26 true [int 0,nilS,nilS])∧H.next = h.next + 1) ?_ ?_
 ·conv=>whnf
  exact ⟨_,⟨rfl,rfl,rfl,rfl,trivial⟩,⟨rfl,Grows.lay _ _,Hp.at_lay_self _ _,Hp.next_lay _ _⟩,rfl⟩
 rintro H φ1 _ ⟨rfl,gH,aR,nH⟩
 have vA:=hva.ext gH
 have vB:=hvb.ext gH
 have hltR:=Hp.lt_of_at aR
 have hexR:∃ RR,h.next = RR:=⟨_,rfl⟩
 obtain ⟨RR,eRR⟩:=hexR
 rw [eRR] at aR hltR ⊢
 have hRh:h.next≤RR:=by omega
 conv=>whnf
 refine SeqP.cut (α:=Unit) (fun _=>[(6,ptr RR 0),(0,int bb),(1,.slice av la.length cv),(2,.slice bv lb.length dv),(7,int la.length),(8,int lb.length)]) (fun x H2=>H = H2) ?_ ?_
 ·conv=>whnf
  exact ⟨(),⟨rfl,rfl,rfl,rfl,rfl,rfl,trivial⟩,rfl,rfl⟩
 rintro _ φ1b _ rfl
 conv=>whnf
 refine SeqP.cut (α:=Hp) (fun _=>[(9,slc H.next 0 1 1),(6,ptr RR 0),(0,int bb),(1,.slice av la.length cv),(2,.slice bv lb.length dv),(7,int la.length),(8,int lb.length)]) (fun x H2=>x = H2∧Grows H H2∧H2.at H.next = some (.row 64 true [int f1,int 0])∧H2.next = H.next + 1) ?_ ?_
 ·conv=>whnf
  refine CallP.mono (round86_spec 1 la.length lb.length _ (by omega) (by omega) (by omega) (by omega)) ?_
  rintro _ H' ⟨rfl,eH⟩
  have eH:=eH.symm
  subst eH
  rw [← hLn,ef1]
  conv=>whnf
  exact ⟨_,⟨rfl,rfl,rfl,rfl,rfl,rfl,rfl,trivial⟩,⟨rfl,Grows.lay _ _,Hp.at_lay_self _ _,Hp.next_lay _ _⟩,rfl⟩
 rintro H2 φ2 _ ⟨rfl,g2,a2,n2⟩
 conv=>whnf
 refine SeqP.cut (α:=Hp) (fun _=>[(10,mapAt H2.next),(9,slc H.next 0 1 1),(6,ptr RR 0),(0,int bb),(1,.slice av la.length cv),(2,.slice bv lb.length dv),(7,int la.length),(8,int lb.length)]) (fun x H3=>x = H3∧Grows H2 H3∧Nums H3 H2.next encP [((f1:Int),(0:Int))]) ?_ ?_
 ·conv=>whnf
  refine ⟨rfl,⟨by omega,by omega⟩,?_⟩
  conv=>whnf
  refine ⟨_,(show cellsAt (H2.lay (.map [] 0)) H.next (offAt 0 0 2) 2 = some [int f1,int 0] from all_cells (Hp.at_lay_old _ a2) rfl),?_⟩
  conv=>whnf
  refine raw_insert tM dM key64 (k:=((f1:Int),(0:Int))) (v:=int 0) (n:=0) rfl rfl rfl (MapAt.new _) ?_
  intro H4 hM4 y4
  have gl4:Grows H2 (H2.lay (.map [] 0)):=Grows.lay _ _
  have gk4:Grows H2 H4:=⟨by rw [y4.next]; exact gl4.next,fun r o e=>y4.at_ r o (by have:=Hp.lt_of_at e; omega) (gl4.at_ r o e)⟩
  conv=>whnf
  exact ⟨H4,⟨rfl,rfl,rfl,rfl,rfl,rfl,rfl,rfl,trivial⟩,⟨rfl,gk4,hM4.congr fun k=>by
   unfold fN
   by_cases e:k = ((f1:Int),(0:Int))
   ·rw [if_pos e,if_pos (by rw [e]; simp),e]; simp
   ·rw [if_neg e,if_neg (by simpa using e)]⟩,rfl⟩
 rintro H3 φ3 _ ⟨rfl,g3,hM3⟩
 have hltM:H2.next < H3.next:=by
  obtain ⟨_,_,h1,_⟩:=hM3
  exact Hp.lt_of_at h1
 conv=>whnf
 refine SeqP.cut (α:=Hp) (fun q=>[(11,ptr H3.next 0),(10,mapAt H2.next),(9,slc H.next 0 1 1),(6,ptr RR 0),(0,int bb),(1,.slice av la.length cv),(2,.slice bv lb.length dv),(7,int la.length),(8,int lb.length)]) (fun q H6=>q = H6∧Grows H3 H6∧H6.at H3.next = some (.row 26 true [int bb,nilS,nilS])) ?_ ?_
 ·conv=>whnf
  refine ⟨rfl,_,storeAt_all (vs:=[int bb,nilS,nilS]) rfl rfl rfl,?_⟩
  conv=>whnf
  exact ⟨_,⟨rfl,rfl,rfl,rfl,rfl,rfl,rfl,rfl,rfl,trivial⟩,⟨rfl,Grows.lay _ _,Hp.at_lay_self _ _⟩,rfl⟩
 rintro H6 φ6 _ ⟨rfl,g6,a6⟩
 have hexZ:∃ Z,H3.next = Z:=⟨_,rfl⟩
 obtain ⟨Z,eZ⟩:=hexZ
 have hexr:∃ r6,H.next = r6:=⟨_,rfl⟩
 obtain ⟨r6,er6⟩:=hexr
 have hexM:∃ M,H2.next = M:=⟨_,rfl⟩
 obtain ⟨M,eM⟩:=hexM
 have hRr:RR < r6:=by omega
 rw [eZ] at a6 hltM ⊢
 rw [er6] at a2 n2 ⊢
 rw [eM] at hM3 hltM n2 ⊢
 have hltZ:=Hp.lt_of_at a6
 have g36:=(g2.trans g3).trans g6
 have hz6:MZ H H6 26 Z nilS nilS [] [] [] [int bb,nilS,nilS] [pl M,slc r6 0 1 1]:=⟨g36,a6,BuiltC.nil,BuiltC.nil,rfl,fun k u l e=>by simp at e,by omega,sep3 hltZ (by omega) (by omega) (by omega) (by omega) (by omega) 1 1⟩
 have hM6:Nums H6 M encP [((f1:Int),(0:Int))]:=hM3.ext g6
 have hst6:BuiltC H H6 64 2 (slc r6 0 1 1) [((f1:Int),(0:Int))].length (fl2 [((f1:Int),(0:Int))]):=⟨rfl,.inr ⟨r6,rfl,by omega,true,g6.at_ _ _ (g3.at_ _ _ a2)⟩⟩
 have hz6':=hz6.more (.refl _) (v:=nilS) fun r e=>by cases e
 have hMge:H.next≤M:=by omega
 have hq0:=Bq.start hU hs0
 clear a6 g6 g36 hM3 a2
 conv=>whnf
 refine SeqP.cut (α:=Value×Value×List Value×List Int×List (List Int)×Hp) (fun q=>[(11,ptr Z 0),(6,ptr RR 0)]) (fun q H7=>q.2.2.2.2.2 = H7∧∃ rs,MZ H q.2.2.2.2.2 26 Z q.1 q.2.1 q.2.2.2.1 q.2.2.1 q.2.2.2.2.1 [int bb,q.1,q.2.1] rs∧(ringM bb (la ++ lb) la.length).i = ⟨bb,q.2.2.2.1,q.2.2.2.2.1⟩) ?_ ?_
 rotate_left
 ·rintro ⟨ov,nv,us,O,N,H7⟩ φ7 _ ⟨rfl,rs,hz7,ef⟩
  dsimp only at hz7 ef ⊢
  have hov:=hz7.out_ok
  obtain ⟨ax,rfl⟩:=hov
  have hnv:=hz7.next_ok
  obtain ⟨ay,rfl⟩:=hnv
  have aR7:=hz7.gr.at_ _ _ aR
  conv=>whnf
  repeat (refine SeqP.go ?_; conv=>whnf)
  refine ⟨_,all_cells hz7.z rfl,?_⟩
  conv=>whnf
  refine ⟨rfl,_,storeAt_full (vs:=[int bb,.slice ax O.length O.length,.slice ay N.length N.length]) aR7 rfl rfl rfl,?_⟩
  conv=>whnf
  repeat (refine SeqP.go ?_; conv=>whnf)
  obtain ⟨iR,tR,agR,szR⟩:=ty26
  refine leave_cell (r:=RR) (o:=0) (cs:=[int bb,.slice ax O.length O.length,.slice ay N.length N.length]) rfl tR agR ?_ ?_
  ·rw [szR]
   exact all_cells (Hp.at_set_self _ (Hp.lt_of_at aR7)) rfl
  ·rw [ef]
   exact hz7.leave (h:=h) (R:=RR) (by omega) (by omega) gH bb (.row 26 true [int bb,.slice ax O.length O.length,.slice ay N.length N.length])
 conv=>whnf
 repeat (refine SeqP.go ?_; conv=>whnf)
 refine loop_inv (α:=List (Int×Int)×Nat×Value×Value×Value×List Value×Hp) (fun q=>[(12,int q.2.1),(11,ptr Z 0),(10,mapAt M),(9,q.2.2.1),(6,ptr RR 0),(0,int bb),(1,.slice av la.length cv),(2,.slice bv lb.length dv),(7,int la.length),(8,int lb.length)]) (fun q=>q.2.2.2.2.2.2) (fun q=>Bq next bb ((f1:Int),(0:Int)) U q.1 q.2.1∧MZ H q.2.2.2.2.2.2 26 Z q.2.2.2.1 q.2.2.2.2.1 ((q.1.take q.2.1).map out) q.2.2.2.2.2.1 (rowsOf next bb q.1 q.2.1) [int bb,q.2.2.2.1,q.2.2.2.2.1] [pl M,q.2.2.1,nilS]∧Nums q.2.2.2.2.2.2 M encP q.1∧BuiltC H q.2.2.2.2.2.2 64 2 q.2.2.1 q.1.length (fl2 q.1)) (fun q=>2000000 - q.2.1) ([((f1:Int),(0:Int))],0,slc r6 0 1 1,nilS,nilS,[],H6) ⟨hq0,hz6',hM6,hst6⟩ ⟨rfl,rfl,rfl,rfl,rfl,rfl,rfl,rfl,rfl,rfl,trivial⟩ (Hp.Le.refl _) ?_
 rintro ⟨L,a,u6,ov,nv,us,G⟩ φ7 ⟨hq,hz,hM,hst⟩
 dsimp only at hq hz hM hst ⊢
 clear hz6 hM6 hst6 hz6' hq0
 have hfew:=hq.few
 have hale:=hq.le
 have hsk:=hst.slice
 obtain ⟨au,eu,-⟩:=hsk
 subst eu
 conv=>whnf
 repeat (refine SeqP.go ?_; conv=>whnf)
 refine cmpB (fun q1=>?_) (fun q1=>?_)
 rotate_left
 ·have hbd:=hq.done (by omega)
  have ea:a = L.length:=by omega
  subst ea
  rw [List.take_length] at hz
  conv=>whnf
  repeat (refine SeqP.go ?_; conv=>whnf)
  exact ⟨(ov,nv,us,L.map out,rowsOf next bb L L.length,G),⟨rfl,rfl,trivial⟩,⟨rfl,_,hz,by rw [← emach]; exact built_i hbd⟩,rfl⟩
 have haL:a < L.length:=by omega
 have hexs:∃ s,L[a]? = some s:=⟨_,List.getElem?_eq_getElem haL⟩
 obtain ⟨s,hs⟩:=hexs
 have hsU:=hq.sub s (List.mem_of_getElem? hs)
 have hOl:((L.take a).map out).length = a:=by rw [List.length_map,List.length_take]; omega
 have hNl:(rowsOf next bb L a).length = a:=by unfold rowsOf; rw [List.length_map,List.length_take]; omega
 have hq2:=hq.next hU hs
 have hsc:=fl2_at hst hs
 obtain ⟨rst,erst,hsc1,hsc2⟩:=hsc
 cases erst
 have hpr:∃ s1 s2:Nat,s = ((s1:Int),(s2:Int))∧s1 < (la ++ lb).length∧s2 < (la ++ lb).length:=by
  have h1:=hsq s hsU
  obtain ⟨p1,p2⟩:=s
  dsimp only at h1
  exact ⟨p1.toNat,p2.toNat,by rw [Int.toNat_of_nonneg (by omega),Int.toNat_of_nonneg (by omega)],by omega,by omega⟩
 obtain ⟨s1,s2,es,hs12⟩:=hpr
 rw [es] at hsc1 hsc2
 dsimp only at hsc1 hsc2
 conv=>whnf
 refine SeqP.go ?_
 conv=>whnf
 refine SeqP.cut (α:=Unit) (fun q=>[(13,int s1),(14,int s2),(12,int a),(11,ptr Z 0),(10,mapAt M),(9,slc rst 0 L.length L.length),(6,ptr RR 0),(0,int bb),(1,.slice av la.length cv),(2,.slice bv lb.length dv),(7,int la.length),(8,int lb.length)]) (fun q H7=>G = H7) ?_ ?_
 ·conv=>whnf
  refine ⟨rfl,⟨by omega,by omega⟩,?_⟩
  conv=>whnf
  refine ⟨⟨by omega,by omega⟩,?_⟩
  conv=>whnf
  refine ⟨_,hsc1,?_⟩
  conv=>whnf
  refine ⟨rfl,⟨by omega,by omega⟩,?_⟩
  conv=>whnf
  refine ⟨⟨by omega,by omega⟩,?_⟩
  conv=>whnf
  refine ⟨_,hsc2,?_⟩
  conv=>whnf
  exact ⟨(),⟨rfl,rfl,rfl,rfl,rfl,rfl,rfl,rfl,rfl,rfl,rfl,rfl,trivial⟩,rfl,rfl⟩
 rintro _ φ8 _ rfl
 clear hsc1 hsc2
 conv=>whnf
 refine SeqP.go ?_
 conv=>whnf
 refine SeqP.cut (α:=Value×Value×Hp) (fun q=>[(15,q.2.1),(13,int s1),(14,int s2),(12,int a),(11,ptr Z 0),(10,mapAt M),(9,q.1),(6,ptr RR 0),(0,int bb),(1,.slice av la.length cv),(2,.slice bv lb.length dv),(7,int la.length),(8,int lb.length)]) (fun q H7=>q.2.2 = H7∧MZ H q.2.2 26 Z ov nv ((L.take a).map out) us (rowsOf next bb L a) [int bb,ov,nv] [pl M,q.1,q.2.1]∧Nums q.2.2 M encP (notes L (outsN next s bb))∧BuiltC H q.2.2 64 2 q.1 (notes L (outsN next s bb)).length (fl2 (notes L (outsN next s bb)))∧BuiltC H q.2.2 3 1 q.2.1 (rowOf next bb (notes L (outsN next s bb)) s).length ((rowOf next bb (notes L (outsN next s bb)) s).map int)) ?_ ?_
 ·conv=>whnf
  repeat (refine SeqP.go ?_; conv=>whnf)
  refine loop_inv (α:=Nat×Value×Value×Hp) (fun q=>[(16,int q.1),(15,q.2.2.1),(13,int s1),(14,int s2),(12,int a),(11,ptr Z 0),(10,mapAt M),(9,q.2.1),(6,ptr RR 0),(0,int bb),(1,.slice av la.length cv),(2,.slice bv lb.length dv),(7,int la.length),(8,int lb.length)]) (fun q=>q.2.2.2) (fun q=>q.1≤bb∧MZ H q.2.2.2 26 Z ov nv ((L.take a).map out) us (rowsOf next bb L a) [int bb,ov,nv] [pl M,q.2.1,q.2.2.1]∧Nums q.2.2.2 M encP (notes L (outsN next s q.1))∧BuiltC H q.2.2.2 64 2 q.2.1 (notes L (outsN next s q.1)).length (fl2 (notes L (outsN next s q.1)))∧BuiltC H q.2.2.2 3 1 q.2.2.1 (rowOf next q.1 (notes L (outsN next s q.1)) s).length ((rowOf next q.1 (notes L (outsN next s q.1)) s).map int)) (fun q=>bb - q.1) (0,_,nilS,G) ⟨Nat.zero_le _,hz,hM,hst,BuiltC.nil⟩ ⟨rfl,rfl,rfl,rfl,rfl,rfl,rfl,rfl,rfl,rfl,rfl,rfl,rfl,rfl,trivial⟩ (Hp.Le.refl _) ?_
  rintro ⟨d,u,w,K⟩ φ9 ⟨hd,hzK,hMK,huK,hwK⟩
  dsimp only at hd hzK hMK huK hwK ⊢
  have hpre:=notes_pre (outsN next s d) L
  obtain ⟨r8,e8⟩:=hpre
  have hfew8:=notesN_few hU hq hsU hd
  have hin8:∀ j,j < d→next s j ∈ notes L (outsN next s d):=fun j hj=>notes_mem (outsN_mem hj)
  have hsucc:notes L (outsN next s (d + 1)) = note (notes L (outsN next s d)) (next s d):=by rw [outsN_succ,notes_snoc]
  have hexT:∃ L',notes L (outsN next s d) = L':=⟨_,rfl⟩
  obtain ⟨L',eL'⟩:=hexT
  rw [eL'] at hMK huK hwK e8 hfew8 hin8 hsucc
  have hus:=huK.slice
  obtain ⟨au2,eu2,-⟩:=hus
  subst eu2
  have hws2:=hwK.slice
  obtain ⟨aw2,ew2,-⟩:=hws2
  rw [rowOf_len] at ew2
  subst ew2
  conv=>whnf
  repeat (refine SeqP.go ?_; conv=>whnf)
  refine cmpB (fun q2=>?_) (fun q2=>?_)
  rotate_left
  ·have:d = bb:=by omega
   subst this
   conv=>whnf
   repeat (refine SeqP.go ?_; conv=>whnf)
   exact ⟨(_,_,K),⟨rfl,rfl,rfl,rfl,rfl,rfl,rfl,rfl,rfl,rfl,rfl,rfl,rfl,trivial⟩,⟨rfl,hzK,by rw [eL']; exact hMK,by rw [eL']; exact huK,by rw [eL']; exact hwK⟩,rfl⟩
  have hd':d < bb:=by omega
  have hfew9:=notesN_few hU hq hsU (d:=d + 1) (by omega)
  rw [hsucc] at hfew9
  have hext:∃ t,next s d = t:=⟨_,rfl⟩
  obtain ⟨t,et⟩:=hext
  rw [et] at hfew9 hsucc
  conv=>whnf
  refine SeqP.go ?_
  conv=>whnf
  have eE:t = (((foldN (la.length + lb.length) la.length (s1 * bb):Nat):Int),((foldN (la.length + lb.length) la.length (s2 + s1 * d):Nat):Int)):=by
   rw [← et,← enext,es,← hLn]
   unfold nextR
   dsimp only
   rw [Int.toNat_natCast,Int.toNat_natCast]
  have hm1:s1 * bb≤100 * 10:=Nat.mul_le_mul (by omega) (by omega)
  have hm2:s1 * d≤100 * 10:=Nat.mul_le_mul (by omega) (by omega)
  have em1:(s1:Int) * (bb:Int) = ((s1 * bb:Nat):Int):=by rw [Int.natCast_mul]
  have em2:(s1:Int) * (d:Int) = ((s1 * d:Nat):Int):=by rw [Int.natCast_mul]
  have hexu:∃ u,s1 * bb = u:=⟨_,rfl⟩
  obtain ⟨u1,eu1⟩:=hexu
  have hexu:∃ u,s1 * d = u:=⟨_,rfl⟩
  obtain ⟨u2,eu2⟩:=hexu
  rw [eu1] at hm1 em1 eE
  rw [eu2] at hm2 em2 eE
  refine SeqP.cut (α:=Nat×Hp) (fun q=>[(17,ptr q.1 0),(16,int d),(15,.slice aw2 d d),(13,int s1),(14,int s2),(12,int a),(11,ptr Z 0),(10,mapAt M),(9,.slice au2 L'.length L'.length),(6,ptr RR 0),(0,int bb),(1,.slice av la.length cv),(2,.slice bv lb.length dv),(7,int la.length),(8,int lb.length)]) (fun q H7=>q.2 = H7∧Grows K q.2∧q.2.at q.1 = some (.row 64 true [int t.1,int t.2])∧K.next≤q.1) ?_ ?_
  ·conv=>whnf
   rw [eE]
   refine ⟨(u1:Int),wie em1 (by omega),?_⟩
   conv=>whnf
   refine CallP.mono (round86_spec u1 la.length lb.length _ (by omega) (by omega) (by omega) (by omega)) ?_
   rintro _ H' ⟨rfl,eH⟩
   have eH:=eH.symm
   subst eH
   conv=>whnf
   refine ⟨(u2:Int),wie em2 (by omega),?_⟩
   conv=>whnf
   refine ⟨((s2 + u2:Nat):Int),wie (by omega) (by omega),?_⟩
   conv=>whnf
   refine CallP.mono (round86_spec (s2 + u2) la.length lb.length _ (by omega) (by omega) (by omega) (by omega)) ?_
   rintro _ H' ⟨rfl,eH⟩
   have eH:=eH.symm
   subst eH
   conv=>whnf
   refine ⟨rfl,_,storeAt_all (vs:=[int (foldN (la.length + lb.length) la.length u1:Nat),int (foldN (la.length + lb.length) la.length (s2 + u2):Nat)]) rfl rfl rfl,?_⟩
   conv=>whnf
   exact ⟨(K.next,_),⟨rfl,rfl,rfl,rfl,rfl,rfl,rfl,rfl,rfl,rfl,rfl,rfl,rfl,rfl,rfl,trivial⟩,⟨rfl,Grows.lay _ _,Hp.at_lay_self _ _,Nat.le_refl _⟩,rfl⟩
  rintro ⟨x15,K9⟩ φ10 _ ⟨rfl,g9,aK,hx15⟩
  dsimp only at g9 aK hx15 ⊢
  have hltM9:M < K.next:=by
   obtain ⟨_,_,h1,_⟩:=hMK
   exact Hp.lt_of_at h1
  have hz9:=hzK.ext g9
  have hM9:=hMK.ext g9
  have hu9:=huK.ext g9
  have hw9:=hwK.ext g9
  have hneu:ad (.slice au2 L'.length L'.length)≠some x15:=fun e=>by
   have h1:=(huK.ad_lt x15 e).2
   omega
  clear hzK hMK huK hwK
  conv=>whnf
  refine SeqP.cut (α:=Nat×Bool×Hp) (fun q=>[(18,int q.1),(19,.bool q.2.1),(17,ptr x15 0),(16,int d),(15,.slice aw2 d d),(13,int s1),(14,int s2),(12,int a),(11,ptr Z 0),(10,mapAt M),(9,.slice au2 L'.length L'.length),(6,ptr RR 0),(0,int bb),(1,.slice av la.length cv),(2,.slice bv lb.length dv),(7,int la.length),(8,int lb.length)]) (fun q H7=>q.2.2 = H7∧Grows K9 H7∧(t ∈ L'→q.1 = ixOf L' t∧q.2.1 = true)∧(t ∉ L'→q.1 = L'.length∧q.2.1 = false)) ?_ ?_
  ·conv=>whnf
   refine ⟨_,all_cells aK rfl,?_⟩
   conv=>whnf
   refine CallP.mono (index83_spec au2 L'.length L'.length M L' t K9 hM9 rfl) ?_
   rintro r H9 ⟨hr,g10⟩
   by_cases hin:t ∈ L'
   ·have hr:=hr.1 hin
    subst hr
    conv=>whnf
    exact ⟨(ixOf L' t,true,H9),⟨rfl,rfl,rfl,rfl,rfl,rfl,rfl,rfl,rfl,rfl,rfl,rfl,rfl,rfl,rfl,rfl,rfl,trivial⟩,⟨rfl,g10,fun _=>⟨rfl,rfl⟩,fun q=>absurd hin q⟩,rfl⟩
   ·have hr:=hr.2 hin
    subst hr
    conv=>whnf
    exact ⟨(L'.length,false,H9),⟨rfl,rfl,rfl,rfl,rfl,rfl,rfl,rfl,rfl,rfl,rfl,rfl,rfl,rfl,rfl,rfl,rfl,trivial⟩,⟨rfl,g10,fun q=>absurd q hin,fun _=>⟨rfl,rfl⟩⟩,rfl⟩
  rintro ⟨kx,isb,K9⟩ φ11 _ ⟨rfl,g10,hin1,hin2⟩
  dsimp only at g10 hin1 hin2 ⊢
  have hz9:=hz9.ext g10
  have hM9:=hM9.ext g10
  have hu9:=hu9.ext g10
  have hw9:=hw9.ext g10
  have aK:=g10.at_ _ _ aK
  clear g10
  conv=>whnf
  refine SeqP.cut (α:=Value×Hp) (fun q=>[(18,int (ixOf (note L' t) t:Nat)),(16,int d),(15,.slice aw2 d d),(13,int s1),(14,int s2),(12,int a),(11,ptr Z 0),(10,mapAt M),(9,q.1),(6,ptr RR 0),(0,int bb),(1,.slice av la.length cv),(2,.slice bv lb.length dv),(7,int la.length),(8,int lb.length)]) (fun q H7=>q.2 = H7∧MZ H q.2 26 Z ov nv ((L.take a).map out) us (rowsOf next bb L a) [int bb,ov,nv] [pl M,q.1,.slice aw2 d d]∧Nums q.2 M encP (note L' t)∧BuiltC H q.2 64 2 q.1 (note L' t).length (fl2 (note L' t))∧BuiltC H q.2 3 1 (.slice aw2 d d) (rowOf next d L' s).length ((rowOf next d L' s).map int)) ?_ ?_
  ·by_cases hin:t ∈ L'
   ·have hnote:note L' t = L':=by unfold note; rw [if_pos hin]
    have hk:=hin1 hin
    obtain ⟨hk1,hk2⟩:=hk
    subst hk1
    subst hk2
    rw [hnote]
    conv=>whnf
    refine SeqP.go ?_
    conv=>whnf
    repeat (refine SeqP.go ?_; conv=>whnf)
    exact ⟨(_,K9),⟨rfl,rfl,rfl,rfl,rfl,rfl,rfl,rfl,rfl,rfl,rfl,rfl,rfl,rfl,rfl,trivial⟩,⟨rfl,hz9,hM9,hu9,hw9⟩,rfl⟩
   ·have hnote:note L' t = L' ++ [t]:=by unfold note; rw [if_neg hin]
    have hnl:(L' ++ [t]).length = L'.length + 1:=by rw [List.length_append]; rfl
    have hix:ixOf (L' ++ [t]) t = L'.length:=idxOf_new hin
    have hk:=hin2 hin
    obtain ⟨hk1,hk2⟩:=hk
    subst hk1
    subst hk2
    rw [hnote] at hfew9 ⊢
    rw [hix]
    conv=>whnf
    refine SeqP.go ?_
    conv=>whnf
    repeat (refine SeqP.go ?_; conv=>whnf)
    refine ⟨_,all_cells aK rfl,?_⟩
    conv=>whnf
    refine raw_update tM dM key64 (k:=t) (v:=int L'.length) rfl rfl rfl hM9 ?_
    intro K10 hM10 y10
    have htz:=hz9.touch (i:=0) (v:=pl M) rfl (Kx.keeps y10) (y10.grows hz9.gr hMge) (by rw [y10.next]; exact Nat.le_refl _)
    have hM10':=Nums.add hin hM10
    have hst10:=htz.2.builtC (v:=.slice au2 L'.length L'.length) (by simp) hu9
    have hw10:=htz.2.builtC (v:=.slice aw2 d d) (by simp) hw9
    have hzz:=htz.1
    have aK10:K10.at x15 = some (.row 64 true [int t.1,int t.2]):=y10.at_ _ _ (by omega) aK
    conv=>whnf
    repeat (refine SeqP.go ?_; conv=>whnf)
    refine ⟨_,all_cells aK10 rfl,?_⟩
    conv=>whnf
    refine hzz.c_app (i:=1) (n:=L'.length) (cl:=fl2 L') (new:=[int t.1,int t.2]) rfl hst10 rfl rfl (by omega) (by omega) ?_
    intro st11 K11 hst11e hst11 hz11 kv11 kx11
    obtain ⟨a11,n11,rfl⟩:=hst11e
    have hM11:=kv11.map (M:=M) (by simp) hM10'
    have hw11:=kv11.builtC (v:=.slice aw2 d d) (by simp) hw10
    conv=>whnf
    exact ⟨(_,K11),⟨rfl,rfl,rfl,rfl,rfl,rfl,rfl,rfl,rfl,rfl,rfl,rfl,rfl,rfl,rfl,trivial⟩,⟨rfl,hz11,hM11,by rw [fl2_app,hnl]; exact hst11,hw11⟩,rfl⟩
  rintro ⟨u2,K1⟩ φ12 _ ⟨rfl,hz1,hM1,hu1,hw1⟩
  dsimp only at hz1 hM1 hu1 hw1 ⊢
  have hpre2:=note_pre L' t
  obtain ⟨r10,e10⟩:=hpre2
  have hrs:=rowOf_succ (next:=next) (s:=s) hin8 e10
  rw [et] at hrs
  have hus3:=hu1.slice
  obtain ⟨au3,eu3,-⟩:=hus3
  subst eu3
  have hrl:(rowOf next d L' s).length = d:=rowOf_len
  conv=>whnf
  refine hz1.r_app (i:=2) rfl hw1 (by omega) ?_
  intro w' K2 hw' hb2 hz2' kv2
  obtain ⟨a9,n9,rfl⟩:=hw'
  have hM2':=kv2.map (M:=M) (by simp) hM1
  have hu2:=kv2.builtC (v:=.slice au3 (note L' t).length (note L' t).length) (by simp) hu1
  rw [← hrs] at hb2
  conv=>whnf
  repeat (refine SeqP.go ?_; conv=>whnf)
  refine ⟨((d + 1:Nat):Int),wie (by omega) (by omega),?_⟩
  conv=>whnf
  exact Rnd.mk (d + 1,_,_,K2) ⟨by show d + 1≤bb; omega,hz2',by show Nums K2 M encP (notes L (outsN next s (d + 1))); rw [hsucc]; exact hM2',by show BuiltC H K2 64 2 _ (notes L (outsN next s (d + 1))).length (fl2 (notes L (outsN next s (d + 1)))); rw [hsucc]; exact hu2,by show BuiltC H K2 3 1 _ (rowOf next (d + 1) (notes L (outsN next s (d + 1))) s).length ((rowOf next (d + 1) (notes L (outsN next s (d + 1))) s).map int); rw [hsucc]; exact hb2⟩ (by show bb - (d + 1) < bb - d; omega) ⟨rfl,rfl,rfl,rfl,rfl,rfl,rfl,rfl,rfl,rfl,rfl,rfl,rfl,rfl,trivial⟩ (Hp.Le.refl _) rfl
 rintro ⟨u2,w2,K⟩ φ9 _ ⟨rfl,hzK,hMK,huK,hwK⟩
 dsimp only at hzK hMK huK hwK ⊢
 clear hz hM hst
 have hpre:=notes_pre (outsN next s bb) L
 obtain ⟨r8,e8⟩:=hpre
 have hrows:=rowsOf_ext hq.met hq.le e8
 have eouts:outs next bb s = outsN next s bb:=rfl
 rw [eouts] at hq2
 have hexL:∃ L',notes L (outsN next s bb) = L':=⟨_,rfl⟩
 obtain ⟨L',eL'⟩:=hexL
 rw [eL'] at hMK huK hwK hq2 e8 hrows
 have hsL':L'[a]? = some s:=by rw [e8,List.getElem?_append_left haL]; exact hs
 have htk:L'.take a = L.take a:=by rw [e8,List.take_append_of_le_length hale]
 have eO:((L.take a).map out) ++ [out s] = (L'.take (a + 1)).map out:=by rw [take_snoc hsL',List.map_append,htk]; rfl
 have eN:rowsOf next bb L a ++ [rowOf next bb L' s] = rowsOf next bb L' (a + 1):=by
  rw [← hrows]
  unfold rowsOf
  rw [take_snoc hsL',List.map_append]; rfl
 have hus:=huK.slice
 obtain ⟨au2,eu2,-⟩:=hus
 subst eu2
 have hws2:=hwK.slice
 obtain ⟨aw2,ew2,-⟩:=hws2
 subst ew2
 have hov:=hzK.out_ok
 obtain ⟨ax,eov⟩:=hov
 subst eov
 have hnv:=hzK.next_ok
 obtain ⟨ay,env⟩:=hnv
 subst env
 have z1:=cellAt_row (o:=1) hzK.z rfl
 have z2:=cellAt_row (o:=2) hzK.z rfl
 conv=>whnf
 refine SeqP.cut (α:=Unit) (fun q=>[(20,.slice ax ((L.take a).map out).length ((L.take a).map out).length),(21,.slice ay (rowsOf next bb L a).length (rowsOf next bb L a).length),(15,.slice aw2 (rowOf next bb L' s).length (rowOf next bb L' s).length),(13,int s1),(14,int s2),(12,int a),(11,ptr Z 0),(10,mapAt M),(9,.slice au2 L'.length L'.length),(6,ptr RR 0),(0,int bb),(1,.slice av la.length cv),(2,.slice bv lb.length dv),(7,int la.length),(8,int lb.length)]) (fun q H7=>K = H7) ?_ ?_
 ·conv=>whnf
  refine ⟨_,z1,?_⟩
  conv=>whnf
  refine ⟨_,z2,?_⟩
  conv=>whnf
  exact ⟨(),⟨rfl,rfl,rfl,rfl,rfl,rfl,rfl,rfl,rfl,rfl,rfl,rfl,rfl,rfl,rfl,trivial⟩,rfl,rfl⟩
 rintro _ φ10 _ rfl
 have eos:gl (la ++ lb) s2 = out s:=by
  rw [← eout,es]
  unfold outR
  dsimp only
  rw [Int.toNat_natCast]
 conv=>whnf
 refine SeqP.cut (α:=Value×Hp) (fun q=>[(21,.slice ay (rowsOf next bb L a).length (rowsOf next bb L a).length),(15,.slice aw2 (rowOf next bb L' s).length (rowOf next bb L' s).length),(12,int a),(11,ptr Z 0),(10,mapAt M),(9,.slice au2 L'.length L'.length),(6,ptr RR 0),(0,int bb),(1,.slice av la.length cv),(2,.slice bv lb.length dv),(7,int la.length),(8,int lb.length)]) (fun q H7=>q.2 = H7∧(∃ a n,q.1 = .slice a n n)∧MZ H q.2 26 Z q.1 (.slice ay (rowsOf next bb L a).length (rowsOf next bb L a).length) ((L'.take (a + 1)).map out) us (rowsOf next bb L a) [int bb,q.1,.slice ay (rowsOf next bb L a).length (rowsOf next bb L a).length] [pl M,.slice au2 L'.length L'.length,.slice aw2 (rowOf next bb L' s).length (rowOf next bb L' s).length]∧Nums q.2 M encP L'∧BuiltC H q.2 64 2 (.slice au2 L'.length L'.length) L'.length (fl2 L')∧BuiltC H q.2 3 1 (.slice aw2 (rowOf next bb L' s).length (rowOf next bb L' s).length) (rowOf next bb L' s).length ((rowOf next bb L' s).map int)) ?_ ?_
 ·conv=>whnf
  have hzQ:=hzK
  have hMQ:=hMK
  have huQ:=huK
  have hwQ:=hwK
  refine SeqP.go ?_
  conv=>whnf
  refine cmpB (fun q5=>?_) (fun q5=>?_)
  ·have hcA:=View.cellg (vA.ext hzK.gr) (i:=s2) (by omega)
   obtain ⟨r1,o1,sp1,ea1,hsp1,-,d3⟩:=hcA
   subst ea1
   rw [← gl_app1 (r:=lb) (by omega),eos] at d3
   conv=>whnf
   refine ⟨hsp1,⟨by omega,by omega⟩,?_⟩
   conv=>whnf
   refine ⟨_,d3,?_⟩
   conv=>whnf
   refine hzQ.o_app (by omega) ?_
   intro ov7 K7 hov7 hz7 kv7
   obtain ⟨a7,n7,rfl⟩:=hov7
   have hM7:=kv7.map (M:=M) (by simp) hMQ
   have hu7:=kv7.builtC (v:=.slice au2 L'.length L'.length) (by simp) huQ
   have hw7:=kv7.builtC (v:=.slice aw2 (rowOf next bb L' s).length (rowOf next bb L' s).length) (by simp) hwQ
   conv=>whnf
   refine ⟨rfl,_,storeAt_row hz7.z (by simp) rfl,?_⟩
   have hz8:=hz7.put [int bb,.slice a7 n7 n7,.slice ay (rowsOf next bb L a).length (rowsOf next bb L a).length]
   have hM8:=hz8.2.map (M:=M) (by simp) hM7
   have hu8:=hz8.2.builtC (v:=.slice au2 L'.length L'.length) (by simp) hu7
   have hw8:=hz8.2.builtC (v:=.slice aw2 (rowOf next bb L' s).length (rowOf next bb L' s).length) (by simp) hw7
   have hz8a:=hz8.1
   rw [eO] at hz8a
   conv=>whnf
   exact ⟨(_,_),⟨rfl,rfl,rfl,rfl,rfl,rfl,rfl,rfl,rfl,rfl,rfl,rfl,trivial⟩,⟨rfl,⟨_,_,rfl⟩,hz8a,hM8,hu8,hw8⟩,rfl⟩
  ·have hcB:=View.cellg (vB.ext hzK.gr) (i:=s2 - la.length) (by omega)
   obtain ⟨r1,o1,sp1,ea1,hsp1,-,d3⟩:=hcB
   subst ea1
   rw [← gl_app2 (l:=la) (by omega),eos] at d3
   have em:=tmod_nat (s2 - la.length) lb.length
   rw [Nat.mod_eq_of_lt (by omega)] at em
   conv=>whnf
   refine ⟨((s2 - la.length:Nat):Int),wie (by omega) (by omega),?_⟩
   conv=>whnf
   refine ⟨by omega,?_⟩
   conv=>whnf
   rw [em]
   refine ⟨hsp1,⟨by omega,by omega⟩,?_⟩
   conv=>whnf
   refine ⟨_,d3,?_⟩
   conv=>whnf
   refine hzQ.o_app (by omega) ?_
   intro ov7 K7 hov7 hz7 kv7
   obtain ⟨a7,n7,rfl⟩:=hov7
   have hM7:=kv7.map (M:=M) (by simp) hMQ
   have hu7:=kv7.builtC (v:=.slice au2 L'.length L'.length) (by simp) huQ
   have hw7:=kv7.builtC (v:=.slice aw2 (rowOf next bb L' s).length (rowOf next bb L' s).length) (by simp) hwQ
   conv=>whnf
   refine ⟨rfl,_,storeAt_row hz7.z (by simp) rfl,?_⟩
   have hz8:=hz7.put [int bb,.slice a7 n7 n7,.slice ay (rowsOf next bb L a).length (rowsOf next bb L a).length]
   have hM8:=hz8.2.map (M:=M) (by simp) hM7
   have hu8:=hz8.2.builtC (v:=.slice au2 L'.length L'.length) (by simp) hu7
   have hw8:=hz8.2.builtC (v:=.slice aw2 (rowOf next bb L' s).length (rowOf next bb L' s).length) (by simp) hw7
   have hz8a:=hz8.1
   rw [eO] at hz8a
   conv=>whnf
   exact ⟨(_,_),⟨rfl,rfl,rfl,rfl,rfl,rfl,rfl,rfl,rfl,rfl,rfl,rfl,trivial⟩,⟨rfl,⟨_,_,rfl⟩,hz8a,hM8,hu8,hw8⟩,rfl⟩
 rintro ⟨ov8,K8⟩ φ11 _ ⟨rfl,hov8,hz8,hM8,hu8,hw8⟩
 dsimp only at hov8 hz8 hM8 hu8 hw8 ⊢
 obtain ⟨a8,n8,rfl⟩:=hov8
 conv=>whnf
 repeat (refine SeqP.go ?_; conv=>whnf)
 refine hz8.n_app (i:=2) (by omega) rfl hw8.b ?_
 intro nv9 K9 hnv9 hz9 kv9
 obtain ⟨a9,n9,rfl⟩:=hnv9
 have hM9:=kv9.map (M:=M) (by simp) hM8
 have hu9:=kv9.builtC (v:=.slice au2 L'.length L'.length) (by simp) hu8
 conv=>whnf
 refine ⟨rfl,_,storeAt_row hz9.z (by simp) rfl,?_⟩
 have hz10:=hz9.put [int bb,.slice a8 n8 n8,.slice a9 n9 n9]
 have hM10:=hz10.2.map (M:=M) (by simp) hM9
 have hu10:=hz10.2.builtC (v:=.slice au2 L'.length L'.length) (by simp) hu9
 have hz11:=hz10.1
 rw [eN] at hz11
 conv=>whnf
 repeat (refine SeqP.go ?_; conv=>whnf)
 refine ⟨((a + 1:Nat):Int),wie (by omega) (by omega),?_⟩
 conv=>whnf
 exact Rnd.mk (L',a + 1,_,_,_,_,_) ⟨hq2,hz11,hM10,hu10⟩ (by show 2000000 - (a + 1) < 2000000 - a; omega) ⟨rfl,rfl,rfl,rfl,rfl,rfl,rfl,rfl,rfl,rfl,trivial⟩ (Hp.Le.refl _) rfl
end
end Go.Proofs.Ytedneplaibmppaa
namespace Go.Proofs.Ytedneplaibmppaa
open Go.Rx Go.RowKit
theorem turn_arg {ts:List Tr} (hy:TyT Try.prog 75 ts):∃ (n:Int) (la lb:List Int),Rx.InR n∧la.length < 9223372036854775808∧lb.length < 9223372036854775808∧∀ h v,AbsT h v (.ag ts)→∃ va vb,v = .agg ⟨[int n,va,vb]⟩∧View h va la∧View h vb lb:=by
 have hmax:maxLen < 9223372036854775808:=by decide
 have f0:=field_of (i:=0) (ft:=3) (off:=0) (by kernel_rfl) hy
 have f1:=field_of (i:=1) (ft:=22) (off:=1) (by kernel_rfl) hy
 have f2:=field_of (i:=2) (ft:=22) (off:=2) (by kernel_rfl) hy
 have hl:ts.length = 3:=f0.1.trans (by kernel_rfl)
 have f0:=f0.2
 have f1:=f1.2
 have f2:=f2.2
 rw [cells3,one_of (by omega)] at f0
 rw [cells22,one_of (by omega)] at f1 f2
 obtain ⟨n,en,hn⟩:=ty_num under3 f0
 obtain ⟨l1,e1,m1,r1⟩:=ty_ints under22 cells3 under3 f1
 obtain ⟨l2,e2,m2,r2⟩:=ty_ints under22 cells3 under3 f2
 refine ⟨n,l1,l2,hn,by omega,by omega,fun h v k=>?_⟩
 obtain ⟨vs,rfl,hvl,hk⟩:=ag_inv k
 match vs,hvl with
 | [v0,v1,v2],_ =>
 have k0:=hk 0 v0 _ rfl (List.getElem?_eq_getElem (by omega))
 have k1:=hk 1 v1 _ rfl (List.getElem?_eq_getElem (by omega))
 have k2:=hk 2 v2 _ rfl (List.getElem?_eq_getElem (by omega))
 rw [show ts[0] = .num n from List.cons.inj en |>.1] at k0
 rw [e1] at k1
 rw [e2] at k2
 have:=num_inv k0
 subst this
 exact ⟨v1,v2,rfl,k1.view,k2.view⟩
 | [],h | [_],h | [_,_],h | _ :: _ :: _ :: _ :: _,h=>simp [hl] at h
attribute [local irreducible] E idxN cellAt cellsAt storeAt callable helems hmoved lookIn findKey keyOk hentries Hp.at Hp.set Hp.lay arBits hupdated setAt CallP YieldP BoolOf IsWrap Rnd LoopP AppP CutP Int.tmod Int.tdiv Int.fdiv
section
variable [Unknowns]
attribute [local irreducible] ResP sameAt
theorem dgs_spec (v:Value) (l:List Int) (h:Hp) (hv:View h v l) (hl:l.length≤1000000) (most:Nat) (hm:most≤100):CallP E 52 [v,int most] h (fun r h'=>(∃ ds:List Int,Built h h' 3 r ds∧ds.length = min l.length most∧∀ x ∈ ds,0≤x∧x≤9)∧Grows h h'):=by
 obtain ⟨av,cv,rfl⟩:=hv.known
 refine enter52 (by simp) ?_
 conv=>whnf
 refine SeqP.cut (α:=Unit) (fun _=>[(0,.slice av l.length cv),(1,int most)]) (fun _ H=>h = H) ?_ ?_
 ·conv=>whnf
  exact ⟨(),⟨rfl,rfl,trivial⟩,rfl,rfl⟩
 rintro _ φ1 _ rfl
 conv=>whnf
 refine SeqP.cut (α:=Unit) (fun _=>[(5,nilS),(0,.slice av l.length cv),(1,int most)]) (fun _ H=>h = H) ?_ ?_
 ·conv=>whnf
  exact ⟨(),⟨rfl,rfl,rfl,trivial⟩,rfl,rfl⟩
 rintro _ φ2 _ rfl
 conv=>whnf
 refine SeqP.cut (α:=Value×List Int×Hp) (fun q=>[(5,q.1)]) (fun q H=>q.2.2 = H∧Grows h q.2.2∧Built h q.2.2 3 q.1 q.2.1∧q.2.1.length = min l.length most∧∀ x ∈ q.2.1,0≤x∧x≤9) ?_ ?_
 rotate_left
 ·rintro ⟨w,ds,H⟩ φ3 _ ⟨rfl,gH,hb,hlen,hds⟩
  dsimp only at gH hb hlen hds ⊢
  rcases hb with ⟨rfl,e⟩ | ⟨r,rfl,hr,x,hat⟩
  ·conv=>whnf
   repeat (refine SeqP.go ?_; conv=>whnf)
   exact ⟨⟨ds,.inl ⟨rfl,e⟩,hlen,hds⟩,gH⟩
  ·conv=>whnf
   repeat (refine SeqP.go ?_; conv=>whnf)
   exact ⟨⟨ds,.inr ⟨r,rfl,hr,x,hat⟩,hlen,hds⟩,gH⟩
 conv=>whnf
 repeat (refine SeqP.go ?_; conv=>whnf)
 refine loop_inv (α:=Nat×Value×List Int×Hp) (fun q=>[(6,int q.1),(5,q.2.1),(0,.slice av l.length cv),(1,int most)]) (fun q=>q.2.2.2) (fun q=>q.1≤l.length∧q.1≤most∧Grows h q.2.2.2∧Built h q.2.2.2 3 q.2.1 q.2.2.1∧q.2.2.1.length = q.1∧∀ x ∈ q.2.2.1,0≤x∧x≤9) (fun q=>most - q.1) (0,nilS,[],h) ⟨Nat.zero_le _,Nat.zero_le _,.refl _,.inl ⟨rfl,rfl⟩,rfl,fun x hx=>by simp at hx⟩ ⟨rfl,rfl,rfl,rfl,trivial⟩ (Hp.Le.refl _) ?_
 rintro ⟨i,w,ds,G⟩ φ4 ⟨hi,hi2,gG,hb,hlen,hds⟩
 dsimp only at hi hi2 gG hb hlen hds ⊢
 conv=>whnf
 repeat (refine SeqP.go ?_; conv=>whnf)
 refine cmpB (fun q1=>?_) (fun q1=>?_)
 rotate_left
 ·conv=>whnf
  repeat (refine SeqP.go ?_; conv=>whnf)
  exact ⟨(w,ds,G),⟨rfl,trivial⟩,⟨rfl,gG,hb,by dsimp only; omega,hds⟩,rfl⟩
 conv=>whnf
 refine cmpB (fun q2=>?_) (fun q2=>?_)
 rotate_left
 ·conv=>whnf
  repeat (refine SeqP.go ?_; conv=>whnf)
  exact ⟨(w,ds,G),⟨rfl,trivial⟩,⟨rfl,gG,hb,by dsimp only; omega,hds⟩,rfl⟩
 have hcA:=View.cellg (hv.ext gG) (i:=i) (by omega)
 obtain ⟨r1,o1,sp1,ea1,hsp1,-,d3⟩:=hcA
 subst ea1
 have hux:=u64_of (gl l i)
 obtain ⟨u,u0,u1,hu⟩:=hux
 have e1:=tmod_bd u0 (show (0:Int) < 10 by omega)
 have hexk:∃ k:Int,u.tmod 10 = k:=⟨_,rfl⟩
 obtain ⟨k,ek⟩:=hexk
 have hbo:=hb
 have hws:∃ aw,w = .slice aw ds.length ds.length:=by
  rcases hb with ⟨rfl,e⟩ | ⟨r,rfl,_,_,_⟩
  ·exact ⟨none,by rw [e]; rfl⟩
  ·exact ⟨_,rfl⟩
 obtain ⟨aw,rfl⟩:=hws
 conv=>whnf
 repeat (refine SeqP.go ?_; conv=>whnf)
 refine ⟨hsp1,⟨by omega,by omega⟩,?_⟩
 conv=>whnf
 refine ⟨_,d3,?_⟩
 conv=>whnf
 refine ⟨u,hu,?_⟩
 conv=>whnf
 refine ⟨by omega,?_⟩
 conv=>whnf
 refine ⟨k,wie ek (by omega),?_⟩
 conv=>whnf
 refine AppP.ints (hbo.ext (Grows.lay _ _)) (gG.trans (Grows.lay _ _)) Elems.lay1 (by simp; omega) ?_
 intro w' G2 hb2 hg2 _
 have hws:∃ aw n,w' = .slice aw n n:=by
  rcases hb2 with ⟨rfl,e⟩ | ⟨r,rfl,_,_,_⟩
  ·simp at e
  ·exact ⟨_,_,rfl⟩
 obtain ⟨aw2,n2,rfl⟩:=hws
 conv=>whnf
 repeat (refine SeqP.go ?_; conv=>whnf)
 refine ⟨((i + 1:Nat):Int),wie (by omega) (by omega),?_⟩
 conv=>whnf
 exact Rnd.mk (i + 1,_,ds ++ [k],G2) ⟨by dsimp only; omega,by dsimp only; omega,hg2,hb2,by simp [hlen],fun x hx=>by
  rcases List.mem_append.1 hx with hx | hx
  ·exact hds x hx
  ·rw [List.mem_singleton.1 hx]; omega⟩ (by dsimp only; omega) ⟨rfl,rfl,rfl,rfl,trivial⟩ (Hp.Le.refl _) rfl
end
end Go.Proofs.Ytedneplaibmppaa
namespace Go.Proofs.Ytedneplaibmppaa
open Go.Rx Go.RowKit
def Dg9 (l:List Int) (i:Nat):Prop:=∀ j,j < i→0≤gl l j∧gl l j≤9
theorem dg9_all {l:List Int}:Dg9 l l.length↔∀ x ∈ l,0≤x∧x≤9:=by
 constructor
 ·intro h x hx
  obtain ⟨j,hj,rfl⟩:=List.getElem_of_mem hx
  have:=h j hj
  rwa [gl_at hj] at this
 ·intro h j hj
  have:=h _ (List.getElem_mem hj)
  rwa [← gl_at hj] at this
theorem dg9_succ {l:List Int} {i:Nat}:Dg9 l (i + 1)↔Dg9 l i∧0≤gl l i∧gl l i≤9:=by
 constructor
 ·intro h
  exact ⟨fun j hj=>h j (by omega),h i (by omega)⟩
 ·rintro ⟨h,k⟩ j hj
  by_cases e:j = i
  ·subst e; exact k
  ·exact h j (by omega)
theorem ring_zer {b:Nat} (hb:1≤b) {l:List Int} {f:Nat} (h:f < l.length):(ringM b l f).Zer:=built_zer (ring_fin (b:=b) h) (ring_mem h) hb fun p hp=>by
 have h1:=(sq_mem.1 hp).2
 unfold outR nextR
 dsimp only
 rw [Int.toNat_natCast,Nat.mul_zero,Nat.add_zero]
 congr 1
 unfold foldN
 split
 ·rfl
 ·rename_i q
  have hh:p.2.toNat < l.length:=by omega
  rw [Nat.mod_eq_of_lt (by omega)]
  omega
theorem ring_outs {b:Nat} {l:List Int} {f:Nat} (h:f < l.length) (k:∀ x ∈ l,0≤x∧x≤9):∀ x ∈ (ringM b l f).out,0≤x∧x≤9:=built_outs (ring_fin (b:=b) h) (ring_mem h) fun p hp=>by
 have h1:=(sq_mem.1 hp).2
 exact gl_forall (P:=fun x=>0≤x∧x≤9) k (j:=p.2.toNat) (by omega)
attribute [local irreducible] E idxN cellAt cellsAt storeAt callable helems hmoved lookIn findKey keyOk hentries Hp.at Hp.set Hp.lay arBits hupdated setAt CallP YieldP BoolOf IsWrap Rnd LoopP AppP CutP Int.tmod Int.tdiv Int.fdiv
section
variable [Unknowns]
attribute [local irreducible] ResP sameAt
theorem rounds_law (ts0:List Tr) (hy0:TyT Try.prog 75 ts0):∀ h vs,AllT h vs [.ag ts0]→CallP E 10 vs h (fun r _=>r = .bool true):=by
 intro h vs hvs
 match vs,hvs with
 | [v0],hvs =>
 obtain ⟨k0,-⟩:=hvs
 obtain ⟨kb,ta,tb,hkb,hta,htb,hT⟩:=turn_arg hy0
 have hT:=hT h v0 k0
 obtain ⟨wa,wb,rfl,hwa,hwb⟩:=hT
 obtain ⟨aw,ca,rfl⟩:=hwa.known
 obtain ⟨bw,cb,rfl⟩:=hwb.known
 refine enter10 (by simp) ?_
 conv=>whnf
 refine SeqP.cut (α:=Hp) (fun _=>[(1,ptr h.next 0)]) (fun s H=>s = H∧H.at h.next = some (.row 75 true [int kb,.slice aw ta.length ca,.slice bw tb.length cb])∧Grows h H) ?_ ?_
 ·conv=>whnf
  exact ⟨_,⟨rfl,trivial⟩,⟨rfl,Hp.at_lay_self _ _,Grows.lay _ _⟩,rfl⟩
 rintro H0 φ0 _ ⟨rfl,aX,g0⟩
 have x0:=cellAt_row (o:=0) aX rfl
 have x1:=cellAt_row (o:=1) aX rfl
 have x2:=cellAt_row (o:=2) aX rfl
 conv=>whnf
 refine SeqP.cut (α:=(Option Addr×Nat×List Int)×(Option Addr×Nat×List Int)×Hp) (fun q=>[(3,.slice q.1.1 q.1.2.2.length q.1.2.1),(4,.slice q.2.1.1 q.2.1.2.2.length q.2.1.2.1),(1,ptr h.next 0)]) (fun q H=>q.2.2 = H∧View H (.slice q.1.1 q.1.2.2.length q.1.2.1) q.1.2.2∧View H (.slice q.2.1.1 q.2.1.2.2.length q.2.1.2.1) q.2.1.2.2∧q.1.2.2.length≤21∧q.2.1.2.2.length≤21∧Grows H0 H) ?_ ?_
 ·conv=>whnf
  refine ⟨_,x1,?_⟩
  conv=>whnf
  refine CallP.mono (few_spec _ ta _ (hwa.ext g0) hta 21 (by omega)) ?_
  rintro r K1 ⟨hr,g1⟩
  have hv1:=hr.view
  have hk:=hv1.known
  obtain ⟨p1,c1,rfl⟩:=hk
  have x2a:=g1.cell x2
  conv=>whnf
  refine ⟨_,x2a,?_⟩
  conv=>whnf
  refine CallP.mono (few_spec _ tb _ ((hwb.ext g0).ext g1) htb 21 (by omega)) ?_
  rintro r K2 ⟨hr2,g2⟩
  have hv2:=hr2.view
  have hk:=hv2.known
  obtain ⟨p2,c2,rfl⟩:=hk
  have x2b:=g2.cell x2a
  conv=>whnf
  refine ⟨?_,?_⟩
  ·repeat' (first | exact True.intro | (refine And.intro ?_ ?_ <;> (conv=>whnf)))
   all_goals first
    | exact sameAt_val (h2:=_) rfl (sameV_int _)
    | exact sameAt_val (h2:=_) rfl (sameV_ptr _ _)
    | exact sameAt_val (h2:=_) rfl (sameV_slice _ _ _)
    | exact sameAt_val (h2:=_) rfl (sameV_agg2 _ _)
    | exact sameAt_val (h2:=_) (congrArg (hval _) x2) (sameV_int _)
    | exact sameAt_val (h2:=_) (congrArg (hval _) x2) (sameV_slice _ _ _)
    | exact sameAt_val (h2:=_) (congrArg (hval _) x2a) (sameV_int _)
    | exact sameAt_val (h2:=_) (congrArg (hval _) x2a) (sameV_slice _ _ _)
    | exact sameAt_val (h2:=_) (congrArg (hval _) x2b) (sameV_int _)
    | exact sameAt_val (h2:=_) (congrArg (hval _) x2b) (sameV_slice _ _ _)
    | exact ⟨_,rfl,Hp.at_lay_self _ _,rfl⟩
  exact ⟨((p1,c1,ta.take 21),(p2,c2,tb.take 21),K2),⟨rfl,rfl,rfl,trivial⟩,⟨rfl,hv1.ext g2,hv2,by dsimp only; rw [List.length_take]; omega,by dsimp only; rw [List.length_take]; omega,g1.trans g2⟩,rfl⟩
 rintro ⟨⟨p1,c1,la⟩,⟨p2,c2,lb⟩,H1⟩ φ1 _ ⟨rfl,vA,vB,hla,hlb,g1⟩
 dsimp only at vA vB hla hlb g1 ⊢
 have x0:=g1.cell x0
 clear x1 x2 aX
 conv=>whnf
 refine SeqP.cut (α:=Unit) (fun q=>[(5,int kb),(3,.slice p1 la.length c1),(4,.slice p2 lb.length c2)]) (fun q H=>H1 = H) ?_ ?_
 ·conv=>whnf
  refine ⟨_,x0,?_⟩
  conv=>whnf
  exact ⟨(),⟨rfl,rfl,rfl,trivial⟩,rfl,rfl⟩
 rintro _ φ2 _ rfl
 clear x0
 conv=>whnf
 refine SeqP.cut (α:=Unit) (fun s=>[]) (fun s H=>True) ?_ ?_
 rotate_left
 ·rintro _ φ3 Hz _
  conv=>whnf
  repeat (refine SeqP.go ?_; conv=>whnf)
  refine CallP.mono (awake_spec _) ?_
  rintro r G3 ⟨rfl,g3⟩
  conv=>whnf
  repeat (refine SeqP.go ?_; conv=>whnf)
  rfl
 conv=>whnf
 repeat (refine SeqP.go ?_; conv=>whnf)
 refine loop_inv (α:=Nat×Int×(Option Addr×Nat×List Int)×(Option Addr×Nat×List Int)×Hp) (fun q=>[(6,int q.1),(5,int q.2.1),(3,.slice q.2.2.1.1 q.2.2.1.2.2.length q.2.2.1.2.1),(4,.slice q.2.2.2.1.1 q.2.2.2.1.2.2.length q.2.2.2.1.2.1)]) (fun q=>q.2.2.2.2) (fun q=>q.1≤2∧View q.2.2.2.2 (.slice q.2.2.1.1 q.2.2.1.2.2.length q.2.2.1.2.1) q.2.2.1.2.2∧View q.2.2.2.2 (.slice q.2.2.2.1.1 q.2.2.2.1.2.2.length q.2.2.2.1.2.1) q.2.2.2.1.2.2∧q.2.2.1.2.2.length≤21∧q.2.2.2.1.2.2.length≤21) (fun q=>2 - q.1) (0,kb,(p1,c1,la),(p2,c2,lb),H1) ⟨by omega,vA,vB,hla,hlb⟩ ⟨rfl,rfl,rfl,rfl,trivial⟩ (Hp.Le.refl _) ?_
 clear vA vB hla hlb g1
 rintro ⟨rd,kb,⟨p1,c1,la⟩,⟨p2,c2,lb⟩,G⟩ φ3 ⟨hrd,vA,vB,hla,hlb⟩
 dsimp only at hrd vA vB hla hlb ⊢
 conv=>whnf
 repeat (refine SeqP.go ?_; conv=>whnf)
 refine cmpB (fun q1=>?_) (fun q1=>?_)
 rotate_left
 ·conv=>whnf
  repeat (refine SeqP.go ?_; conv=>whnf)
  exact ⟨(),trivial,trivial,rfl⟩
 conv=>whnf
 refine SeqP.go ?_
 conv=>whnf
 refine SeqP.cut (α:=Nat×Int×Hp) (fun q=>[(7,ptr q.1 0),(8,int q.2.1),(6,int rd),(5,int kb),(3,.slice p1 la.length c1),(4,.slice p2 lb.length c2)]) (fun q H=>q.2.2 = H∧Grows G H∧Ans H q.1 q.2.1 (BadR kb la lb) (ringM kb.toNat (la ++ lb) la.length)) ?_ ?_
 ·conv=>whnf
  refine CallP.mono (Round_spec kb _ _ la lb _ vA vB (by omega) (by omega)) ?_
  rintro r K ⟨⟨hbad,hgood⟩,g⟩
  have hk:=ans_of hbad hgood
  obtain ⟨x,y,z,e,rfl,ho,hans⟩:=hk
  conv=>whnf
  refine ⟨rfl,_,storeAt_all (vs:=[x,y,z]) rfl ho rfl,?_⟩
  conv=>whnf
  exact ⟨(K.next,e,_),⟨rfl,rfl,rfl,rfl,rfl,rfl,trivial⟩,⟨rfl,g.then_lay _,hans⟩,rfl⟩
 rintro ⟨N7,e7,G1⟩ φ4 _ ⟨rfl,g,s7⟩
 dsimp only at g s7 ⊢
 have vA:=vA.ext g
 have vB:=vB.ext g
 clear g
 have hB0:BadR kb la lb↔((kb < 2∨5 < kb∨20 < la.length∨lb.length < 1∨20 < lb.length)∨¬ Dg9 la la.length)∨¬ Dg9 lb lb.length:=by
  rw [dg9_all,dg9_all]
  unfold BadR
  constructor
  ·rintro (k | k | k | k | k | k | k)
   ·exact .inl (.inl (.inl k))
   ·exact .inl (.inl (.inr (.inl k)))
   ·exact .inl (.inl (.inr (.inr (.inl k))))
   ·exact .inl (.inl (.inr (.inr (.inr (.inl k)))))
   ·exact .inl (.inl (.inr (.inr (.inr (.inr k)))))
   ·exact .inl (.inr k)
   ·exact .inr k
  ·rintro (((k | k | k | k | k) | k) | k)
   ·exact .inl k
   ·exact .inr (.inl k)
   ·exact .inr (.inr (.inl k))
   ·exact .inr (.inr (.inr (.inl k)))
   ·exact .inr (.inr (.inr (.inr (.inl k))))
   ·exact .inr (.inr (.inr (.inr (.inr (.inl k)))))
   ·exact .inr (.inr (.inr (.inr (.inr (.inr k)))))
 conv=>whnf
 refine SeqP.cut (α:=Bool) (fun q=>[(9,.bool q),(7,ptr N7 0),(8,int e7),(6,int rd),(5,int kb),(3,.slice p1 la.length c1),(4,.slice p2 lb.length c2)]) (fun q H=>G1 = H∧(q = true↔(kb < 2∨5 < kb∨20 < la.length∨lb.length < 1∨20 < lb.length))) ?_ ?_
 ·conv=>whnf
  refine cmpB (fun c0=>?_) (fun c0=>?_)
  ·conv=>whnf
   exact ⟨true,⟨rfl,rfl,rfl,rfl,rfl,rfl,rfl,trivial⟩,⟨rfl,fun _=>by omega,fun _=>rfl⟩,rfl⟩
  conv=>whnf
  refine cmpB (fun c1=>?_) (fun c1=>?_)
  ·conv=>whnf
   exact ⟨true,⟨rfl,rfl,rfl,rfl,rfl,rfl,rfl,trivial⟩,⟨rfl,fun _=>by omega,fun _=>rfl⟩,rfl⟩
  conv=>whnf
  refine cmpB (fun c2=>?_) (fun c2=>?_)
  ·conv=>whnf
   exact ⟨true,⟨rfl,rfl,rfl,rfl,rfl,rfl,rfl,trivial⟩,⟨rfl,fun _=>by omega,fun _=>rfl⟩,rfl⟩
  conv=>whnf
  refine cmpB (fun c3=>?_) (fun c3=>?_)
  ·conv=>whnf
   exact ⟨true,⟨rfl,rfl,rfl,rfl,rfl,rfl,rfl,trivial⟩,⟨rfl,fun _=>by omega,fun _=>rfl⟩,rfl⟩
  conv=>whnf
  refine cmpB (fun c4=>?_) (fun c4=>?_)
  ·conv=>whnf
   exact ⟨true,⟨rfl,rfl,rfl,rfl,rfl,rfl,rfl,trivial⟩,⟨rfl,fun _=>by omega,fun _=>rfl⟩,rfl⟩
  conv=>whnf
  exact ⟨false,⟨rfl,rfl,rfl,rfl,rfl,rfl,rfl,trivial⟩,⟨rfl,fun e=>(by cases e),fun k=>absurd k (by omega)⟩,rfl⟩
 rintro qb φ5 _ ⟨rfl,hqb⟩
 conv=>whnf
 refine SeqP.cut (α:=Bool) (fun q=>[(9,.bool q),(7,ptr N7 0),(8,int e7),(6,int rd),(5,int kb),(3,.slice p1 la.length c1),(4,.slice p2 lb.length c2)]) (fun q H=>G1 = H∧(q = true↔(kb < 2∨5 < kb∨20 < la.length∨lb.length < 1∨20 < lb.length)∨¬ Dg9 la la.length)) ?_ ?_
 ·conv=>whnf
  repeat (refine SeqP.go ?_; conv=>whnf)
  refine loop_inv (α:=Nat×Bool) (fun q=>[(10,int q.1),(9,.bool q.2),(7,ptr N7 0),(8,int e7),(6,int rd),(5,int kb),(3,.slice p1 la.length c1),(4,.slice p2 lb.length c2)]) (fun q=>G1) (fun q=>q.1≤la.length∧(q.2 = true↔(kb < 2∨5 < kb∨20 < la.length∨lb.length < 1∨20 < lb.length)∨¬ Dg9 la q.1)) (fun q=>la.length - q.1) (0,qb) ⟨Nat.zero_le _,by rw [hqb]; exact ⟨fun k=>.inl k,fun k=>k.elim id fun q=>absurd (fun j hj=>absurd hj (Nat.not_lt_zero _)) q⟩⟩ ⟨rfl,rfl,rfl,rfl,rfl,rfl,rfl,rfl,trivial⟩ (Hp.Le.refl _) ?_
  rintro ⟨i,b⟩ φ6 ⟨hi,hb⟩
  dsimp only at hi hb ⊢
  conv=>whnf
  repeat (refine SeqP.go ?_; conv=>whnf)
  refine cmpB (fun q2=>?_) (fun q2=>?_)
  rotate_left
  ·have:i = la.length:=by omega
   subst this
   conv=>whnf
   repeat (refine SeqP.go ?_; conv=>whnf)
   exact ⟨b,⟨rfl,rfl,rfl,rfl,rfl,rfl,rfl,trivial⟩,⟨rfl,hb⟩,rfl⟩
  have hcA:=View.cellg vA (i:=i) (by omega)
  obtain ⟨r1,o1,sp1,ea1,hsp1,-,d3⟩:=hcA
  subst ea1
  cases b with
  | true =>
   conv=>whnf
   repeat (refine SeqP.go ?_; conv=>whnf)
   refine ⟨((i + 1:Nat):Int),wie (by omega) (by omega),?_⟩
   conv=>whnf
   exact Rnd.mk (i + 1,true) ⟨by dsimp only; omega,fun _=>(hb.1 rfl).elim .inl fun q=>.inr fun k=>q (dg9_succ.1 k).1,fun _=>rfl⟩ (by dsimp only; omega) ⟨rfl,rfl,rfl,rfl,rfl,rfl,rfl,rfl,trivial⟩ (Hp.Le.refl _) rfl
  | false =>
   have hnb:¬ ((kb < 2∨5 < kb∨20 < la.length∨lb.length < 1∨20 < lb.length)∨¬ Dg9 la i):=fun k=>by have:=hb.2 k; cases this
   conv=>whnf
   repeat (refine SeqP.go ?_; conv=>whnf)
   refine ⟨hsp1,⟨by omega,by omega⟩,?_⟩
   conv=>whnf
   refine ⟨_,d3,?_⟩
   conv=>whnf
   refine cmpB (fun q3=>?_) (fun q3=>?_)
   ·conv=>whnf
    repeat (refine SeqP.go ?_; conv=>whnf)
    refine ⟨((i + 1:Nat):Int),wie (by omega) (by omega),?_⟩
    conv=>whnf
    exact Rnd.mk (i + 1,true) ⟨by dsimp only; omega,fun _=>.inr fun k=>by have:=(dg9_succ.1 k).2; omega,fun _=>rfl⟩ (by dsimp only; omega) ⟨rfl,rfl,rfl,rfl,rfl,rfl,rfl,rfl,trivial⟩ (Hp.Le.refl _) rfl
   conv=>whnf
   refine ⟨hsp1,⟨by omega,by omega⟩,?_⟩
   conv=>whnf
   refine ⟨_,d3,?_⟩
   conv=>whnf
   refine cmpB (fun q4=>?_) (fun q4=>?_)
   ·conv=>whnf
    repeat (refine SeqP.go ?_; conv=>whnf)
    refine ⟨((i + 1:Nat):Int),wie (by omega) (by omega),?_⟩
    conv=>whnf
    exact Rnd.mk (i + 1,true) ⟨by dsimp only; omega,fun _=>.inr fun k=>by have:=(dg9_succ.1 k).2; omega,fun _=>rfl⟩ (by dsimp only; omega) ⟨rfl,rfl,rfl,rfl,rfl,rfl,rfl,rfl,trivial⟩ (Hp.Le.refl _) rfl
   conv=>whnf
   repeat (refine SeqP.go ?_; conv=>whnf)
   refine ⟨((i + 1:Nat):Int),wie (by omega) (by omega),?_⟩
   conv=>whnf
   exact Rnd.mk (i + 1,false) ⟨by dsimp only; omega,fun e=>(by cases e),fun k=>absurd k fun k=>k.elim (fun q=>hnb (.inl q)) fun q=>q (dg9_succ.2 ⟨Classical.byContradiction fun w=>hnb (.inr w),by omega⟩)⟩ (by dsimp only; omega) ⟨rfl,rfl,rfl,rfl,rfl,rfl,rfl,rfl,trivial⟩ (Hp.Le.refl _) rfl
 rintro qc φ6 _ ⟨rfl,hqc⟩
 conv=>whnf
 refine SeqP.cut (α:=Bool) (fun q=>[(9,.bool q),(7,ptr N7 0),(8,int e7),(6,int rd),(5,int kb),(3,.slice p1 la.length c1),(4,.slice p2 lb.length c2)]) (fun q H=>G1 = H∧(q = true↔((kb < 2∨5 < kb∨20 < la.length∨lb.length < 1∨20 < lb.length)∨¬ Dg9 la la.length)∨¬ Dg9 lb lb.length)) ?_ ?_
 ·conv=>whnf
  repeat (refine SeqP.go ?_; conv=>whnf)
  refine loop_inv (α:=Nat×Bool) (fun q=>[(11,int q.1),(9,.bool q.2),(7,ptr N7 0),(8,int e7),(6,int rd),(5,int kb),(3,.slice p1 la.length c1),(4,.slice p2 lb.length c2)]) (fun q=>G1) (fun q=>q.1≤lb.length∧(q.2 = true↔((kb < 2∨5 < kb∨20 < la.length∨lb.length < 1∨20 < lb.length)∨¬ Dg9 la la.length)∨¬ Dg9 lb q.1)) (fun q=>lb.length - q.1) (0,qc) ⟨Nat.zero_le _,by rw [hqc]; exact ⟨fun k=>.inl k,fun k=>k.elim id fun q=>absurd (fun j hj=>absurd hj (Nat.not_lt_zero _)) q⟩⟩ ⟨rfl,rfl,rfl,rfl,rfl,rfl,rfl,rfl,trivial⟩ (Hp.Le.refl _) ?_
  rintro ⟨i,b⟩ φ6 ⟨hi,hb⟩
  dsimp only at hi hb ⊢
  conv=>whnf
  repeat (refine SeqP.go ?_; conv=>whnf)
  refine cmpB (fun q2=>?_) (fun q2=>?_)
  rotate_left
  ·have:i = lb.length:=by omega
   subst this
   conv=>whnf
   repeat (refine SeqP.go ?_; conv=>whnf)
   exact ⟨b,⟨rfl,rfl,rfl,rfl,rfl,rfl,rfl,trivial⟩,⟨rfl,hb⟩,rfl⟩
  have hcA:=View.cellg vB (i:=i) (by omega)
  obtain ⟨r1,o1,sp1,ea1,hsp1,-,d3⟩:=hcA
  subst ea1
  cases b with
  | true =>
   conv=>whnf
   repeat (refine SeqP.go ?_; conv=>whnf)
   refine ⟨((i + 1:Nat):Int),wie (by omega) (by omega),?_⟩
   conv=>whnf
   exact Rnd.mk (i + 1,true) ⟨by dsimp only; omega,fun _=>(hb.1 rfl).elim .inl fun q=>.inr fun k=>q (dg9_succ.1 k).1,fun _=>rfl⟩ (by dsimp only; omega) ⟨rfl,rfl,rfl,rfl,rfl,rfl,rfl,rfl,trivial⟩ (Hp.Le.refl _) rfl
  | false =>
   have hnb:¬ (((kb < 2∨5 < kb∨20 < la.length∨lb.length < 1∨20 < lb.length)∨¬ Dg9 la la.length)∨¬ Dg9 lb i):=fun k=>by have:=hb.2 k; cases this
   conv=>whnf
   repeat (refine SeqP.go ?_; conv=>whnf)
   refine ⟨hsp1,⟨by omega,by omega⟩,?_⟩
   conv=>whnf
   refine ⟨_,d3,?_⟩
   conv=>whnf
   refine cmpB (fun q3=>?_) (fun q3=>?_)
   ·conv=>whnf
    repeat (refine SeqP.go ?_; conv=>whnf)
    refine ⟨((i + 1:Nat):Int),wie (by omega) (by omega),?_⟩
    conv=>whnf
    exact Rnd.mk (i + 1,true) ⟨by dsimp only; omega,fun _=>.inr fun k=>by have:=(dg9_succ.1 k).2; omega,fun _=>rfl⟩ (by dsimp only; omega) ⟨rfl,rfl,rfl,rfl,rfl,rfl,rfl,rfl,trivial⟩ (Hp.Le.refl _) rfl
   conv=>whnf
   refine ⟨hsp1,⟨by omega,by omega⟩,?_⟩
   conv=>whnf
   refine ⟨_,d3,?_⟩
   conv=>whnf
   refine cmpB (fun q4=>?_) (fun q4=>?_)
   ·conv=>whnf
    repeat (refine SeqP.go ?_; conv=>whnf)
    refine ⟨((i + 1:Nat):Int),wie (by omega) (by omega),?_⟩
    conv=>whnf
    exact Rnd.mk (i + 1,true) ⟨by dsimp only; omega,fun _=>.inr fun k=>by have:=(dg9_succ.1 k).2; omega,fun _=>rfl⟩ (by dsimp only; omega) ⟨rfl,rfl,rfl,rfl,rfl,rfl,rfl,rfl,trivial⟩ (Hp.Le.refl _) rfl
   conv=>whnf
   repeat (refine SeqP.go ?_; conv=>whnf)
   refine ⟨((i + 1:Nat):Int),wie (by omega) (by omega),?_⟩
   conv=>whnf
   exact Rnd.mk (i + 1,false) ⟨by dsimp only; omega,fun e=>(by cases e),fun k=>absurd k fun k=>k.elim (fun q=>hnb (.inl q)) fun q=>q (dg9_succ.2 ⟨Classical.byContradiction fun w=>hnb (.inr w),by omega⟩)⟩ (by dsimp only; omega) ⟨rfl,rfl,rfl,rfl,rfl,rfl,rfl,rfl,trivial⟩ (Hp.Le.refl _) rfl
 rintro qd φ6 _ ⟨rfl,hqd⟩
 rw [← hB0] at hqd
 clear hB0 hqb hqc
 conv=>whnf
 refine SeqP.cut (α:=Hp) (fun q=>[(6,int rd),(5,int kb),(3,.slice p1 la.length c1),(4,.slice p2 lb.length c2)]) (fun q H=>q = H∧Grows G1 H) ?_ ?_
 ·obtain ⟨bq,lq,tq,yq,hq1,hq2⟩:=s7
  have cq:=all_cells tq lq
  by_cases hB:BadR kb la lb
  ·have hqt:=hqd.2 hB
   subst hqt
   have hq:=hq1 hB
   obtain ⟨ee,ebx⟩:=hq
   subst ebx
   conv=>whnf
   refine SeqP.go ?_
   conv=>whnf
   repeat (refine SeqP.go ?_; conv=>whnf)
   refine cmpF (by omega) ?_
   conv=>whnf
   refine ⟨_,cq,?_⟩
   conv=>whnf
   refine CallP.mono (empty_spec _ no0 _ (noM_mv _)) ?_
   rintro _ K1 ⟨⟨x,rfl,hx⟩,gk⟩
   cases x with
   | false=>exact absurd rfl hx.f
   | true =>
    conv=>whnf
    repeat (refine SeqP.go ?_; conv=>whnf)
    exact ⟨K1,⟨rfl,rfl,rfl,rfl,trivial⟩,⟨rfl,gk⟩,rfl⟩
  ·have hqf:qd = false:=by
    cases qd with
    | false=>rfl
    | true=>exact absurd (hqd.1 rfl) hB
   subst hqf
   have hq:=hq2 hB
   have hB':=hB
   unfold BadR at hB'
   have hok:∃ kk:Nat,kb = kk:=⟨kb.toNat,by omega⟩
   obtain ⟨kk,ek⟩:=hok
   have hda:∀ x ∈ la,0≤x∧x≤9:=Classical.byContradiction fun w=>hB (by unfold BadR; exact .inr (.inr (.inr (.inr (.inr (.inl w))))))
   have hdb:∀ x ∈ lb,0≤x∧x≤9:=Classical.byContradiction fun w=>hB (by unfold BadR; exact .inr (.inr (.inr (.inr (.inr (.inr w))))))
   have hdab:∀ x ∈ la ++ lb,0≤x∧x≤9:=fun x hx=>(List.mem_append.1 hx).elim (hda x) (hdb x)
   have hLn:(la ++ lb).length = la.length + lb.length:=List.length_append
   have hff:la.length < (la ++ lb).length:=by omega
   have ek2:kb.toNat = kk:=by omega
   have hkk:2≤kk∧kk≤5:=by omega
   rw [ek2] at hq
   have hro:=ring_ok (b:=kk) (by omega) hff
   have hrz:=ring_zer (b:=kk) (by omega) hff
   have hrs:=ring_outs (b:=kk) hff hdab
   have hsz:(la ++ lb).length * (la ++ lb).length≤42 * 42:=Nat.mul_le_mul (by omega) (by omega)
   have hbase:(ringM kk (la ++ lb) la.length).base = kk:=rfl
   have hev:OkB (ringM kk (la ++ lb) la.length):=⟨hro.1,hrs,by omega,by omega⟩
   have hes:(ringM kk (la ++ lb) la.length).form.out.length≤12→OkS (ringM kk (la ++ lb) la.length).form:=fun n12=>Mac.form_s hro.1 hrz (by omega) (by omega) hrs n12
   rw [ek]
   conv=>whnf
   refine SeqP.go ?_
   conv=>whnf
   repeat (refine SeqP.go ?_; conv=>whnf)
   refine ⟨_,cq,?_⟩
   conv=>whnf
   refine CallP.mono (RRound_spec _ _ la lb kk _ vA vB (by omega) (by omega) (by omega)) ?_
   rintro r K1 ⟨hw,gk⟩
   have hwk:=hw.known
   obtain ⟨p,q,rfl⟩:=hwk
   have cqa:=gk.cells cq
   conv=>whnf
   refine CallP.mono (right_spec _ _ e7 _ _ hw.mv hev (fun n12=>⟨((hq.1 n12).1),(hq.1 n12).2.ext gk,hes n12⟩) (fun n12=>⟨(hq.2 n12).1,congrArg (fun b:List Value=>Value.agg ⟨b⟩) (hq.2 n12).2⟩)) ?_
   rintro r K2 ⟨rfl,gk2⟩
   have cqb:=gk2.cells cqa
   conv=>whnf
   refine ⟨?_,?_⟩
   ·repeat' (first | exact True.intro | (refine And.intro ?_ ?_ <;> (conv=>whnf)))
    all_goals first
     | exact sameAt_val (h2:=_) rfl (sameV_int _)
     | exact sameAt_val (h2:=_) rfl (sameV_ptr _ _)
     | exact sameAt_val (h2:=_) rfl (sameV_slice _ _ _)
     | exact sameAt_val (h2:=_) (congrArg (fun x=>hval _ (aggOf x)) cq) yq
     | exact sameAt_val (h2:=_) (congrArg (fun x=>hval _ (aggOf x)) cqa) yq
     | exact sameAt_val (h2:=_) (congrArg (fun x=>hval _ (aggOf x)) cqb) yq
     | trace_state
   conv=>whnf
   repeat (refine SeqP.go ?_; conv=>whnf)
   exact ⟨K2,⟨rfl,rfl,rfl,rfl,trivial⟩,⟨rfl,gk.trans gk2⟩,rfl⟩
 rintro G2 φ7 _ ⟨rfl,g⟩
 have vA:=vA.ext g
 have vB:=vB.ext g
 clear g s7 hqd
 conv=>whnf
 refine SeqP.cut (α:=Nat) (fun q=>[(6,int rd),(5,int q),(3,.slice p1 la.length c1),(4,.slice p2 lb.length c2)]) (fun q H=>G2 = H) ?_ ?_
 ·conv=>whnf
  refine CallP.mono (base_spec kb _) ?_
  rintro r H' ⟨⟨B,rfl,hB1,hB2⟩,eH⟩
  have eH:=eH.symm
  subst eH
  conv=>whnf
  exact ⟨B,⟨rfl,rfl,rfl,rfl,trivial⟩,rfl,rfl⟩
 rintro B φ8 _ rfl
 conv=>whnf
 refine SeqP.cut (α:=(Option Addr×Nat×List Int)×Hp) (fun q=>[(6,int rd),(5,int B),(3,.slice q.1.1 q.1.2.2.length q.1.2.1),(4,.slice p2 lb.length c2)]) (fun q H=>q.2 = H∧Grows G2 H∧View H (.slice q.1.1 q.1.2.2.length q.1.2.1) q.1.2.2∧q.1.2.2.length≤21) ?_ ?_
 ·conv=>whnf
  refine CallP.mono (dgs_spec _ la _ vA (by omega) 3 (by omega)) ?_
  rintro r K1 ⟨⟨ds,hb,hdl,-⟩,g⟩
  have hv:=hb.view
  have hk:=hv.known
  obtain ⟨p,c,rfl⟩:=hk
  conv=>whnf
  exact ⟨((p,c,ds),K1),⟨rfl,rfl,rfl,rfl,trivial⟩,⟨rfl,g,hv,by dsimp only; omega⟩,rfl⟩
 rintro ⟨⟨p3,c3,l3⟩,G3⟩ φ9 _ ⟨rfl,g,v3,hl3⟩
 dsimp only at g v3 hl3 ⊢
 have vB:=vB.ext g
 clear g
 conv=>whnf
 refine SeqP.cut (α:=(Option Addr×Nat×List Int)×Hp) (fun q=>[(6,int rd),(5,int B),(3,.slice p3 l3.length c3),(4,.slice q.1.1 q.1.2.2.length q.1.2.1)]) (fun q H=>q.2 = H∧Grows G3 H∧View H (.slice q.1.1 q.1.2.2.length q.1.2.1) q.1.2.2∧q.1.2.2.length≤21) ?_ ?_
 ·conv=>whnf
  refine CallP.mono (dgs_spec _ lb _ vB (by omega) 4 (by omega)) ?_
  rintro r K1 ⟨⟨ds,hb,hdl,-⟩,g⟩
  have hv:=hb.view
  have hk:=hv.known
  obtain ⟨p,c,rfl⟩:=hk
  conv=>whnf
  exact ⟨((p,c,ds),K1),⟨rfl,rfl,rfl,rfl,trivial⟩,⟨rfl,g,hv,by dsimp only; omega⟩,rfl⟩
 rintro ⟨⟨p4,c4,l4⟩,G4⟩ φ10 _ ⟨rfl,g,v4,hl4⟩
 dsimp only at g v4 hl4 ⊢
 have v3:=v3.ext g
 clear g
 conv=>whnf
 refine SeqP.go ?_
 conv=>whnf
 refine cmpB (fun q6=>?_) (fun q6=>?_)
 ·conv=>whnf
  repeat (refine SeqP.go ?_; conv=>whnf)
  refine ⟨((rd + 1:Nat):Int),wie (by omega) (by omega),?_⟩
  conv=>whnf
  exact Rnd.mk (rd + 1,(B:Int),(p3,c3,l3),(some ⟨G4.next,0,none⟩,1,[7]),G4.lay (.row 3 true [int 7])) ⟨by dsimp only; omega,v3.ext (Grows.lay _ _),row_view (ls:=[7]) (Hp.at_lay_self _ _) rfl,hl3,by dsimp only; simp⟩ (by dsimp only; omega) ⟨rfl,rfl,rfl,rfl,trivial⟩ (Hp.Le.refl _) rfl
 conv=>whnf
 repeat (refine SeqP.go ?_; conv=>whnf)
 refine ⟨((rd + 1:Nat):Int),wie (by omega) (by omega),?_⟩
 conv=>whnf
 exact Rnd.mk (rd + 1,(B:Int),(p3,c3,l3),(p4,c4,l4),G4) ⟨by dsimp only; omega,v3,v4,hl3,hl4⟩ (by dsimp only; omega) ⟨rfl,rfl,rfl,rfl,trivial⟩ (Hp.Le.refl _) rfl
end
end Go.Proofs.Ytedneplaibmppaa
