/- Contracts of the functions that PEEE comes to. -/
import Derived.Test.YtedneplaibmppaaPEEB
set_option maxRecDepth 100000
set_option maxHeartbeats 2000000
set_option linter.unusedVariables false
set_option linter.unusedSectionVars false
set_option linter.unusedSimpArgs false
namespace Go.Proofs.Ytedneplaibmppaa
open Go.Rx Go.RowKit
attribute [local irreducible] E idxN cellAt cellsAt storeAt callable helems hmoved lookIn findKey keyOk hentries Hp.at Hp.set Hp.lay arBits hupdated setAt CallP YieldP BoolOf IsWrap Rnd LoopP AppP CutP Int.tmod Int.tdiv Int.fdiv
section
variable [Unknowns]
attribute [local irreducible] sameAt finP
theorem built103_spec (b:Nat) (s0:Int×Int) (out:Int×Int→Int) (next:(Int×Int)→Nat→(Int×Int)) (U:List (Int×Int)) (go gn:FuncId) (capo capn:List Value) (h:Hp) (hb:1≤b∧b≤1000) (hU:Fin_ next b U) (hs0:s0 ∈ U) (hUl:U.length≤100000) (ho:OutF go capo encP out U h) (hn:NextF gn capn encP next b U h):CallP E 103 [int b,encP s0,.func (.func go) ⟨[]⟩ ⟨capo⟩,.func (.func gn) ⟨[]⟩ ⟨capn⟩] h (fun r h'=>OwnM h h' r (built b s0 out next).i∧Grows h h'):=by
 obtain ⟨i3,t3,-,z3⟩:=ty3
 obtain ⟨iM,tM,dM⟩:=ty156
 have hexfo:∃ fo,Value.func (.func go) ⟨[]⟩ ⟨capo⟩ = fo:=⟨_,rfl⟩
 obtain ⟨fo,efo⟩:=hexfo
 have hexfn:∃ fn,Value.func (.func gn) ⟨[]⟩ ⟨capn⟩ = fn:=⟨_,rfl⟩
 obtain ⟨fn,efn⟩:=hexfn
 rw [efo,efn]
 refine enter103 (by simp) ?_
 conv=>whnf
 refine SeqP.cut (α:=Nat×Hp) (fun s=>[(8,ptr s.1 0),(5,ptr h.next 0),(0,int b),(2,fo),(3,fn)]) (fun s H=>s.2 = H∧Grows h s.2∧s.2.at s.1 = some (.row 25 true [int 0,nilS,nilS])∧h.next≤s.1∧s.1 < s.2.next∧s.2.at h.next = some (.row 147 true [int s0.1,int s0.2])) ?_ ?_
 ·unfold encP
  conv=>whnf
  have n1:(h.lay (.row 147 true [int s0.1,int s0.2])).next = h.next + 1:=Hp.next_lay _ _
  exact ⟨(h.next + 1,_),⟨congrArg (fun k=>ptr k 0) n1,rfl,rfl,rfl,rfl,trivial⟩,⟨rfl,(Grows.lay _ _).then_lay _,at_nx2 n1 (Hp.at_lay_self _ _),Nat.le_succ _,by dsimp only; rw [Hp.next_lay,n1]; omega,Hp.at_lay_old _ (Hp.at_lay_self _ _)⟩,rfl⟩
 rintro ⟨R,H⟩ φ1 _ ⟨rfl,gH,aR,hRh,hRn,aP⟩
 dsimp only at gH aR hRh hRn aP ⊢
 conv=>whnf
 refine SeqP.cut (α:=Hp) (fun _=>[(9,ptr H.next 0),(8,ptr R 0),(0,int b),(5,ptr h.next 0),(2,fo),(3,fn)]) (fun x H2=>x = H2∧MZ H H2 25 H.next nilS nilS [] [] [] [int b,nilS,nilS] []∧H2.at h.next = some (.row 147 true [int s0.1,int s0.2])) ?_ ?_
 ·conv=>whnf
  refine ⟨rfl,_,storeAt_all (vs:=[int b,nilS,nilS]) rfl rfl rfl,?_⟩
  conv=>whnf
  exact ⟨_,⟨rfl,rfl,rfl,rfl,rfl,rfl,trivial⟩,⟨rfl,MZ.start (.refl _),Hp.at_lay_old _ aP⟩,rfl⟩
 rintro H2 φ2 _ ⟨rfl,hz2,aP2⟩
 have hexZ:∃ Z,H.next = Z:=⟨_,rfl⟩
 obtain ⟨Z,eZ⟩:=hexZ
 rw [eZ] at hz2 ⊢
 conv=>whnf
 refine SeqP.cut (α:=Nat×Hp) (fun s=>[(10,mapAt s.1),(9,ptr Z 0),(8,ptr R 0),(0,int b),(5,ptr h.next 0),(2,fo),(3,fn)]) (fun s H3=>s.2 = H3∧MZ H s.2 25 Z nilS nilS [] [] [] [int b,nilS,nilS] [pl s.1]∧Nums s.2 s.1 encP [s0]∧H.next≤s.1∧s.2.at h.next = some (.row 147 true [int s0.1,int s0.2])) ?_ ?_
 ·conv=>whnf
  refine ⟨_,all_cells (Hp.at_lay_old _ aP2) rfl,?_⟩
  conv=>whnf
  refine raw_insert tM dM key147 (k:=s0) (v:=int 0) (n:=0) rfl rfl rfl (MapAt.new _) ?_
  intro H3 hM3 y3
  have gl3:Grows H2 (H2.lay (.map [] 0)):=Grows.lay _ _
  have gk3:Grows H2 H3:=⟨by rw [y3.next]; exact gl3.next,fun r o e=>y3.at_ r o (by have:=Hp.lt_of_at e; omega) (gl3.at_ r o e)⟩
  have hz3:=(hz2.more gk3 (v:=pl H2.next) fun r e=>by cases e; exact ⟨Nat.le_refl _,by rw [y3.next,Hp.next_lay]; omega⟩)
  conv=>whnf
  exact ⟨(H2.next,H3),⟨rfl,rfl,rfl,rfl,rfl,rfl,rfl,trivial⟩,⟨rfl,hz3,hM3.congr fun k=>by
   unfold fN
   by_cases e:k = s0
   ·rw [if_pos e,if_pos (by rw [e]; simp),e]; simp
   ·rw [if_neg e,if_neg (by simpa using e)],hz2.gr.next,gk3.at_ _ _ aP2⟩,rfl⟩
 rintro ⟨M,H3⟩ φ3 _ ⟨rfl,hz3,hM3,hMge,aP3⟩
 dsimp only at hz3 hM3 hMge aP3 ⊢
 conv=>whnf
 refine SeqP.cut (α:=Value×Hp) (fun s=>[(11,s.1),(10,mapAt M),(9,ptr Z 0),(8,ptr R 0),(0,int b),(2,fo),(3,fn)]) (fun s H4=>s.2 = H4∧MZ H s.2 25 Z nilS nilS [] [] [] [int b,nilS,nilS] [pl M,s.1,nilS]∧Nums s.2 M encP [s0]∧BuiltC H s.2 147 2 s.1 [s0].length (fl2 [s0])) ?_ ?_
 ·conv=>whnf
  refine ⟨_,all_cells aP3 rfl,?_⟩
  conv=>whnf
  have gl4:Grows H3 (H3.lay (.row 147 true (fl2 [s0]))):=Grows.lay _ _
  have hz4:=(hz3.more gl4 (v:=slc H3.next 0 1 1) fun r e=>by cases e; exact ⟨Nat.le_refl _,by rw [Hp.next_lay]; omega⟩).more (.refl _) (v:=nilS) fun r e=>by cases e
  exact ⟨(slc H3.next 0 1 1,_),⟨rfl,rfl,rfl,rfl,rfl,rfl,rfl,trivial⟩,⟨rfl,hz4,hM3.ext gl4,⟨rfl,.inr ⟨H3.next,rfl,hz3.gr.next,true,Hp.at_lay_self _ _⟩⟩⟩,rfl⟩
 rintro ⟨st,H4⟩ φ4 _ ⟨rfl,hz4,hM4,hst4⟩
 dsimp only at hz4 hM4 hst4 ⊢
 conv=>whnf
 refine SeqP.cut (α:=Value×Value×List Int×List Value×List (List Int)×Hp) (fun s=>[(9,ptr Z 0),(8,ptr R 0)]) (fun s H5=>s.2.2.2.2.2 = H5∧∃ rs,MZ H s.2.2.2.2.2 25 Z s.1 s.2.1 s.2.2.1 s.2.2.2.1 s.2.2.2.2.1 [int b,s.1,s.2.1] rs∧(built b s0 out next).i = ⟨b,s.2.2.1,s.2.2.2.2.1⟩) ?_ ?_
 rotate_left
 ·rintro ⟨ov,nv,O,us,N,H5⟩ φ5 _ ⟨rfl,rs,hz5,eb⟩
  dsimp only at hz5 eb ⊢
  have hov:=hz5.out_ok
  obtain ⟨ax,rfl⟩:=hov
  have hnv:=hz5.next_ok
  obtain ⟨ay,rfl⟩:=hnv
  have aR5:=hz5.gr.at_ _ _ aR
  conv=>whnf
  repeat (refine SeqP.go ?_; conv=>whnf)
  refine ⟨_,all_cells hz5.z rfl,?_⟩
  conv=>whnf
  refine ⟨rfl,_,storeAt_full (vs:=[int b,.slice ax O.length O.length,.slice ay N.length N.length]) aR5 rfl rfl rfl,?_⟩
  conv=>whnf
  repeat (refine SeqP.go ?_; conv=>whnf)
  obtain ⟨i25,t25,ag25,sz25⟩:=ty25
  refine leave_cell (r:=R) (o:=0) (cs:=[int b,.slice ax O.length O.length,.slice ay N.length N.length]) rfl t25 ag25 ?_ ?_
  ·rw [sz25]
   exact all_cells (Hp.at_set_self _ (Hp.lt_of_at aR5)) rfl
  ·rw [eb]
   exact hz5.leave (h:=h) (R:=R) hRn hRh gH b (.row 25 true [int b,.slice ax O.length O.length,.slice ay N.length N.length])
 conv=>whnf
 refine SeqP.go ?_
 conv=>whnf
 refine loop_inv (α:=Nat×List (Int×Int)×Value×Value×Value×List Value×Hp) (fun s=>[(12,int s.1),(11,s.2.2.1),(10,mapAt M),(9,ptr Z 0),(8,ptr R 0),(0,int b),(2,fo),(3,fn)]) (fun s=>s.2.2.2.2.2.2) (fun s=>Bq next b s0 U s.2.1 s.1∧MZ H s.2.2.2.2.2.2 25 Z s.2.2.2.1 s.2.2.2.2.1 ((s.2.1.take s.1).map out) s.2.2.2.2.2.1 (rowsOf next b s.2.1 s.1) [int b,s.2.2.2.1,s.2.2.2.2.1] [pl M,s.2.2.1,nilS]∧Nums s.2.2.2.2.2.2 M encP s.2.1∧BuiltC H s.2.2.2.2.2.2 147 2 s.2.2.1 s.2.1.length (fl2 s.2.1)) (fun s=>100000 - s.1) (0,[s0],st,nilS,nilS,[],H4) ⟨Bq.start hU hs0,hz4,hM4,hst4⟩ ⟨rfl,rfl,rfl,rfl,rfl,rfl,rfl,rfl,trivial⟩ (Hp.Le.refl _) ?_
 rintro ⟨a,L,st,ov,nv,us,H5⟩ φ5 ⟨hq,hz5,hM5,hst5⟩
 dsimp only at hq hz5 hM5 hst5 ⊢
 have hfew:=hq.few
 have hsk:=hst5.slice
 obtain ⟨as5,rfl,-⟩:=hsk
 have hql:=hq.le
 conv=>whnf
 repeat (refine SeqP.go ?_; conv=>whnf)
 refine cmpB (fun q1=>?_) (fun q1=>?_)
 rotate_left
 ·have hle:L.length≤a:=by omega
  have ea:a = L.length:=by omega
  have hbd:=hq.done hle
  subst ea
  rw [List.take_length] at hz5
  conv=>whnf
  exact ⟨(ov,nv,L.map out,us,rowsOf next b L L.length,H5),⟨rfl,rfl,trivial⟩,⟨rfl,_,hz5,built_i hbd⟩,rfl⟩
 have haL:a < L.length:=by omega
 have hexs:∃ s,L[a]? = some s:=⟨_,List.getElem?_eq_getElem haL⟩
 obtain ⟨s,hs⟩:=hexs
 have hsU:=hq.sub s (List.mem_of_getElem? hs)
 have hOl:((L.take a).map out).length = a:=by rw [List.length_map,List.length_take]; omega
 have hNl:(rowsOf next b L a).length = a:=by unfold rowsOf; rw [List.length_map,List.length_take]; omega
 have hq2:=hq.next hU hs
 conv=>whnf
 refine SeqP.cut (α:=List (Int×Int)×Value×Value×Value×List Value×Hp) (fun s=>[(12,int a),(11,s.2.1),(10,mapAt M),(9,ptr Z 0),(8,ptr R 0),(0,int b),(2,fo),(3,fn)]) (fun s H6=>s.2.2.2.2.2 = H6∧Bq next b s0 U s.1 (a + 1)∧MZ H s.2.2.2.2.2 25 Z s.2.2.1 s.2.2.2.1 ((s.1.take (a + 1)).map out) s.2.2.2.2.1 (rowsOf next b s.1 (a + 1)) [int b,s.2.2.1,s.2.2.2.1] [pl M,s.2.1,nilS]∧Nums s.2.2.2.2.2 M encP s.1∧BuiltC H s.2.2.2.2.2 147 2 s.2.1 s.1.length (fl2 s.1)) ?_ ?_
 rotate_left
 ·rintro ⟨L6,st6,ov6,nv6,us6,H6⟩ φ6 _ ⟨rfl,hq6,hz6,hM6,hst6⟩
  dsimp only at hq6 hz6 hM6 hst6 ⊢
  conv=>whnf
  refine ⟨((a + 1:Nat):Int),wie (by omega) (by omega),?_⟩
  conv=>whnf
  exact Rnd.mk (a + 1,L6,st6,ov6,nv6,us6,H6) ⟨hq6,hz6,hM6,hst6⟩ (by show 100000 - (a + 1) < 100000 - a; omega) ⟨rfl,rfl,rfl,rfl,rfl,rfl,rfl,rfl,trivial⟩ (Hp.Le.refl _) rfl
 have hsc:=fl2_cell hst5 hs
 obtain ⟨rst,erst,hsc⟩:=hsc
 cases erst
 have z1:cellAt H5 Z 1 = some ov:=cellAt_row hz5.z rfl
 conv=>whnf
 refine SeqP.cut (α:=Value×Hp) (fun x=>[(12,int a),(11,slc rst 0 L.length L.length),(10,mapAt M),(9,ptr Z 0),(8,ptr R 0),(0,int b),(2,fo),(3,fn)]) (fun x H6=>x.2 = H6∧MZ H x.2 25 Z x.1 nv ((L.take (a + 1)).map out) us (rowsOf next b L a) [int b,x.1,nv] [pl M,slc rst 0 L.length L.length,nilS]∧Nums x.2 M encP L∧BuiltC H x.2 147 2 (slc rst 0 L.length L.length) L.length (fl2 L)) ?_ ?_
 ·have hov:=hz5.out_ok
  obtain ⟨ax,eov⟩:=hov
  rw [hOl] at eov
  subst eov
  conv=>whnf
  refine ⟨_,z1,?_⟩
  conv=>whnf
  refine ⟨rfl,⟨by omega,by omega⟩,?_⟩
  conv=>whnf
  refine ⟨_,hsc,?_⟩
  rw [← efo]
  conv=>whnf
  refine ⟨ho.1,?_⟩
  refine CallP.mono (ho.2 s hsU H5 (gH.trans hz5.gr)) ?_
  rintro _ H6 ⟨rfl,g6⟩
  have hz6:=hz5.ext g6
  have f1:=g6.cell z1
  have f2:cellAt (H6.lay (.row 3 true [int (out s)])) Z 1 = some (.slice ax a a):=(Grows.lay _ _).cell f1
  conv=>whnf
  refine hz6.o_app (by omega) ?_
  intro ov7 H7 hov7 hz7 kv7
  obtain ⟨a7,n7,rfl⟩:=hov7
  have f3:cellAt H7 Z 1 = some (.slice ax a a):=cellAt_row hz7.z rfl
  conv=>whnf
  refine ⟨rfl,_,storeAt_row hz7.z (by simp) rfl,?_⟩
  conv=>whnf
  refine ⟨?_,?_⟩
  ·repeat' (first | exact True.intro | (refine And.intro ?_ ?_ <;> (conv=>whnf)))
   all_goals first
    | exact sameAt_val (h2:=_) rfl (sameV_int _)
    | exact sameAt_val (h2:=_) rfl (sameV_ptr _ _)
    | exact sameAt_val (h2:=_) rfl (sameV_slice _ _ _)
    | exact sameAt_val (h2:=_) rfl (sameV_agg2 _ _)
    | exact sameAt_val (h2:=_) (congrArg (hval _) z1) (sameV_int _)
    | exact sameAt_val (h2:=_) (congrArg (hval _) z1) (sameV_slice _ _ _)
    | exact sameAt_val (h2:=_) (congrArg (hval _) f1) (sameV_int _)
    | exact sameAt_val (h2:=_) (congrArg (hval _) f1) (sameV_slice _ _ _)
    | exact sameAt_val (h2:=_) (congrArg (hval _) f2) (sameV_int _)
    | exact sameAt_val (h2:=_) (congrArg (hval _) f2) (sameV_slice _ _ _)
    | exact sameAt_val (h2:=_) (congrArg (hval _) f3) (sameV_int _)
    | exact sameAt_val (h2:=_) (congrArg (hval _) f3) (sameV_slice _ _ _)
    | exact ⟨_,rfl,Hp.at_lay_self _ _,rfl⟩
  have hz8:=hz7.put [int b,.slice a7 n7 n7,nv]
  have eO:(L.take a).map out ++ [out s] = (L.take (a + 1)).map out:=by rw [take_snoc hs,List.map_append]; rfl
  have hz8a:=hz8.1
  rw [eO] at hz8a
  exact ⟨(_,_),⟨rfl,rfl,rfl,rfl,rfl,rfl,rfl,rfl,trivial⟩,⟨rfl,hz8a,hz8.2.map (by simp) (kv7.map (by simp) (hM5.ext g6)),hz8.2.builtC mem1 (kv7.builtC mem1 (hst5.ext g6))⟩,rfl⟩
 rintro ⟨ov,H6⟩ φ6 _ ⟨rfl,hz6,hM6,hst6⟩
 dsimp only at hz6 hM6 hst6 ⊢
 clear hz5 hM5 hst5 z1
 conv=>whnf
 refine SeqP.cut (α:=Hp) (fun _=>[(13,slc H6.next 0 b b),(12,int a),(11,slc rst 0 L.length L.length),(10,mapAt M),(9,ptr Z 0),(8,ptr R 0),(0,int b),(2,fo),(3,fn)]) (fun x H7=>x = H7∧MZ H x 25 Z ov nv ((L.take (a + 1)).map out) us (rowsOf next b L a) [int b,ov,nv] [pl M,slc rst 0 L.length L.length,slc H6.next 0 b b]∧Nums x M encP L∧BuiltC H x 147 2 (slc rst 0 L.length L.length) L.length (fl2 L)∧x.at H6.next = some (.row 3 true (partRow next b L s 0))) ?_ ?_
 ·conv=>whnf
  refine ⟨⟨by omega,by omega,by omega,by omega⟩,?_⟩
  conv=>whnf
  have gl7:Grows H6 (H6.lay (.row 3 true (times [int 0] (b:Int).toNat))):=Grows.lay _ _
  refine ⟨_,⟨rfl,rfl,rfl,rfl,rfl,rfl,rfl,rfl,rfl,trivial⟩,⟨rfl,hz6.add gl7 (i:=2) rfl fun r e=>by cases e; exact ⟨Nat.le_refl _,by rw [Hp.next_lay]; omega⟩,hM6.ext gl7,hst6.ext gl7,?_⟩,rfl⟩
  rw [partRow_zero]
  exact Hp.at_lay_self _ _
 rintro H7 φ7 _ ⟨rfl,hz7,hM7,hst7,aW7⟩
 have hnW:=hz6.gr.next
 have hexW:∃ W,H6.next = W:=⟨_,rfl⟩
 obtain ⟨W,eW⟩:=hexW
 rw [eW] at hz7 aW7 hnW ⊢
 conv=>whnf
 refine SeqP.cut (α:=Value×Hp) (fun x=>[(13,slc W 0 b b),(12,int a),(11,x.1),(10,mapAt M),(9,ptr Z 0),(8,ptr R 0),(0,int b),(2,fo),(3,fn)]) (fun x H8=>x.2 = H8∧MZ H x.2 25 Z ov nv ((L.take (a + 1)).map out) us (rowsOf next b L a) [int b,ov,nv] [pl M,x.1,slc W 0 b b]∧Nums x.2 M encP (notes L (outs next b s))∧BuiltC H x.2 147 2 x.1 (notes L (outs next b s)).length (fl2 (notes L (outs next b s)))∧x.2.at W = some (.row 3 true (partRow next b (notes L (outs next b s)) s b))) ?_ ?_
 rotate_left
 ·rintro ⟨st8,H8⟩ φ8 _ ⟨rfl,hz8,hM8,hst8,aW8⟩
  dsimp only at hz8 hM8 hst8 aW8 ⊢
  have hpre:=notes_pre (outs next b s) L
  obtain ⟨r8,e8⟩:=hpre
  have hexL:∃ L',notes L (outs next b s) = L':=⟨_,rfl⟩
  obtain ⟨L',eL'⟩:=hexL
  rw [eL'] at hM8 hst8 aW8 hq2 e8
  have hrows:=rowsOf_ext hq.met hq.le e8
  have hsL':L'[a]? = some s:=by rw [e8,List.getElem?_append_left haL]; exact hs
  have htk:L'.take (a + 1) = L.take (a + 1):=by rw [e8,List.take_append_of_le_length (by omega)]
  have hbu:Built H H8 3 (slc W 0 b b) (rowOf next b L' s):=by
   refine .inr ⟨W,?_,by omega,true,?_⟩
   ·rw [show (rowOf next b L' s).length = b from by unfold rowOf; rw [List.length_map,List.length_range]]
   ·rw [aW8,partRow_full]
  have hnv:=hz8.next_ok
  obtain ⟨ay,eny⟩:=hnv
  rw [hNl] at eny
  subst eny
  have hs8:=hst8.slice
  obtain ⟨as8,rfl,-⟩:=hs8
  have z2:cellAt H8 Z 2 = some (.slice ay a a):=cellAt_row hz8.z rfl
  conv=>whnf
  refine ⟨_,z2,?_⟩
  conv=>whnf
  refine hz8.n_app (i:=2) (by omega) rfl hbu ?_
  intro nv9 H9 hnv9 hz9 kv9
  obtain ⟨a9,n9,rfl⟩:=hnv9
  have hz10:=hz9.put [int b,ov,.slice a9 n9 n9]
  conv=>whnf
  refine ⟨rfl,_,storeAt_row hz9.z (by simp) rfl,?_⟩
  conv=>whnf
  have eN:rowsOf next b L a ++ [rowOf next b L' s] = rowsOf next b L' (a + 1):=by
   rw [← hrows]
   unfold rowsOf
   rw [take_snoc hsL',List.map_append]; rfl
  have hz10a:=hz10.1
  rw [eN,← htk] at hz10a
  exact ⟨(L',_,ov,_,_,_),⟨rfl,rfl,rfl,rfl,rfl,rfl,rfl,rfl,trivial⟩,⟨rfl,hq2,hz10a,hz10.2.map (by simp) (kv9.map (by simp) hM8),hz10.2.builtC mem1 (kv9.builtC mem1 hst8)⟩,rfl⟩
 conv=>whnf
 refine SeqP.go ?_
 conv=>whnf
 refine loop_inv (α:=Nat×Value×Hp) (fun x=>[(46,int x.1),(45,int b),(13,slc W 0 b b),(12,int a),(11,x.2.1),(10,mapAt M),(9,ptr Z 0),(8,ptr R 0),(0,int b),(2,fo),(3,fn)]) (fun x=>x.2.2) (fun x=>x.1≤b∧MZ H x.2.2 25 Z ov nv ((L.take (a + 1)).map out) us (rowsOf next b L a) [int b,ov,nv] [pl M,x.2.1,slc W 0 b b]∧Nums x.2.2 M encP (notes L (outsN next s x.1))∧BuiltC H x.2.2 147 2 x.2.1 (notes L (outsN next s x.1)).length (fl2 (notes L (outsN next s x.1)))∧x.2.2.at W = some (.row 3 true (partRow next b (notes L (outsN next s x.1)) s x.1))) (fun x=>b - x.1) (0,slc rst 0 L.length L.length,H7) ⟨Nat.zero_le _,hz7,hM7,hst7,aW7⟩ ⟨rfl,rfl,rfl,rfl,rfl,rfl,rfl,rfl,rfl,rfl,rfl,trivial⟩ (Hp.Le.refl _) ?_
 rintro ⟨d,st8,H8⟩ φ8 ⟨hd,hz8,hM8,hst8,aW8⟩
 dsimp only at hd hz8 hM8 hst8 aW8 ⊢
 clear hz7 hM7 hst7 aW7
 conv=>whnf
 repeat (refine SeqP.go ?_; conv=>whnf)
 refine cmpB (fun q2=>?_) (fun q2=>?_)
 rotate_left
 ·have:d = b:=by omega
  subst this
  conv=>whnf
  exact ⟨(st8,H8),⟨rfl,rfl,rfl,rfl,rfl,rfl,rfl,rfl,rfl,trivial⟩,⟨rfl,hz8,hM8,hst8,aW8⟩,rfl⟩
 have hdb:d < b:=by omega
 have hpre:=notes_pre (outsN next s d) L
 obtain ⟨r8,e8⟩:=hpre
 have hfew8:=notesN_few hU hq hsU hd
 have hfew9:=notesN_few hU hq hsU (d:=d + 1) (by omega)
 have hin8:∀ j,j < d→next s j ∈ notes L (outsN next s d):=fun j hj=>notes_mem (outsN_mem hj)
 rw [outsN_succ,notes_snoc] at hfew9
 have hsucc:notes L (outsN next s (d + 1)) = note (notes L (outsN next s d)) (next s d):=by rw [outsN_succ,notes_snoc]
 have hexL:∃ L',notes L (outsN next s d) = L':=⟨_,rfl⟩
 obtain ⟨L',eL'⟩:=hexL
 rw [eL'] at hM8 hst8 aW8 e8 hfew8 hfew9 hin8 hsucc
 have hsL':L'[a]? = some s:=by rw [e8,List.getElem?_append_left haL]; exact hs
 have hsk8:=hst8.slice
 obtain ⟨as8,rfl,-⟩:=hsk8
 have hsc8:=fl2_cell hst8 hsL'
 obtain ⟨rs8,ers8,hsc8⟩:=hsc8
 cases ers8
 have haL':a < L'.length:=by rw [e8,List.length_append]; omega
 conv=>whnf
 refine SeqP.go ?_
 conv=>whnf
 refine SeqP.cut (α:=Value×Hp) (fun x=>[(46,int d),(45,int b),(13,slc W 0 b b),(12,int a),(11,x.1),(10,mapAt M),(9,ptr Z 0),(8,ptr R 0),(0,int b),(2,fo),(3,fn)]) (fun x H9=>x.2 = H9∧MZ H x.2 25 Z ov nv ((L.take (a + 1)).map out) us (rowsOf next b L a) [int b,ov,nv] [pl M,x.1,slc W 0 b b]∧Nums x.2 M encP (note L' (next s d))∧BuiltC H x.2 147 2 x.1 (note L' (next s d)).length (fl2 (note L' (next s d)))∧x.2.at W = some (.row 3 true (partRow next b (note L' (next s d)) s (d + 1)))) ?_ ?_
 rotate_left
 ·rintro ⟨st9,H9⟩ φ9 _ ⟨rfl,hz9,hM9,hst9,aW9⟩
  dsimp only at hz9 hM9 hst9 aW9 ⊢
  rw [← hsucc] at hM9 hst9 aW9
  conv=>whnf
  refine ⟨((d + 1:Nat):Int),wie (by omega) (by omega),?_⟩
  conv=>whnf
  exact Rnd.mk (d + 1,st9,H9) ⟨by show d + 1≤b; omega,hz9,hM9,hst9,aW9⟩ (by show b - (d + 1) < b - d; omega) ⟨rfl,rfl,rfl,rfl,rfl,rfl,rfl,rfl,rfl,rfl,rfl,trivial⟩ (Hp.Le.refl _) rfl
 have hext:∃ t,next s d = t:=⟨_,rfl⟩
 obtain ⟨t,et⟩:=hext
 have hn2:=hn.2 s hsU d hdb H8 (gH.trans hz8.gr)
 rw [et] at hfew9 hn2 ⊢
 conv=>whnf
 refine SeqP.go ?_
 conv=>whnf
 refine SeqP.cut (α:=Nat×Hp) (fun x=>[(15,ptr x.1 0),(14,int d),(46,int d),(45,int b),(13,slc W 0 b b),(12,int a),(11,slc rs8 0 L'.length L'.length),(10,mapAt M),(9,ptr Z 0),(8,ptr R 0),(0,int b),(2,fo),(3,fn)]) (fun x H9=>x.2 = H9∧Grows H8 x.2∧x.2.at x.1 = some (.row 147 true [int t.1,int t.2])∧H8.next≤x.1) ?_ ?_
 ·conv=>whnf
  refine ⟨rfl,⟨by omega,by omega⟩,?_⟩
  conv=>whnf
  refine ⟨_,hsc8,?_⟩
  rw [← efn]
  conv=>whnf
  refine ⟨hn.1,?_⟩
  refine CallP.mono hn2 ?_
  rintro _ H9 ⟨rfl,g9⟩
  unfold encP
  conv=>whnf
  refine ⟨rfl,_,storeAt_all (vs:=[int t.1,int t.2]) rfl rfl rfl,?_⟩
  conv=>whnf
  exact ⟨(H9.next,_),⟨rfl,rfl,rfl,rfl,rfl,rfl,rfl,rfl,rfl,rfl,rfl,rfl,rfl,trivial⟩,⟨rfl,g9.then_lay _,Hp.at_lay_self _ _,g9.next⟩,rfl⟩
 rintro ⟨x15,H9⟩ φ9 _ ⟨rfl,g9,aK,hx15⟩
 dsimp only at g9 aK hx15 ⊢
 have hne15:ad (slc rs8 0 L'.length L'.length)≠some x15:=fun e=>by
  have h1:=(hst8.ad_lt rs8 rfl).2
  cases e
  omega
 have hz9:=hz8.ext g9
 have hM9:=hM8.ext g9
 have hst9:=hst8.ext g9
 have aW9:=g9.at_ _ _ aW8
 have hgW:=hz8.gr.next
 conv=>whnf
 refine SeqP.cut (α:=Value×Hp) (fun x=>[(15,ptr x15 0),(14,int d),(46,int d),(45,int b),(13,slc W 0 b b),(12,int a),(11,x.1),(10,mapAt M),(9,ptr Z 0),(8,ptr R 0),(0,int b),(2,fo),(3,fn)]) (fun x H10=>x.2 = H10∧MZ H x.2 25 Z ov nv ((L.take (a + 1)).map out) us (rowsOf next b L a) [int b,ov,nv] [pl M,x.1,slc W 0 b b]∧Nums x.2 M encP (note L' t)∧BuiltC H x.2 147 2 x.1 (note L' t).length (fl2 (note L' t))∧x.2.at W = some (.row 3 true (partRow next b L' s d))∧x.2.at x15 = some (.row 147 true [int t.1,int t.2])) ?_ ?_
 rotate_left
 ·rintro ⟨st10,H10⟩ φ10 _ ⟨rfl,hz10,hM10,hst10,aW10,aK10⟩
  dsimp only at hz10 hM10 hst10 aW10 aK10 ⊢
  have htin:t ∈ note L' t:=note_mem L' t
  have hpre2:=note_pre L' t
  obtain ⟨r10,e10⟩:=hpre2
  have hstep:=partRow_step (b:=b) (L':=note L' t) hin8 e10
  rw [et] at hstep
  have hsk10:=hst10.slice
  obtain ⟨as10,rfl,-⟩:=hsk10
  conv=>whnf
  refine ⟨_,all_cells aK10 rfl,?_⟩
  conv=>whnf
  refine raw_look1_some tM dM t3 z3 key147 (k:=t) rfl rfl hM10 (fN_some htin) ?_
  conv=>whnf
  refine ⟨rfl,⟨by omega,by omega⟩,?_⟩
  conv=>whnf
  refine ⟨rfl,_,storeAt_off aW10 (by unfold partRow; rw [rowV_length]; omega) rfl,?_⟩
  conv=>whnf
  have hx:Kx (ad (slc W 0 b b)) H10 (H10.set W (.row 3 true (partRow next b (note L' t) s (d + 1)))):=Kx.set _ _ _
  have htz:=hz10.touch (i:=2) rfl hx (hz10.gr.then_set _ (by omega)) (by rw [Hp.next_set]; exact Nat.le_refl _)
  rw [← hstep] at htz
  refine ⟨(_,H10.set W (.row 3 true ((partRow next b L' s d).set d (int (ixOf (note L' t) t:Nat))))),⟨rfl,rfl,rfl,rfl,rfl,rfl,rfl,rfl,rfl,rfl,rfl,trivial⟩,⟨rfl,htz.1,htz.2.map (by simp) hM10,htz.2.builtC mem1 hst10,?_⟩,rfl⟩
  show (H10.set W _).at W = _
  rw [Hp.at_set_self _ (Hp.lt_of_at aW10),hstep]
 by_cases hin:t ∈ L'
 ·have hnote:note L' t = L':=by unfold note; rw [if_pos hin]
  rw [hnote]
  conv=>whnf
  refine SeqP.go ?_
  conv=>whnf
  refine ⟨_,all_cells aK rfl,?_⟩
  conv=>whnf
  refine raw_look2_some tM dM t3 z3 key147 (k:=t) rfl rfl hM9 (fN_some hin) ?_
  conv=>whnf
  repeat (refine SeqP.go ?_; conv=>whnf)
  exact ⟨(_,H9),⟨rfl,rfl,rfl,rfl,rfl,rfl,rfl,rfl,rfl,rfl,rfl,rfl,rfl,trivial⟩,⟨rfl,hz9,hM9,hst9,aW9,aK⟩,rfl⟩
 ·have hnote:note L' t = L' ++ [t]:=by unfold note; rw [if_neg hin]
  have hnl:(L' ++ [t]).length = L'.length + 1:=by rw [List.length_append]; rfl
  rw [hnote] at hfew9 ⊢
  conv=>whnf
  refine SeqP.go ?_
  conv=>whnf
  refine ⟨_,all_cells aK rfl,?_⟩
  conv=>whnf
  refine raw_look2_none tM dM t3 z3 key147 (k:=t) rfl rfl hM9 (fN_none hin) ?_
  conv=>whnf
  repeat (refine SeqP.go ?_; conv=>whnf)
  refine ⟨_,all_cells aK rfl,?_⟩
  conv=>whnf
  refine raw_update tM dM key147 (k:=t) (v:=int L'.length) rfl rfl rfl hM9 ?_
  intro H10 hM10 y10
  have htz:=hz9.touch (i:=0) (v:=pl M) rfl (Kx.keeps y10) (y10.grows hz9.gr hMge) (by rw [y10.next]; exact Nat.le_refl _)
  have hM10':=Nums.add hin hM10
  have hst10:=htz.2.builtC (v:=slc rs8 0 L'.length L'.length) mem1 hst9
  have hMW:M≠W:=fun e=>by
   have:=hz9.sep.ap 3 5 (pl M) (slc W 0 b b) (by decide) rfl rfl M rfl
   exact this (by rw [e]; rfl)
  have aW10:=y10.at_ _ _ (fun e=>hMW e.symm) aW9
  have hzz:=htz.1
  have aK10:H10.at x15 = some (.row 147 true [int t.1,int t.2]):=y10.at_ _ _ (fun e=>by
   obtain ⟨_,_,h1,_⟩:=hM8
   have h2:=Hp.lt_of_at h1
   have h3:=hx15
   omega) aK
  conv=>whnf
  refine ⟨_,all_cells aK10 rfl,?_⟩
  conv=>whnf
  refine hzz.c_app (i:=1) (n:=L'.length) (cl:=fl2 L') (new:=[int t.1,int t.2]) rfl hst10 rfl rfl (by omega) (by omega) ?_
  intro st11 H11 hst11e hst11 hz11 kv11 kx11
  obtain ⟨a11,n11,rfl⟩:=hst11e
  have hM11:=kv11.map (M:=M) (by simp) hM10'
  have aW11:=kv11.at_ (v:=slc W 0 b b) mem2 rfl aW10
  conv=>whnf
  exact ⟨(_,H11),⟨rfl,rfl,rfl,rfl,rfl,rfl,rfl,rfl,rfl,rfl,rfl,rfl,rfl,trivial⟩,⟨rfl,hz11,hM11,by rw [fl2_app,hnl]; exact hst11,aW11,kx11.at_ aK10 hne15⟩,rfl⟩
end
end Go.Proofs.Ytedneplaibmppaa
namespace Go.Proofs.Ytedneplaibmppaa
open Go.Rx Go.RowKit
attribute [local irreducible] E idxN cellAt cellsAt storeAt callable helems hmoved lookIn findKey keyOk hentries Hp.at Hp.set Hp.lay arBits hupdated setAt CallP YieldP BoolOf IsWrap Rnd LoopP AppP CutP Int.tmod Int.tdiv Int.fdiv
section
variable [Unknowns]
attribute [local irreducible] sameAt finP
theorem built70_spec (b:Nat) (s0:Int) (out:Int→Int) (next:Int→Nat→Int) (U:List (Int)) (go gn:FuncId) (capo capn:List Value) (h:Hp) (hb:1≤b∧b≤1000) (hU:Fin_ next b U) (hs0:s0 ∈ U) (hUl:U.length≤100000) (ho:OutF go capo encI out U h) (hn:NextF gn capn encI next b U h):CallP E 70 [int b,encI s0,.func (.func go) ⟨[]⟩ ⟨capo⟩,.func (.func gn) ⟨[]⟩ ⟨capn⟩] h (fun r h'=>OwnM h h' r (built b s0 out next).i∧Grows h h'):=by
 obtain ⟨i3,t3,-,z3⟩:=ty3
 obtain ⟨iM,tM,dM⟩:=ty114
 have hexfo:∃ fo,Value.func (.func go) ⟨[]⟩ ⟨capo⟩ = fo:=⟨_,rfl⟩
 obtain ⟨fo,efo⟩:=hexfo
 have hexfn:∃ fn,Value.func (.func gn) ⟨[]⟩ ⟨capn⟩ = fn:=⟨_,rfl⟩
 obtain ⟨fn,efn⟩:=hexfn
 rw [efo,efn]
 refine enter70 (by simp) ?_
 conv=>whnf
 refine SeqP.cut (α:=Nat×Hp) (fun s=>[(8,ptr s.1 0),(1,int s0),(0,int b),(2,fo),(3,fn)]) (fun s H=>s.2 = H∧Grows h s.2∧s.2.at s.1 = some (.row 25 true [int 0,nilS,nilS])∧h.next≤s.1∧s.1 < s.2.next) ?_ ?_
 ·conv=>whnf
  exact ⟨(h.next,_),⟨rfl,rfl,rfl,rfl,rfl,trivial⟩,⟨rfl,Grows.lay _ _,Hp.at_lay_self _ _,Nat.le_refl _,by dsimp only; rw [Hp.next_lay]; omega⟩,rfl⟩
 rintro ⟨R,H⟩ φ1 _ ⟨rfl,gH,aR,hRh,hRn⟩
 dsimp only at gH aR hRh hRn ⊢
 conv=>whnf
 refine SeqP.cut (α:=Hp) (fun _=>[(9,ptr H.next 0),(8,ptr R 0),(0,int b),(1,int s0),(2,fo),(3,fn)]) (fun x H2=>x = H2∧MZ H H2 25 H.next nilS nilS [] [] [] [int b,nilS,nilS] []) ?_ ?_
 ·conv=>whnf
  refine ⟨rfl,_,storeAt_all (vs:=[int b,nilS,nilS]) rfl rfl rfl,?_⟩
  conv=>whnf
  exact ⟨_,⟨rfl,rfl,rfl,rfl,rfl,rfl,trivial⟩,⟨rfl,MZ.start (.refl _)⟩,rfl⟩
 rintro H2 φ2 _ ⟨rfl,hz2⟩
 have hexZ:∃ Z,H.next = Z:=⟨_,rfl⟩
 obtain ⟨Z,eZ⟩:=hexZ
 rw [eZ] at hz2 ⊢
 conv=>whnf
 refine SeqP.cut (α:=Nat×Hp) (fun s=>[(10,mapAt s.1),(9,ptr Z 0),(8,ptr R 0),(0,int b),(1,int s0),(2,fo),(3,fn)]) (fun s H3=>s.2 = H3∧MZ H s.2 25 Z nilS nilS [] [] [] [int b,nilS,nilS] [pl s.1]∧Nums s.2 s.1 encI [s0]∧H.next≤s.1) ?_ ?_
 ·conv=>whnf
  refine raw_insert tM dM keyI (k:=s0) (v:=int 0) (n:=0) rfl rfl rfl (MapAt.new _) ?_
  intro H3 hM3 y3
  have gl3:Grows H2 (H2.lay (.map [] 0)):=Grows.lay _ _
  have gk3:Grows H2 H3:=⟨by rw [y3.next]; exact gl3.next,fun r o e=>y3.at_ r o (by have:=Hp.lt_of_at e; omega) (gl3.at_ r o e)⟩
  have hz3:=(hz2.more gk3 (v:=pl H2.next) fun r e=>by cases e; exact ⟨Nat.le_refl _,by rw [y3.next,Hp.next_lay]; omega⟩)
  conv=>whnf
  exact ⟨(H2.next,H3),⟨rfl,rfl,rfl,rfl,rfl,rfl,rfl,trivial⟩,⟨rfl,hz3,hM3.congr fun k=>by
   unfold fN
   by_cases e:k = s0
   ·rw [if_pos e,if_pos (by rw [e]; simp),e]; simp
   ·rw [if_neg e,if_neg (by simpa using e)],hz2.gr.next⟩,rfl⟩
 rintro ⟨M,H3⟩ φ3 _ ⟨rfl,hz3,hM3,hMge⟩
 dsimp only at hz3 hM3 hMge ⊢
 conv=>whnf
 refine SeqP.cut (α:=Value×Hp) (fun s=>[(11,s.1),(10,mapAt M),(9,ptr Z 0),(8,ptr R 0),(0,int b),(2,fo),(3,fn)]) (fun s H4=>s.2 = H4∧MZ H s.2 25 Z nilS nilS [] [] [] [int b,nilS,nilS] [pl M,s.1,nilS]∧Nums s.2 M encI [s0]∧BuiltC H s.2 3 1 s.1 [s0].length (fl1 [s0])) ?_ ?_
 ·conv=>whnf

  have gl4:Grows H3 (H3.lay (.row 3 true (fl1 [s0]))):=Grows.lay _ _
  have hz4:=(hz3.more gl4 (v:=slc H3.next 0 1 1) fun r e=>by cases e; exact ⟨Nat.le_refl _,by rw [Hp.next_lay]; omega⟩).more (.refl _) (v:=nilS) fun r e=>by cases e
  exact ⟨(slc H3.next 0 1 1,_),⟨rfl,rfl,rfl,rfl,rfl,rfl,rfl,trivial⟩,⟨rfl,hz4,hM3.ext gl4,⟨rfl,.inr ⟨H3.next,rfl,hz3.gr.next,true,Hp.at_lay_self _ _⟩⟩⟩,rfl⟩
 rintro ⟨st,H4⟩ φ4 _ ⟨rfl,hz4,hM4,hst4⟩
 dsimp only at hz4 hM4 hst4 ⊢
 conv=>whnf
 refine SeqP.cut (α:=Value×Value×List Int×List Value×List (List Int)×Hp) (fun s=>[(9,ptr Z 0),(8,ptr R 0)]) (fun s H5=>s.2.2.2.2.2 = H5∧∃ rs,MZ H s.2.2.2.2.2 25 Z s.1 s.2.1 s.2.2.1 s.2.2.2.1 s.2.2.2.2.1 [int b,s.1,s.2.1] rs∧(built b s0 out next).i = ⟨b,s.2.2.1,s.2.2.2.2.1⟩) ?_ ?_
 rotate_left
 ·rintro ⟨ov,nv,O,us,N,H5⟩ φ5 _ ⟨rfl,rs,hz5,eb⟩
  dsimp only at hz5 eb ⊢
  have hov:=hz5.out_ok
  obtain ⟨ax,rfl⟩:=hov
  have hnv:=hz5.next_ok
  obtain ⟨ay,rfl⟩:=hnv
  have aR5:=hz5.gr.at_ _ _ aR
  conv=>whnf
  repeat (refine SeqP.go ?_; conv=>whnf)
  refine ⟨_,all_cells hz5.z rfl,?_⟩
  conv=>whnf
  refine ⟨rfl,_,storeAt_full (vs:=[int b,.slice ax O.length O.length,.slice ay N.length N.length]) aR5 rfl rfl rfl,?_⟩
  conv=>whnf
  repeat (refine SeqP.go ?_; conv=>whnf)
  obtain ⟨i25,t25,ag25,sz25⟩:=ty25
  refine leave_cell (r:=R) (o:=0) (cs:=[int b,.slice ax O.length O.length,.slice ay N.length N.length]) rfl t25 ag25 ?_ ?_
  ·rw [sz25]
   exact all_cells (Hp.at_set_self _ (Hp.lt_of_at aR5)) rfl
  ·rw [eb]
   exact hz5.leave (h:=h) (R:=R) hRn hRh gH b (.row 25 true [int b,.slice ax O.length O.length,.slice ay N.length N.length])
 conv=>whnf
 refine SeqP.go ?_
 conv=>whnf
 refine loop_inv (α:=Nat×List (Int)×Value×Value×Value×List Value×Hp) (fun s=>[(12,int s.1),(11,s.2.2.1),(10,mapAt M),(9,ptr Z 0),(8,ptr R 0),(0,int b),(2,fo),(3,fn)]) (fun s=>s.2.2.2.2.2.2) (fun s=>Bq next b s0 U s.2.1 s.1∧MZ H s.2.2.2.2.2.2 25 Z s.2.2.2.1 s.2.2.2.2.1 ((s.2.1.take s.1).map out) s.2.2.2.2.2.1 (rowsOf next b s.2.1 s.1) [int b,s.2.2.2.1,s.2.2.2.2.1] [pl M,s.2.2.1,nilS]∧Nums s.2.2.2.2.2.2 M encI s.2.1∧BuiltC H s.2.2.2.2.2.2 3 1 s.2.2.1 s.2.1.length (fl1 s.2.1)) (fun s=>100000 - s.1) (0,[s0],st,nilS,nilS,[],H4) ⟨Bq.start hU hs0,hz4,hM4,hst4⟩ ⟨rfl,rfl,rfl,rfl,rfl,rfl,rfl,rfl,trivial⟩ (Hp.Le.refl _) ?_
 rintro ⟨a,L,st,ov,nv,us,H5⟩ φ5 ⟨hq,hz5,hM5,hst5⟩
 dsimp only at hq hz5 hM5 hst5 ⊢
 have hfew:=hq.few
 have hsk:=hst5.slice
 obtain ⟨as5,rfl,-⟩:=hsk
 have hql:=hq.le
 conv=>whnf
 repeat (refine SeqP.go ?_; conv=>whnf)
 refine cmpB (fun q1=>?_) (fun q1=>?_)
 rotate_left
 ·have hle:L.length≤a:=by omega
  have ea:a = L.length:=by omega
  have hbd:=hq.done hle
  subst ea
  rw [List.take_length] at hz5
  conv=>whnf
  exact ⟨(ov,nv,L.map out,us,rowsOf next b L L.length,H5),⟨rfl,rfl,trivial⟩,⟨rfl,_,hz5,built_i hbd⟩,rfl⟩
 have haL:a < L.length:=by omega
 have hexs:∃ s,L[a]? = some s:=⟨_,List.getElem?_eq_getElem haL⟩
 obtain ⟨s,hs⟩:=hexs
 have hsU:=hq.sub s (List.mem_of_getElem? hs)
 have hOl:((L.take a).map out).length = a:=by rw [List.length_map,List.length_take]; omega
 have hNl:(rowsOf next b L a).length = a:=by unfold rowsOf; rw [List.length_map,List.length_take]; omega
 have hq2:=hq.next hU hs
 conv=>whnf
 refine SeqP.cut (α:=List (Int)×Value×Value×Value×List Value×Hp) (fun s=>[(12,int a),(11,s.2.1),(10,mapAt M),(9,ptr Z 0),(8,ptr R 0),(0,int b),(2,fo),(3,fn)]) (fun s H6=>s.2.2.2.2.2 = H6∧Bq next b s0 U s.1 (a + 1)∧MZ H s.2.2.2.2.2 25 Z s.2.2.1 s.2.2.2.1 ((s.1.take (a + 1)).map out) s.2.2.2.2.1 (rowsOf next b s.1 (a + 1)) [int b,s.2.2.1,s.2.2.2.1] [pl M,s.2.1,nilS]∧Nums s.2.2.2.2.2 M encI s.1∧BuiltC H s.2.2.2.2.2 3 1 s.2.1 s.1.length (fl1 s.1)) ?_ ?_
 rotate_left
 ·rintro ⟨L6,st6,ov6,nv6,us6,H6⟩ φ6 _ ⟨rfl,hq6,hz6,hM6,hst6⟩
  dsimp only at hq6 hz6 hM6 hst6 ⊢
  conv=>whnf
  refine ⟨((a + 1:Nat):Int),wie (by omega) (by omega),?_⟩
  conv=>whnf
  exact Rnd.mk (a + 1,L6,st6,ov6,nv6,us6,H6) ⟨hq6,hz6,hM6,hst6⟩ (by show 100000 - (a + 1) < 100000 - a; omega) ⟨rfl,rfl,rfl,rfl,rfl,rfl,rfl,rfl,trivial⟩ (Hp.Le.refl _) rfl
 have hsc:=in_cell hst5 hs
 obtain ⟨rst,erst,hsc⟩:=hsc
 cases erst
 have z1:cellAt H5 Z 1 = some ov:=cellAt_row hz5.z rfl
 conv=>whnf
 refine SeqP.cut (α:=Value×Hp) (fun x=>[(12,int a),(11,slc rst 0 L.length L.length),(10,mapAt M),(9,ptr Z 0),(8,ptr R 0),(0,int b),(2,fo),(3,fn)]) (fun x H6=>x.2 = H6∧MZ H x.2 25 Z x.1 nv ((L.take (a + 1)).map out) us (rowsOf next b L a) [int b,x.1,nv] [pl M,slc rst 0 L.length L.length,nilS]∧Nums x.2 M encI L∧BuiltC H x.2 3 1 (slc rst 0 L.length L.length) L.length (fl1 L)) ?_ ?_
 ·have hov:=hz5.out_ok
  obtain ⟨ax,eov⟩:=hov
  rw [hOl] at eov
  subst eov
  conv=>whnf
  refine ⟨_,z1,?_⟩
  conv=>whnf
  refine ⟨rfl,⟨by omega,by omega⟩,?_⟩
  conv=>whnf
  refine ⟨_,hsc,?_⟩
  rw [← efo]
  conv=>whnf
  refine ⟨ho.1,?_⟩
  refine CallP.mono (ho.2 s hsU H5 (gH.trans hz5.gr)) ?_
  rintro _ H6 ⟨rfl,g6⟩
  have hz6:=hz5.ext g6
  have f1:=g6.cell z1
  have f2:cellAt (H6.lay (.row 3 true [int (out s)])) Z 1 = some (.slice ax a a):=(Grows.lay _ _).cell f1
  conv=>whnf
  refine hz6.o_app (by omega) ?_
  intro ov7 H7 hov7 hz7 kv7
  obtain ⟨a7,n7,rfl⟩:=hov7
  have f3:cellAt H7 Z 1 = some (.slice ax a a):=cellAt_row hz7.z rfl
  conv=>whnf
  refine ⟨rfl,_,storeAt_row hz7.z (by simp) rfl,?_⟩
  conv=>whnf
  refine ⟨?_,?_⟩
  ·repeat' (first | exact True.intro | (refine And.intro ?_ ?_ <;> (conv=>whnf)))
   all_goals first
    | exact sameAt_val (h2:=_) rfl (sameV_int _)
    | exact sameAt_val (h2:=_) rfl (sameV_ptr _ _)
    | exact sameAt_val (h2:=_) rfl (sameV_slice _ _ _)
    | exact sameAt_val (h2:=_) rfl (sameV_agg2 _ _)
    | exact sameAt_val (h2:=_) (congrArg (hval _) z1) (sameV_int _)
    | exact sameAt_val (h2:=_) (congrArg (hval _) z1) (sameV_slice _ _ _)
    | exact sameAt_val (h2:=_) (congrArg (hval _) f1) (sameV_int _)
    | exact sameAt_val (h2:=_) (congrArg (hval _) f1) (sameV_slice _ _ _)
    | exact sameAt_val (h2:=_) (congrArg (hval _) f2) (sameV_int _)
    | exact sameAt_val (h2:=_) (congrArg (hval _) f2) (sameV_slice _ _ _)
    | exact sameAt_val (h2:=_) (congrArg (hval _) f3) (sameV_int _)
    | exact sameAt_val (h2:=_) (congrArg (hval _) f3) (sameV_slice _ _ _)
    | exact ⟨_,rfl,Hp.at_lay_self _ _,rfl⟩
  have hz8:=hz7.put [int b,.slice a7 n7 n7,nv]
  have eO:(L.take a).map out ++ [out s] = (L.take (a + 1)).map out:=by rw [take_snoc hs,List.map_append]; rfl
  have hz8a:=hz8.1
  rw [eO] at hz8a
  exact ⟨(_,_),⟨rfl,rfl,rfl,rfl,rfl,rfl,rfl,rfl,trivial⟩,⟨rfl,hz8a,hz8.2.map (by simp) (kv7.map (by simp) (hM5.ext g6)),hz8.2.builtC mem1 (kv7.builtC mem1 (hst5.ext g6))⟩,rfl⟩
 rintro ⟨ov,H6⟩ φ6 _ ⟨rfl,hz6,hM6,hst6⟩
 dsimp only at hz6 hM6 hst6 ⊢
 clear hz5 hM5 hst5 z1
 conv=>whnf
 refine SeqP.cut (α:=Hp) (fun _=>[(13,slc H6.next 0 b b),(12,int a),(11,slc rst 0 L.length L.length),(10,mapAt M),(9,ptr Z 0),(8,ptr R 0),(0,int b),(2,fo),(3,fn)]) (fun x H7=>x = H7∧MZ H x 25 Z ov nv ((L.take (a + 1)).map out) us (rowsOf next b L a) [int b,ov,nv] [pl M,slc rst 0 L.length L.length,slc H6.next 0 b b]∧Nums x M encI L∧BuiltC H x 3 1 (slc rst 0 L.length L.length) L.length (fl1 L)∧x.at H6.next = some (.row 3 true (partRow next b L s 0))) ?_ ?_
 ·conv=>whnf
  refine ⟨⟨by omega,by omega,by omega,by omega⟩,?_⟩
  conv=>whnf
  have gl7:Grows H6 (H6.lay (.row 3 true (times [int 0] (b:Int).toNat))):=Grows.lay _ _
  refine ⟨_,⟨rfl,rfl,rfl,rfl,rfl,rfl,rfl,rfl,rfl,trivial⟩,⟨rfl,hz6.add gl7 (i:=2) rfl fun r e=>by cases e; exact ⟨Nat.le_refl _,by rw [Hp.next_lay]; omega⟩,hM6.ext gl7,hst6.ext gl7,?_⟩,rfl⟩
  rw [partRow_zero]
  exact Hp.at_lay_self _ _
 rintro H7 φ7 _ ⟨rfl,hz7,hM7,hst7,aW7⟩
 have hnW:=hz6.gr.next
 have hexW:∃ W,H6.next = W:=⟨_,rfl⟩
 obtain ⟨W,eW⟩:=hexW
 rw [eW] at hz7 aW7 hnW ⊢
 conv=>whnf
 refine SeqP.cut (α:=Value×Hp) (fun x=>[(13,slc W 0 b b),(12,int a),(11,x.1),(10,mapAt M),(9,ptr Z 0),(8,ptr R 0),(0,int b),(2,fo),(3,fn)]) (fun x H8=>x.2 = H8∧MZ H x.2 25 Z ov nv ((L.take (a + 1)).map out) us (rowsOf next b L a) [int b,ov,nv] [pl M,x.1,slc W 0 b b]∧Nums x.2 M encI (notes L (outs next b s))∧BuiltC H x.2 3 1 x.1 (notes L (outs next b s)).length (fl1 (notes L (outs next b s)))∧x.2.at W = some (.row 3 true (partRow next b (notes L (outs next b s)) s b))) ?_ ?_
 rotate_left
 ·rintro ⟨st8,H8⟩ φ8 _ ⟨rfl,hz8,hM8,hst8,aW8⟩
  dsimp only at hz8 hM8 hst8 aW8 ⊢
  have hpre:=notes_pre (outs next b s) L
  obtain ⟨r8,e8⟩:=hpre
  have hexL:∃ L',notes L (outs next b s) = L':=⟨_,rfl⟩
  obtain ⟨L',eL'⟩:=hexL
  rw [eL'] at hM8 hst8 aW8 hq2 e8
  have hrows:=rowsOf_ext hq.met hq.le e8
  have hsL':L'[a]? = some s:=by rw [e8,List.getElem?_append_left haL]; exact hs
  have htk:L'.take (a + 1) = L.take (a + 1):=by rw [e8,List.take_append_of_le_length (by omega)]
  have hbu:Built H H8 3 (slc W 0 b b) (rowOf next b L' s):=by
   refine .inr ⟨W,?_,by omega,true,?_⟩
   ·rw [show (rowOf next b L' s).length = b from by unfold rowOf; rw [List.length_map,List.length_range]]
   ·rw [aW8,partRow_full]
  have hnv:=hz8.next_ok
  obtain ⟨ay,eny⟩:=hnv
  rw [hNl] at eny
  subst eny
  have hs8:=hst8.slice
  obtain ⟨as8,rfl,-⟩:=hs8
  have z2:cellAt H8 Z 2 = some (.slice ay a a):=cellAt_row hz8.z rfl
  conv=>whnf
  refine ⟨_,z2,?_⟩
  conv=>whnf
  refine hz8.n_app (i:=2) (by omega) rfl hbu ?_
  intro nv9 H9 hnv9 hz9 kv9
  obtain ⟨a9,n9,rfl⟩:=hnv9
  have hz10:=hz9.put [int b,ov,.slice a9 n9 n9]
  conv=>whnf
  refine ⟨rfl,_,storeAt_row hz9.z (by simp) rfl,?_⟩
  conv=>whnf
  have eN:rowsOf next b L a ++ [rowOf next b L' s] = rowsOf next b L' (a + 1):=by
   rw [← hrows]
   unfold rowsOf
   rw [take_snoc hsL',List.map_append]; rfl
  have hz10a:=hz10.1
  rw [eN,← htk] at hz10a
  exact ⟨(L',_,ov,_,_,_),⟨rfl,rfl,rfl,rfl,rfl,rfl,rfl,rfl,trivial⟩,⟨rfl,hq2,hz10a,hz10.2.map (by simp) (kv9.map (by simp) hM8),hz10.2.builtC mem1 (kv9.builtC mem1 hst8)⟩,rfl⟩
 conv=>whnf
 refine SeqP.go ?_
 conv=>whnf
 refine loop_inv (α:=Nat×Value×Hp) (fun x=>[(46,int x.1),(45,int b),(13,slc W 0 b b),(12,int a),(11,x.2.1),(10,mapAt M),(9,ptr Z 0),(8,ptr R 0),(0,int b),(2,fo),(3,fn)]) (fun x=>x.2.2) (fun x=>x.1≤b∧MZ H x.2.2 25 Z ov nv ((L.take (a + 1)).map out) us (rowsOf next b L a) [int b,ov,nv] [pl M,x.2.1,slc W 0 b b]∧Nums x.2.2 M encI (notes L (outsN next s x.1))∧BuiltC H x.2.2 3 1 x.2.1 (notes L (outsN next s x.1)).length (fl1 (notes L (outsN next s x.1)))∧x.2.2.at W = some (.row 3 true (partRow next b (notes L (outsN next s x.1)) s x.1))) (fun x=>b - x.1) (0,slc rst 0 L.length L.length,H7) ⟨Nat.zero_le _,hz7,hM7,hst7,aW7⟩ ⟨rfl,rfl,rfl,rfl,rfl,rfl,rfl,rfl,rfl,rfl,rfl,trivial⟩ (Hp.Le.refl _) ?_
 rintro ⟨d,st8,H8⟩ φ8 ⟨hd,hz8,hM8,hst8,aW8⟩
 dsimp only at hd hz8 hM8 hst8 aW8 ⊢
 clear hz7 hM7 hst7 aW7
 conv=>whnf
 repeat (refine SeqP.go ?_; conv=>whnf)
 refine cmpB (fun q2=>?_) (fun q2=>?_)
 rotate_left
 ·have:d = b:=by omega
  subst this
  conv=>whnf
  exact ⟨(st8,H8),⟨rfl,rfl,rfl,rfl,rfl,rfl,rfl,rfl,rfl,trivial⟩,⟨rfl,hz8,hM8,hst8,aW8⟩,rfl⟩
 have hdb:d < b:=by omega
 have hpre:=notes_pre (outsN next s d) L
 obtain ⟨r8,e8⟩:=hpre
 have hfew8:=notesN_few hU hq hsU hd
 have hfew9:=notesN_few hU hq hsU (d:=d + 1) (by omega)
 have hin8:∀ j,j < d→next s j ∈ notes L (outsN next s d):=fun j hj=>notes_mem (outsN_mem hj)
 rw [outsN_succ,notes_snoc] at hfew9
 have hsucc:notes L (outsN next s (d + 1)) = note (notes L (outsN next s d)) (next s d):=by rw [outsN_succ,notes_snoc]
 have hexL:∃ L',notes L (outsN next s d) = L':=⟨_,rfl⟩
 obtain ⟨L',eL'⟩:=hexL
 rw [eL'] at hM8 hst8 aW8 e8 hfew8 hfew9 hin8 hsucc
 have hsL':L'[a]? = some s:=by rw [e8,List.getElem?_append_left haL]; exact hs
 have hsk8:=hst8.slice
 obtain ⟨as8,rfl,-⟩:=hsk8
 have hsc8:=in_cell hst8 hsL'
 obtain ⟨rs8,ers8,hsc8⟩:=hsc8
 cases ers8
 have haL':a < L'.length:=by rw [e8,List.length_append]; omega
 conv=>whnf
 refine SeqP.go ?_
 conv=>whnf
 refine SeqP.cut (α:=Value×Hp) (fun x=>[(46,int d),(45,int b),(13,slc W 0 b b),(12,int a),(11,x.1),(10,mapAt M),(9,ptr Z 0),(8,ptr R 0),(0,int b),(2,fo),(3,fn)]) (fun x H9=>x.2 = H9∧MZ H x.2 25 Z ov nv ((L.take (a + 1)).map out) us (rowsOf next b L a) [int b,ov,nv] [pl M,x.1,slc W 0 b b]∧Nums x.2 M encI (note L' (next s d))∧BuiltC H x.2 3 1 x.1 (note L' (next s d)).length (fl1 (note L' (next s d)))∧x.2.at W = some (.row 3 true (partRow next b (note L' (next s d)) s (d + 1)))) ?_ ?_
 rotate_left
 ·rintro ⟨st9,H9⟩ φ9 _ ⟨rfl,hz9,hM9,hst9,aW9⟩
  dsimp only at hz9 hM9 hst9 aW9 ⊢
  rw [← hsucc] at hM9 hst9 aW9
  conv=>whnf
  refine ⟨((d + 1:Nat):Int),wie (by omega) (by omega),?_⟩
  conv=>whnf
  exact Rnd.mk (d + 1,st9,H9) ⟨by show d + 1≤b; omega,hz9,hM9,hst9,aW9⟩ (by show b - (d + 1) < b - d; omega) ⟨rfl,rfl,rfl,rfl,rfl,rfl,rfl,rfl,rfl,rfl,rfl,trivial⟩ (Hp.Le.refl _) rfl
 have hext:∃ t,next s d = t:=⟨_,rfl⟩
 obtain ⟨t,et⟩:=hext
 have hn2:=hn.2 s hsU d hdb H8 (gH.trans hz8.gr)
 rw [et] at hfew9 hn2 ⊢
 conv=>whnf
 refine SeqP.go ?_
 conv=>whnf
 refine SeqP.cut (α:=Hp) (fun x=>[(15,int t),(14,int d),(46,int d),(45,int b),(13,slc W 0 b b),(12,int a),(11,slc rs8 0 L'.length L'.length),(10,mapAt M),(9,ptr Z 0),(8,ptr R 0),(0,int b),(2,fo),(3,fn)]) (fun x H9=>x = H9∧Grows H8 x) ?_ ?_
 ·conv=>whnf
  refine ⟨rfl,⟨by omega,by omega⟩,?_⟩
  conv=>whnf
  refine ⟨_,hsc8,?_⟩
  rw [← efn]
  conv=>whnf
  refine ⟨hn.1,?_⟩
  refine CallP.mono hn2 ?_
  rintro _ H9 ⟨rfl,g9⟩
  conv=>whnf
  exact ⟨H9,⟨rfl,rfl,rfl,rfl,rfl,rfl,rfl,rfl,rfl,rfl,rfl,rfl,rfl,trivial⟩,⟨rfl,g9⟩,rfl⟩
 rintro H9 φ9 _ ⟨rfl,g9⟩

 have hz9:=hz8.ext g9
 have hM9:=hM8.ext g9
 have hst9:=hst8.ext g9
 have aW9:=g9.at_ _ _ aW8
 have hgW:=hz8.gr.next
 conv=>whnf
 refine SeqP.cut (α:=Value×Hp) (fun x=>[(15,int t),(14,int d),(46,int d),(45,int b),(13,slc W 0 b b),(12,int a),(11,x.1),(10,mapAt M),(9,ptr Z 0),(8,ptr R 0),(0,int b),(2,fo),(3,fn)]) (fun x H10=>x.2 = H10∧MZ H x.2 25 Z ov nv ((L.take (a + 1)).map out) us (rowsOf next b L a) [int b,ov,nv] [pl M,x.1,slc W 0 b b]∧Nums x.2 M encI (note L' t)∧BuiltC H x.2 3 1 x.1 (note L' t).length (fl1 (note L' t))∧x.2.at W = some (.row 3 true (partRow next b L' s d))) ?_ ?_
 rotate_left
 ·rintro ⟨st10,H10⟩ φ10 _ ⟨rfl,hz10,hM10,hst10,aW10⟩
  dsimp only at hz10 hM10 hst10 aW10 ⊢
  have htin:t ∈ note L' t:=note_mem L' t
  have hpre2:=note_pre L' t
  obtain ⟨r10,e10⟩:=hpre2
  have hstep:=partRow_step (b:=b) (L':=note L' t) hin8 e10
  rw [et] at hstep
  have hsk10:=hst10.slice
  obtain ⟨as10,rfl,-⟩:=hsk10
  conv=>whnf

  refine raw_look1_some tM dM t3 z3 keyI (k:=t) rfl rfl hM10 (fN_some htin) ?_
  conv=>whnf
  refine ⟨rfl,⟨by omega,by omega⟩,?_⟩
  conv=>whnf
  refine ⟨rfl,_,storeAt_off aW10 (by unfold partRow; rw [rowV_length]; omega) rfl,?_⟩
  conv=>whnf
  have hx:Kx (ad (slc W 0 b b)) H10 (H10.set W (.row 3 true (partRow next b (note L' t) s (d + 1)))):=Kx.set _ _ _
  have htz:=hz10.touch (i:=2) rfl hx (hz10.gr.then_set _ (by omega)) (by rw [Hp.next_set]; exact Nat.le_refl _)
  rw [← hstep] at htz
  refine ⟨(_,H10.set W (.row 3 true ((partRow next b L' s d).set d (int (ixOf (note L' t) t:Nat))))),⟨rfl,rfl,rfl,rfl,rfl,rfl,rfl,rfl,rfl,rfl,rfl,trivial⟩,⟨rfl,htz.1,htz.2.map (by simp) hM10,htz.2.builtC mem1 hst10,?_⟩,rfl⟩
  show (H10.set W _).at W = _
  rw [Hp.at_set_self _ (Hp.lt_of_at aW10),hstep]
 by_cases hin:t ∈ L'
 ·have hnote:note L' t = L':=by unfold note; rw [if_pos hin]
  rw [hnote]
  conv=>whnf
  refine SeqP.go ?_
  conv=>whnf

  refine raw_look2_some tM dM t3 z3 keyI (k:=t) rfl rfl hM9 (fN_some hin) ?_
  conv=>whnf
  repeat (refine SeqP.go ?_; conv=>whnf)
  exact ⟨(_,H9),⟨rfl,rfl,rfl,rfl,rfl,rfl,rfl,rfl,rfl,rfl,rfl,rfl,rfl,trivial⟩,⟨rfl,hz9,hM9,hst9,aW9⟩,rfl⟩
 ·have hnote:note L' t = L' ++ [t]:=by unfold note; rw [if_neg hin]
  have hnl:(L' ++ [t]).length = L'.length + 1:=by rw [List.length_append]; rfl
  rw [hnote] at hfew9 ⊢
  conv=>whnf
  refine SeqP.go ?_
  conv=>whnf

  refine raw_look2_none tM dM t3 z3 keyI (k:=t) rfl rfl hM9 (fN_none hin) ?_
  conv=>whnf
  repeat (refine SeqP.go ?_; conv=>whnf)

  refine raw_update tM dM keyI (k:=t) (v:=int L'.length) rfl rfl rfl hM9 ?_
  intro H10 hM10 y10
  have htz:=hz9.touch (i:=0) (v:=pl M) rfl (Kx.keeps y10) (y10.grows hz9.gr hMge) (by rw [y10.next]; exact Nat.le_refl _)
  have hM10':=Nums.add hin hM10
  have hst10:=htz.2.builtC (v:=slc rs8 0 L'.length L'.length) mem1 hst9
  have hMW:M≠W:=fun e=>by
   have:=hz9.sep.ap 3 5 (pl M) (slc W 0 b b) (by decide) rfl rfl M rfl
   exact this (by rw [e]; rfl)
  have aW10:=y10.at_ _ _ (fun e=>hMW e.symm) aW9
  have hzz:=htz.1

  conv=>whnf
  refine hzz.c_app (i:=1) (n:=L'.length) (cl:=fl1 L') (new:=[int t]) rfl hst10 rfl rfl (by omega) (by omega) ?_
  intro st11 H11 hst11e hst11 hz11 kv11 kx11
  obtain ⟨a11,n11,rfl⟩:=hst11e
  have hM11:=kv11.map (M:=M) (by simp) hM10'
  have aW11:=kv11.at_ (v:=slc W 0 b b) mem2 rfl aW10
  conv=>whnf
  exact ⟨(_,H11),⟨rfl,rfl,rfl,rfl,rfl,rfl,rfl,rfl,rfl,rfl,rfl,rfl,rfl,trivial⟩,⟨rfl,hz11,hM11,by rw [fl1_app,hnl]; exact hst11,aW11⟩,rfl⟩
end
end Go.Proofs.Ytedneplaibmppaa
namespace Go.Proofs.Ytedneplaibmppaa
open Go.Rx Go.RowKit
theorem OwnM.put {hb H:Hp} {v:Value} {M:MacI} (k:OwnM hb H v M) {R:Nat} (hR:R < hb.next) (o:Rx.Obj):OwnM hb (H.set R o) v M:=by
 obtain ⟨vo,vn,us,e,h1,h2,h3,h4⟩:=k
 have hx:∀ (e:TypeId) (sz j:Nat) (w:Value) (cs:List Value),BuiltC hb H e sz w j cs→BuiltC hb (H.set R o) e sz w j cs:=fun e sz j w cs hc=>builtC_stay hc fun r o2 hr ho=>by
  rw [Hp.at_set_ne _ (by have:=(hc.ad_lt r hr).1; omega)]; exact ho
 refine ⟨vo,vn,us,e,hx _ _ _ _ _ h1,hx _ _ _ _ _ h2,h3,fun j u l e1 e2=>?_⟩
 have hb2:=h4 j u l e1 e2
 exact built_stay hb2 fun r o2 hr ho=>by
  rw [Hp.at_set_ne _ (by have:=(hb2.ad_lt r hr).1; omega)]; exact ho
theorem OwnM.known {h0 h:Hp} {v:Value} {M:MacI} (k:OwnM h0 h v M):∃ a b,v = .agg ⟨[int M.base,.slice a M.out.length M.out.length,.slice b M.next.length M.next.length]⟩:=by
 obtain ⟨vo,vn,us,rfl,h1,h2,h3,_⟩:=k
 obtain ⟨a,rfl,-⟩:=h1.slice
 obtain ⟨b,rfl,-⟩:=h2.slice
 rw [h3]
 exact ⟨a,b,rfl⟩
def stF {κ:Type} [DecidableEq κ] (l:List κ) (c:κ):Option Value:=if c ∈ l then some (int (ixOf l c:Nat)) else none
def Stands (h:Hp) (M:Nat) (l:List Int):Prop:=∃ n,MapAt h M encI (stF l) n
theorem Stands.ext {h h':Hp} {M:Nat} {l:List Int} (g:Grows h h') (k:Stands h M l):Stands h' M l:=let ⟨n,k⟩:=k; ⟨n,k.ext g⟩
theorem stF_old {κ:Type} [DecidableEq κ] {l:List κ} {x:κ} (h:x ∈ l) (c:κ):stF l c = stF (l ++ [x]) c:=by
 unfold stF
 by_cases hc:c ∈ l
 ·rw [if_pos hc,if_pos (List.mem_append_left _ hc)]
  unfold ixOf
  rw [idxOf_app hc]
 ·rw [if_neg hc,if_neg fun k=>by
   rcases List.mem_append.1 k with k | k
   ·exact hc k
   ·rw [List.mem_singleton.1 k] at hc; exact hc h]
theorem stF_new {κ:Type} [DecidableEq κ] {l:List κ} {x:κ} (h:x ∉ l) (c:κ):(if c = x then some (int (l.length:Nat)) else stF l c) = stF (l ++ [x]) c:=by
 unfold stF
 by_cases e:c = x
 ·subst e
  rw [if_pos rfl,if_pos (by simp)]
  unfold ixOf
  rw [idxOf_new h]
 ·rw [if_neg e]
  by_cases hc:c ∈ l
  ·rw [if_pos hc,if_pos (List.mem_append_left _ hc)]
   unfold ixOf
   rw [idxOf_app hc]
  ·rw [if_neg hc,if_neg fun k=>by
    rcases List.mem_append.1 k with k | k
    ·exact hc k
    ·exact e (List.mem_singleton.1 k)]
theorem rep_lt {m:Mac} (hm:m.Ok) {c:Int} (hc:c ∈ m.cls):m.rep c < m.out.length:=by
 have:=List.idxOf_lt_length_of_mem hc
 rw [Mac.cls_len hm] at this
 exact this
theorem stF_rep {m:Mac} {c:Int} (hc:c ∈ m.cls):stF m.cls c = some (int (m.rep c:Nat)):=by
 unfold stF
 rw [if_pos hc]
 rfl
attribute [local irreducible] E idxN cellAt cellsAt storeAt callable helems hmoved lookIn findKey keyOk hentries Hp.at Hp.set Hp.lay arBits hupdated setAt CallP YieldP BoolOf IsWrap Rnd LoopP AppP CutP Int.tmod Int.tdiv Int.fdiv
section
variable [Unknowns]
attribute [local irreducible] sameAt
theorem classes_spec (v:Value) (m:Mac) (h:Hp) (hv:MV h v m.i) (hm:m.Ok) (hl:m.out.length≤100000) (hbl:m.base≤1000):CallP E 92 [v] h (fun r h'=>Built h h' 3 r m.cls∧Grows h h'):=by
 obtain ⟨bx,rfl,hbx⟩:=hv.box
 obtain ⟨ao,an,co,cn,hcx⟩:=hbx.cx
 have hlenx:=hbx.len
 refine enter92 (by simp) ?_
 conv=>whnf
 refine SeqP.cut (α:=Hp) (fun _=>[(1,ptr h.next 0)]) (fun x H=>x = H∧Grows h H∧H.at h.next = some (.row 25 true bx)) ?_ ?_
 ·conv=>whnf
  exact ⟨_,⟨rfl,trivial⟩,⟨rfl,Grows.lay _ _,Hp.at_lay_self _ _⟩,rfl⟩
 rintro H φ1 _ ⟨rfl,gH,aX⟩
 have kx:=hcx H h.next 25 gH aX
 have c1:cellAt H h.next 1 = some (.slice ao m.out.length co):=kx.c1
 conv=>whnf
 refine SeqP.cut (α:=Value×Hp) (fun s=>[(3,s.1),(4,int (m.cnt m.out:Nat)),(1,ptr h.next 0)]) (fun s H2=>s.2 = H2∧Grows H s.2∧Built h s.2 3 s.1 (m.ref m.out)) ?_ ?_
 ·conv=>whnf
  refine ⟨_,all_cells aX hlenx,?_⟩
  conv=>whnf
  refine ⟨_,c1,?_⟩
  conv=>whnf
  refine CallP.mono (refined_spec _ _ m m.out _ (Bx.mv (hbx.ext gH)) kx.o hm rfl hl hbl) ?_
  rintro _ H2 ⟨⟨u,rfl,hu⟩,g2⟩
  have hub:=hu.c.slice
  obtain ⟨au,rfl,-⟩:=hub
  conv=>whnf
  exact ⟨(_,H2),⟨rfl,rfl,rfl,trivial⟩,⟨rfl,g2,hu.back gH.next⟩,rfl⟩
 rintro ⟨w,H2⟩ φ2 _ ⟨rfl,g2,hw⟩
 dsimp only at g2 hw ⊢
 conv=>whnf
 refine loop_inv (α:=Nat×List Int×Nat×Value×Hp) (fun s=>[(3,s.2.2.2.1),(4,int (s.2.2.1:Nat)),(1,ptr h.next 0)]) (fun s=>s.2.2.2.2) (fun s=>m.clsF s.1 s.2.1 s.2.2.1 = m.cls∧(∃ j,Mac.Good m s.2.1 j s.2.2.1)∧m.out.length + 1≤s.1 + s.2.2.1∧Grows H s.2.2.2.2∧Built h s.2.2.2.2 3 s.2.2.2.1 s.2.1) (fun s=>s.1) (m.out.length,m.ref m.out,m.cnt m.out,w,H2) ⟨rfl,⟨1,Mac.Good.start hm⟩,by have:=(Mac.Good.start hm).le; dsimp only; omega,g2,hw⟩ ⟨rfl,rfl,rfl,trivial⟩ (Hp.Le.refl _) ?_
 rintro ⟨f,c,k,w,H3⟩ φ3 ⟨hcl,⟨j,hj⟩,hfk,g3,hw3⟩
 dsimp only at hcl hj hfk g3 hw3 ⊢
 have hkn:k≤m.out.length:=by
  have h2:=hj.cnt
  have h3:=many_le ((List.range m.out.length).map fun s=>c.getD s 0)
  rw [List.length_map,List.length_range] at h3
  omega
 have hexf:∃ f',f = f' + 1:=⟨f - 1,by omega⟩
 obtain ⟨f,rfl⟩:=hexf
 have hcle:=Mac.cnt_le m c
 have hge:=Mac.cnt_ge m c
 have aX3:=g3.at_ _ _ aX
 have hws:=hw3.c.slice
 obtain ⟨aw,rfl,-⟩:=hws
 unfold Mac.clsF at hcl
 conv=>whnf
 refine SeqP.cut (α:=Value×Hp) (fun s=>[(5,s.1),(6,int (m.cnt c:Nat)),(3,.slice aw c.length c.length),(4,int k),(1,ptr h.next 0)]) (fun s H4=>s.2 = H4∧Grows H3 s.2∧Built h s.2 3 s.1 (m.ref c)) ?_ ?_
 ·conv=>whnf
  refine ⟨_,all_cells aX3 hlenx,?_⟩
  conv=>whnf
  refine CallP.mono (refined_spec _ _ m c _ (Bx.mv (hbx.ext (gH.trans g3))) hw3.view hm hj.len hl hbl) ?_
  rintro _ H4 ⟨⟨u,rfl,hu⟩,g4⟩
  have hub:=hu.c.slice
  obtain ⟨au,rfl,-⟩:=hub
  conv=>whnf
  exact ⟨(_,H4),⟨rfl,rfl,rfl,rfl,rfl,trivial⟩,⟨rfl,g4,hu.back (gH.trans g3).next⟩,rfl⟩
 rintro ⟨w4,H4⟩ φ4 _ ⟨rfl,g4,hw4⟩
 dsimp only at g4 hw4 ⊢
 have hws4:=hw4.c.slice
 obtain ⟨aw4,rfl,-⟩:=hws4
 conv=>whnf
 repeat (refine SeqP.go ?_; conv=>whnf)
 refine cmpB (fun q1=>?_) (fun q1=>?_)
 ·rw [if_pos (by omega)] at hcl
  subst hcl
  conv=>whnf
  repeat (refine SeqP.go ?_; conv=>whnf)
  exact ⟨hw3.ext g4,(gH.trans g3).trans g4⟩
 ·rw [if_neg (by omega)] at hcl
  have hne:m.cnt c≠k:=fun e=>q1 (by rw [e])
  have hgc:=hj.cnt
  conv=>whnf
  repeat (refine SeqP.go ?_; conv=>whnf)
  exact Rnd.mk (f,m.ref c,m.cnt c,_,H4) ⟨hcl,⟨j + 1,hj.next hm hne⟩,by show m.out.length + 1≤f + m.cnt c; omega,g3.trans g4,hw4⟩ (by show f < f + 1; omega) ⟨rfl,rfl,rfl,trivial⟩ (Hp.Le.refl _) rfl
theorem form1_spec (m:Mac) (c:Int) (X D4 M:Nat) (bx:List Value) (h H:Hp) (hbx:Bx h bx m.i) (hm:m.Ok) (hc:c ∈ m.cls) (g:Grows h H) (aX:H.at X = some (.row 25 true bx)) (a4:cellAt H D4 0 = some (mapAt M)) (hM:Stands H M m.cls):CallP E 93 [int c,ptr X 0,ptr D4 0] H (fun r H'=>r = int (m.outC c)∧Grows H H'):=by
 obtain ⟨ao,an,co,cn,hcx⟩:=hbx.cx
 obtain ⟨i3,t3,-,z3⟩:=ty3
 obtain ⟨iM,tM,dM⟩:=ty114
 obtain ⟨nM,hM⟩:=hM
 have kx:=hcx H X 25 g aX
 have c1:cellAt H X 1 = some (.slice ao m.out.length co):=kx.c1
 have hr:=rep_lt hm hc
 have ho:=kx.outM hr
 obtain ⟨r,o,sp,rfl,hsp,hco⟩:=ho
 refine enter93 (by simp) ?_
 conv=>whnf
 repeat (refine SeqP.go ?_; conv=>whnf)
 refine ⟨_,c1,?_⟩
 conv=>whnf
 refine ⟨_,a4,?_⟩
 conv=>whnf
 refine raw_look1_some tM dM t3 z3 keyI (k:=c) rfl rfl hM (stF_rep hc) ?_
 conv=>whnf
 refine ⟨hsp,⟨by omega,by omega⟩,?_⟩
 conv=>whnf
 refine ⟨_,hco,?_⟩
 conv=>whnf
 repeat (refine SeqP.go ?_; conv=>whnf)
 exact ⟨rfl,.refl _⟩
theorem form2_spec (m:Mac) (c:Int) (d:Nat) (D3 X D4 M:Nat) (w:Value) (bx:List Value) (h H:Hp) (hbx:Bx h bx m.i) (hm:m.Ok) (hc:c ∈ m.cls) (hd:d < m.base) (g:Grows h H) (aX:H.at X = some (.row 25 true bx)) (a3:cellAt H D3 0 = some w) (hw:View H w m.cls) (a4:cellAt H D4 0 = some (mapAt M)) (hM:Stands H M m.cls):CallP E 94 [int c,int d,ptr D3 0,ptr X 0,ptr D4 0] H (fun r H'=>r = int (m.nextC c d)∧Grows H H'):=by
 obtain ⟨ao,an,co,cn,hcx⟩:=hbx.cx
 obtain ⟨i3,t3,-,z3⟩:=ty3
 obtain ⟨iM,tM,dM⟩:=ty114
 obtain ⟨nM,hM⟩:=hM
 have kx:=hcx H X 25 g aX
 have c2:=kx.c2
 have hil:=hm.ilen
 have hr:=rep_lt hm hc
 have hcl:=Mac.cls_len hm
 have hnx:=kx.nextAt hm hr hd
 obtain ⟨r,o,sp,r',o',sp',c',rfl,hsp,hc1,hsp',hc2⟩:=hnx
 have hnl:=hm.lt _ d hr hd
 obtain ⟨aw,cw,rfl⟩:=hw.known
 have hwc:=View.cellg hw (i:=m.nx (m.rep c) d) (by omega)
 obtain ⟨r2,o2,sp2,rfl,hsp2,-,hcw⟩:=hwc
 refine enter94 (by simp) ?_
 conv=>whnf
 repeat (refine SeqP.go ?_; conv=>whnf)
 refine ⟨_,a3,?_⟩
 conv=>whnf
 refine ⟨_,c2,?_⟩
 conv=>whnf
 refine ⟨_,a4,?_⟩
 conv=>whnf
 refine raw_look1_some tM dM t3 z3 keyI (k:=c) rfl rfl hM (stF_rep hc) ?_
 conv=>whnf
 refine ⟨hsp,⟨by omega,by omega⟩,?_⟩
 conv=>whnf
 refine ⟨_,hc1,?_⟩
 conv=>whnf
 refine ⟨hsp',⟨by omega,by omega⟩,?_⟩
 conv=>whnf
 refine ⟨_,hc2,?_⟩
 conv=>whnf
 refine ⟨hsp2,⟨by omega,by omega⟩,?_⟩
 conv=>whnf
 refine ⟨_,hcw,?_⟩
 conv=>whnf
 repeat (refine SeqP.go ?_; conv=>whnf)
 exact ⟨rfl,.refl _⟩
end
end Go.Proofs.Ytedneplaibmppaa
namespace Go.Proofs.Ytedneplaibmppaa
open Go.Rx Go.RowKit
attribute [local irreducible] E idxN cellAt cellsAt storeAt callable helems hmoved lookIn findKey keyOk hentries Hp.at Hp.set Hp.lay arBits hupdated setAt CallP YieldP BoolOf IsWrap Rnd LoopP AppP CutP Int.tmod Int.tdiv Int.fdiv
section
variable [Unknowns]
attribute [local irreducible] sameAt finP
theorem form_spec (v:Value) (m:Mac) (h:Hp) (hv:MV h v m.i) (hm:m.Ok) (hl:m.out.length≤100000) (hbl:m.base≤1000):CallP E 63 [v] h (fun r h'=>OwnM h h' r m.form.i∧Grows h h'):=by
 obtain ⟨bx,rfl,hbx⟩:=hv.box
 obtain ⟨ao,an,co,cn,hcx⟩:=hbx.cx
 have hlenx:=hbx.len
 have hn1:=hm.n1
 have hcl:=Mac.cls_len hm
 obtain ⟨i3,t3,-,z3⟩:=ty3
 obtain ⟨iM,tM,dM⟩:=ty114
 refine enter63 (by simp) ?_
 conv=>whnf
 refine SeqP.cut (α:=Hp) (fun _=>[(2,ptr (h.next + 1) 0),(1,ptr h.next 0)]) (fun x H=>x = H∧Grows h H∧H.at h.next = some (.row 25 true bx)∧H.at (h.next + 1) = some (.row 25 true [int 0,nilS,nilS])∧H.next = h.next + 2) ?_ ?_
 ·conv=>whnf
  have n1:(h.lay (.row 25 true bx)).next = h.next + 1:=Hp.next_lay _ _
  exact ⟨_,⟨congrArg (fun k=>ptr k 0) n1,rfl,trivial⟩,⟨rfl,(Grows.lay _ _).then_lay _,Hp.at_lay_old _ (Hp.at_lay_self _ _),at_nx2 n1 (Hp.at_lay_self _ _),by rw [Hp.next_lay,n1]⟩,rfl⟩
 rintro H φ1 _ ⟨rfl,gH,aX,aR,nH⟩
 conv=>whnf
 refine SeqP.cut (α:=Value×Nat×Hp) (fun s=>[(3,ptr s.2.1 0),(2,ptr (h.next + 1) 0),(1,ptr h.next 0)]) (fun s H2=>s.2.2 = H2∧Grows H s.2.2∧Built h s.2.2 3 s.1 m.cls∧s.2.2.at s.2.1 = some (.row 22 true [s.1])) ?_ ?_
 ·conv=>whnf
  refine ⟨_,all_cells aX hlenx,?_⟩
  conv=>whnf
  refine CallP.mono (classes_spec _ m _ (Bx.mv (hbx.ext gH)) hm hl hbl) ?_
  rintro w H2 ⟨hw,g2⟩
  have hws:=hw.c.slice
  obtain ⟨aw,rfl,-⟩:=hws
  conv=>whnf
  refine ⟨rfl,_,storeAt_all (vs:=[.slice aw m.cls.length m.cls.length]) rfl rfl rfl,?_⟩
  conv=>whnf
  exact ⟨(_,H2.next,_),⟨rfl,rfl,rfl,trivial⟩,⟨rfl,g2.then_lay _,(hw.ext (Grows.lay _ _)).back gH.next,Hp.at_lay_self _ _⟩,rfl⟩
 rintro ⟨w,D3,H2⟩ φ2 _ ⟨rfl,g2,hw,a3⟩
 dsimp only at g2 hw a3 ⊢
 have hws:=hw.c.slice
 obtain ⟨aw,rfl,haw⟩:=hws
 have haw:=haw 0 (by omega)
 obtain ⟨rw,erw,-⟩:=haw
 subst erw
 conv=>whnf
 refine SeqP.cut (α:=Nat×Nat×Hp) (fun s=>[(4,ptr s.1 0),(3,ptr D3 0),(2,ptr (h.next + 1) 0),(1,ptr h.next 0)]) (fun s H3=>s.2.2 = H3∧Grows H2 s.2.2∧s.2.2.at s.1 = some (.row 114 true [mapAt s.2.1])∧Stands s.2.2 s.2.1 []∧s.2.1 < s.1∧H2.next≤s.2.1) ?_ ?_
 ·conv=>whnf
  refine ⟨rfl,_,storeAt_all (vs:=[mapAt H2.next]) rfl rfl rfl,?_⟩
  conv=>whnf
  have n2:(H2.lay (.map [] 0)).next = H2.next + 1:=Hp.next_lay _ _
  refine ⟨(H2.next + 1,H2.next,_),⟨congrArg (fun k=>ptr k 0) n2,rfl,rfl,rfl,trivial⟩,⟨rfl,(Grows.lay _ _).then_lay _,at_nx2 n2 (Hp.at_lay_self _ _),⟨0,?_⟩,Nat.lt_succ_self _,Nat.le_refl _⟩,rfl⟩
  exact ((MapAt.new (enc:=encI) H2).ext (Grows.lay _ _)).congr fun k=>(if_neg (by simp)).symm
 rintro ⟨D4,M,H3⟩ φ3 _ ⟨rfl,g3,a4,hM3,hMD,hMge⟩
 dsimp only at g3 a4 hM3 hMD hMge ⊢
 have g23:=g2.trans g3
 have a33:=g3.at_ _ _ a3
 have hlt3:=Hp.lt_of_at a3
 have hlt1:=Hp.lt_of_at (g2.at_ _ _ aR)
 conv=>whnf
 refine SeqP.cut (α:=Hp) (fun s=>[(4,ptr D4 0),(3,ptr D3 0),(2,ptr (h.next + 1) 0),(1,ptr h.next 0)]) (fun s H4=>s = H4∧Grows H s∧s.at D4 = some (.row 114 true [mapAt M])∧s.at D3 = some (.row 22 true [slc rw 0 m.cls.length m.cls.length])∧Stands s M m.cls∧Built h s 3 (slc rw 0 m.cls.length m.cls.length) m.cls) ?_ ?_
 ·have cl3:cellAt H3 D3 0 = some (slc rw 0 m.cls.length m.cls.length):=cellAt_row a33 rfl
  conv=>whnf
  refine SeqP.go ?_
  conv=>whnf
  refine ⟨_,cl3,?_⟩
  conv=>whnf
  refine loop_inv (α:=Nat×Hp) (fun s=>[(16,int s.1),(15,int m.cls.length),(14,slc rw 0 m.cls.length m.cls.length),(4,ptr D4 0),(3,ptr D3 0),(2,ptr (h.next + 1) 0),(1,ptr h.next 0)]) (fun s=>s.2) (fun s=>s.1≤m.cls.length∧Grows H s.2∧s.2.at D4 = some (.row 114 true [mapAt M])∧s.2.at D3 = some (.row 22 true [slc rw 0 m.cls.length m.cls.length])∧Stands s.2 M (m.cls.take s.1)∧Built h s.2 3 (slc rw 0 m.cls.length m.cls.length) m.cls) (fun s=>m.cls.length - s.1) (0,H3) ⟨Nat.zero_le _,g23,a4,a33,hM3,hw.ext g3⟩ ⟨rfl,rfl,rfl,rfl,rfl,rfl,rfl,trivial⟩ (Hp.Le.refl _) ?_
  rintro ⟨k,H4⟩ φ4 ⟨hk,g4,b4,b3,hM4,hw4⟩
  dsimp only at hk g4 b4 b3 hM4 hw4 ⊢
  conv=>whnf
  repeat (refine SeqP.go ?_; conv=>whnf)
  refine cmpB (fun q1=>?_) (fun q1=>?_)
  rotate_left
  ·have:k = m.cls.length:=by omega
   rw [this,List.take_length] at hM4
   conv=>whnf
   exact ⟨H4,⟨rfl,rfl,rfl,rfl,trivial⟩,⟨rfl,g4,b4,b3,hM4,hw4⟩,rfl⟩
  have hkl:k < m.cls.length:=by omega
  have hvc:=View.cellg hw4.view hkl
  obtain ⟨r,o,sp,er,hsp,-,hc⟩:=hvc
  cases er
  have hexc:∃ c,gl m.cls k = c:=⟨_,rfl⟩
  obtain ⟨c,ec⟩:=hexc
  have hck:m.cls[k]? = some c:=by rw [← ec,gl_at hkl]; exact List.getElem?_eq_getElem hkl
  have htk:=take_snoc hck
  rw [ec] at hc
  obtain ⟨n4,hM4⟩:=hM4
  have c4:cellAt H4 D4 0 = some (mapAt M):=cellAt_row b4 rfl
  have htl:(m.cls.take k).length = k:=by rw [List.length_take]; omega
  have hMlt:M < H4.next:=by have:=Hp.lt_of_at b4; omega
  conv=>whnf
  refine SeqP.go ?_
  conv=>whnf
  refine SeqP.cut (α:=Hp) (fun s=>[(16,int k),(15,int m.cls.length),(14,slc rw 0 m.cls.length m.cls.length),(4,ptr D4 0),(3,ptr D3 0),(2,ptr (h.next + 1) 0),(1,ptr h.next 0)]) (fun s H5=>s = H5∧Grows H s∧s.at D4 = some (.row 114 true [mapAt M])∧s.at D3 = some (.row 22 true [slc rw 0 m.cls.length m.cls.length])∧Stands s M (m.cls.take (k + 1))∧Built h s 3 (slc rw 0 m.cls.length m.cls.length) m.cls) ?_ ?_
  rotate_left
  ·rintro H5 φ5 _ ⟨rfl,g5,b4',b3',hM5,hw5⟩
   conv=>whnf
   refine ⟨((k + 1:Nat):Int),wie (by omega) (by omega),?_⟩
   conv=>whnf
   exact Rnd.mk (k + 1,H5) ⟨by show k + 1≤_; omega,g5,b4',b3',hM5,hw5⟩ (by show _ - (k + 1) < _ - k; omega) ⟨rfl,rfl,rfl,rfl,rfl,rfl,rfl,trivial⟩ (Hp.Le.refl _) rfl
  rw [htk]
  by_cases hin:c ∈ m.cls.take k
  ·have hf:stF (m.cls.take k) c = some (int (ixOf (m.cls.take k) c:Nat)):=if_pos hin
   conv=>whnf
   refine SeqP.go ?_
   conv=>whnf
   refine ⟨hsp,⟨by omega,by omega⟩,?_⟩
   conv=>whnf
   refine ⟨_,hc,?_⟩
   conv=>whnf
   refine SeqP.go ?_
   conv=>whnf
   refine ⟨_,c4,?_⟩
   conv=>whnf
   refine raw_look2_some tM dM t3 z3 keyI (k:=c) rfl rfl hM4 hf ?_
   conv=>whnf
   repeat (refine SeqP.go ?_; conv=>whnf)
   exact ⟨H4,⟨rfl,rfl,rfl,rfl,rfl,rfl,rfl,trivial⟩,⟨rfl,g4,b4,b3,⟨n4,hM4.congr (stF_old hin)⟩,hw4⟩,rfl⟩
  ·have hf:stF (m.cls.take k) c = none:=if_neg hin
   conv=>whnf
   refine SeqP.go ?_
   conv=>whnf
   refine ⟨hsp,⟨by omega,by omega⟩,?_⟩
   conv=>whnf
   refine ⟨_,hc,?_⟩
   conv=>whnf
   refine SeqP.go ?_
   conv=>whnf
   refine ⟨_,c4,?_⟩
   conv=>whnf
   refine raw_look2_none tM dM t3 z3 keyI (k:=c) rfl rfl hM4 hf ?_
   conv=>whnf
   repeat (refine SeqP.go ?_; conv=>whnf)
   refine ⟨_,c4,?_⟩
   conv=>whnf
   refine raw_update tM dM keyI (k:=c) (v:=int k) rfl rfl rfl hM4 ?_
   intro H5 hM5 y5
   have hnew:=stF_new hin
   rw [htl] at hnew
   have hrM:rw≠M:=fun e=>by
    subst e
    rcases hw with ⟨e1,_⟩ | ⟨r',e1,h2,x,hr'⟩
    ·cases e1
    ·cases e1
     have:=Hp.lt_of_at hr'
     omega
   conv=>whnf
   exact ⟨H5,⟨rfl,rfl,rfl,rfl,rfl,rfl,rfl,trivial⟩,⟨rfl,y5.grows g4 (by have:=g2.next; omega),y5.at_ _ _ (by omega) b4,y5.at_ _ _ (by omega) b3,⟨_,hM5.congr hnew⟩,built_stay hw4 fun r' o' e1 e2=>y5.at_ _ _ (by cases e1; exact hrM) e2⟩,rfl⟩
 rintro H4 φ4 _ ⟨rfl,g4,b4,b3,hM4,hw4⟩
 have gh4:=gH.trans g4
 have aX4:=g4.at_ _ _ aX
 have aR4:=g4.at_ _ _ aR
 have c0:=(hcx H4 h.next 25 gh4 aX4).c0
 have c3:cellAt H4 D3 0 = some (slc rw 0 m.cls.length m.cls.length):=cellAt_row b3 rfl
 have hv0:=View.cellg hw4.view (i:=0) (by omega)
 obtain ⟨r,o,sp,er,hsp,-,hc0⟩:=hv0
 cases er
 have ho:OutF 93 [ptr h.next 0,ptr D4 0] encI m.outC m.cls H4:=⟨can93,fun c hc H5 g5=>form1_spec m c h.next D4 M bx h H5 hbx hm hc (gh4.trans g5) (g5.at_ _ _ aX4) (g5.cell (cellAt_row b4 rfl)) (hM4.ext g5)⟩
 have hn:NextF 94 [ptr D3 0,ptr h.next 0,ptr D4 0] encI m.nextC m.base m.cls H4:=⟨can94,fun c hc d hd H5 g5=>form2_spec m c d D3 h.next D4 M _ bx h H5 hbx hm hc hd (gh4.trans g5) (g5.at_ _ _ aX4) (g5.cell c3) (hw4.view.ext g5) (g5.cell (cellAt_row b4 rfl)) (hM4.ext g5)⟩
 have hb:=built70_spec m.base (m.cl 0) m.outC m.nextC m.cls 93 94 _ _ H4 ⟨hm.b1,hbl⟩ (Mac.form_fin hm) (List.mem_of_getElem? (Mac.cl_get hm hm.n1)) (by omega) ho hn
 conv=>whnf
 refine SeqP.go ?_
 conv=>whnf
 refine SeqP.go ?_
 conv=>whnf
 refine SeqP.go ?_
 conv=>whnf
 refine ⟨_,c0,?_⟩
 conv=>whnf
 refine ⟨_,c3,?_⟩
 conv=>whnf
 refine ⟨hsp,⟨by omega,by omega⟩,?_⟩
 conv=>whnf
 refine ⟨_,hc0,?_⟩
 conv=>whnf
 refine CallP.mono hb ?_
 rintro w5 H5 ⟨hown,g5⟩
 have hk5:=hown.known
 obtain ⟨a5,b5,rfl⟩:=hk5
 have aR5:=g5.at_ _ _ aR4
 conv=>whnf
 refine ⟨rfl,_,storeAt_full (vs:=[int m.form.i.base,.slice a5 m.form.i.out.length m.form.i.out.length,.slice b5 m.form.i.next.length m.form.i.next.length]) aR5 rfl rfl rfl,?_⟩
 conv=>whnf
 obtain ⟨i25,t25,ag25,sz25⟩:=ty25
 refine leave_cell (r:=h.next + 1) (o:=0) (cs:=[int m.form.i.base,.slice a5 m.form.i.out.length m.form.i.out.length,.slice b5 m.form.i.next.length m.form.i.next.length]) rfl t25 ag25 ?_ ?_
 ·rw [sz25]
  exact all_cells (Hp.at_set_self _ (Hp.lt_of_at aR5)) rfl
 ·exact ⟨(hown.put (Hp.lt_of_at aR4) _).back gh4.next,(gh4.trans g5).then_set _ (by omega)⟩
end
end Go.Proofs.Ytedneplaibmppaa
namespace Go.Proofs.Ytedneplaibmppaa
open Go.Rx
section
variable {S:Type} [DecidableEq S]
theorem built_bfs {next:S→Nat→S} {b:Nat} {s:S} {U:List S} (hU:Fin_ next b U) (hs:s ∈ U):Whole next b s (bfs next b s):=(bfs_ok hU hs).whole
theorem built_ok {next:S→Nat→S} {b:Nat} {s:S} {U:List S} (hU:Fin_ next b U) (hs:s ∈ U) (out:S→Int) (hb:1≤b):(built b s out next).Ok∧(built b s out next).out.length≤U.length:=by
 refine ⟨(built_bfs hU hs).ok out hb,?_⟩
 unfold built
 rw [mach_n]
 refine nodup_sub (built_bfs hU hs).nodup ?_
 exact (bfs_ok hU hs).all (P:=fun s=>s ∈ U) (fun s h d hd=>hU.cl s h d hd) (fun x hx=>by rw [List.mem_singleton.1 hx]; exact hs)
theorem built_says {next:S→Nat→S} {b:Nat} {s:S} {U:List S} (hU:Fin_ next b U) (hs:s ∈ U) (out:S→Int) {w:List Nat} (hw:Mac.Wd b w):(built b s out next).o ((built b s out next).run 0 w) = out (runS next s w):=(built_bfs hU hs).says (built_bfs hU hs).first hw
theorem built_zer {next:S→Nat→S} {b:Nat} {s:S} {U:List S} (hU:Fin_ next b U) (hs:s ∈ U) {out:S→Int} (hb:1≤b) (h:∀ s ∈ U,out (next s 0) = out s):(built b s out next).Zer:=fun i hi=>by
 unfold built at hi ⊢
 rw [mach_n] at hi
 have w:=built_bfs hU hs
 have hi':=List.getElem?_eq_getElem hi
 have hm:=List.getElem_mem hi
 have hu:=(bfs_ok hU hs).all (P:=fun s=>s ∈ U) (fun s h d hd=>hU.cl s h d hd) (fun x hx=>by rw [List.mem_singleton.1 hx]; exact hs) _ hm
 rw [mach_nx hi' (by omega),mach_o hi',mach_o (get_idxOf (w.cl _ hm 0 (by omega)))]
 exact h _ hu
end
def sq (n k:Nat):List (Int×Int):=(List.range n).flatMap fun s:Nat=>(List.range k).map fun c:Nat=>((s:Int),(c:Int))
theorem sq_mem {n k:Nat} {p:Int×Int}:p ∈ sq n k↔(0≤p.1∧p.1 < n)∧(0≤p.2∧p.2 < k):=by
 unfold sq
 rw [List.mem_flatMap]
 constructor
 ·rintro ⟨s,hs,h⟩
  obtain ⟨c,hc,rfl⟩:=List.mem_map.1 h
  have:=List.mem_range.1 hs
  have:=List.mem_range.1 hc
  dsimp only
  omega
 ·rintro ⟨⟨h1,h2⟩,h3,h4⟩
  refine ⟨p.1.toNat,List.mem_range.2 (by omega),List.mem_map.2 ⟨p.2.toNat,List.mem_range.2 (by omega),?_⟩⟩
  obtain ⟨a,b⟩:=p
  dsimp only at h1 h3 ⊢
  rw [Prod.mk.injEq]
  omega
theorem sum_const (k:Nat):∀ l:List Nat,(l.map fun _=>k).sum = l.length * k
 | []=>by simp
 | x :: l=>by rw [List.map_cons,List.sum_cons,sum_const k l,List.length_cons,Nat.add_mul]; omega
theorem sq_len (n k:Nat):(sq n k).length = n * k:=by
 unfold sq
 rw [List.length_flatMap]
 have h:=sum_const k (List.range n)
 rw [List.length_range] at h
 rw [← h]
 simp
namespace Mac
def nextE (m:Mac) (step:Nat) (p:Int×Int) (d:Nat):Int×Int:=((m.nx p.1.toNat ((step * d + p.2.toNat) % m.base):Nat),((step * d + p.2.toNat) / m.base:Nat))
def outE (m:Mac) (p:Int×Int):Int:=m.at_ p.1.toNat p.2.toNat
noncomputable def every (m:Mac) (step from_:Nat):Mac:=built m.base (0,(from_:Int)) m.outE (m.nextE step)
theorem every_fin {m:Mac} (hm:m.Ok) {step B:Nat} (hB:step≤B):Fin_ (m.nextE step) m.base (sq m.out.length (B + 1)):=⟨fun p hp d hd=>by
 have h:=sq_mem.1 hp
 refine sq_mem.2 ?_
 unfold nextE
 dsimp only
 have hb:=hm.b1
 have h1:=hm.lt p.1.toNat ((step * d + p.2.toNat) % m.base) (by omega) (Nat.mod_lt _ (by omega))
 have h2:(step * d + p.2.toNat) / m.base≤B:=by
  have h3:step * d≤B * (m.base - 1):=Nat.mul_le_mul hB (by omega)
  have h4:B * (m.base - 1) + B = B * m.base:=by
   obtain ⟨c,hc⟩:∃ c,m.base = c + 1:=⟨m.base - 1,by omega⟩
   rw [hc,Nat.add_sub_cancel,Nat.mul_add,Nat.mul_one]
  have h5:(step * d + p.2.toNat) / m.base≤(B * m.base) / m.base:=Nat.div_le_div_right (by omega)
  rw [Nat.mul_div_cancel _ (by omega)] at h5
  exact h5
 have hexq:∃ q,(step * d + p.2.toNat) / m.base = q:=⟨_,rfl⟩
 obtain ⟨q,eq⟩:=hexq
 rw [eq] at h2 ⊢
 omega⟩
theorem every_mem {m:Mac} (hm:m.Ok) {f B:Nat} (hf:f≤B):((0:Int),(f:Int)) ∈ sq m.out.length (B + 1):=sq_mem.2 (by have:=hm.n1; dsimp only; omega)
theorem every_ok {m:Mac} (hm:m.Ok) (step f:Nat):(m.every step f).Ok∧(m.every step f).out.length≤m.out.length * (max step f + 1):=by
 have:=built_ok (every_fin hm (Nat.le_max_left step f)) (every_mem hm (Nat.le_max_right step f)) m.outE hm.b1
 rw [sq_len] at this
 exact this
theorem every_run {m:Mac} (hm:m.Ok) (hb:2≤m.base) (hz:m.Zer) (step:Nat):∀ (w:List Nat) (p:Int×Int),Wd m.base w→0≤p.1→p.1 < m.out.length→m.outE (runS (m.nextE step) p w) = m.at_ p.1.toNat (step * val m.base w + p.2.toNat)
 | [],p,_,_,_=>by show m.at_ _ _ = m.at_ _ (step * 0 + _); rw [Nat.mul_zero,Nat.zero_add]; rfl
 | d :: w,p,hw,h0,h1=>by
  have hd:=hw d (by simp)
  have hl:=hm.lt p.1.toNat ((step * d + p.2.toNat) % m.base) (by omega) (Nat.mod_lt _ (by omega))
  have ih:=every_run hm hb hz step w (m.nextE step p d) (fun x hx=>hw x (by simp [hx])) (by unfold nextE; dsimp only; omega) (by unfold nextE; dsimp only; omega)
  show m.outE (runS (m.nextE step) (m.nextE step p d) w) = _
  rw [ih]
  unfold nextE
  dsimp only
  rw [Int.toNat_natCast,Int.toNat_natCast,← at_step hm hb hz (by omega) (Nat.mod_lt _ (by omega))]
  congr 1
  show _ = step * (d + m.base * val m.base w) + p.2.toNat
  have e:=Nat.mod_add_div (step * d + p.2.toNat) m.base
  rw [Nat.mul_add,Nat.mul_add]
  have e2:m.base * (step * val m.base w) = step * (m.base * val m.base w):=by rw [Nat.mul_left_comm]
  omega
theorem every_zer {m:Mac} (hm:m.Ok) (hb:2≤m.base) (hz:m.Zer) (step f:Nat):(m.every step f).Zer:=built_zer (every_fin hm (Nat.le_max_left step f)) (every_mem hm (Nat.le_max_right step f)) hm.b1 fun p hp=>by
 have h:=sq_mem.1 hp
 have h1:=every_run hm hb hz step [0] p (by intro x hx; rw [List.mem_singleton.1 hx]; omega) h.1.1 h.1.2
 have h2:=every_run hm hb hz step [] p (by simp [Wd]) h.1.1 h.1.2
 have e:val m.base [0] = 0:=by simp [val]
 rw [e] at h1
 exact h1.trans h2.symm
theorem every_at {m:Mac} (hm:m.Ok) (hb:2≤m.base) (hz:m.Zer) (step f n:Nat):(m.every step f).at_ 0 n = m.at_ 0 (step * n + f):=by
 have h:=built_says (every_fin hm (Nat.le_max_left step f)) (every_mem hm (Nat.le_max_right step f)) m.outE (w:=dg m.base n) (dg_wd hb n)
 have h2:=every_run hm hb hz step (dg m.base n) (0,(f:Int)) (dg_wd hb n) (by dsimp only; omega) (by have:=hm.n1; dsimp only; omega)
 rw [val_dg hb] at h2
 exact h.trans h2
end Mac
end Go.Proofs.Ytedneplaibmppaa
namespace Go.Proofs.Ytedneplaibmppaa
open Go.Rx Go.RowKit
abbrev noM:Value:=.agg ⟨[int 0,nilS,nilS]⟩
def FitR (h h':Hp) (r:Value) (m:Mac):Prop:=∃ u e,r = .tuple ⟨[u,int e]⟩∧(m.form.out.length≤12→e = 0∧OwnM h h' u m.form.i)∧(12 < m.form.out.length→e = 8∧u = noM)
theorem FitR.back {h1 h h':Hp} {r:Value} {m:Mac} (g:h1.next≤h.next) (k:FitR h h' r m):FitR h1 h' r m:=by
 obtain ⟨u,e,rfl,h1,h2⟩:=k
 exact ⟨u,e,rfl,fun q=>⟨(h1 q).1,(h1 q).2.back g⟩,h2⟩
theorem le_nat {a b c:Nat} (h:a≤b * c) (hb:b≤12) (hc:c≤1001):a≤100000:=by
 have:=Nat.mul_le_mul hb hc
 omega
attribute [local irreducible] E idxN cellAt cellsAt storeAt callable helems hmoved lookIn findKey keyOk hentries Hp.at Hp.set Hp.lay arBits hupdated setAt CallP YieldP BoolOf IsWrap Rnd LoopP AppP CutP Int.tmod Int.tdiv Int.fdiv
section
variable [Unknowns]
attribute [local irreducible] sameAt finP
theorem every1_spec (m:Mac) (p:Int×Int) (X:Nat) (bx:List Value) (h H:Hp) (hbx:Bx h bx m.i) (hm:OkS m) (hp:(0≤p.1∧p.1 < m.out.length)∧0≤p.2∧p.2 < 100000) (g:Grows h H) (aX:H.at X = some (.row 25 true bx)):CallP E 95 [encP p,ptr X 0] H (fun r H'=>r = int (m.outE p)∧Grows H H'):=by
 obtain ⟨a,c⟩:=p
 obtain ⟨⟨h1,h2⟩,h3,h4⟩:=hp
 dsimp only at h1 h2 h3 h4
 obtain ⟨s,rfl⟩:∃ s:Nat,a = s:=⟨a.toNat,by omega⟩
 obtain ⟨k,rfl⟩:∃ k:Nat,c = k:=⟨c.toNat,by omega⟩
 have hlen:=hbx.len
 have aP:(H.lay (.row 136 true [int s,int k])).at H.next = some (.row 136 true [int s,int k]):=Hp.at_lay_self _ _
 have g1:Grows H (H.lay (.row 136 true [int s,int k])):=Grows.lay _ _
 unfold encP
 refine enter95 (by simp) ?_
 conv=>whnf
 refine SeqP.go ?_
 conv=>whnf
 refine SeqP.go ?_
 conv=>whnf
 refine ⟨_,all_cells (g1.at_ _ _ aX) hlen,?_⟩
 conv=>whnf
 refine ⟨_,cellAt_row aP rfl,?_⟩
 conv=>whnf
 refine ⟨_,cellAt_row aP rfl,?_⟩
 conv=>whnf
 refine CallP.mono (at_spec _ m s k _ (Bx.mv (hbx.ext (g.trans g1))) hm.ok hm.b25 (by omega) (by have:=hm.n12; omega) (by omega)) ?_
 rintro r H2 ⟨rfl,g2⟩
 conv=>whnf
 exact finP_one rfl rfl ⟨rfl,g1.trans g2⟩
theorem every2_spec (m:Mac) (p:Int×Int) (step d:Nat) (S4 X:Nat) (bx:List Value) (h H:Hp) (hbx:Bx h bx m.i) (hm:OkS m) (hp:(0≤p.1∧p.1 < m.out.length)∧0≤p.2∧p.2 < 100000) (hst:step≤1000) (hd:d < m.base) (g:Grows h H) (aX:H.at X = some (.row 25 true bx)) (a4:cellAt H S4 0 = some (int step)):CallP E 96 [encP p,int d,ptr S4 0,ptr X 0] H (fun r H'=>r = encP (m.nextE step p d)∧Grows H H'):=by
 obtain ⟨a,c⟩:=p
 obtain ⟨⟨h1,h2⟩,h3,h4⟩:=hp
 dsimp only at h1 h2 h3 h4
 obtain ⟨s,rfl⟩:∃ s:Nat,a = s:=⟨a.toNat,by omega⟩
 obtain ⟨k,rfl⟩:∃ k:Nat,c = k:=⟨c.toNat,by omega⟩
 obtain ⟨ao,an,co,cn,hcx⟩:=hbx.cx
 have hb5:=hm.b5
 have hb2:=hm.b2
 have g1:Grows H ((H.lay (.row 136 true [int s,int k])).lay (.row 136 true [int 0,int 0])):=(Grows.lay _ _).then_lay _
 have n1:(H.lay (.row 136 true [int s,int k])).next = H.next + 1:=Hp.next_lay _ _
 have aP:((H.lay (.row 136 true [int s,int k])).lay (.row 136 true [int 0,int 0])).at H.next = some (.row 136 true [int s,int k]):=Hp.at_lay_old _ (Hp.at_lay_self _ _)
 have aR:((H.lay (.row 136 true [int s,int k])).lay (.row 136 true [int 0,int 0])).at (H.next + 1) = some (.row 136 true [int 0,int 0]):=at_nx2 n1 (Hp.at_lay_self _ _)
 unfold encP
 refine enter96 (by simp) ?_
 conv=>whnf
 refine SeqP.cut (α:=Hp) (fun _=>[(4,ptr H.next 0),(6,ptr (H.next + 1) 0),(1,int d),(2,ptr S4 0),(3,ptr X 0)]) (fun x H2=>x = H2∧Grows H x∧x.at H.next = some (.row 136 true [int s,int k])∧x.at (H.next + 1) = some (.row 136 true [int 0,int 0])) ?_ ?_
 ·conv=>whnf
  exact ⟨_,⟨rfl,congrArg (fun k=>ptr k 0) n1,rfl,rfl,rfl,trivial⟩,⟨rfl,g1,aP,aR⟩,rfl⟩
 rintro H2 φ1 _ ⟨rfl,g2,aP,aR⟩
 have b4:=g2.cell a4
 have kx:=hcx H2 X 25 (g.trans g2) (g2.at_ _ _ aX)
 have c0:cellAt H2 X 0 = some (int (m.base:Int)):=kx.c0
 have c2:=kx.c2
 have hil:=hm.ok.ilen
 have hmul:step * d≤1000 * 5:=Nat.mul_le_mul hst (by omega)
 have emul:(step:Int) * (d:Int) = ((step * d:Nat):Int):=by rw [Int.natCast_mul]
 have hexu:∃ u,step * d = u:=⟨_,rfl⟩
 obtain ⟨u,eu⟩:=hexu
 have eE:m.nextE step ((s:Int),(k:Int)) d = (((m.nx s ((u + k) % m.base):Nat):Int),(((u + k) / m.base:Nat):Int)):=by
  unfold Mac.nextE
  dsimp only
  rw [Int.toNat_natCast,Int.toNat_natCast,eu]
 rw [eE]
 rw [eu] at hmul emul
 have em:=tmod_nat (u + k) m.base
 have ed:=tdiv_nat (u + k) m.base
 have hml:=Nat.mod_lt (u + k) (show m.base > 0 by omega)
 have hdl:=Nat.div_le_self (u + k) m.base
 have hexq:∃ q,(u + k) / m.base = q:=⟨_,rfl⟩
 obtain ⟨q,eq⟩:=hexq
 have hexr:∃ r,(u + k) % m.base = r:=⟨_,rfl⟩
 obtain ⟨r,er⟩:=hexr
 rw [eq] at ed hdl ⊢
 rw [er] at em hml ⊢
 have hnx:=kx.nextAt hm.ok (s:=s) (d:=r) (by omega) hml
 obtain ⟨r1,o1,sp1,r2,o2,sp2,c2',rfl,hsp1,hc1,hsp2,hc2⟩:=hnx
 conv=>whnf
 refine SeqP.cut (α:=Unit) (fun _=>[(7,int (u + k:Nat)),(4,ptr H.next 0),(6,ptr (H.next + 1) 0),(3,ptr X 0)]) (fun _ H3=>H2 = H3) ?_ ?_
 ·conv=>whnf
  refine ⟨_,b4,?_⟩
  conv=>whnf
  refine ⟨(u:Int),wie emul (by omega),?_⟩
  conv=>whnf
  refine ⟨_,cellAt_row aP rfl,?_⟩
  conv=>whnf
  refine ⟨((u + k:Nat):Int),wie (by omega) (by omega),?_⟩
  conv=>whnf
  exact ⟨(),⟨rfl,rfl,rfl,rfl,trivial⟩,rfl,rfl⟩
 rintro _ φ2 _ rfl
 conv=>whnf
 refine SeqP.go ?_
 conv=>whnf
 refine ⟨_,c2,?_⟩
 conv=>whnf
 refine ⟨_,cellAt_row aP rfl,?_⟩
 conv=>whnf
 refine ⟨hsp1,⟨by omega,by omega⟩,?_⟩
 conv=>whnf
 refine ⟨_,hc1,?_⟩
 conv=>whnf
 refine ⟨_,c0,?_⟩
 conv=>whnf
 refine ⟨by show (m.base:Int)≠0; omega,?_⟩
 conv=>whnf
 rw [em]
 refine ⟨hsp2,⟨by omega,by omega⟩,?_⟩
 conv=>whnf
 refine ⟨_,hc2,?_⟩
 conv=>whnf
 refine ⟨_,c0,?_⟩
 conv=>whnf
 refine ⟨by show (m.base:Int)≠0; omega,(q:Int),wie ed (by omega),?_⟩
 conv=>whnf
 refine ⟨rfl,_,storeAt_full (vs:=[int (m.nx s r),int q]) aR rfl rfl rfl,?_⟩
 conv=>whnf
 have hs:(tiOf Try.prog 136).isSome = true:=by kernel_rfl
 refine leave_cell (i:=(tiOf Try.prog 136).get hs) (r:=H.next + 1) (o:=0) (cs:=[int (m.nx s r),int q]) rfl (ty_get (by kernel_rfl) (Option.some_get hs).symm) (by kernel_rfl) ?_ ?_
 ·rw [show ((tiOf Try.prog 136).get hs).size = 2 from by kernel_rfl]
  exact all_cells (Hp.at_set_self _ (Hp.lt_of_at aR)) rfl
 ·exact ⟨rfl,g2.then_set _ (by omega)⟩
theorem every_spec (v:Value) (m:Mac) (step from_:Nat) (h:Hp) (hv:MV h v m.i) (hm:OkS m) (hs:step≤1000) (hf:from_≤1000):CallP E 67 [v,int step,int from_] h (fun r h'=>OwnM h h' r (m.every step from_).i∧Grows h h'):=by
 obtain ⟨bx,rfl,hbx⟩:=hv.box
 obtain ⟨ao,an,co,cn,hcx⟩:=hbx.cx
 have hb5:=hm.b5
 refine enter67 (by simp) ?_
 conv=>whnf
 refine SeqP.cut (α:=Hp) (fun _=>[(3,ptr h.next 0),(4,ptr (h.next + 1) 0),(6,ptr (h.next + 2) 0),(2,int from_)]) (fun x H=>x = H∧Grows h x∧x.at h.next = some (.row 25 true bx)∧x.at (h.next + 1) = some (.row 3 true [int step])∧x.at (h.next + 2) = some (.row 25 true [int 0,nilS,nilS])) ?_ ?_
 ·conv=>whnf
  have n1:(h.lay (.row 25 true bx)).next = h.next + 1:=Hp.next_lay _ _
  have n2:((h.lay (.row 25 true bx)).lay (.row 3 true [int step])).next = h.next + 2:=by rw [Hp.next_lay,n1]
  exact ⟨_,⟨rfl,congrArg (fun k=>ptr k 0) n1,congrArg (fun k=>ptr k 0) n2,rfl,trivial⟩,⟨rfl,((Grows.lay _ _).then_lay _).then_lay _,Hp.at_lay_old _ (Hp.at_lay_old _ (Hp.at_lay_self _ _)),Hp.at_lay_old _ (at_nx2 n1 (Hp.at_lay_self _ _)),at_nx2 n2 (Hp.at_lay_self _ _)⟩,rfl⟩
 rintro H φ1 _ ⟨rfl,gH,aX,aS,aR⟩
 have c0:=(hcx H h.next 25 gH aX).c0
 have hU:∀ p ∈ sq m.out.length (1000 + 1),(0≤p.1∧p.1 < (m.out.length:Int))∧0≤p.2∧p.2 < 100000:=fun p hp=>by have:=sq_mem.1 hp; omega
 have ho:OutF 95 [ptr h.next 0] encP m.outE (sq m.out.length (1000 + 1)) H:=⟨can95,fun p hp H5 g5=>every1_spec m p h.next bx h H5 hbx hm (hU p hp) (gH.trans g5) (g5.at_ _ _ aX)⟩
 have hn:NextF 96 [ptr (h.next + 1) 0,ptr h.next 0] encP (m.nextE step) m.base (sq m.out.length (1000 + 1)) H:=⟨can96,fun p hp d hd H5 g5=>every2_spec m p step d (h.next + 1) h.next bx h H5 hbx hm (hU p hp) hs hd (gH.trans g5) (g5.at_ _ _ aX) (g5.cell (cellAt_row aS rfl))⟩
 have hb:=built97_spec m.base (0,(from_:Int)) m.outE (m.nextE step) (sq m.out.length (1000 + 1)) 95 96 _ _ H ⟨hm.ok.b1,by omega⟩ (Mac.every_fin hm.ok hs) (Mac.every_mem hm.ok hf) (by rw [sq_len]; have:=hm.n12; have:=Nat.mul_le_mul this (Nat.le_refl 1001); omega) ho hn
 conv=>whnf
 refine SeqP.go ?_
 conv=>whnf
 refine SeqP.go ?_
 conv=>whnf
 refine SeqP.go ?_
 conv=>whnf
 refine ⟨_,c0,?_⟩
 conv=>whnf
 refine CallP.mono hb ?_
 rintro w5 H5 ⟨hown,g5⟩
 have hexm:∃ m',built m.base (0,(from_:Int)) m.outE (m.nextE step) = m':=⟨_,rfl⟩
 obtain ⟨m',em⟩:=hexm
 rw [em] at hown
 have em':m.every step from_ = m':=em
 rw [em']
 have hk5:=hown.known
 obtain ⟨a5,b5,rfl⟩:=hk5
 have aR5:=g5.at_ _ _ aR
 conv=>whnf
 refine ⟨rfl,_,storeAt_full (vs:=[int m'.i.base,.slice a5 m'.i.out.length m'.i.out.length,.slice b5 m'.i.next.length m'.i.next.length]) aR5 rfl rfl rfl,?_⟩
 conv=>whnf
 obtain ⟨i25,t25,ag25,sz25⟩:=ty25
 refine leave_cell (r:=h.next + 2) (o:=0) (cs:=[int m'.i.base,.slice a5 m'.i.out.length m'.i.out.length,.slice b5 m'.i.next.length m'.i.next.length]) rfl t25 ag25 ?_ ?_
 ·rw [sz25]
  exact all_cells (Hp.at_set_self _ (Hp.lt_of_at aR5)) rfl
 ·exact ⟨(hown.put (Hp.lt_of_at aR) _).back gH.next,(gH.trans g5).then_set _ (by omega)⟩
theorem fitted_spec (v:Value) (m:Mac) (h:Hp) (hv:MV h v m.i) (hm:m.Ok) (hl:m.out.length≤100000) (hbl:m.base≤1000):CallP E 66 [v] h (fun r h'=>FitR h h' r m∧Grows h h'):=by
 obtain ⟨bx,rfl,hbx⟩:=hv.box
 have hlenx:=hbx.len
 refine enter66 (by simp) ?_
 conv=>whnf
 refine SeqP.cut (α:=Hp) (fun _=>[(3,int 0),(2,ptr (h.next + 1) 0),(1,ptr h.next 0)]) (fun x H=>x = H∧Grows h H∧H.at h.next = some (.row 25 true bx)∧H.at (h.next + 1) = some (.row 25 true [int 0,nilS,nilS])) ?_ ?_
 ·conv=>whnf
  have n1:(h.lay (.row 25 true bx)).next = h.next + 1:=Hp.next_lay _ _
  exact ⟨_,⟨rfl,congrArg (fun k=>ptr k 0) n1,rfl,trivial⟩,⟨rfl,(Grows.lay _ _).then_lay _,Hp.at_lay_old _ (Hp.at_lay_self _ _),at_nx2 n1 (Hp.at_lay_self _ _)⟩,rfl⟩
 rintro H φ1 _ ⟨rfl,gH,aX,aR⟩
 have hltR:=Hp.lt_of_at aR
 conv=>whnf
 refine SeqP.cut (α:=List Value×Nat×Hp) (fun s=>[(4,ptr s.2.1 0),(3,int 0),(2,ptr (h.next + 1) 0),(1,ptr h.next 0)]) (fun s H2=>s.2.2 = H2∧Grows H s.2.2∧OwnM H s.2.2 (.agg ⟨s.1⟩) m.form.i∧s.2.2.at s.2.1 = some (.row 25 true s.1)) ?_ ?_
 ·conv=>whnf
  refine ⟨_,all_cells aX hlenx,?_⟩
  conv=>whnf
  refine CallP.mono (form_spec _ m _ (Bx.mv (hbx.ext gH)) hm hl hbl) ?_
  rintro w H2 ⟨hw,g2⟩
  have hk:=hw.known
  obtain ⟨a2,b2,rfl⟩:=hk
  conv=>whnf
  refine ⟨rfl,_,storeAt_all (vs:=[int m.form.i.base,.slice a2 m.form.i.out.length m.form.i.out.length,.slice b2 m.form.i.next.length m.form.i.next.length]) rfl rfl rfl,?_⟩
  conv=>whnf
  exact ⟨(_,H2.next,_),⟨rfl,rfl,rfl,rfl,trivial⟩,⟨rfl,g2.then_lay _,hw.ext (Grows.lay _ _),Hp.at_lay_self _ _⟩,rfl⟩
 rintro ⟨cs,D4,H2⟩ φ2 _ ⟨rfl,g2,hw,a4⟩
 dsimp only at g2 hw a4 ⊢
 have gh2:=gH.trans g2
 have hk:=hw.known
 obtain ⟨a2,b2,ecs⟩:=hk
 have ecs:cs = [int m.form.i.base,.slice a2 m.form.i.out.length m.form.i.out.length,.slice b2 m.form.i.next.length m.form.i.next.length]:=by injection ecs with e; injection e
 subst ecs
 have c1:cellAt H2 D4 1 = some (.slice a2 m.form.i.out.length m.form.i.out.length):=cellAt_row a4 rfl
 have aR2:=g2.at_ _ _ aR
 obtain ⟨i25,t25,ag25,sz25⟩:=ty25
 have efl:m.form.i.out.length = m.form.out.length:=rfl
 by_cases hle:m.form.out.length≤12
 ·conv=>whnf
  refine SeqP.cut (α:=Unit) (fun _=>[(4,ptr D4 0),(3,int 0),(2,ptr (h.next + 1) 0)]) (fun _ H3=>H2 = H3) ?_ ?_
  ·conv=>whnf
   refine SeqP.go ?_
   conv=>whnf
   refine ⟨_,c1,?_⟩
   conv=>whnf
   refine cmpF (by omega) ?_
   conv=>whnf
   exact ⟨(),⟨rfl,rfl,rfl,trivial⟩,rfl,rfl⟩
  rintro _ φ3 _ rfl
  conv=>whnf
  refine SeqP.go ?_
  conv=>whnf
  refine ⟨_,all_cells a4 rfl,?_⟩
  conv=>whnf
  refine ⟨rfl,_,storeAt_full (vs:=[int m.form.i.base,.slice a2 m.form.i.out.length m.form.i.out.length,.slice b2 m.form.i.next.length m.form.i.next.length]) aR2 rfl rfl rfl,?_⟩
  conv=>whnf
  refine leave_cell2 (r:=h.next + 1) (o:=0) (cs:=[int m.form.i.base,.slice a2 m.form.i.out.length m.form.i.out.length,.slice b2 m.form.i.next.length m.form.i.next.length]) (w:=int 0) rfl rfl rfl t25 ag25 ?_ ?_
  ·rw [sz25]
   exact all_cells (Hp.at_set_self _ (Hp.lt_of_at aR2)) rfl
  ·exact ⟨⟨_,0,rfl,fun _=>⟨rfl,(hw.put hltR _).back gH.next⟩,fun q=>by omega⟩,gh2.then_set _ (by omega)⟩
 ·conv=>whnf
  refine SeqP.go ?_
  conv=>whnf
  refine SeqP.go ?_
  conv=>whnf
  refine ⟨_,c1,?_⟩
  conv=>whnf
  refine cmpT (by omega) ?_
  conv=>whnf
  refine SeqP.go ?_
  conv=>whnf
  refine ⟨rfl,_,storeAt_full (vs:=[int 0,nilS,nilS]) aR2 rfl rfl rfl,?_⟩
  conv=>whnf
  refine leave_cell2 (r:=h.next + 1) (o:=0) (cs:=[int 0,nilS,nilS]) (w:=int 8) rfl rfl rfl t25 ag25 ?_ ?_
  ·rw [sz25]
   exact all_cells (Hp.at_set_self _ (Hp.lt_of_at aR2)) rfl
  ·exact ⟨⟨_,8,rfl,fun q=>absurd q hle,fun _=>⟨rfl,rfl⟩⟩,gh2.then_set _ (by omega)⟩
end
end Go.Proofs.Ytedneplaibmppaa
namespace Go.Proofs.Ytedneplaibmppaa
open Go.Rx Go.RowKit
theorem FitR.known {h h':Hp} {r:Value} {m:Mac} (k:FitR h h' r m):∃ a b c e,r = .tuple ⟨[.agg ⟨[a,b,c]⟩,int e]⟩∧oneCell a = true∧oneCell b = true∧oneCell c = true:=by
 obtain ⟨u,e,rfl,h1,h2⟩:=k
 by_cases hl:m.form.out.length≤12
 ·obtain ⟨_,ho⟩:=h1 hl
  obtain ⟨x,y,rfl⟩:=ho.known
  exact ⟨_,_,_,e,rfl,rfl,rfl,rfl⟩
 ·obtain ⟨_,rfl⟩:=h2 (by omega)
  exact ⟨_,_,_,e,rfl,rfl,rfl,rfl⟩
theorem FitR.put {h h':Hp} {r:Value} {m:Mac} (k:FitR h h' r m) {R:Nat} (hR:R < h.next) (o:Rx.Obj):FitR h (h'.set R o) r m:=by
 obtain ⟨u,e,rfl,h1,h2⟩:=k
 exact ⟨u,e,rfl,fun q=>⟨(h1 q).1,(h1 q).2.put hR o⟩,h2⟩
theorem FitR.ext {h h' h2:Hp} {r:Value} {m:Mac} (g:Grows h' h2) (k:FitR h h' r m):FitR h h2 r m:=by
 obtain ⟨u,e,rfl,h1,h3⟩:=k
 exact ⟨u,e,rfl,fun q=>⟨(h1 q).1,(h1 q).2.ext g⟩,h3⟩
theorem one3 {a b c:Value} (h1:oneCell a = true) (h2:oneCell b = true) (h3:oneCell c = true):[a,b,c].all oneCell = true:=by simp [h1,h2,h3]
def BadE (step from_:Int):Prop:=step < 1∨30 < step∨from_ < 0∨100 < from_
attribute [local irreducible] E idxN cellAt cellsAt storeAt callable helems hmoved lookIn findKey keyOk hentries Hp.at Hp.set Hp.lay arBits hupdated setAt CallP YieldP BoolOf IsWrap Rnd LoopP AppP CutP Int.tmod Int.tdiv Int.fdiv
section
variable [Unknowns]
attribute [local irreducible] sameAt finP
theorem Every_spec (v:Value) (m:Mac) (step from_:Int) (h:Hp) (hv:MV h v m.i) (hm:OkS m):CallP E 28 [v,int step,int from_] h (fun r h'=>((BadE step from_→r = .tuple ⟨[noM,int 1]⟩)∧(¬ BadE step from_→FitR h h' r (m.every step.toNat from_.toNat)))∧Grows h h'):=by
 obtain ⟨bx,rfl,hbx⟩:=hv.box
 have hL:=hm.lens
 obtain ⟨i25,t25,ag25,sz25⟩:=ty25
 refine enter28 (by simp) ?_
 conv=>whnf
 refine SeqP.cut (α:=Hp) (fun _=>[(6,ptr (h.next + 1) 0),(3,ptr h.next 0),(1,int step),(2,int from_)]) (fun x H=>x = H∧Grows h H∧H.at h.next = some (.row 25 true bx)∧H.at (h.next + 1) = some (.row 25 true [int 0,nilS,nilS])) ?_ ?_
 ·conv=>whnf
  have n1:(h.lay (.row 25 true bx)).next = h.next + 1:=Hp.next_lay _ _
  exact ⟨_,⟨congrArg (fun k=>ptr k 0) n1,rfl,rfl,rfl,trivial⟩,⟨rfl,(Grows.lay _ _).then_lay _,Hp.at_lay_old _ (Hp.at_lay_self _ _),at_nx2 n1 (Hp.at_lay_self _ _)⟩,rfl⟩
 rintro H φ1 _ ⟨rfl,gH,aX,aR⟩
 conv=>whnf
 refine SeqP.cut (α:=Hp) (fun _=>[(6,ptr (h.next + 1) 0),(3,ptr h.next 0),(1,int step),(2,int from_)]) (fun x H2=>x = H2∧Grows H H2) ?_ ?_
 ·conv=>whnf
  refine SeqP.go ?_
  conv=>whnf
  refine ⟨_,all_cells aX hbx.len,?_⟩
  conv=>whnf
  refine CallP.mono (Check_spec _ m.i _ (Bx.mv (hbx.ext gH)) hL.1 hL.2.1 hL.2.2) ?_
  rintro r H2 ⟨⟨e,rfl,he,-⟩,g2⟩
  have he:=he hm.ck
  subst he
  conv=>whnf
  repeat (refine SeqP.go ?_; conv=>whnf)
  refine cmpF (by omega) ?_
  conv=>whnf
  exact ⟨_,⟨rfl,rfl,rfl,rfl,trivial⟩,⟨rfl,g2⟩,rfl⟩
 rintro H2 φ2 _ ⟨rfl,g2⟩
 have aX2:=g2.at_ _ _ aX
 have aR2:=g2.at_ _ _ aR
 have gh2:=gH.trans g2
 have hltR:=Hp.lt_of_at aR2
 have bad:BadE step from_→∀ H,Grows h H→(((BadE step from_→Value.tuple ⟨[noM,int 1]⟩ = .tuple ⟨[noM,int 1]⟩)∧(¬ BadE step from_→FitR h H (.tuple ⟨[noM,int 1]⟩) (m.every step.toNat from_.toNat)))∧Grows h H):=fun k H g=>⟨⟨fun _=>rfl,fun q=>absurd k q⟩,g⟩
 have hRg:=Hp.at_set_self (.row 25 true [int 0,nilS,nilS]) hltR
 have gRg:Grows h (H2.set (h.next + 1) (.row 25 true [int 0,nilS,nilS])):=gh2.then_set _ (by omega)
 conv=>whnf
 refine SeqP.cut (α:=Unit) (fun _=>[(6,ptr (h.next + 1) 0),(3,ptr h.next 0),(1,int step),(2,int from_)]) (fun _ H3=>H2 = H3∧¬ BadE step from_) ?_ ?_
 ·have fin:BadE step from_→finP E [.cell 6 25,.tmp 7] ⟨upds φ2 [(6,ptr (h.next + 1) 0),(3,ptr h.next 0),(1,int step),(2,int from_)],H2,[]⟩ (fun _ _=>True)→True:=fun _ _=>trivial
  clear fin
  conv=>whnf
  refine SeqP.go ?_
  conv=>whnf
  refine cmpB (fun q1=>?_) (fun q1=>?_)
  ·conv=>whnf
   refine SeqP.go ?_
   conv=>whnf
   refine ⟨rfl,_,storeAt_full (vs:=[int 0,nilS,nilS]) aR2 rfl rfl rfl,?_⟩
   conv=>whnf
   exact leave_cell2 (r:=h.next + 1) (o:=0) (cs:=[int 0,nilS,nilS]) (w:=int 1) rfl rfl rfl t25 ag25 (by rw [sz25]; exact all_cells hRg rfl) (bad (.inl q1) _ gRg)
  conv=>whnf
  refine cmpB (fun q2=>?_) (fun q2=>?_)
  ·conv=>whnf
   refine SeqP.go ?_
   conv=>whnf
   refine ⟨rfl,_,storeAt_full (vs:=[int 0,nilS,nilS]) aR2 rfl rfl rfl,?_⟩
   conv=>whnf
   exact leave_cell2 (r:=h.next + 1) (o:=0) (cs:=[int 0,nilS,nilS]) (w:=int 1) rfl rfl rfl t25 ag25 (by rw [sz25]; exact all_cells hRg rfl) (bad (.inr (.inl q2)) _ gRg)
  conv=>whnf
  refine cmpB (fun q3=>?_) (fun q3=>?_)
  ·conv=>whnf
   refine SeqP.go ?_
   conv=>whnf
   refine ⟨rfl,_,storeAt_full (vs:=[int 0,nilS,nilS]) aR2 rfl rfl rfl,?_⟩
   conv=>whnf
   exact leave_cell2 (r:=h.next + 1) (o:=0) (cs:=[int 0,nilS,nilS]) (w:=int 1) rfl rfl rfl t25 ag25 (by rw [sz25]; exact all_cells hRg rfl) (bad (.inr (.inr (.inl q3))) _ gRg)
  conv=>whnf
  refine cmpB (fun q4=>?_) (fun q4=>?_)
  ·conv=>whnf
   refine SeqP.go ?_
   conv=>whnf
   refine ⟨rfl,_,storeAt_full (vs:=[int 0,nilS,nilS]) aR2 rfl rfl rfl,?_⟩
   conv=>whnf
   exact leave_cell2 (r:=h.next + 1) (o:=0) (cs:=[int 0,nilS,nilS]) (w:=int 1) rfl rfl rfl t25 ag25 (by rw [sz25]; exact all_cells hRg rfl) (bad (.inr (.inr (.inr q4))) _ gRg)
  conv=>whnf
  exact ⟨(),⟨rfl,rfl,rfl,rfl,trivial⟩,⟨rfl,fun k=>by unfold BadE at k; omega⟩,rfl⟩
 rintro _ φ3 _ ⟨rfl,hnb⟩
 have hnb':=hnb
 unfold BadE at hnb'
 have hexs:∃ s:Nat,step = s:=⟨step.toNat,by omega⟩
 obtain ⟨s,rfl⟩:=hexs
 have hexf:∃ f:Nat,from_ = f:=⟨from_.toNat,by omega⟩
 obtain ⟨f,rfl⟩:=hexf
 have heo:=Mac.every_ok hm.ok s f
 have hn12:=hm.n12
 have hle:=le_nat heo.2 hn12 (by omega)
 rw [Int.toNat_natCast,Int.toNat_natCast]
 have hb5:=hm.b5
 conv=>whnf
 refine SeqP.go ?_
 conv=>whnf
 refine ⟨_,all_cells aX2 hbx.len,?_⟩
 conv=>whnf
 refine CallP.mono (every_spec _ m s f _ (Bx.mv (hbx.ext gh2)) hm (by omega) (by omega)) ?_
 rintro w H3 ⟨hw,g3⟩
 conv=>whnf
 refine CallP.mono (fitted_spec _ (m.every s f) _ hw.mv heo.1 hle (by show m.base≤1000; omega)) ?_
 rintro r H4 ⟨hr,g4⟩
 have hrk:=hr.known
 obtain ⟨a4,b4,c4,e4,rfl,o1,o2,o3⟩:=hrk
 have aR4:=g4.at_ _ _ (g3.at_ _ _ aR2)
 conv=>whnf
 refine ⟨rfl,_,storeAt_full (vs:=[a4,b4,c4]) aR4 rfl (one3 o1 o2 o3) rfl,?_⟩
 conv=>whnf
 refine leave_cell2 (r:=h.next + 1) (o:=0) (cs:=[a4,b4,c4]) (w:=int e4) rfl rfl rfl t25 ag25 ?_ ?_
 ·rw [sz25]
  exact all_cells (Hp.at_set_self _ (Hp.lt_of_at aR4)) rfl
 ·exact ⟨⟨fun k=>absurd k hnb,fun _=>(hr.put (by have:=g3.next; omega) _).back (by have:=g3.next; have:=gh2.next; omega)⟩,((gh2.trans g3).trans g4).then_set _ (by omega)⟩
end
end Go.Proofs.Ytedneplaibmppaa
namespace Go.Proofs.Ytedneplaibmppaa
open Go.Rx
structure En where
 p:Int×Int
 bf:Int
 dg:Int
def nextP (a b:Mac) (p:Int×Int) (d:Nat):Int×Int:=((a.nx p.1.toNat d:Nat),(b.nx p.2.toNat d:Nat))
def sameP (a b:Mac) (p:Int×Int):Prop:=a.o p.1.toNat = b.o p.2.toNat
structure Df (a b:Mac) (T:List En) (S:List Nat) (i d:Nat):Prop where
 len:S.length = T.length
 first:∃ e,T[0]? = some e∧e.p = (0,0)∧e.bf = -1
 s0:S[0]? = some 0
 nodup:(T.map (·.p)).Nodup
 mem:∀ e ∈ T,e.p ∈ sq a.out.length b.out.length
 par:∀ (c:Nat) e,0 < c→T[c]? = some e→∃ (k g:Nat) (e':En) (s:Nat),e.bf = k∧e.dg = g∧k < c∧g < a.base∧T[k]? = some e'∧e.p = nextP a b e'.p g∧S[k]? = some s∧S[c]? = some (s + 1)
 mono:∀ (c c':Nat) s s',c≤c'→S[c]? = some s→S[c']? = some s'→s≤s'
 near:∀ (c c':Nat) s s',i≤c→S[c]? = some s→S[c']? = some s'→s'≤s + 1
 clo:∀ (c e:Nat) x s,(c < i∨c = i∧e < d)→e < a.base→T[c]? = some x→S[c]? = some s→∃ (c':Nat) (y:En) (s':Nat),T[c']? = some y∧y.p = nextP a b x.p e∧S[c']? = some s'∧s'≤s + 1
 same:∀ (c:Nat) e,c < i→T[c]? = some e→sameP a b e.p
theorem nextP_sq {a b:Mac} (ha:a.Ok) (hb:b.Ok) (hbb:a.base = b.base) {p:Int×Int} (hp:p ∈ sq a.out.length b.out.length) {d:Nat} (hd:d < a.base):nextP a b p d ∈ sq a.out.length b.out.length:=by
 have h:=sq_mem.1 hp
 refine sq_mem.2 ?_
 have h1:=ha.lt p.1.toNat d (by omega) hd
 have h2:=hb.lt p.2.toNat d (by omega) (by omega)
 unfold nextP
 dsimp only
 omega
theorem Df.start {a b:Mac} (ha:a.Ok) (hb:b.Ok):Df a b [⟨(0,0),-1,0⟩] [0] 0 0 where
 len:=rfl
 first:=⟨_,rfl,rfl,rfl⟩
 s0:=rfl
 nodup:=by simp
 mem:=fun e he=>by
  rw [List.mem_singleton.1 he]
  have:=ha.n1
  have:=hb.n1
  exact sq_mem.2 (by dsimp only; omega)
 par:=fun c e hc he=>by
  have:=(List.getElem?_eq_some_iff.1 he).1
  simp at this; omega
 mono:=fun c c' s s' _ h1 h2=>by
  have:=(List.getElem?_eq_some_iff.1 h1).1
  have:=(List.getElem?_eq_some_iff.1 h2).1
  simp at *
  subst_vars
  simp at h1 h2
  omega
 near:=fun c c' s s' _ h1 h2=>by
  have:=(List.getElem?_eq_some_iff.1 h2).1
  simp at this
  subst this
  simp at h2
  omega
 clo:=fun c e x s h=>by omega
 same:=fun c e h=>absurd h (Nat.not_lt_zero _)
theorem get_snoc {α:Type} {l:List α} {x y:α} {c:Nat} (h:(l ++ [x])[c]? = some y):l[c]? = some y∨(c = l.length∧y = x):=by
 by_cases hc:c < l.length
 ·rw [List.getElem?_append_left hc] at h; exact .inl h
 ·have h1:=(List.getElem?_eq_some_iff.1 h).1
  rw [List.length_append,List.length_singleton] at h1
  have:c = l.length:=by omega
  subst this
  rw [List.getElem?_append_right (Nat.le_refl _)] at h
  simp at h
  exact .inr ⟨rfl,h.symm⟩
theorem old_snoc {α:Type} {l:List α} {x y:α} {c:Nat} (h:l[c]? = some y):(l ++ [x])[c]? = some y:=by
 rw [List.getElem?_append_left (List.getElem?_eq_some_iff.1 h).1]; exact h
theorem last_snoc {α:Type} (l:List α) (x:α):(l ++ [x])[l.length]? = some x:=by
 rw [List.getElem?_append_right (Nat.le_refl _)]; simp
theorem Df.skip {a b:Mac} {T:List En} {S:List Nat} {i d:Nat} (k:Df a b T S i d) {x:En} {s:Nat} (hx:T[i]? = some x) (hs:S[i]? = some s) (h:nextP a b x.p d ∈ T.map (·.p)):Df a b T S i (d + 1):=by
 refine { k with clo:=fun c e y t hc he hy ht=>?_ }
 by_cases hq:c = i∧e = d
 ·obtain ⟨rfl,rfl⟩:=hq
  rw [hx] at hy
  cases hy
  rw [hs] at ht
  cases ht
  obtain ⟨z,hz,ez⟩:=List.mem_map.1 h
  obtain ⟨c',hc'⟩:=List.getElem?_of_mem hz
  have hl:=(List.getElem?_eq_some_iff.1 hc').1
  have hsl:c' < S.length:=by have:=k.len; omega
  have hs':S[c']? = some S[c']:=List.getElem?_eq_getElem hsl
  exact ⟨c',z,_,hc',ez,hs',k.near c c' _ _ (Nat.le_refl _) hs hs'⟩
 ·exact k.clo c e y t (by omega) he hy ht
theorem Df.add {a b:Mac} (ha:a.Ok) (hb:b.Ok) (hbb:a.base = b.base) {T:List En} {S:List Nat} {i d:Nat} (k:Df a b T S i d) {x:En} {s:Nat} (hx:T[i]? = some x) (hs:S[i]? = some s) (hd:d < a.base) (h:nextP a b x.p d ∉ T.map (·.p)):Df a b (T ++ [⟨nextP a b x.p d,(i:Int),(d:Int)⟩]) (S ++ [s + 1]) i (d + 1):=by
 have hl:=k.len
 have hil:=(List.getElem?_eq_some_iff.1 hx).1
 refine ⟨by rw [List.length_append,List.length_append,hl]; rfl,?_,old_snoc k.s0,?_,?_,?_,?_,?_,?_,?_⟩
 ·obtain ⟨e,h1,h2⟩:=k.first
  exact ⟨e,old_snoc h1,h2⟩
 ·rw [List.map_append,List.nodup_append]
  exact ⟨k.nodup,by simp,fun y hy z hz=>by
   simp at hz
   rw [hz]
   exact fun e=>h (e ▸ hy)⟩
 ·intro e he
  rcases List.mem_append.1 he with he | he
  ·exact k.mem e he
  ·rw [List.mem_singleton.1 he]
   exact nextP_sq ha hb hbb (k.mem x (List.mem_of_getElem? hx)) hd
 ·intro c e hc he
  rcases get_snoc he with he | ⟨rfl,rfl⟩
  ·obtain ⟨k',g,e',s',h1,h2,h3,h4,h5,h6,h7,h8⟩:=k.par c e hc he
   exact ⟨k',g,e',s',h1,h2,h3,h4,old_snoc h5,h6,old_snoc h7,old_snoc h8⟩
  ·exact ⟨i,d,x,s,rfl,rfl,hil,hd,old_snoc hx,rfl,old_snoc hs,by rw [← hl]; exact last_snoc _ _⟩
 ·intro c c' t t' hcc h1 h2
  rcases get_snoc h2 with h2 | ⟨rfl,rfl⟩
  ·rcases get_snoc h1 with h1 | ⟨rfl,rfl⟩
   ·exact k.mono c c' t t' hcc h1 h2
   ·have:=(List.getElem?_eq_some_iff.1 h2).1
    omega
  ·rcases get_snoc h1 with h1 | ⟨rfl,rfl⟩
   ·exact k.near i c s t (Nat.le_refl _) hs h1
   ·exact Nat.le_refl _
 ·intro c c' t t' hic h1 h2
  have hst:s≤t:=by
   rcases get_snoc h1 with h1 | ⟨rfl,rfl⟩
   ·exact k.mono i c s t hic hs h1
   ·omega
  rcases get_snoc h2 with h2 | ⟨rfl,rfl⟩
  ·have:=k.near i c' s t' (Nat.le_refl _) hs h2
   omega
  ·omega
 ·intro c e y t hc he hy ht
  have hcl:c < T.length:=by omega
  have hy2:T[c]? = some y:=by
   rcases get_snoc hy with hy | ⟨e1,_⟩
   ·exact hy
   ·omega
  have ht2:S[c]? = some t:=by
   rcases get_snoc ht with ht | ⟨e1,_⟩
   ·exact ht
   ·omega
  by_cases hq:c = i∧e = d
  ·obtain ⟨rfl,rfl⟩:=hq
   rw [hx] at hy2
   cases hy2
   rw [hs] at ht2
   cases ht2
   exact ⟨T.length,_,s + 1,last_snoc _ _,rfl,by rw [← hl]; exact last_snoc _ _,Nat.le_refl _⟩
  ·obtain ⟨c',y',s',h1,h2,h3,h4⟩:=k.clo c e y t (by omega) he hy2 ht2
   exact ⟨c',y',s',old_snoc h1,h2,old_snoc h3,h4⟩
 ·intro c e hc he
  rcases get_snoc he with he | ⟨rfl,rfl⟩
  ·exact k.same c e hc he
  ·omega
theorem Df.turn {a b:Mac} {T:List En} {S:List Nat} {i:Nat} (k:Df a b T S i a.base) {x:En} (hx:T[i]? = some x) (h:sameP a b x.p):Df a b T S (i + 1) 0 :=
 { k with
  near:=fun c c' s s' hc=>k.near c c' s s' (by omega)
  clo:=fun c e y t hc he=>k.clo c e y t (by omega) he
  same:=fun c e hc he=>by
   by_cases hq:c = i
   ·subst hq
    rw [hx] at he
    cases he
    exact h
   ·exact k.same c e (by omega) he }
theorem runP (a b:Mac):∀ (w:List Nat) (s t:Nat),runS (nextP a b) ((s:Int),(t:Int)) w = (((a.run s w:Nat):Int),((b.run t w:Nat):Int))
 | [],s,t=>rfl
 | d :: w,s,t=>runP a b w (a.nx s d) (b.nx t d)
theorem Df.alike {a b:Mac} {T:List En} {S:List Nat} {i:Nat} (k:Df a b T S i 0) (hi:T.length≤i):Mac.Alike a b 0 0:=by
 have key:∀ (w:List Nat) (c:Nat) (x:En),Mac.Wd a.base w→T[c]? = some x→sameP a b (runS (nextP a b) x.p w):=by
  intro w
  induction w with
  | nil=>intro c x _ hx; exact k.same c x (by have:=(List.getElem?_eq_some_iff.1 hx).1; omega) hx
  | cons d w ih =>
   intro c x hw hx
   have hl:=(List.getElem?_eq_some_iff.1 hx).1
   have hsl:c < S.length:=by have:=k.len; omega
   obtain ⟨c',y,s',h1,h2,_⟩:=k.clo c d x S[c] (.inl (by omega)) (hw d (by simp)) hx (List.getElem?_eq_getElem hsl)
   have:=ih c' y (fun z hz=>hw z (by simp [hz])) h1
   rw [h2] at this
   exact this
 intro w hw
 obtain ⟨e,h1,h2,_⟩:=k.first
 have h:=key w 0 e hw h1
 rw [h2] at h
 have e2:=runP a b w 0 0
 have e3:((0:Int),(0:Int)) = (((0:Nat):Int),((0:Nat):Int)):=rfl
 rw [e3,e2] at h
 unfold sameP at h
 rw [Int.toNat_natCast,Int.toNat_natCast] at h
 exact h
theorem Df.least {a b:Mac} {T:List En} {S:List Nat} {i:Nat} (k:Df a b T S i 0) {s:Nat} (hs:S[i]? = some s) {w:List Nat} (hw:Mac.Wd a.base w) (h:a.o (a.run 0 w)≠b.o (b.run 0 w)):s≤w.length:=by
 have key:∀ (w v:List Nat) (c:Nat) (x:En) (t:Nat),Mac.Wd a.base v→T[c]? = some x→S[c]? = some t→t≤w.length→¬ sameP a b (runS (nextP a b) x.p v)→s≤w.length + v.length:=by
  intro w v
  induction v generalizing w with
  | nil =>
   intro c x t _ hx ht htw hn
   by_cases hc:c < i
   ·exact absurd (k.same c x hc hx) hn
   ·have:=k.mono i c s t (by omega) hs ht
    simp; omega
  | cons d v ih =>
   intro c x t hv hx ht htw hn
   by_cases hc:c < i
   ·obtain ⟨c',y,s',h1,h2,h3,h4⟩:=k.clo c d x t (.inl hc) (hv d (by simp)) hx ht
    have:=ih (w ++ [d]) c' y s' (fun z hz=>hv z (by simp [hz])) h1 h3 (by rw [List.length_append,List.length_singleton]; omega) (by rw [h2]; exact hn)
    rw [List.length_append,List.length_singleton] at this
    rw [List.length_cons]
    omega
   ·have:=k.mono i c s t (by omega) hs ht
    omega
 obtain ⟨e,h1,h2,_⟩:=k.first
 have:=key [] w 0 e 0 hw h1 k.s0 (Nat.le_refl _) (by
  rw [h2]
  have e3:((0:Int),(0:Int)) = (((0:Nat):Int),((0:Nat):Int)):=rfl
  rw [e3,runP]
  unfold sameP
  rw [Int.toNat_natCast,Int.toNat_natCast]
  exact h)
 simpa using this
def both (a b:Mac):Mac:=⟨a.base,a.out ++ b.out,a.next ++ b.next.map fun r=>r.map fun t=>t + a.out.length⟩
theorem both_o1 {a b:Mac} {s:Nat} (h:s < a.out.length):(both a b).o s = a.o s:=by
 unfold both Mac.o
 dsimp only
 rw [List.getD_eq_getElem?_getD,List.getD_eq_getElem?_getD,List.getElem?_append_left h]
theorem both_o2 {a b:Mac} (t:Nat):(both a b).o (t + a.out.length) = b.o t:=by
 unfold both Mac.o
 dsimp only
 rw [List.getD_eq_getElem?_getD,List.getD_eq_getElem?_getD,List.getElem?_append_right (by omega),Nat.add_sub_cancel]
theorem both_n1 {a b:Mac} (ha:a.Ok) {s d:Nat} (h:s < a.out.length):(both a b).nx s d = a.nx s d:=by
 unfold both Mac.nx
 dsimp only
 rw [List.getD_eq_getElem?_getD (l:=a.next ++ _),List.getElem?_append_left (by rw [ha.len]; exact h),← List.getD_eq_getElem?_getD]
theorem both_row2 {a b:Mac} (ha:a.Ok) (t:Nat):(both a b).next.getD (t + a.out.length) [] = (b.next.getD t []).map fun t=>t + a.out.length:=by
 unfold both
 dsimp only
 rw [List.getD_eq_getElem?_getD,List.getElem?_append_right (by rw [ha.len]; omega),ha.len,Nat.add_sub_cancel,List.getElem?_map,List.getD_eq_getElem?_getD]
 cases b.next[t]? <;> rfl
theorem both_n2 {a b:Mac} (ha:a.Ok) (hb:b.Ok) {t d:Nat} (h:t < b.out.length) (hd:d < b.base):(both a b).nx (t + a.out.length) d = b.nx t d + a.out.length:=by
 unfold Mac.nx
 rw [both_row2 ha]
 have hl:=hb.row t h
 generalize b.next.getD t [] = l at hl
 rw [List.getD_eq_getElem?_getD,List.getD_eq_getElem?_getD,List.getElem?_map,List.getElem?_eq_getElem (by omega)]
 rfl
theorem both_ok {a b:Mac} (ha:a.Ok) (hb:b.Ok) (hbb:a.base = b.base):(both a b).Ok:=by
 have hlen:(both a b).out.length = a.out.length + b.out.length:=List.length_append
 refine ⟨ha.b1,by rw [hlen]; have:=ha.n1; omega,?_,fun s hs=>?_,fun s d hs hd=>?_⟩
 ·rw [hlen]
  show (a.next ++ _).length = _
  rw [List.length_append,List.length_map,ha.len,hb.len]
 ·rw [hlen] at hs
  by_cases h:s < a.out.length
  ·have:(both a b).next.getD s [] = a.next.getD s []:=by
    unfold both
    dsimp only
    rw [List.getD_eq_getElem?_getD,List.getElem?_append_left (by rw [ha.len]; exact h),← List.getD_eq_getElem?_getD]
   rw [this]
   exact ha.row s h
  ·obtain ⟨t,rfl⟩:∃ t,s = t + a.out.length:=⟨s - a.out.length,by omega⟩
   rw [both_row2 ha,List.length_map,hb.row t (by omega)]
   exact hbb.symm
 ·rw [hlen] at hs ⊢
  have hd:d < a.base:=hd
  by_cases h:s < a.out.length
  ·rw [both_n1 ha h]
   have:=ha.lt s d h hd
   omega
  ·obtain ⟨t,rfl⟩:∃ t,s = t + a.out.length:=⟨s - a.out.length,by omega⟩
   rw [both_n2 ha hb (by omega) (by omega)]
   have:=hb.lt t d (by omega) (by omega)
   omega
theorem both_run1 {a b:Mac} (ha:a.Ok):∀ {w:List Nat} {s:Nat},s < a.out.length→Mac.Wd a.base w→(both a b).run s w = a.run s w
 | [],s,_,_=>rfl
 | d :: w,s,hs,hw=>by
  show (both a b).run ((both a b).nx s d) w = a.run (a.nx s d) w
  rw [both_n1 ha hs]
  exact both_run1 ha (ha.lt s d hs (hw d (by simp))) fun x hx=>hw x (by simp [hx])
theorem both_run2 {a b:Mac} (ha:a.Ok) (hb:b.Ok):∀ {w:List Nat} {t:Nat},t < b.out.length→Mac.Wd b.base w→(both a b).run (t + a.out.length) w = b.run t w + a.out.length
 | [],t,_,_=>rfl
 | d :: w,t,ht,hw=>by
  show (both a b).run ((both a b).nx _ d) w = b.run (b.nx t d) w + _
  rw [both_n2 ha hb ht (hw d (by simp))]
  exact both_run2 ha hb (hb.lt t d ht (hw d (by simp))) fun x hx=>hw x (by simp [hx])
theorem moore2 {a b:Mac} (ha:a.Ok) (hb:b.Ok) (hbb:a.base = b.base) (h:¬ Mac.Alike a b 0 0):∃ w,Mac.Wd a.base w∧w.length≤a.out.length + b.out.length∧a.o (a.run 0 w)≠b.o (b.run 0 w):=by
 have ho:=both_ok ha hb hbb
 have hlen:(both a b).out.length = a.out.length + b.out.length:=List.length_append
 have ha1:=ha.n1
 have hb1:=hb.n1
 have e:∀ w,Mac.Wd a.base w→((both a b).o ((both a b).run 0 w) = a.o (a.run 0 w)∧(both a b).o ((both a b).run (0 + a.out.length) w) = b.o (b.run 0 w)):=fun w hw=>by
  have h1:=ha.run (w:=w) ha1 hw
  rw [both_run1 ha ha1 hw,both_run2 ha hb hb1 (hbb ▸ hw),both_o1 h1,both_o2]
  exact ⟨rfl,rfl⟩
 obtain ⟨w,h1,h2,h3⟩:=Mac.moore ho (s:=0) (t:=0 + a.out.length) (by omega) (by omega) (fun k=>h fun w hw=>by
  have:=k w hw
  rw [(e w hw).1,(e w hw).2] at this
  exact this)
 exact ⟨w,h1,by omega,by rw [(e w h1).1,(e w h1).2] at h3; exact h3⟩
end Go.Proofs.Ytedneplaibmppaa
