/- Contracts of the functions that PSQF comes to. -/
import Derived.Test.YtedneplaibmppaaPSQE
set_option maxRecDepth 100000
set_option maxHeartbeats 2000000
set_option linter.unusedVariables false
set_option linter.unusedSectionVars false
set_option linter.unusedSimpArgs false
namespace Go.Proofs.Ytedneplaibmppaa
open Go.Rx Go.RowKit
theorem sep3 {H:Hp} {Z M r:Nat} (hZ:Z < H.next) (hM:M < H.next) (hr:r < H.next) (h1:Z≠M) (h2:Z≠r) (h3:M≠r) (n c:Nat):Rx.Sep H [pl Z,nilS,nilS,pl M,slc r 0 n c] []:=by
 refine ⟨fun v hv x e=>?_,fun u hu=>by simp at hu,fun i j v u hij hi hj=>?_,fun v hv u hu=>by simp at hu⟩
 ·simp at hv
  rcases hv with rfl | rfl | rfl | rfl
  ·cases e; exact hZ
  ·cases e
  ·cases e; exact hM
  ·cases e; exact hr
 ·match i,j,hi,hj with
  | 0,0,_,_=>exact absurd rfl hij
  | 3,3,_,_=>exact absurd rfl hij
  | 4,4,_,_=>exact absurd rfl hij
  | 0,3,hi,hj=>cases hi; cases hj; intro x e1 e2; cases e1; cases e2; exact h1 rfl
  | 3,0,hi,hj=>cases hi; cases hj; intro x e1 e2; cases e1; cases e2; exact h1 rfl
  | 0,4,hi,hj=>cases hi; cases hj; intro x e1 e2; cases e1; cases e2; exact h2 rfl
  | 4,0,hi,hj=>cases hi; cases hj; intro x e1 e2; cases e1; cases e2; exact h2 rfl
  | 3,4,hi,hj=>cases hi; cases hj; intro x e1 e2; cases e1; cases e2; exact h3 rfl
  | 4,3,hi,hj=>cases hi; cases hj; intro x e1 e2; cases e1; cases e2; exact h3 rfl
  | 1,_,hi,hj=>cases hi; exact Ap.nil _
  | 2,_,hi,hj=>cases hi; exact Ap.nil _
  | 0,1,hi,hj=>cases hj; exact (Ap.nil _).symm
  | 0,2,hi,hj=>cases hj; exact (Ap.nil _).symm
  | 3,1,hi,hj=>cases hj; exact (Ap.nil _).symm
  | 3,2,hi,hj=>cases hj; exact (Ap.nil _).symm
  | 4,1,hi,hj=>cases hj; exact (Ap.nil _).symm
  | 4,2,hi,hj=>cases hj; exact (Ap.nil _).symm
  | 0,j + 5,hi,hj=>simp at hj
  | 3,j + 5,hi,hj=>simp at hj
  | 4,j + 5,hi,hj=>simp at hj
  | i + 5,_,hi,_=>simp at hi
def nI (S:List Nat):List Int:=S.map fun n:Nat=>(n:Int)
theorem nI_len (S:List Nat):(nI S).length = S.length:=by unfold nI; rw [List.length_map]
theorem nI_get {S:List Nat} {i s:Nat} (h:S[i]? = some s):gl (nI S) i = s:=by
 unfold nI gl
 rw [List.getD_eq_getElem?_getD,List.getElem?_map,h]; rfl
theorem nI_app (S:List Nat) (t:Nat):nI (S ++ [t]) = nI S ++ [(t:Int)]:=by unfold nI; rw [List.map_append]; rfl
def prow (m:Mac) (S:List Nat) (s d:Nat):List Int:=(List.range d).map fun e=>((ixOf (clsOf m (rnotes m S s d)) (m.cl (m.nx s e)):Nat):Int)
theorem rnotes_in {m:Mac} {S:List Nat} {s:Nat}:∀ d e,e < d→m.cl (m.nx s e) ∈ clsOf m (rnotes m S s d)
 | d + 1,e,he=>by
  show m.cl (m.nx s e) ∈ clsOf m (rnote m (rnotes m S s d) (m.nx s d))
  rw [rnote_cls]
  by_cases h:e = d
  ·subst h; exact note_mem _ _
  ·exact note_sub (rnotes_in d e (by omega))
theorem prow_succ {m:Mac} {S:List Nat} {s d:Nat}:prow m S s (d + 1) = prow m S s d ++ [((ixOf (clsOf m (rnotes m S s (d + 1))) (m.cl (m.nx s d)):Nat):Int)]:=by
 unfold prow
 rw [List.range_succ,List.map_append]
 congr 1
 refine List.map_congr_left fun e he=>?_
 have he:=List.mem_range.1 he
 have hin:=rnotes_in (m:=m) (S:=S) (s:=s) d e he
 have e1:clsOf m (rnotes m S s (d + 1)) = note (clsOf m (rnotes m S s d)) (m.cl (m.nx s d)):=rnote_cls _ _ _
 rw [e1]
 obtain ⟨r,er⟩:=note_pre (clsOf m (rnotes m S s d)) (m.cl (m.nx s d))
 unfold ixOf
 rw [er,idxOf_app hin]
theorem rrow_stay {m:Mac} (hm:m.Ok) {S S':List Nat} {a:Nat} (k:Rq m S a) {r:List Nat} (e:S' = S ++ r):(S.take a).map (rrow m S') = (S.take a).map (rrow m S):=by
 have hb:=k.bq
 have hcl:clsOf m S' = clsOf m S ++ clsOf m r:=by rw [e]; unfold clsOf; rw [List.map_append]
 have hre:=rowsOf_ext hb.met hb.le hcl
 unfold rowsOf at hre
 have et:(clsOf m S).take a = clsOf m (S.take a):=by unfold clsOf; rw [List.map_take]
 have hle:a≤S.length:=by have:=hb.le; unfold clsOf at this; rw [List.length_map] at this; exact this
 have et':(clsOf m S').take a = clsOf m (S.take a):=by
  rw [hcl,List.take_append_of_le_length hb.le,et]
 rw [et,et'] at hre
 unfold clsOf at hre
 rw [List.map_map,List.map_map] at hre
 refine Eq.trans (List.map_congr_left fun s hs=>?_) (Eq.trans hre (List.map_congr_left fun s hs=>?_))
 ·exact rrow_eq hm S' (k.lt s (List.mem_of_mem_take hs))
 ·exact (rrow_eq hm S (k.lt s (List.mem_of_mem_take hs))).symm
attribute [local irreducible] E idxN cellAt cellsAt storeAt callable helems hmoved lookIn findKey keyOk hentries Hp.at Hp.set Hp.lay arBits hupdated setAt CallP YieldP BoolOf IsWrap Rnd LoopP AppP CutP Int.tmod Int.tdiv Int.fdiv
section
variable [Unknowns]
attribute [local irreducible] ResP sameAt finP
theorem RForm_spec (v:Value) (m:Mac) (h:Hp) (hv:MV h v m.i) (hm:OkB m):CallP E 40 [v] h (fun r h'=>OwnM h h' r m.form.i∧Grows h h'):=by
 obtain ⟨bx,rfl,hbx⟩:=hv.box
 obtain ⟨ao,an,co,cn,hcx⟩:=hbx.cx
 obtain ⟨i3,t3,-,z3⟩:=ty3
 obtain ⟨iM,tM,dM⟩:=ty114
 have hn12:=hm.n
 have hb5:=hm.b
 have hn1:=hm.ok.n1
 have hil:=hm.ok.ilen
 have hcl:=Mac.cls_len hm.ok
 refine enter40 (by simp) ?_
 conv=>whnf
 refine SeqP.cut (α:=Hp) (fun _=>[(1,ptr h.next 0),(2,ptr (h.next + 1) 0)]) (fun x H=>x = H∧Grows h H∧H.at h.next = some (.row 26 true bx)∧H.at (h.next + 1) = some (.row 26 true [int 0,nilS,nilS])∧H.next = h.next + 2) ?_ ?_
 ·conv=>whnf
  have n1:(h.lay (.row 26 true bx)).next = h.next + 1:=Hp.next_lay _ _
  exact ⟨_,⟨rfl,congrArg (fun k=>ptr k 0) n1,trivial⟩,⟨rfl,(Grows.lay _ _).then_lay _,Hp.at_lay_old _ (Hp.at_lay_self _ _),at_nx2 n1 (Hp.at_lay_self _ _),by rw [Hp.next_lay,n1]⟩,rfl⟩
 rintro H φ1 _ ⟨rfl,gH,aX,aR,nH⟩
 have kx:=hcx H h.next 26 gH aX
 have c1:cellAt H h.next 1 = some (.slice ao m.out.length co):=kx.c1
 have hout:∀ x ∈ m.out,0≤x∧x < 65536:=fun x hx=>by have:=hm.outs x hx; omega
 have hsr0:=split_ref (c:=m.out) hm rfl hout fun s t hs ht e=>e
 conv=>whnf
 refine SeqP.cut (α:=Option Addr×Hp) (fun q=>[(3,.slice q.1 m.out.length m.out.length),(1,ptr h.next 0),(2,ptr (h.next + 1) 0)]) (fun q H2=>q.2 = H2∧Grows H q.2∧View q.2 (.slice q.1 m.out.length m.out.length) (m.ref m.out)) ?_ ?_
 ·conv=>whnf
  refine ⟨_,all_cells aX hbx.len,?_⟩
  conv=>whnf
  refine ⟨_,c1,?_⟩
  conv=>whnf
  refine CallP.mono (split_spec _ _ m m.out _ (Bx.mv (hbx.ext gH)) kx.o hm rfl hout) ?_
  rintro r H2 ⟨hr,g2⟩
  rw [hsr0.1] at hr
  have hws:=hr.c.slice
  obtain ⟨a,rfl,-⟩:=hws
  have hv2:=hr.view
  rw [Mac.ref_len] at hv2
  conv=>whnf
  exact ⟨(a,H2),⟨congrArg (fun k=>Value.slice a k k) (Mac.ref_len m m.out),rfl,rfl,trivial⟩,⟨rfl,g2,hv2⟩,rfl⟩
 rintro ⟨a0,H2⟩ φ2 _ ⟨rfl,g2,v2⟩
 dsimp only at g2 v2 ⊢
 have g0:=Mac.Good.start hm.ok
 have hk0:=num_max (ks:=m.keys m.out) (fun e=>by have:=Mac.keys_len m m.out; rw [e] at this; simp at this; omega)
 conv=>whnf
 refine SeqP.cut (α:=Option Addr×Hp) (fun q=>[(3,.slice q.1 m.out.length m.out.length),(1,ptr h.next 0),(2,ptr (h.next + 1) 0)]) (fun q H3=>q.2 = H3∧Grows H q.2∧View q.2 (.slice q.1 m.out.length m.out.length) m.cls) ?_ ?_
 ·conv=>whnf
  repeat (refine SeqP.go ?_; conv=>whnf)
  refine loop_inv (α:=List Int×Nat×Option Addr×Hp) (fun q=>[(3,.slice q.2.2.1 m.out.length m.out.length),(1,ptr h.next 0),(2,ptr (h.next + 1) 0)]) (fun q=>q.2.2.2) (fun q=>Grows H q.2.2.2∧View q.2.2.2 (.slice q.2.2.1 m.out.length m.out.length) q.1∧(∃ f j,Mac.Good m q.1 j q.2.1∧m.clsF f q.1 q.2.1 = m.cls∧m.out.length + 1≤f + q.2.1)∧q.1.foldl max 0 + 1 = (q.2.1:Int)∧(∀ x ∈ q.1,0≤x∧x < 65536)) (fun q=>m.out.length + 1 - q.2.1) (m.ref m.out,m.cnt m.out,a0,H2) ⟨g2,v2,⟨m.out.length,1,g0,rfl,by have:=g0.le; show m.out.length + 1≤m.out.length + m.cnt m.out; omega⟩,hk0,ref_bd m.out hn12⟩ ⟨rfl,rfl,rfl,trivial⟩ (Hp.Le.refl _) ?_
  rintro ⟨c,k,a,G⟩ φ3 ⟨gG,vG,⟨f,j,good,hcls,hf⟩,hmax,hbd⟩
  dsimp only at gG vG good hcls hf hmax hbd ⊢
  have hclen:=good.len
  have hsr:=split_ref (c:=c) hm hclen hbd fun s t hs ht e=>good.out s t hs ht e
  have hmax2:=num_max (ks:=m.keys c) (fun e=>by have:=Mac.keys_len m c; rw [e] at this; simp at this; omega)
  have hkle:k≤m.cnt c:=by have:=Mac.cnt_ge m c; have:=good.cnt; omega
  have hcle:=Mac.cnt_le m c
  conv=>whnf
  repeat (refine SeqP.go ?_; conv=>whnf)
  refine ⟨_,all_cells (gG.at_ _ _ aX) hbx.len,?_⟩
  conv=>whnf
  refine CallP.mono (split_spec _ _ m c _ (Bx.mv (hbx.ext (gH.trans gG))) vG hm hclen hbd) ?_
  rintro r G2 ⟨hr,gG2⟩
  rw [hsr.1] at hr
  have hws:=hr.c.slice
  obtain ⟨a2,rfl,-⟩:=hws
  have v2c:=hr.view
  have hlr:=Mac.ref_len m c
  have hbr:=ref_bd c hn12
  conv=>whnf
  repeat (refine SeqP.go ?_; conv=>whnf)
  refine CallP.mono (count_spec _ (m.ref c) _ v2c (by omega) (fun x hx=>by have:=hbr x hx; omega)) ?_
  rintro _ G3 ⟨rfl,eG⟩
  have eG:=eG.symm
  subst eG
  conv=>whnf
  refine CallP.mono (count_spec _ c _ (vG.ext gG2) (by omega) (fun x hx=>by have:=hbd x hx; omega)) ?_
  rintro _ G4 ⟨rfl,eG⟩
  have eG:=eG.symm
  subst eG
  have hm1:(m.ref c).foldl max 0 + 1 = (m.cnt c:Int):=hmax2
  conv=>whnf
  by_cases hk:m.cnt c = k
  ·refine cmpT (by omega) ?_
   have ecls:c = m.cls:=by
    cases f with
    | zero=>omega
    | succ f =>
     unfold Mac.clsF at hcls
     rw [if_pos hk] at hcls
     exact hcls
   rw [ecls] at vG
   conv=>whnf
   repeat (refine SeqP.go ?_; conv=>whnf)
   exact ⟨(a,G2),⟨rfl,rfl,rfl,trivial⟩,⟨rfl,gG.trans gG2,vG.ext gG2⟩,rfl⟩
  ·refine cmpF (by omega) ?_
   have hnext:∃ f j,Mac.Good m (m.ref c) j (m.cnt c)∧m.clsF f (m.ref c) (m.cnt c) = m.cls∧m.out.length + 1≤f + m.cnt c:=by
    cases f with
    | zero=>omega
    | succ f =>
     unfold Mac.clsF at hcls
     rw [if_neg hk] at hcls
     exact ⟨f,j + 1,good.next hm.ok hk,hcls,by omega⟩
   rw [hlr] at v2c
   conv=>whnf
   repeat (refine SeqP.go ?_; conv=>whnf)
   exact Rnd.mk (m.ref c,m.cnt c,a2,G2) ⟨gG.trans gG2,v2c,hnext,hmax2,hbr⟩ (by show m.out.length + 1 - m.cnt c < m.out.length + 1 - k; omega) ⟨congrArg (fun k=>Value.slice a2 k k) hlr,rfl,rfl,trivial⟩ (Hp.Le.refl _) rfl
 rintro ⟨a,H3⟩ φ3 _ ⟨rfl,g3,v3⟩
 dsimp only at g3 v3 ⊢
 have hc0:=View.cellg v3 (i:=0) (by omega)
 obtain ⟨rc,oc,sc,ea,hsc,-,hc0⟩:=hc0
 subst ea
 have ecl0:gl m.cls 0 = m.cl 0:=rfl
 rw [ecl0] at hc0
 conv=>whnf
 refine SeqP.cut (α:=Nat×Hp) (fun q=>[(5,mapAt q.1),(3,.slice (some ⟨rc,oc,sc⟩) m.out.length m.out.length),(1,ptr h.next 0),(2,ptr (h.next + 1) 0)]) (fun q H4=>q.2 = H4∧Grows H3 H4∧Nums H4 q.1 encI [m.cl 0]∧H3.next≤q.1) ?_ ?_
 ·conv=>whnf
  refine ⟨hsc,⟨by omega,by omega⟩,?_⟩
  conv=>whnf
  refine ⟨_,(Grows.lay _ _).cell hc0,?_⟩
  conv=>whnf
  refine raw_insert tM dM keyI (k:=m.cl 0) (v:=int 0) (n:=0) rfl rfl rfl (MapAt.new _) ?_
  intro H4 hM4 y4
  have gl4:Grows H3 (H3.lay (.map [] 0)):=Grows.lay _ _
  have gk4:Grows H3 H4:=⟨by rw [y4.next]; exact gl4.next,fun r o e=>y4.at_ r o (by have:=Hp.lt_of_at e; omega) (gl4.at_ r o e)⟩
  conv=>whnf
  exact ⟨(H3.next,H4),⟨rfl,rfl,rfl,rfl,trivial⟩,⟨rfl,gk4,hM4.congr fun k=>by
   unfold fN
   by_cases e:k = m.cl 0
   ·rw [if_pos e,if_pos (by rw [e]; simp),e]; simp
   ·rw [if_neg e,if_neg (by simpa using e)],Nat.le_refl _⟩,rfl⟩
 rintro ⟨M,H4⟩ φ4 _ ⟨rfl,g4,hM4,hMge⟩
 dsimp only at g4 hM4 hMge ⊢
 have hltM:M < H4.next:=by
  obtain ⟨_,_,h1,_⟩:=hM4
  exact Hp.lt_of_at h1
 conv=>whnf
 refine SeqP.cut (α:=Hp) (fun q=>[(6,slc H4.next 0 1 1),(5,mapAt M),(3,.slice (some ⟨rc,oc,sc⟩) m.out.length m.out.length),(1,ptr h.next 0),(2,ptr (h.next + 1) 0)]) (fun q H5=>q = H5∧Grows H4 H5∧H5.at H4.next = some (.row 3 true [int 0])∧H5.next = H4.next + 1) ?_ ?_
 ·conv=>whnf
  exact ⟨_,⟨rfl,rfl,rfl,rfl,rfl,trivial⟩,⟨rfl,Grows.lay _ _,Hp.at_lay_self _ _,Hp.next_lay _ _⟩,rfl⟩
 rintro H5 φ5 _ ⟨rfl,g5,a5,n5⟩
 have g15:=(g3.trans g4).trans g5
 have d0:=(hcx H5 h.next 26 (gH.trans g15) (g15.at_ _ _ aX)).c0
 conv=>whnf
 refine SeqP.cut (α:=Hp) (fun q=>[(7,ptr H5.next 0),(6,slc H4.next 0 1 1),(5,mapAt M),(3,.slice (some ⟨rc,oc,sc⟩) m.out.length m.out.length),(1,ptr h.next 0),(2,ptr (h.next + 1) 0)]) (fun q H6=>q = H6∧Grows H5 H6∧H6.at H5.next = some (.row 26 true [int m.base,nilS,nilS])) ?_ ?_
 ·conv=>whnf
  refine ⟨_,d0,?_⟩
  conv=>whnf
  refine ⟨rfl,_,storeAt_all (vs:=[int m.base,nilS,nilS]) rfl rfl rfl,?_⟩
  conv=>whnf
  exact ⟨_,⟨rfl,rfl,rfl,rfl,rfl,rfl,trivial⟩,⟨rfl,Grows.lay _ _,Hp.at_lay_self _ _⟩,rfl⟩
 rintro H6 φ6 _ ⟨rfl,g6,a6⟩
 have hexZ:∃ Z,H5.next = Z:=⟨_,rfl⟩
 obtain ⟨Z,eZ⟩:=hexZ
 have hexr:∃ r6,H4.next = r6:=⟨_,rfl⟩
 obtain ⟨r6,er6⟩:=hexr
 rw [eZ] at a6 ⊢
 rw [er6] at a5 n5 hltM ⊢
 have hltZ:=Hp.lt_of_at a6
 have hn34:=g4.next
 have g36:=(g4.trans g5).trans g6
 have hz6:MZ H3 H6 26 Z nilS nilS [] [] [] [int m.base,nilS,nilS] [pl M,slc r6 0 1 1]:=⟨g36,a6,BuiltC.nil,BuiltC.nil,rfl,fun k u l e=>by simp at e,by omega,sep3 hltZ (by omega) (by omega) (by omega) (by omega) (by omega) 1 1⟩
 have hM6:Nums H6 M encI (clsOf m [0]):=(hM4.ext g5).ext g6
 have hst6:BuiltC H3 H6 3 1 (slc r6 0 1 1) (nI [0]).length ((nI [0]).map int):=⟨rfl,.inr ⟨r6,rfl,by omega,true,g6.at_ _ _ a5⟩⟩
 have rq0:=Rq.start hm.ok
 have gh3:=gH.trans g3
 have aX3:=g3.at_ _ _ aX
 have aR3:=g3.at_ _ _ aR
 have hn3:=g3.next
 have hz6':=hz6.more (.refl _) (v:=nilS) fun r e=>by cases e
 have hmem1:∀ w:Value,∀ u:Value,∀ us:List Value,u ∈ [pl M,u,w] ++ us:=fun w u us=>by simp
 clear a5 a6 g4 g5 g6 g36 g15 d0 hM4
 conv=>whnf
 refine SeqP.cut (α:=Value×Value×List Value×List Int×List (List Int)×Hp) (fun q=>[(7,ptr Z 0),(2,ptr (h.next + 1) 0)]) (fun q H7=>q.2.2.2.2.2 = H7∧∃ rs,MZ H3 q.2.2.2.2.2 26 Z q.1 q.2.1 q.2.2.2.1 q.2.2.1 q.2.2.2.2.1 [int m.base,q.1,q.2.1] rs∧m.form.i = ⟨m.base,q.2.2.2.1,q.2.2.2.2.1⟩) ?_ ?_
 rotate_left
 ·rintro ⟨ov,nv,us,O,N,H7⟩ φ7 _ ⟨rfl,rs,hz7,ef⟩
  dsimp only at hz7 ef ⊢
  have hov:=hz7.out_ok
  obtain ⟨ax,rfl⟩:=hov
  have hnv:=hz7.next_ok
  obtain ⟨ay,rfl⟩:=hnv
  have aR7:=hz7.gr.at_ _ _ aR3
  conv=>whnf
  repeat (refine SeqP.go ?_; conv=>whnf)
  refine ⟨_,all_cells hz7.z rfl,?_⟩
  conv=>whnf
  refine ⟨rfl,_,storeAt_full (vs:=[int m.base,.slice ax O.length O.length,.slice ay N.length N.length]) aR7 rfl rfl rfl,?_⟩
  conv=>whnf
  repeat (refine SeqP.go ?_; conv=>whnf)
  obtain ⟨iR,tR,agR,szR⟩:=ty26
  refine leave_cell (r:=h.next + 1) (o:=0) (cs:=[int m.base,.slice ax O.length O.length,.slice ay N.length N.length]) rfl tR agR ?_ ?_
  ·rw [szR]
   exact all_cells (Hp.at_set_self _ (Hp.lt_of_at aR7)) rfl
  ·rw [ef]
   exact hz7.leave (h:=h) (R:=h.next + 1) (by omega) (by omega) gh3 m.base (.row 26 true [int m.base,.slice ax O.length O.length,.slice ay N.length N.length])
 conv=>whnf
 repeat (refine SeqP.go ?_; conv=>whnf)
 refine loop_inv (α:=List Nat×Nat×Value×Value×Value×List Value×Hp) (fun q=>[(8,int q.2.1),(7,ptr Z 0),(6,q.2.2.1),(5,mapAt M),(3,.slice (some ⟨rc,oc,sc⟩) m.out.length m.out.length),(1,ptr h.next 0),(2,ptr (h.next + 1) 0)]) (fun q=>q.2.2.2.2.2.2) (fun q=>Rq m q.1 q.2.1∧MZ H3 q.2.2.2.2.2.2 26 Z q.2.2.2.1 q.2.2.2.2.1 ((q.1.take q.2.1).map m.o) q.2.2.2.2.2.1 ((q.1.take q.2.1).map (rrow m q.1)) [int m.base,q.2.2.2.1,q.2.2.2.2.1] [pl M,q.2.2.1,nilS]∧Nums q.2.2.2.2.2.2 M encI (clsOf m q.1)∧BuiltC H3 q.2.2.2.2.2.2 3 1 q.2.2.1 (nI q.1).length ((nI q.1).map int)) (fun q=>20000 - q.2.1) ([0],0,slc r6 0 1 1,nilS,nilS,[],H6) ⟨rq0,hz6',hM6,hst6⟩ ⟨rfl,rfl,rfl,rfl,rfl,rfl,rfl,trivial⟩ (Hp.Le.refl _) ?_
 rintro ⟨S,a,u6,ov,nv,us,G⟩ φ7 ⟨rq,hz,hM,hst⟩
 dsimp only at rq hz hM hst ⊢
 have hSl:S.length≤m.out.length:=by
  have:=rq.bq.few
  unfold clsOf at this
  rw [List.length_map,hcl] at this
  exact this
 have hale:a≤S.length:=by have:=rq.bq.le; unfold clsOf at this; rw [List.length_map] at this; exact this
 have hSI:=nI_len S
 have hws:=hst.slice
 obtain ⟨au,eu,hau⟩:=hws
 subst eu
 conv=>whnf
 repeat (refine SeqP.go ?_; conv=>whnf)
 refine cmpB (fun q1=>?_) (fun q1=>?_)
 rotate_left
 ·have hfull:S.length≤a:=by omega
  have ef:=rq.form hm.ok hfull
  rw [List.take_of_length_le hfull] at hz
  conv=>whnf
  repeat (refine SeqP.go ?_; conv=>whnf)
  exact ⟨(ov,nv,us,S.map m.o,S.map (rrow m S),G),⟨rfl,rfl,trivial⟩,⟨rfl,_,hz,ef⟩,rfl⟩
 have haS:a < S.length:=by omega
 have hs:=List.getElem?_eq_getElem haS
 have hexs:∃ s,S[a] = s:=⟨_,rfl⟩
 obtain ⟨s,es⟩:=hexs
 rw [es] at hs
 have hsl:=rq.lt s (List.mem_of_getElem? hs)
 have hvS:View G (.slice au (nI S).length (nI S).length) (nI S):=Built.view (h0:=H3) (e:=3) hst.b
 have hcs:=View.cellg hvS (i:=a) (by omega)
 obtain ⟨r1,o1,sp1,ea,hsp1,-,hc1⟩:=hcs
 subst ea
 rw [nI_get hs] at hc1
 conv=>whnf
 refine SeqP.go ?_
 conv=>whnf
 refine SeqP.cut (α:=Unit) (fun q=>[(9,int s),(8,int a),(7,ptr Z 0),(6,.slice (some ⟨r1,o1,sp1⟩) (nI S).length (nI S).length),(5,mapAt M),(3,.slice (some ⟨rc,oc,sc⟩) m.out.length m.out.length),(1,ptr h.next 0),(2,ptr (h.next + 1) 0)]) (fun q H7=>G = H7) ?_ ?_
 ·conv=>whnf
  refine ⟨hsp1,⟨by omega,by omega⟩,?_⟩
  conv=>whnf
  refine ⟨_,hc1,?_⟩
  conv=>whnf
  exact ⟨(),⟨rfl,rfl,rfl,rfl,rfl,rfl,rfl,rfl,trivial⟩,rfl,rfl⟩
 rintro _ φ8 _ rfl
 have hclen:m.cls.length = m.out.length:=hcl
 have hbM:∀ d,d≤m.base→(rnotes m S s d).length≤m.out.length:=fun d hd=>by
  have h1:=notesN_few (Mac.form_fin hm.ok) rq.bq (s:=m.cl s) (List.mem_of_getElem? (Mac.cl_get hm.ok hsl)) hd
  rw [← rnotes_cls hm.ok S hsl d hd,hcl] at h1
  unfold clsOf at h1
  rw [List.length_map] at h1
  exact h1
 conv=>whnf
 refine SeqP.go ?_
 conv=>whnf
 refine SeqP.cut (α:=Value×Value×Hp) (fun q=>[(10,q.2.1),(9,int s),(8,int a),(7,ptr Z 0),(6,q.1),(5,mapAt M),(3,.slice (some ⟨rc,oc,sc⟩) m.out.length m.out.length),(1,ptr h.next 0),(2,ptr (h.next + 1) 0)]) (fun q H7=>q.2.2 = H7∧MZ H3 q.2.2 26 Z ov nv ((S.take a).map m.o) us ((S.take a).map (rrow m S)) [int m.base,ov,nv] [pl M,q.1,q.2.1]∧Nums q.2.2 M encI (clsOf m (rnotes m S s m.base))∧BuiltC H3 q.2.2 3 1 q.1 (nI (rnotes m S s m.base)).length ((nI (rnotes m S s m.base)).map int)∧BuiltC H3 q.2.2 3 1 q.2.1 (prow m S s m.base).length ((prow m S s m.base).map int)) ?_ ?_
 ·conv=>whnf
  repeat (refine SeqP.go ?_; conv=>whnf)
  refine loop_inv (α:=Nat×Value×Value×Hp) (fun q=>[(11,int q.1),(10,q.2.2.1),(9,int s),(8,int a),(7,ptr Z 0),(6,q.2.1),(5,mapAt M),(3,.slice (some ⟨rc,oc,sc⟩) m.out.length m.out.length),(1,ptr h.next 0),(2,ptr (h.next + 1) 0)]) (fun q=>q.2.2.2) (fun q=>q.1≤m.base∧MZ H3 q.2.2.2 26 Z ov nv ((S.take a).map m.o) us ((S.take a).map (rrow m S)) [int m.base,ov,nv] [pl M,q.2.1,q.2.2.1]∧Nums q.2.2.2 M encI (clsOf m (rnotes m S s q.1))∧BuiltC H3 q.2.2.2 3 1 q.2.1 (nI (rnotes m S s q.1)).length ((nI (rnotes m S s q.1)).map int)∧BuiltC H3 q.2.2.2 3 1 q.2.2.1 (prow m S s q.1).length ((prow m S s q.1).map int)) (fun q=>m.base - q.1) (0,_,nilS,G) ⟨Nat.zero_le _,hz,hM,hst,BuiltC.nil⟩ ⟨rfl,rfl,rfl,rfl,rfl,rfl,rfl,rfl,rfl,rfl,trivial⟩ (Hp.Le.refl _) ?_
  rintro ⟨d,u,w,K⟩ φ9 ⟨hd,hzK,hMK,huK,hwK⟩
  dsimp only at hd hzK hMK huK hwK ⊢
  have kK:=hcx K h.next 26 (gh3.trans hzK.gr) (hzK.gr.at_ _ _ aX3)
  have f0:cellAt K h.next 0 = some (int (m.base:Int)):=kK.c0
  have f2:=kK.c2
  have hexT:∃ T,rnotes m S s d = T:=⟨_,rfl⟩
  obtain ⟨T,eT⟩:=hexT
  rw [eT] at hMK huK
  have hus:=huK.slice
  obtain ⟨au2,eu2,-⟩:=hus
  subst eu2
  have hws2:=hwK.slice
  obtain ⟨aw2,ew2,-⟩:=hws2
  subst ew2
  conv=>whnf
  repeat (refine SeqP.go ?_; conv=>whnf)
  refine ⟨_,f0,?_⟩
  conv=>whnf
  refine cmpB (fun q2=>?_) (fun q2=>?_)
  rotate_left
  ·have:d = m.base:=by omega
   subst this
   conv=>whnf
   repeat (refine SeqP.go ?_; conv=>whnf)
   exact ⟨(_,_,K),⟨rfl,rfl,rfl,rfl,rfl,rfl,rfl,rfl,rfl,trivial⟩,⟨rfl,hzK,by rw [eT]; exact hMK,by rw [eT]; exact huK,hwK⟩,rfl⟩
  have hd':d < m.base:=by omega
  have hnl:=hm.ok.lt s d hsl hd'
  have hnx:=kK.nextAt hm.ok hsl hd'
  obtain ⟨r5,o5,sp5,r7,o7,sp7,c7',ea,hsp5,hc5,hsp7,hc7⟩:=hnx
  subst ea
  have hext:∃ t,m.nx s d = t:=⟨_,rfl⟩
  obtain ⟨t,et⟩:=hext
  rw [et] at hc7 hnl
  have hSd:=hbM d (by omega)
  have hSd1:=hbM (d + 1) (by omega)
  have eS1:rnotes m S s (d + 1) = rnote m (rnotes m S s d) t:=by rw [← et]; rfl
  have ePr:prow m S s (d + 1) = prow m S s d ++ [((ixOf (clsOf m (rnotes m S s (d + 1))) (m.cl t):Nat):Int)]:=by rw [prow_succ,et]
  rw [eT] at hSd eS1
  have hexT1:∃ T1,rnotes m S s (d + 1) = T1:=⟨_,rfl⟩
  obtain ⟨T1,eT1⟩:=hexT1
  have hTin:m.cl t ∈ clsOf m T1:=by rw [← eT1,eS1,rnote_cls]; exact note_mem _ _
  rw [eT1] at hSd1 eS1 ePr
  have hnI:=nI_len T
  have hct:=View.cellg (v3.ext hzK.gr) (i:=t) (by omega)
  obtain ⟨r8,o8,sp8,ea,-,-,hc8⟩:=hct
  injection ea with ea
  injection ea with ea1 ea2 ea3
  subst ea1
  subst ea2
  subst ea3
  have eclt:gl m.cls t = m.cl t:=rfl
  rw [eclt] at hc8
  have hpl:(prow m S s d).length = d:=by unfold prow; rw [List.length_map,List.length_range]
  conv=>whnf
  refine SeqP.go ?_
  conv=>whnf
  refine SeqP.cut (α:=Unit) (fun q=>[(12,int t),(11,int d),(10,.slice aw2 (prow m S s d).length (prow m S s d).length),(9,int s),(8,int a),(7,ptr Z 0),(6,.slice au2 (nI T).length (nI T).length),(5,mapAt M),(3,.slice (some ⟨rc,oc,sc⟩) m.out.length m.out.length),(1,ptr h.next 0),(2,ptr (h.next + 1) 0)]) (fun q H7=>K = H7) ?_ ?_
  ·conv=>whnf
   refine ⟨_,f2,?_⟩
   conv=>whnf
   refine ⟨hsp5,⟨by omega,by omega⟩,?_⟩
   conv=>whnf
   refine ⟨_,hc5,?_⟩
   conv=>whnf
   refine ⟨hsp7,⟨by omega,by omega⟩,?_⟩
   conv=>whnf
   refine ⟨_,hc7,?_⟩
   conv=>whnf
   exact ⟨(),⟨rfl,rfl,rfl,rfl,rfl,rfl,rfl,rfl,rfl,rfl,rfl,trivial⟩,rfl,rfl⟩
  rintro _ φ10 _ rfl
  conv=>whnf
  refine SeqP.cut (α:=Value×Hp) (fun q=>[(12,int t),(11,int d),(10,.slice aw2 (prow m S s d).length (prow m S s d).length),(9,int s),(8,int a),(7,ptr Z 0),(6,q.1),(5,mapAt M),(3,.slice (some ⟨rc,oc,sc⟩) m.out.length m.out.length),(1,ptr h.next 0),(2,ptr (h.next + 1) 0)]) (fun q H7=>q.2 = H7∧MZ H3 q.2 26 Z ov nv ((S.take a).map m.o) us ((S.take a).map (rrow m S)) [int m.base,ov,nv] [pl M,q.1,.slice aw2 (prow m S s d).length (prow m S s d).length]∧Nums q.2 M encI (clsOf m T1)∧BuiltC H3 q.2 3 1 q.1 (nI T1).length ((nI T1).map int)∧BuiltC H3 q.2 3 1 (.slice aw2 (prow m S s d).length (prow m S s d).length) (prow m S s d).length ((prow m S s d).map int)) ?_ ?_
  ·by_cases hin:m.cl t ∈ clsOf m T
   ·have e1:T1 = T:=by rw [eS1]; unfold rnote; rw [if_pos hin]
    rw [e1]
    conv=>whnf
    refine SeqP.go ?_
    conv=>whnf
    refine ⟨hsc,⟨by omega,by omega⟩,?_⟩
    conv=>whnf
    refine ⟨_,hc8,?_⟩
    conv=>whnf
    refine raw_look2_some tM dM t3 z3 keyI (k:=m.cl t) rfl rfl hMK (fN_some hin) ?_
    conv=>whnf
    repeat (refine SeqP.go ?_; conv=>whnf)
    exact ⟨(_,K),⟨rfl,rfl,rfl,rfl,rfl,rfl,rfl,rfl,rfl,rfl,rfl,trivial⟩,⟨rfl,hzK,hMK,huK,hwK⟩,rfl⟩
   ·have e1:T1 = T ++ [t]:=by rw [eS1]; unfold rnote; rw [if_neg hin]
    have e2:clsOf m T1 = clsOf m T ++ [m.cl t]:=by rw [e1]; unfold clsOf; rw [List.map_append]; rfl
    have hcT:(clsOf m T).length = T.length:=by unfold clsOf; rw [List.length_map]
    conv=>whnf
    refine SeqP.go ?_
    conv=>whnf
    refine ⟨hsc,⟨by omega,by omega⟩,?_⟩
    conv=>whnf
    refine ⟨_,hc8,?_⟩
    conv=>whnf
    refine raw_look2_none tM dM t3 z3 keyI (k:=m.cl t) rfl rfl hMK (fN_none hin) ?_
    conv=>whnf
    repeat (refine SeqP.go ?_; conv=>whnf)
    refine ⟨hsc,⟨by omega,by omega⟩,?_⟩
    conv=>whnf
    refine ⟨_,hc8,?_⟩
    conv=>whnf
    refine raw_update tM dM keyI (k:=m.cl t) (v:=int (nI T).length) rfl rfl rfl hMK ?_
    intro K1 hM1 y1
    rw [hnI.trans hcT.symm] at hM1
    have htz:=hzK.touch (i:=0) (v:=pl M) rfl (Kx.keeps y1) (y1.grows hzK.gr hMge) (by rw [y1.next]; exact Nat.le_refl _)
    have hM1':=Nums.add hin hM1
    have hu1:=htz.2.builtC (v:=.slice au2 (nI T).length (nI T).length) (by simp) huK
    have hw1:=htz.2.builtC (v:=.slice aw2 (prow m S s d).length (prow m S s d).length) (by simp) hwK
    conv=>whnf
    repeat (refine SeqP.go ?_; conv=>whnf)
    refine htz.1.r_app (i:=1) rfl hu1 (by omega) ?_
    intro u' K2 hu' hb2 hz2' kv2
    obtain ⟨a9,n9,rfl⟩:=hu'
    have hM2':=kv2.map (M:=M) (by simp) hM1'
    have hw2:=kv2.builtC (v:=.slice aw2 (prow m S s d).length (prow m S s d).length) (by simp) hw1
    conv=>whnf
    exact ⟨(_,K2),⟨rfl,rfl,rfl,rfl,rfl,rfl,rfl,rfl,rfl,rfl,rfl,trivial⟩,⟨rfl,hz2',by rw [e2]; exact hM2',by rw [e1,nI_app]; exact hb2,hw2⟩,rfl⟩
  rintro ⟨u2,K1⟩ φ11 _ ⟨rfl,hz1,hM1,hu1,hw1⟩
  dsimp only at hz1 hM1 hu1 hw1 ⊢
  have hc8':=View.cellg (v3.ext hz1.gr) (i:=t) (by omega)
  obtain ⟨r9,o9,sp9,ea,-,-,hc9⟩:=hc8'
  injection ea with ea
  injection ea with ea1 ea2 ea3
  subst ea1
  subst ea2
  subst ea3
  rw [eclt] at hc9
  have hus3:=hu1.slice
  obtain ⟨au3,eu3,-⟩:=hus3
  subst eu3
  conv=>whnf
  refine ⟨hsc,⟨by omega,by omega⟩,?_⟩
  conv=>whnf
  refine ⟨_,hc9,?_⟩
  conv=>whnf
  refine raw_look1_some tM dM t3 z3 keyI (k:=m.cl t) rfl rfl hM1 (fN_some hTin) ?_
  conv=>whnf
  refine hz1.r_app (i:=2) rfl hw1 (by omega) ?_
  intro w' K2 hw' hb2 hz2' kv2
  obtain ⟨a9,n9,rfl⟩:=hw'
  have hM2':=kv2.map (M:=M) (by simp) hM1
  have hu2:=kv2.builtC (v:=.slice au3 (nI T1).length (nI T1).length) (by simp) hu1
  conv=>whnf
  repeat (refine SeqP.go ?_; conv=>whnf)
  refine ⟨((d + 1:Nat):Int),wie (by omega) (by omega),?_⟩
  conv=>whnf
  exact Rnd.mk (d + 1,_,_,K2) ⟨by show d + 1≤m.base; omega,hz2',by show Nums K2 M encI (clsOf m (rnotes m S s (d + 1))); rw [eT1]; exact hM2',by show BuiltC H3 K2 3 1 _ (nI (rnotes m S s (d + 1))).length ((nI (rnotes m S s (d + 1))).map int); rw [eT1]; exact hu2,by show BuiltC H3 K2 3 1 _ (prow m S s (d + 1)).length ((prow m S s (d + 1)).map int); rw [ePr]; exact hb2⟩ (by show m.base - (d + 1) < m.base - d; omega) ⟨rfl,rfl,rfl,rfl,rfl,rfl,rfl,rfl,rfl,rfl,trivial⟩ (Hp.Le.refl _) rfl
 rintro ⟨u2,w2,K⟩ φ9 _ ⟨rfl,hzK,hMK,huK,hwK⟩
 dsimp only at hzK hMK huK hwK ⊢
 have hpre:=rnotes_pre m S s m.base
 obtain ⟨rr,err⟩:=hpre
 have hrqn:=rq.next hm.ok hs
 have hstay:=rrow_stay hm.ok rq err
 have hexS':∃ S',rnotes m S s m.base = S':=⟨_,rfl⟩
 obtain ⟨S',eS'⟩:=hexS'
 have ePR:prow m S s m.base = rrow m S' s:=by rw [← eS']; rfl
 rw [eS'] at hMK huK err hrqn hstay
 rw [ePR] at hwK
 have hs':S'[a]? = some s:=by rw [err,List.getElem?_append_left haS]; exact hs
 have etk:S'.take a = S.take a:=by rw [err,List.take_append_of_le_length hale]
 have eO:((S.take a).map m.o) ++ [m.o s] = (S'.take (a + 1)).map m.o:=by rw [take_snoc hs',List.map_append,etk]; rfl
 have eN:((S.take a).map (rrow m S)) ++ [rrow m S' s] = (S'.take (a + 1)).map (rrow m S'):=by rw [take_snoc hs',List.map_append,etk,hstay]; rfl
 have htl:(S.take a).length = a:=by rw [List.length_take]; omega
 have hus:=huK.slice
 obtain ⟨au2,eu2,-⟩:=hus
 subst eu2
 have hws2:=hwK.slice
 obtain ⟨aw2,ew2,-⟩:=hws2
 subst ew2
 have hov:=hzK.out_ok
 obtain ⟨ax,eov⟩:=hov
 subst eov
 have hnv:=hzK.next_ok
 obtain ⟨ay,env⟩:=hnv
 subst env
 have z1:=cellAt_row (o:=1) hzK.z rfl
 have z2:=cellAt_row (o:=2) hzK.z rfl
 have kK:=hcx K h.next 26 (gh3.trans hzK.gr) (hzK.gr.at_ _ _ aX3)
 have f1:cellAt K h.next 1 = some (.slice ao m.out.length co):=kK.c1
 have hoM:=kK.outM hsl
 obtain ⟨r5,o5,sp5,ea,hsp5,hc5⟩:=hoM
 subst ea
 conv=>whnf
 repeat (refine SeqP.go ?_; conv=>whnf)
 refine ⟨_,z1,?_⟩
 conv=>whnf
 refine ⟨_,z2,?_⟩
 conv=>whnf
 repeat (refine SeqP.go ?_; conv=>whnf)
 refine ⟨_,f1,?_⟩
 conv=>whnf
 refine ⟨hsp5,⟨by omega,by omega⟩,?_⟩
 conv=>whnf
 refine ⟨_,hc5,?_⟩
 conv=>whnf
 refine hzK.o_app (by rw [List.length_map]; omega) ?_
 intro ov7 K7 hov7 hz7 kv7
 obtain ⟨a7,n7,rfl⟩:=hov7
 have hM7:=kv7.map (M:=M) (by simp) hMK
 have hu7:=kv7.builtC (v:=.slice au2 (nI S').length (nI S').length) (by simp) huK
 have hw7:=kv7.builtC (v:=.slice aw2 (rrow m S' s).length (rrow m S' s).length) (by simp) hwK
 conv=>whnf
 refine ⟨rfl,_,storeAt_row hz7.z (by simp) rfl,?_⟩
 have hz8:=hz7.put [int m.base,.slice a7 n7 n7,.slice ay ((S.take a).map (rrow m S)).length ((S.take a).map (rrow m S)).length]
 have hM8:=hz8.2.map (M:=M) (by simp) hM7
 have hu8:=hz8.2.builtC (v:=.slice au2 (nI S').length (nI S').length) (by simp) hu7
 have hw8:=hz8.2.builtC (v:=.slice aw2 (rrow m S' s).length (rrow m S' s).length) (by simp) hw7
 conv=>whnf
 repeat (refine SeqP.go ?_; conv=>whnf)
 refine hz8.1.n_app (i:=2) (by rw [List.length_map]; omega) rfl hw8.b ?_
 intro nv9 K9 hnv9 hz9 kv9
 obtain ⟨a9,n9,rfl⟩:=hnv9
 have hM9:=kv9.map (M:=M) (by simp) hM8
 have hu9:=kv9.builtC (v:=.slice au2 (nI S').length (nI S').length) (by simp) hu8
 conv=>whnf
 refine ⟨rfl,_,storeAt_row hz9.z (by simp) rfl,?_⟩
 have hz10:=hz9.put [int m.base,.slice a7 n7 n7,.slice a9 n9 n9]
 have hM10:=hz10.2.map (M:=M) (by simp) hM9
 have hu10:=hz10.2.builtC (v:=.slice au2 (nI S').length (nI S').length) (by simp) hu9
 have hz11:=hz10.1
 rw [eO,eN] at hz11
 conv=>whnf
 repeat (refine SeqP.go ?_; conv=>whnf)
 refine ⟨((a + 1:Nat):Int),wie (by omega) (by omega),?_⟩
 conv=>whnf
 exact Rnd.mk (S',a + 1,_,_,_,_,_) ⟨hrqn,hz11,hM10,hu10⟩ (by show 20000 - (a + 1) < 20000 - a; omega) ⟨rfl,rfl,rfl,rfl,rfl,rfl,rfl,trivial⟩ (Hp.Le.refl _) rfl
end
end Go.Proofs.Ytedneplaibmppaa
namespace Go.Proofs.Ytedneplaibmppaa
open Go.Rx Go.RowKit
attribute [local irreducible] E idxN cellAt cellsAt storeAt callable helems hmoved lookIn findKey keyOk hentries Hp.at Hp.set Hp.lay arBits hupdated setAt CallP YieldP BoolOf IsWrap Rnd LoopP AppP CutP Int.tmod Int.tdiv Int.fdiv
section
variable [Unknowns]
attribute [local irreducible] ResP sameAt
theorem right_spec (va vb:Value) (e:Int) (m:Mac) (h:Hp) (hb:MV h vb m.i) (hm:OkB m) (hgood:m.form.out.length≤12→e = 0∧MV h va m.form.i∧OkS m.form) (hbad:12 < m.form.out.length→e = 8∧va = noM):CallP E 43 [va,int e,vb] h (fun r h'=>r = .bool true∧Grows h h'):=by
 have hva:∃ bx:List Value,va = .agg ⟨bx⟩∧bx.length = 3:=by
  by_cases hl:m.form.out.length≤12
  ·obtain ⟨bx,e1,hbx⟩:=(hgood hl).2.1.box
   exact ⟨bx,e1,hbx.len⟩
  ·exact ⟨_,(hbad (by omega)).2,rfl⟩
 obtain ⟨bxa,rfl,hla⟩:=hva
 obtain ⟨bxb,rfl,hxb⟩:=hb.box
 refine enter43 (by simp) ?_
 conv=>whnf
 refine SeqP.cut (α:=Hp) (fun _=>[(3,ptr h.next 0),(5,ptr (h.next + 1) 0),(1,int e)]) (fun x H=>x = H∧Grows h H∧H.at h.next = some (.row 25 true bxa)∧H.at (h.next + 1) = some (.row 26 true bxb)) ?_ ?_
 ·conv=>whnf
  have n1:(h.lay (.row 25 true bxa)).next = h.next + 1:=Hp.next_lay _ _
  exact ⟨_,⟨rfl,congrArg (fun k=>ptr k 0) n1,rfl,trivial⟩,⟨rfl,(Grows.lay _ _).then_lay _,Hp.at_lay_old _ (Hp.at_lay_self _ _),at_nx2 n1 (Hp.at_lay_self _ _)⟩,rfl⟩
 rintro H φ1 _ ⟨rfl,gH,aX,aY⟩
 conv=>whnf
 refine SeqP.cut (α:=Nat×List Value×Hp) (fun s=>[(7,ptr s.1 0),(3,ptr h.next 0),(1,int e)]) (fun s H2=>s.2.2 = H2∧H2.at s.1 = some (.row 26 true s.2.1)∧Bx H2 s.2.1 m.form.i∧Grows H H2) ?_ ?_
 ·conv=>whnf
  refine ⟨_,all_cells aY hxb.len,?_⟩
  conv=>whnf
  refine CallP.mono (RForm_spec _ m _ (Bx.mv (hxb.ext gH)) hm) ?_
  rintro r H2 ⟨hw,g2⟩
  have hk:=hw.known
  obtain ⟨p,q,rfl⟩:=hk
  conv=>whnf
  refine ⟨rfl,_,storeAt_all (vs:=[int m.form.i.base,.slice p m.form.i.out.length m.form.i.out.length,.slice q m.form.i.next.length m.form.i.next.length]) rfl rfl rfl,?_⟩
  conv=>whnf
  exact ⟨(H2.next,_,_),⟨rfl,rfl,rfl,trivial⟩,⟨rfl,Hp.at_lay_self _ _,(hw.mv.ext (Grows.lay _ _)).bx,g2.then_lay _⟩,rfl⟩
 rintro ⟨N7,b7,H2⟩ φ2 _ ⟨rfl,a7,hb7,g2⟩
 dsimp only at a7 hb7 g2 ⊢
 have aX2:=g2.at_ _ _ aX
 have gh2:=gH.trans g2
 have hexF:∃ F,m.form = F:=⟨_,rfl⟩
 obtain ⟨F,eF⟩:=hexF
 rw [eF] at hb7 hgood hbad
 obtain ⟨bo,bn,do_,dn,hdx⟩:=hb7.cx
 have e1:cellAt H2 N7 1 = some (.slice bo F.out.length do_):=(hdx H2 N7 26 (.refl _) a7).c1
 by_cases hl:F.out.length≤12
 ·obtain ⟨rfl,hva,hFs⟩:=hgood hl
  have hba:Bx H2 bxa F.i:=(hva.ext gh2).bx
  obtain ⟨ao,an,co,cn,hcx⟩:=hba.cx
  have c3:=all_cells aX2 hla
  have c7:=all_cells a7 hb7.len
  have e2:cellAt H2 N7 2 = some (.slice bn F.i.next.length dn):=(hdx H2 N7 26 (.refl _) a7).c2
  conv=>whnf
  repeat (refine SeqP.go ?_; conv=>whnf)
  refine ⟨_,e1,?_⟩
  conv=>whnf
  refine cmpF (by omega) ?_
  conv=>whnf
  repeat (refine SeqP.go ?_; conv=>whnf)
  refine cmpT rfl ?_
  conv=>whnf
  refine ⟨_,c3,?_⟩
  conv=>whnf
  refine CallP.mono (own_spec _ F.i _ (Bx.mv hba) (lens_of hFs)) ?_
  rintro r G1 ⟨hw,g1⟩
  rw [hFs.cut] at hw
  have hk:=hw.known
  obtain ⟨p,q,rfl⟩:=hk
  have c3a:=g1.cells c3
  have c7a:=g1.cells c7
  conv=>whnf
  refine ⟨_,c7a,?_⟩
  conv=>whnf
  refine CallP.mono (REqual_spec _ _ F.i F.i _ hw.mv (Bx.mv (hb7.ext g1)) hFs.ok.ilen hFs.lens.1 hFs.lens.2.2) ?_
  rintro _ G2 ⟨⟨x,rfl,hx⟩,gg2⟩
  cases x with
  | false=>exact absurd rfl hx.f
  | true =>
   have g12:=g1.trans gg2
   have c3b:=gg2.cells c3a
   have c7b:=gg2.cells c7a
   have d1:cellAt G2 h.next 1 = some (.slice ao F.out.length co):=(hcx G2 h.next 25 g12 (g12.at_ _ _ aX2)).c1
   have d2:cellAt G2 h.next 2 = some (.slice an F.i.next.length cn):=(hcx G2 h.next 25 g12 (g12.at_ _ _ aX2)).c2
   have f1:=g12.cell e1
   have f2:=g12.cell e2
   conv=>whnf
   refine ⟨_,d1,?_⟩
   conv=>whnf
   refine ⟨_,f1,?_⟩
   conv=>whnf
   refine cmpT rfl ?_
   conv=>whnf
   refine ⟨_,d2,?_⟩
   conv=>whnf
   refine ⟨_,f2,?_⟩
   conv=>whnf
   refine cmpT rfl ?_
   conv=>whnf
   refine ⟨?_,?_⟩
   ·repeat' (first | exact True.intro | (refine And.intro ?_ ?_ <;> (conv=>whnf)))
    all_goals first
     | exact sameAt_val (h2:=_) rfl (sameV_int _)
     | exact sameAt_val (h2:=_) rfl (sameV_ptr _ _)
     | exact sameAt_val (h2:=_) (congrArg (fun x=>hval _ (aggOf x)) c3) hba.same
     | exact sameAt_val (h2:=_) (congrArg (fun x=>hval _ (aggOf x)) c3a) hba.same
     | exact sameAt_val (h2:=_) (congrArg (fun x=>hval _ (aggOf x)) c3b) hba.same
     | exact sameAt_val (h2:=_) (congrArg (fun x=>hval _ (aggOf x)) c7) hb7.same
     | exact sameAt_val (h2:=_) (congrArg (fun x=>hval _ (aggOf x)) c7a) hb7.same
     | exact sameAt_val (h2:=_) (congrArg (fun x=>hval _ (aggOf x)) c7b) hb7.same
     | trace_state
   conv=>whnf
   repeat (refine SeqP.go ?_; conv=>whnf)
   exact ⟨rfl,gh2.trans g12⟩
 ·have hbd:=hbad (by omega)
  obtain ⟨rfl,enm⟩:=hbd
  injection enm with enm
  injection enm with enm
  subst enm
  conv=>whnf
  repeat (refine SeqP.go ?_; conv=>whnf)
  refine ⟨_,e1,?_⟩
  conv=>whnf
  refine cmpT (by omega) ?_
  conv=>whnf
  repeat (refine SeqP.go ?_; conv=>whnf)
  refine cmpT rfl ?_
  conv=>whnf
  refine ⟨_,all_cells aX2 rfl,?_⟩
  conv=>whnf
  refine CallP.mono (empty_spec _ no0 _ (noM_mv _)) ?_
  rintro _ G1 ⟨⟨x,rfl,hx⟩,g1⟩
  cases x with
  | false=>exact absurd rfl hx.f
  | true =>
   conv=>whnf
   repeat (refine SeqP.go ?_; conv=>whnf)
   exact ⟨rfl,gh2.trans g1⟩
end
end Go.Proofs.Ytedneplaibmppaa
namespace Go.Proofs.Ytedneplaibmppaa
open Go.Rx Go.RowKit
structure Wr (hb H0 H:Hp):Prop where
 gr:Grows hb H
 next:H.next = H0.next
 row:∀ (r:Nat) (x:Bool) (l:List Int),H0.at r = some (.row 3 x (l.map int))→∃ l':List Int,l'.length = l.length∧H.at r = some (.row 3 x (l'.map int))
 oth:∀ (r e:Nat) (x:Bool) (cs:List Value),e≠3→H0.at r = some (.row e x cs)→H.at r = some (.row e x cs)
theorem Wr.refl {hb H:Hp} (g:Grows hb H):Wr hb H H:=⟨g,rfl,fun r x l e=>⟨l,rfl,e⟩,fun r e x cs _ h=>h⟩
end Go.Proofs.Ytedneplaibmppaa
namespace Go.Proofs.Ytedneplaibmppaa
open Go.Rx Go.RowKit
/-! The machine of the states that are met. -/
def nextM (m:Mac) (s:Int) (d:Nat):Int:=(m.nx s.toNat d:Nat)
def outM (m:Mac) (s:Int):Int:=m.o s.toNat
noncomputable def metM (m:Mac):Mac:=built m.base (0:Int) (outM m) (nextM m)
def stN (n:Nat):List Int:=(List.range n).map fun s:Nat=>(s:Int)
theorem stN_mem {n:Nat} {s:Int}:s ∈ stN n↔0≤s∧s < n:=by
 unfold stN
 constructor
 ·intro h
  obtain ⟨k,hk,rfl⟩:=List.mem_map.1 h
  have:=List.mem_range.1 hk
  omega
 ·rintro ⟨h0,h1⟩
  exact List.mem_map.2 ⟨s.toNat,List.mem_range.2 (by omega),by omega⟩
theorem stN_len (n:Nat):(stN n).length = n:=by unfold stN; rw [List.length_map,List.length_range]
theorem met_fin {m:Mac} (hm:m.Ok):Fin_ (nextM m) m.base (stN m.out.length):=⟨fun s hs d hd=>by
 have h:=stN_mem.1 hs
 have:=hm.lt s.toNat d (by omega) hd
 refine stN_mem.2 ?_
 unfold nextM
 omega⟩
theorem met_mem {m:Mac} (hm:m.Ok):(0:Int) ∈ stN m.out.length:=stN_mem.2 (by have:=hm.n1; omega)
theorem runM (m:Mac):∀ (w:List Nat) (s:Nat),runS (nextM m) (s:Int) w = (m.run s w:Nat)
 | [],s=>rfl
 | d :: w,s=>by
  show runS (nextM m) (nextM m s d) w = (m.run (m.nx s d) w:Nat)
  exact runM m w (m.nx s d)
theorem met_ok {m:Mac} (hm:m.Ok):(metM m).Ok∧(metM m).out.length≤m.out.length:=by
 have:=built_ok (met_fin hm) (met_mem hm) (outM m) hm.b1
 rw [stN_len] at this
 exact this
theorem met_form {m:Mac} (hm:m.Ok):(metM m).form = m.form:=Mac.form_uniq (met_ok hm).1 hm rfl fun w hw=>by
 refine (built_says (met_fin hm) (met_mem hm) (outM m) hw).trans ?_
 have:=runM m w 0
 rw [show ((0:Nat):Int) = 0 from rfl] at this
 rw [this]
 unfold outM
 rw [Int.toNat_natCast]
/-! Other outputs. -/
/-! Two digits at once. -/
def nx2 (m:Mac) (s r:Nat):Nat:=m.nx (m.nx s (r % m.base)) (r / m.base)
def sqM (m:Mac):Mac:=⟨m.base * m.base,m.out,(List.range m.out.length).map fun s=>(List.range (m.base * m.base)).map (nx2 m s)⟩
theorem sqM_row {m:Mac} {s:Nat} (hs:s < m.out.length):(sqM m).next.getD s [] = (List.range (m.base * m.base)).map (nx2 m s):=by
 unfold sqM
 rw [List.getD_eq_getElem?_getD,List.getElem?_map,List.getElem?_range hs]; rfl
theorem sqM_nx {m:Mac} {s r:Nat} (hs:s < m.out.length) (hr:r < m.base * m.base):(sqM m).nx s r = nx2 m s r:=by
 unfold Mac.nx
 rw [sqM_row hs,List.getD_eq_getElem?_getD,List.getElem?_map,List.getElem?_range hr]; rfl
theorem nx2_lt {m:Mac} (hm:m.Ok) {s r:Nat} (hs:s < m.out.length) (hr:r < m.base * m.base):nx2 m s r < m.out.length:=by
 have hb:=hm.b1
 exact hm.lt _ _ (hm.lt s _ hs (Nat.mod_lt _ (by omega))) (Nat.div_lt_of_lt_mul hr)
theorem sqM_ok {m:Mac} (hm:m.Ok):(sqM m).Ok where
 b1:=Nat.mul_pos hm.b1 hm.b1
 n1:=hm.n1
 len:=by unfold sqM; rw [List.length_map,List.length_range]
 row:=fun s hs=>by
  rw [sqM_row (m:=m) hs,List.length_map,List.length_range]; rfl
 lt:=fun s r hs hr=>by
  have e:=sqM_nx (m:=m) hs hr
  have e2:=nx2_lt hm (s:=s) (r:=r) hs hr
  rw [e]
  exact e2
theorem sqM_zer {m:Mac} (hm:m.Ok) (z:m.Zer):(sqM m).Zer:=fun s hs=>by
 have hs:s < m.out.length:=hs
 have hb:=hm.b1
 rw [sqM_nx hs (Nat.mul_pos hb hb)]
 unfold nx2
 rw [Nat.zero_mod,Nat.zero_div]
 exact (z _ (hm.lt s 0 hs hb)).trans (z s hs)
/-! Two machines side by side. -/
end Go.Proofs.Ytedneplaibmppaa
namespace Go.Proofs.Ytedneplaibmppaa
open Go.Rx Go.RowKit
theorem rem_val2 {x y r:Int} {h:Hp} (hy:y≠0) (e:x.tmod y = r):hval h (arK .i64 .rem x y) = .val (int r) h:=by
 unfold arK
 dsimp only
 rw [if_neg hy,e]
 rfl
end Go.Proofs.Ytedneplaibmppaa
namespace Go.Proofs.Ytedneplaibmppaa
open Go.Rx Go.RowKit
def Ans (H:Hp) (N:Nat) (e:Int) (P:Prop) (w:Mac):Prop:=∃ bx:List Value,bx.length = 3∧H.at N = some (.row 25 true bx)∧sameV 4 (.agg ⟨bx⟩) (.agg ⟨bx⟩) = true∧(P→e = 1∧bx = [int 0,nilS,nilS])∧(¬ P→(w.form.out.length≤12→e = 0∧MV H (.agg ⟨bx⟩) w.form.i)∧(12 < w.form.out.length→e = 8∧bx = [int 0,nilS,nilS]))
theorem Ans.ext {H H':Hp} {N:Nat} {e:Int} {P:Prop} {w:Mac} (g:Grows H H') (k:Ans H N e P w):Ans H' N e P w:=by
 obtain ⟨bx,h1,h2,h3,h4,h5⟩:=k
 exact ⟨bx,h1,g.at_ _ _ h2,h3,h4,fun q=>⟨fun l=>⟨((h5 q).1 l).1,((h5 q).1 l).2.ext g⟩,(h5 q).2⟩⟩
theorem ans_of {h h':Hp} {r:Value} {P:Prop} {w:Mac} (hb:P→r = .tuple ⟨[noM,int 1]⟩) (hg:¬ P→FitR h h' r w):∃ a b c e,r = .tuple ⟨[.agg ⟨[a,b,c]⟩,int e]⟩∧[a,b,c].all oneCell = true∧Ans (h'.lay (.row 25 true [a,b,c])) h'.next e P w:=by
 by_cases p:P
 ·exact ⟨_,_,_,1,hb p,rfl,_,rfl,Hp.at_lay_self _ _,sameV_mac _ _ _ _ _ _ _,fun _=>⟨rfl,rfl⟩,fun q=>absurd p q⟩
 ·obtain ⟨u,e,rfl,h1,h2⟩:=hg p
  by_cases hl:w.form.out.length≤12
  ·obtain ⟨rfl,ho⟩:=h1 hl
   obtain ⟨x,y,rfl⟩:=ho.known
   exact ⟨_,_,_,0,rfl,rfl,_,rfl,Hp.at_lay_self _ _,sameV_mac _ _ _ _ _ _ _,fun q=>absurd q p,fun _=>⟨fun _=>⟨rfl,ho.mv.ext (Grows.lay _ _)⟩,fun q=>by omega⟩⟩
  ·obtain ⟨rfl,rfl⟩:=h2 (by omega)
   exact ⟨_,_,_,8,rfl,rfl,_,rfl,Hp.at_lay_self _ _,sameV_mac _ _ _ _ _ _ _,fun q=>absurd q p,fun _=>⟨fun q=>absurd q hl,fun _=>⟨rfl,rfl⟩⟩⟩
end Go.Proofs.Ytedneplaibmppaa
namespace Go.Proofs.Ytedneplaibmppaa
open Go.Rx Go.RowKit
theorem FitR.congr {h h':Hp} {r:Value} {m m':Mac} (e:m.form = m'.form) (k:FitR h h' r m):FitR h h' r m':=by
 unfold FitR at k ⊢
 rwa [e] at k
attribute [local irreducible] E idxN cellAt cellsAt storeAt callable helems hmoved lookIn findKey keyOk hentries Hp.at Hp.set Hp.lay arBits hupdated setAt CallP YieldP BoolOf IsWrap Rnd LoopP AppP CutP Int.tmod Int.tdiv Int.fdiv
section
variable [Unknowns]
attribute [local irreducible] sameAt finP
theorem squared1_spec (m:Mac) (s:Int) (X:Nat) (bx:List Value) (h H:Hp) (hbx:Bx h bx m.i) (hs:0≤s∧s < m.out.length) (g:Grows h H) (aX:H.at X = some (.row 25 true bx)):CallP E 75 [encI s,ptr X 0] H (fun r H'=>r = int (outM (sqM m) s)∧Grows H H'):=by
 obtain ⟨ao,an,co,cn,hcx⟩:=hbx.cx
 obtain ⟨k,rfl⟩:∃ k:Nat,s = k:=⟨s.toNat,by omega⟩
 have kx:=hcx H X 25 g aX
 have c1:cellAt H X 1 = some (.slice ao m.out.length co):=kx.c1
 have hoM:=kx.outM (s:=k) (by omega)
 obtain ⟨r,o,sp,rfl,hsp,hc⟩:=hoM
 refine enter75 (by simp) ?_
 conv=>whnf
 refine SeqP.go ?_
 conv=>whnf
 refine SeqP.go ?_
 conv=>whnf
 refine ⟨_,c1,?_⟩
 conv=>whnf
 refine ⟨hsp,⟨by omega,by omega⟩,?_⟩
 conv=>whnf
 refine ⟨_,hc,?_⟩
 conv=>whnf
 exact finP_one rfl rfl ⟨rfl,.refl _⟩
theorem squared2_spec (m:Mac) (s:Int) (d X:Nat) (bx:List Value) (h H:Hp) (hbx:Bx h bx m.i) (hm:m.Ok) (hb2:m.base = 2) (hs:0≤s∧s < m.out.length) (hd:d < 4) (g:Grows h H) (aX:H.at X = some (.row 25 true bx)):CallP E 76 [encI s,int d,ptr X 0] H (fun r H'=>r = encI (nextM (sqM m) s d)∧Grows H H'):=by
 obtain ⟨ao,an,co,cn,hcx⟩:=hbx.cx
 obtain ⟨k,rfl⟩:∃ k:Nat,s = k:=⟨s.toNat,by omega⟩
 have kx:=hcx H X 25 g aX
 have c2:=kx.c2
 have hil:=hm.ilen
 have eN:nextM (sqM m) k d = (m.nx (m.nx k (d % 2)) (d / 2):Nat):=by
  unfold nextM
  rw [Int.toNat_natCast,sqM_nx (by omega) (by rw [hb2]; omega)]
  unfold nx2
  rw [hb2]
 rw [eN]
 have em:(d:Int).tmod 2 = ((d % 2:Nat):Int):=tmod_nat d 2
 have ed:(d:Int).tdiv 2 = ((d / 2:Nat):Int):=tdiv_nat d 2
 have hml:=Nat.mod_lt d (show 2 > 0 by omega)
 have hdl:d / 2 < 2:=by omega
 have hexr:∃ r,d % 2 = r:=⟨_,rfl⟩
 obtain ⟨r,er⟩:=hexr
 have hexq:∃ q,d / 2 = q:=⟨_,rfl⟩
 obtain ⟨q,eq⟩:=hexq
 rw [er] at em hml ⊢
 rw [eq] at ed hdl ⊢
 have hnl:=hm.lt k r (by omega) (by omega)
 have h1:=kx.nextAt hm (s:=k) (d:=r) (by omega) (by omega)
 obtain ⟨r1,o1,sp1,r2,o2,sp2,c2',rfl,hsp1,hc1,hsp2,hc2⟩:=h1
 have hext:∃ t,m.nx k r = t:=⟨_,rfl⟩
 obtain ⟨t,et⟩:=hext
 rw [et] at hnl hc2 ⊢
 have h2:=kx.nextAt hm (s:=t) (d:=q) (by omega) (by omega)
 obtain ⟨r3,o3,sp3,r4,o4,sp4,c4',ea,-,hc3,hsp4,hc4⟩:=h2
 injection ea with ea
 injection ea with ea1 ea2 ea3
 subst ea1
 subst ea2
 subst ea3
 refine enter76 (by simp) ?_
 conv=>whnf
 refine SeqP.go ?_
 conv=>whnf
 refine SeqP.go ?_
 conv=>whnf
 refine ⟨_,c2,?_⟩
 conv=>whnf
 refine ⟨_,c2,?_⟩
 conv=>whnf
 refine ⟨hsp1,⟨by omega,by omega⟩,?_⟩
 conv=>whnf
 refine ⟨_,hc1,?_⟩
 conv=>whnf
 refine ⟨by omega,?_⟩
 conv=>whnf
 rw [em]
 refine ⟨hsp2,⟨by omega,by omega⟩,?_⟩
 conv=>whnf
 refine ⟨_,hc2,?_⟩
 conv=>whnf
 refine ⟨hsp1,⟨by omega,by omega⟩,?_⟩
 conv=>whnf
 refine ⟨_,hc3,?_⟩
 conv=>whnf
 refine ⟨by omega,(q:Int),wie ed (by omega),?_⟩
 conv=>whnf
 refine ⟨hsp4,⟨by omega,by omega⟩,?_⟩
 conv=>whnf
 refine ⟨_,hc4,?_⟩
 conv=>whnf
 exact finP_one rfl rfl ⟨rfl,.refl _⟩
theorem Squared_spec (v:Value) (m:Mac) (h:Hp) (hv:MV h v m.i) (hm:OkS m):CallP E 31 [v] h (fun r h'=>((m.base≠2→r = .tuple ⟨[noM,int 1]⟩)∧(¬ m.base≠2→FitR h h' r (sqM m)))∧Grows h h'):=by
 obtain ⟨bx,rfl,hbx⟩:=hv.box
 obtain ⟨ao,an,co,cn,hcx⟩:=hbx.cx
 have hL:=hm.lens
 have hn12:=hm.n12
 have hb5:=hm.b5
 obtain ⟨i25,t25,ag25,sz25⟩:=ty25
 refine enter31 (by simp) ?_
 conv=>whnf
 refine SeqP.cut (α:=Hp) (fun _=>[(2,ptr (h.next + 1) 0),(1,ptr h.next 0)]) (fun x H=>x = H∧Grows h H∧H.at h.next = some (.row 25 true bx)∧H.at (h.next + 1) = some (.row 25 true [int 0,nilS,nilS])) ?_ ?_
 ·conv=>whnf
  have n1:(h.lay (.row 25 true bx)).next = h.next + 1:=Hp.next_lay _ _
  exact ⟨_,⟨congrArg (fun k=>ptr k 0) n1,rfl,trivial⟩,⟨rfl,(Grows.lay _ _).then_lay _,Hp.at_lay_old _ (Hp.at_lay_self _ _),at_nx2 n1 (Hp.at_lay_self _ _)⟩,rfl⟩
 rintro H φ1 _ ⟨rfl,gH,aX,aR⟩
 conv=>whnf
 refine SeqP.cut (α:=Hp) (fun _=>[(2,ptr (h.next + 1) 0),(1,ptr h.next 0)]) (fun x H2=>x = H2∧Grows H H2) ?_ ?_
 ·conv=>whnf
  refine SeqP.go ?_
  conv=>whnf
  refine ⟨_,all_cells aX hbx.len,?_⟩
  conv=>whnf
  refine CallP.mono (Check_spec _ m.i _ (Bx.mv (hbx.ext gH)) hL.1 hL.2.1 hL.2.2) ?_
  rintro r H2 ⟨⟨e,rfl,he,-⟩,g2⟩
  have he:=he hm.ck
  subst he
  conv=>whnf
  repeat (refine SeqP.go ?_; conv=>whnf)
  refine cmpF (by omega) ?_
  conv=>whnf
  exact ⟨_,⟨rfl,rfl,trivial⟩,⟨rfl,g2⟩,rfl⟩
 rintro H2 φ2 _ ⟨rfl,g2⟩
 have aX2:=g2.at_ _ _ aX
 have aR2:=g2.at_ _ _ aR
 have gh2:=gH.trans g2
 have hltR:=Hp.lt_of_at aR2
 have hRg:=Hp.at_set_self (.row 25 true [int 0,nilS,nilS]) hltR
 have gRg:Grows h (H2.set (h.next + 1) (.row 25 true [int 0,nilS,nilS])):=gh2.then_set _ (by omega)
 have kx2:=hcx H2 h.next 25 gh2 aX2
 have c0:cellAt H2 h.next 0 = some (int (m.base:Int)):=kx2.c0
 conv=>whnf
 refine SeqP.cut (α:=Unit) (fun _=>[(2,ptr (h.next + 1) 0),(1,ptr h.next 0)]) (fun _ H3=>H2 = H3∧m.base = 2) ?_ ?_
 ·conv=>whnf
  refine SeqP.go ?_
  conv=>whnf
  refine ⟨_,c0,?_⟩
  conv=>whnf
  refine cmpB (fun q1=>?_) (fun q1=>?_)
  ·conv=>whnf
   refine SeqP.go ?_
   conv=>whnf
   refine ⟨rfl,_,storeAt_full (vs:=[int 0,nilS,nilS]) aR2 rfl rfl rfl,?_⟩
   conv=>whnf
   exact leave_cell2 (r:=h.next + 1) (o:=0) (cs:=[int 0,nilS,nilS]) (w:=int 1) rfl rfl rfl t25 ag25 (by rw [sz25]; exact all_cells hRg rfl) ⟨⟨fun _=>rfl,fun q=>absurd (show m.base≠2 by omega) q⟩,gRg⟩
  conv=>whnf
  exact ⟨(),⟨rfl,rfl,trivial⟩,⟨rfl,by omega⟩,rfl⟩
 rintro _ φ3 _ ⟨rfl,hb2⟩
 have hso:=sqM_ok hm.ok
 have ho:OutF 75 [ptr h.next 0] encI (outM (sqM m)) (stN (sqM m).out.length) H2:=⟨can75,fun s hs H5 g5=>squared1_spec m s h.next bx h H5 hbx (stN_mem.1 hs) (gh2.trans g5) (g5.at_ _ _ aX2)⟩
 have hn:NextF 76 [ptr h.next 0] encI (nextM (sqM m)) (sqM m).base (stN (sqM m).out.length) H2:=⟨can76,fun s hs d hd H5 g5=>squared2_spec m s d h.next bx h H5 hbx hm.ok hb2 (stN_mem.1 hs) (by have hd:d < m.base * m.base:=hd; rw [hb2] at hd; omega) (gh2.trans g5) (g5.at_ _ _ aX2)⟩
 have hbs:(sqM m).base = 4:=by show m.base * m.base = 4; rw [hb2]
 have hsl:(sqM m).out.length = m.out.length:=rfl
 have hb:=built70_spec (sqM m).base 0 (outM (sqM m)) (nextM (sqM m)) (stN (sqM m).out.length) 75 76 _ _ H2 ⟨hso.b1,by omega⟩ (met_fin hso) (met_mem hso) (by rw [stN_len]; omega) ho hn
 have emul:(m.base:Int) * (m.base:Int) = (((sqM m).base:Nat):Int):=by rw [hb2,hbs]; rfl
 have hmo:=met_ok hso
 have hmf:=met_form hso
 have hexm:∃ m',built (sqM m).base 0 (outM (sqM m)) (nextM (sqM m)) = m':=⟨_,rfl⟩
 obtain ⟨m',em⟩:=hexm
 rw [em] at hb
 have em':metM (sqM m) = m':=em
 rw [em'] at hmo hmf
 have hbm:m'.base = (sqM m).base:=by rw [← em]; rfl
 conv=>whnf
 refine SeqP.go ?_
 conv=>whnf
 refine SeqP.go ?_
 conv=>whnf
 refine SeqP.go ?_
 conv=>whnf
 refine ⟨_,c0,?_⟩
 conv=>whnf
 refine ⟨_,c0,?_⟩
 conv=>whnf
 refine ⟨(((sqM m).base:Nat):Int),wie emul (by omega),?_⟩
 conv=>whnf
 refine CallP.mono hb ?_
 rintro w H3 ⟨hw,g3⟩
 conv=>whnf
 refine CallP.mono (fitted_spec _ m' _ hw.mv hmo.1 (by omega) (by omega)) ?_
 rintro r H4 ⟨hr,g4⟩
 have hr:=hr.congr hmf
 have hrk:=hr.known
 obtain ⟨a4,b4,c4,e4,rfl,o1,o2,o3⟩:=hrk
 have aR4:=g4.at_ _ _ (g3.at_ _ _ aR2)
 conv=>whnf
 refine ⟨rfl,_,storeAt_full (vs:=[a4,b4,c4]) aR4 rfl (one3 o1 o2 o3) rfl,?_⟩
 conv=>whnf
 refine leave_cell2 (r:=h.next + 1) (o:=0) (cs:=[a4,b4,c4]) (w:=int e4) rfl rfl rfl t25 ag25 ?_ ?_
 ·rw [sz25]
  exact all_cells (Hp.at_set_self _ (Hp.lt_of_at aR4)) rfl
 ·exact ⟨⟨fun k=>absurd hb2 k,fun _=>(hr.put (by have:=g3.next; omega) _).back (by have:=g3.next; have:=gh2.next; omega)⟩,((gh2.trans g3).trans g4).then_set _ (by omega)⟩
end
end Go.Proofs.Ytedneplaibmppaa
namespace Go.Proofs.Ytedneplaibmppaa
open Go.Rx Go.RowKit
def sqN (m:Mac) (s r:Nat):List Int:=(List.range r).map fun j=>((nx2 m s j:Nat):Int)
def sqR (m:Mac) (s:Nat):List (List Int):=(List.range s).map fun i=>sqN m i (m.base * m.base)
theorem sqN_succ (m:Mac) (s r:Nat):sqN m s (r + 1) = sqN m s r ++ [((nx2 m s r:Nat):Int)]:=by unfold sqN; rw [List.range_succ,List.map_append]; rfl
theorem sqN_len (m:Mac) (s r:Nat):(sqN m s r).length = r:=by unfold sqN; rw [List.length_map,List.length_range]
theorem sqR_succ (m:Mac) (s:Nat):sqR m (s + 1) = sqR m s ++ [sqN m s (m.base * m.base)]:=by unfold sqR; rw [List.range_succ,List.map_append]; rfl
theorem sqR_len (m:Mac) (s:Nat):(sqR m s).length = s:=by unfold sqR; rw [List.length_map,List.length_range]
theorem sqM_i (m:Mac):(sqM m).i = ⟨(m.base * m.base:Nat),m.out,sqR m m.out.length⟩:=by
 unfold Mac.i sqM sqR sqN
 dsimp only
 rw [List.map_map]
 congr 1
 refine List.map_congr_left fun s _=>?_
 show List.map _ (List.map _ _) = _
 rw [List.map_map]
 rfl
attribute [local irreducible] E idxN cellAt cellsAt storeAt callable helems hmoved lookIn findKey keyOk hentries Hp.at Hp.set Hp.lay arBits hupdated setAt CallP YieldP BoolOf IsWrap Rnd LoopP AppP CutP Int.tmod Int.tdiv Int.fdiv
section
variable [Unknowns]
attribute [local irreducible] ResP sameAt finP
theorem RSquared_spec (v:Value) (m:Mac) (h:Hp) (hv:MV h v m.i) (hm:OkS m):CallP E 48 [v] h (fun r h'=>MV h' r (sqM m).i∧Grows h h'):=by
 obtain ⟨bx,rfl,hbx⟩:=hv.box
 obtain ⟨ao',an,co',cn,hcx⟩:=hbx.cx
 have hn12:=hm.n12
 have hb5:=hm.b5
 have hb2:=hm.b2
 have hil:=hm.ok.ilen
 rw [sqM_i]
 have hexB:∃ B,m.base * m.base = B:=⟨_,rfl⟩
 obtain ⟨B,eB⟩:=hexB
 have hB:B≤25:=by rw [← eB]; exact Nat.mul_le_mul hb5 hb5
 have emul:(m.base:Int) * (m.base:Int) = ((B:Nat):Int):=by rw [← eB,Int.natCast_mul]
 rw [eB]
 refine enter48 (by simp) ?_
 conv=>whnf
 refine SeqP.cut (α:=Hp) (fun _=>[(2,ptr (h.next + 1) 0),(1,ptr h.next 0)]) (fun x H=>x = H∧Grows h H∧H.at h.next = some (.row 26 true bx)∧H.at (h.next + 1) = some (.row 26 true [int 0,nilS,nilS])∧H.next = h.next + 2) ?_ ?_
 ·conv=>whnf
  have n1:(h.lay (.row 26 true bx)).next = h.next + 1:=Hp.next_lay _ _
  exact ⟨_,⟨congrArg (fun k=>ptr k 0) n1,rfl,trivial⟩,⟨rfl,(Grows.lay _ _).then_lay _,Hp.at_lay_old _ (Hp.at_lay_self _ _),at_nx2 n1 (Hp.at_lay_self _ _),by rw [Hp.next_lay,n1]⟩,rfl⟩
 rintro H φ1 _ ⟨rfl,gH,aX,aR,nH⟩
 have kx:=hcx H h.next 26 gH aX
 have c0:cellAt H h.next 0 = some (int (m.base:Int)):=kx.c0
 have hbo:=hbx.o
 obtain ⟨ao,co,eo,vo⟩:=hbo
 have c1:cellAt H h.next 1 = some (.slice ao m.out.length co):=cellAt_row aX eo
 have c2:=kx.c2
 conv=>whnf
 refine SeqP.cut (α:=Unit) (fun _=>[(3,int m.base),(2,ptr (h.next + 1) 0),(1,ptr h.next 0)]) (fun x H2=>H = H2) ?_ ?_
 ·conv=>whnf
  refine ⟨_,c0,?_⟩
  conv=>whnf
  exact ⟨(),⟨rfl,rfl,rfl,trivial⟩,rfl,rfl⟩
 rintro _ φ2 _ rfl
 conv=>whnf
 refine SeqP.cut (α:=Hp) (fun q=>[(4,ptr H.next 0),(3,int m.base),(2,ptr (h.next + 1) 0),(1,ptr h.next 0)]) (fun q H6=>q = H6∧Grows H H6∧H6.at H.next = some (.row 26 true [int B,.slice ao m.out.length co,nilS])) ?_ ?_
 ·conv=>whnf
  refine ⟨((B:Nat):Int),wie emul (by omega),?_⟩
  conv=>whnf
  refine ⟨_,c1,?_⟩
  conv=>whnf
  refine ⟨rfl,_,storeAt_all (vs:=[int B,.slice ao m.out.length co,nilS]) rfl rfl rfl,?_⟩
  conv=>whnf
  exact ⟨_,⟨rfl,rfl,rfl,rfl,trivial⟩,⟨rfl,Grows.lay _ _,Hp.at_lay_self _ _⟩,rfl⟩
 rintro H6 φ3 _ ⟨rfl,g6,a6⟩
 have hexZ:∃ Z,H.next = Z:=⟨_,rfl⟩
 obtain ⟨Z,eZ⟩:=hexZ
 rw [eZ] at a6 ⊢
 have hltZ:=Hp.lt_of_at a6
 have hsep:Rx.Sep H6 [pl Z,nilS,nilS] []:=by
  refine ⟨fun v hv x e=>?_,fun u hu=>by simp at hu,fun i j v u hij hi hj=>?_,fun v hv u hu=>by simp at hu⟩
  ·simp at hv
   rcases hv with rfl | rfl
   ·cases e; exact hltZ
   ·cases e
  ·match i,j,hi,hj with
   | 0,0,_,_=>exact absurd rfl hij
   | 1,_,hi,hj=>cases hi; exact Ap.nil _
   | 2,_,hi,hj=>cases hi; exact Ap.nil _
   | 0,1,hi,hj=>cases hj; exact (Ap.nil _).symm
   | 0,2,hi,hj=>cases hj; exact (Ap.nil _).symm
   | 0,j + 3,hi,hj=>simp at hj
   | i + 3,_,hi,_=>simp at hi
 have hz6:MZ H H6 26 Z nilS nilS [] [] [] [int B,.slice ao m.out.length co,nilS] []:=⟨g6,a6,BuiltC.nil,BuiltC.nil,rfl,fun k u l e=>by simp at e,by omega,hsep⟩
 have hz6':=hz6.more (.refl _) (v:=nilS) fun r e=>by cases e
 clear a6 hz6 hsep
 conv=>whnf
 refine SeqP.cut (α:=Value×List Value×Hp) (fun q=>[(4,ptr Z 0),(2,ptr (h.next + 1) 0)]) (fun q H7=>q.2.2 = H7∧∃ rs,MZ H q.2.2 26 Z nilS q.1 [] q.2.1 (sqR m m.out.length) [int B,.slice ao m.out.length co,q.1] rs) ?_ ?_
 rotate_left
 ·rintro ⟨nv,us,H7⟩ φ7 _ ⟨rfl,rs,hz7⟩
  dsimp only at hz7 ⊢
  have hnv:=hz7.next_ok
  obtain ⟨ay,rfl⟩:=hnv
  have aR7:=hz7.gr.at_ _ _ aR
  conv=>whnf
  repeat (refine SeqP.go ?_; conv=>whnf)
  refine ⟨_,all_cells hz7.z rfl,?_⟩
  conv=>whnf
  refine ⟨rfl,_,storeAt_full (vs:=[int B,.slice ao m.out.length co,.slice ay (sqR m m.out.length).length (sqR m m.out.length).length]) aR7 rfl rfl rfl,?_⟩
  conv=>whnf
  repeat (refine SeqP.go ?_; conv=>whnf)
  obtain ⟨iR,tR,agR,szR⟩:=ty26
  refine leave_cell (r:=h.next + 1) (o:=0) (cs:=[int B,.slice ao m.out.length co,.slice ay (sqR m m.out.length).length (sqR m m.out.length).length]) rfl tR agR ?_ ?_
  ·rw [szR]
   exact all_cells (Hp.at_set_self _ (Hp.lt_of_at aR7)) rfl
  ·have hl:=hz7.leave (h:=h) (R:=h.next + 1) (by omega) (by omega) gH B (.row 26 true [int B,.slice ao m.out.length co,.slice ay (sqR m m.out.length).length (sqR m m.out.length).length])
   obtain ⟨hl,gl⟩:=hl
   have hmv:=hl.mv
   obtain ⟨vo',vn',e,-,hmat⟩:=hmv
   injection e with e
   injection e with e
   injection e with e1 e
   injection e with e2 e
   injection e with e3 e
   subst e3
   exact ⟨⟨_,_,rfl,vo.ext gl,hmat⟩,gl⟩
 conv=>whnf
 repeat (refine SeqP.go ?_; conv=>whnf)
 refine loop_inv (α:=Nat×Value×List Value×Hp) (fun q=>[(5,int q.1),(4,ptr Z 0),(3,int m.base),(2,ptr (h.next + 1) 0),(1,ptr h.next 0)]) (fun q=>q.2.2.2) (fun q=>q.1≤m.out.length∧MZ H q.2.2.2 26 Z nilS q.2.1 [] q.2.2.1 (sqR m q.1) [int B,.slice ao m.out.length co,q.2.1] [nilS]) (fun q=>m.out.length - q.1) (0,nilS,[],H6) ⟨Nat.zero_le _,hz6'⟩ ⟨rfl,rfl,rfl,rfl,rfl,trivial⟩ (Hp.Le.refl _) ?_
 clear hz6'
 rintro ⟨s,nv,us,G⟩ φ4 ⟨hs,hz⟩
 dsimp only at hs hz ⊢
 have b1:=hz.gr.cell c1
 conv=>whnf
 repeat (refine SeqP.go ?_; conv=>whnf)
 refine ⟨_,b1,?_⟩
 conv=>whnf
 refine cmpB (fun q1=>?_) (fun q1=>?_)
 rotate_left
 ·have:s = m.out.length:=by omega
  subst this
  conv=>whnf
  repeat (refine SeqP.go ?_; conv=>whnf)
  exact ⟨(nv,us,G),⟨rfl,rfl,trivial⟩,⟨rfl,_,hz⟩,rfl⟩
 have hsn:s < m.out.length:=by omega
 conv=>whnf
 refine SeqP.go ?_
 conv=>whnf
 refine SeqP.cut (α:=Unit) (fun q=>[(6,nilS),(5,int s),(4,ptr Z 0),(3,int m.base),(2,ptr (h.next + 1) 0),(1,ptr h.next 0)]) (fun q H7=>G = H7) ?_ ?_
 ·conv=>whnf
  exact ⟨(),⟨rfl,rfl,rfl,rfl,rfl,rfl,trivial⟩,rfl,rfl⟩
 rintro _ φ5 _ rfl
 conv=>whnf
 refine SeqP.cut (α:=Value×Hp) (fun q=>[(6,q.1),(5,int s),(4,ptr Z 0),(3,int m.base),(2,ptr (h.next + 1) 0),(1,ptr h.next 0)]) (fun q H7=>q.2 = H7∧MZ H q.2 26 Z nilS nv [] us (sqR m s) [int B,.slice ao m.out.length co,nv] [q.1]∧BuiltC H q.2 3 1 q.1 (sqN m s B).length ((sqN m s B).map int)) ?_ ?_
 ·conv=>whnf
  repeat (refine SeqP.go ?_; conv=>whnf)
  refine loop_inv (α:=Nat×Value×Hp) (fun q=>[(7,int q.1),(6,q.2.1),(5,int s),(4,ptr Z 0),(3,int m.base),(2,ptr (h.next + 1) 0),(1,ptr h.next 0)]) (fun q=>q.2.2) (fun q=>q.1≤B∧MZ H q.2.2 26 Z nilS nv [] us (sqR m s) [int B,.slice ao m.out.length co,nv] [q.2.1]∧BuiltC H q.2.2 3 1 q.2.1 (sqN m s q.1).length ((sqN m s q.1).map int)) (fun q=>B - q.1) (0,nilS,G) ⟨Nat.zero_le _,hz,BuiltC.nil⟩ ⟨rfl,rfl,rfl,rfl,rfl,rfl,rfl,trivial⟩ (Hp.Le.refl _) ?_
  rintro ⟨r,w,K⟩ φ6 ⟨hr,hzK,hwK⟩
  dsimp only at hr hzK hwK ⊢
  have hrl:(sqN m s r).length = r:=sqN_len m s r
  have hws:=hwK.slice
  obtain ⟨aw,ew,-⟩:=hws
  rw [hrl] at ew
  subst ew
  conv=>whnf
  repeat (refine SeqP.go ?_; conv=>whnf)
  refine ⟨((B:Nat):Int),wie emul (by omega),?_⟩
  conv=>whnf
  refine cmpB (fun q2=>?_) (fun q2=>?_)
  rotate_left
  ·have:r = B:=by omega
   subst this
   conv=>whnf
   repeat (refine SeqP.go ?_; conv=>whnf)
   exact ⟨(_,K),⟨rfl,rfl,rfl,rfl,rfl,rfl,trivial⟩,⟨rfl,hzK,hwK⟩,rfl⟩
  have hrB:r < m.base * m.base:=by omega
  have em:=tmod_nat r m.base
  have ed:=tdiv_nat r m.base
  have hml:=Nat.mod_lt r (show m.base > 0 by omega)
  have hdl:r / m.base < m.base:=Nat.div_lt_of_lt_mul hrB
  have enx:nx2 m s r = m.nx (m.nx s (r % m.base)) (r / m.base):=rfl
  have hexr:∃ r',r % m.base = r':=⟨_,rfl⟩
  obtain ⟨r',er⟩:=hexr
  have hexq:∃ q,r / m.base = q:=⟨_,rfl⟩
  obtain ⟨q,eq⟩:=hexq
  rw [er] at em hml enx
  rw [eq] at ed hdl enx
  have hnl:=hm.ok.lt s r' hsn hml
  have h1:=kx.nextAt hm.ok (s:=s) (d:=r') hsn hml
  obtain ⟨r1,o1,sp1,r2,o2,sp2,c2',ean,hsp1,hc1,hsp2,hc2⟩:=h1
  subst ean
  have hext:∃ t,m.nx s r' = t:=⟨_,rfl⟩
  obtain ⟨t,et⟩:=hext
  rw [et] at hnl hc2 enx
  have h2:=kx.nextAt hm.ok (s:=t) (d:=q) hnl hdl
  obtain ⟨r3,o3,sp3,r4,o4,sp4,c4',ea,-,hc3,hsp4,hc4⟩:=h2
  injection ea with ea
  injection ea with ea1 ea2 ea3
  subst ea1
  subst ea2
  subst ea3
  have g0:=hzK.gr
  have k1:=g0.cell c2
  have k2:=g0.cell hc1
  have k3:=g0.cell hc2
  have k4:=g0.cell hc3
  have k5:=g0.cell hc4
  have gl1:Grows K (K.lay (.row 3 true [int (m.nx t q:Nat)])):=Grows.lay _ _
  have l1:=gl1.cell k1
  have l2:=gl1.cell k2
  have l3:=gl1.cell k3
  have l4:=gl1.cell k4
  have l5:=gl1.cell k5
  conv=>whnf
  refine SeqP.cut (α:=Value×Hp) (fun x=>[(7,int r),(6,x.1),(5,int s),(4,ptr Z 0),(3,int m.base),(2,ptr (h.next + 1) 0),(1,ptr h.next 0)]) (fun x H7=>x.2 = H7∧MZ H x.2 26 Z nilS nv [] us (sqR m s) [int B,.slice ao m.out.length co,nv] [x.1]∧BuiltC H x.2 3 1 x.1 (sqN m s (r + 1)).length ((sqN m s (r + 1)).map int)) ?_ ?_
  ·conv=>whnf
   refine ⟨_,k1,?_⟩
   conv=>whnf
   refine ⟨_,k1,?_⟩
   conv=>whnf
   refine ⟨hsp1,⟨by omega,by omega⟩,?_⟩
   conv=>whnf
   refine ⟨_,k2,?_⟩
   conv=>whnf
   refine ⟨by omega,?_⟩
   conv=>whnf
   rw [em]
   refine ⟨hsp2,⟨by omega,by omega⟩,?_⟩
   conv=>whnf
   refine ⟨_,k3,?_⟩
   conv=>whnf
   refine ⟨hsp1,⟨by omega,by omega⟩,?_⟩
   conv=>whnf
   refine ⟨_,k4,?_⟩
   conv=>whnf
   refine ⟨by omega,(q:Int),wie ed (by omega),?_⟩
   conv=>whnf
   refine ⟨hsp4,⟨by omega,by omega⟩,?_⟩
   conv=>whnf
   refine ⟨_,k5,?_⟩
   conv=>whnf
   refine hzK.r_app (i:=0) rfl hwK (by omega) ?_
   intro w' K2 hw' hb2' hz2' kv2
   obtain ⟨a9,n9,rfl⟩:=hw'
   have g2:=hz2'.gr
   have p1:=g2.cell c2
   have p2:=g2.cell hc1
   have p3:=g2.cell hc2
   have p4:=g2.cell hc3
   have p5:=g2.cell hc4
   rw [← enx,← sqN_succ] at hb2'
   conv=>whnf
   refine ⟨?_,?_⟩
   ·repeat' (first | exact True.intro | (refine And.intro ?_ ?_ <;> (conv=>whnf)))
    all_goals first
     | exact sameAt_val (h2:=_) rfl (sameV_int _)
     | exact sameAt_val (h2:=_) rfl (sameV_ptr _ _)
     | exact sameAt_val (h2:=_) rfl (sameV_slice _ _ _)
     | exact sameAt_val (h2:=_) rfl (sameV_agg2 _ _)
     | exact sameAt_val (h2:=_) (congrArg (hval _) k1) (sameV_int _)
     | exact sameAt_val (h2:=_) (congrArg (hval _) k1) (sameV_slice _ _ _)
     | exact sameAt_val (h2:=_) (congrArg (hval _) k2) (sameV_int _)
     | exact sameAt_val (h2:=_) (congrArg (hval _) k2) (sameV_slice _ _ _)
     | exact sameAt_val (h2:=_) (congrArg (hval _) k3) (sameV_int _)
     | exact sameAt_val (h2:=_) (congrArg (hval _) k3) (sameV_slice _ _ _)
     | exact sameAt_val (h2:=_) (congrArg (hval _) k4) (sameV_int _)
     | exact sameAt_val (h2:=_) (congrArg (hval _) k4) (sameV_slice _ _ _)
     | exact sameAt_val (h2:=_) (congrArg (hval _) k5) (sameV_int _)
     | exact sameAt_val (h2:=_) (congrArg (hval _) k5) (sameV_slice _ _ _)
     | exact sameAt_val (h2:=_) (congrArg (hval _) l1) (sameV_int _)
     | exact sameAt_val (h2:=_) (congrArg (hval _) l1) (sameV_slice _ _ _)
     | exact sameAt_val (h2:=_) (congrArg (hval _) l2) (sameV_int _)
     | exact sameAt_val (h2:=_) (congrArg (hval _) l2) (sameV_slice _ _ _)
     | exact sameAt_val (h2:=_) (congrArg (hval _) l3) (sameV_int _)
     | exact sameAt_val (h2:=_) (congrArg (hval _) l3) (sameV_slice _ _ _)
     | exact sameAt_val (h2:=_) (congrArg (hval _) l4) (sameV_int _)
     | exact sameAt_val (h2:=_) (congrArg (hval _) l4) (sameV_slice _ _ _)
     | exact sameAt_val (h2:=_) (congrArg (hval _) l5) (sameV_int _)
     | exact sameAt_val (h2:=_) (congrArg (hval _) l5) (sameV_slice _ _ _)
     | exact sameAt_val (h2:=_) (congrArg (hval _) p1) (sameV_int _)
     | exact sameAt_val (h2:=_) (congrArg (hval _) p1) (sameV_slice _ _ _)
     | exact sameAt_val (h2:=_) (congrArg (hval _) p2) (sameV_int _)
     | exact sameAt_val (h2:=_) (congrArg (hval _) p2) (sameV_slice _ _ _)
     | exact sameAt_val (h2:=_) (congrArg (hval _) p3) (sameV_int _)
     | exact sameAt_val (h2:=_) (congrArg (hval _) p3) (sameV_slice _ _ _)
     | exact sameAt_val (h2:=_) (congrArg (hval _) p4) (sameV_int _)
     | exact sameAt_val (h2:=_) (congrArg (hval _) p4) (sameV_slice _ _ _)
     | exact sameAt_val (h2:=_) (congrArg (hval _) p5) (sameV_int _)
     | exact sameAt_val (h2:=_) (congrArg (hval _) p5) (sameV_slice _ _ _)
     | exact sameAt_val (h2:=_) (show hval _ (idxSV 1 (.slice (some ⟨_,_,_⟩) _ _) (int _)) = _ from idxS_val' hsp1 ⟨by omega,by omega⟩) (sameV_ptr _ _)
     | exact sameAt_val (h2:=_) (show hval _ (idxSV 1 (.slice (some ⟨_,_,_⟩) _ _) (int _)) = _ from idxS_val' hsp2 ⟨by omega,by omega⟩) (sameV_ptr _ _)
     | exact sameAt_val (h2:=_) (show hval _ (idxSV 1 (.slice (some ⟨_,_,_⟩) _ _) (int _)) = _ from idxS_val' hsp4 ⟨by omega,by omega⟩) (sameV_ptr _ _)
     | exact ⟨_,rfl,Hp.at_lay_self _ _,rfl⟩
     | exact sameAt_val (h2:=_) (show hval _ (arK .i64 .rem _ _) = _ from rem_val2 (by omega) em) (sameV_int _)
     | exact sameAt_val (h2:=_) (show hval _ (arK .i64 .quo _ _) = _ from quo_val (by omega) ed (by omega)) (sameV_int _)
     | trace_state
   exact ⟨(_,K2),⟨rfl,rfl,rfl,rfl,rfl,rfl,rfl,trivial⟩,⟨rfl,hz2',hb2'⟩,rfl⟩
  rintro ⟨w2,K2⟩ φ7 _ ⟨rfl,hz2,hb2'⟩
  dsimp only at hz2 hb2' ⊢
  conv=>whnf
  repeat (refine SeqP.go ?_; conv=>whnf)
  refine ⟨((r + 1:Nat):Int),wie (by omega) (by omega),?_⟩
  conv=>whnf
  exact Rnd.mk (r + 1,w2,K2) ⟨by show r + 1≤B; omega,hz2,hb2'⟩ (by show B - (r + 1) < B - r; omega) ⟨rfl,rfl,rfl,rfl,rfl,rfl,rfl,trivial⟩ (Hp.Le.refl _) rfl
 rintro ⟨w,K⟩ φ6 _ ⟨rfl,hzK,hwK⟩
 dsimp only at hzK hwK ⊢
 have hRl:=sqR_len m s
 have hws:=hwK.slice
 obtain ⟨aw,ew,-⟩:=hws
 subst ew
 have hnv:=hzK.next_ok
 obtain ⟨ay,env⟩:=hnv
 subst env
 have z2:=cellAt_row (o:=2) hzK.z rfl
 conv=>whnf
 refine SeqP.cut (α:=Unit) (fun q=>[(8,.slice ay (sqR m s).length (sqR m s).length),(6,.slice aw (sqN m s B).length (sqN m s B).length),(5,int s),(4,ptr Z 0),(3,int m.base),(2,ptr (h.next + 1) 0),(1,ptr h.next 0)]) (fun q H7=>K = H7) ?_ ?_
 ·conv=>whnf
  refine ⟨_,z2,?_⟩
  conv=>whnf
  exact ⟨(),⟨rfl,rfl,rfl,rfl,rfl,rfl,rfl,trivial⟩,rfl,rfl⟩
 rintro _ φ7 _ rfl
 conv=>whnf
 repeat (refine SeqP.go ?_; conv=>whnf)
 refine hzK.n_app (i:=0) (by omega) rfl hwK.b ?_
 intro nv9 K9 hnv9 hz9 kv9
 obtain ⟨a9,n9,rfl⟩:=hnv9
 conv=>whnf
 refine ⟨rfl,_,storeAt_row hz9.z (by simp) rfl,?_⟩
 have hz10:=hz9.put [int B,.slice ao m.out.length co,.slice a9 n9 n9]
 have hz11:=hz10.1
 rw [show sqR m s ++ [sqN m s B] = sqR m (s + 1) from by rw [sqR_succ,eB]] at hz11
 conv=>whnf
 repeat (refine SeqP.go ?_; conv=>whnf)
 refine ⟨((s + 1:Nat):Int),wie (by omega) (by omega),?_⟩
 conv=>whnf
 exact Rnd.mk (s + 1,_,_,_) ⟨by show s + 1≤m.out.length; omega,hz11⟩ (by show m.out.length - (s + 1) < m.out.length - s; omega) ⟨rfl,rfl,rfl,rfl,rfl,trivial⟩ (Hp.Le.refl _) rfl
end
end Go.Proofs.Ytedneplaibmppaa
namespace Go.Proofs.Ytedneplaibmppaa
open Go.Rx Go.RowKit
attribute [local irreducible] E idxN cellAt cellsAt storeAt callable helems hmoved lookIn findKey keyOk hentries Hp.at Hp.set Hp.lay arBits hupdated setAt CallP YieldP BoolOf IsWrap Rnd LoopP AppP CutP Int.tmod Int.tdiv Int.fdiv
section
variable [Unknowns]
attribute [local irreducible] ResP sameAt
theorem squares_law (ts0:List Tr) (hy0:TyT Try.prog 25 ts0) (a1:Int) (w1:Rx.InR a1):∀ h vs,AllT h vs [.ag ts0,.num a1]→CallP E 9 vs h (fun r _=>r = .bool true):=by
 intro h vs hvs
 match vs,hvs with
 | [v0,v1],hvs =>
 obtain ⟨k0,k1,-⟩:=hvs
 obtain ⟨M,hMb,hML,hM⟩:=mac_arg hy0
 have hM:=hM h v0 k0
 cases k1
 obtain ⟨bx,rfl,hbx⟩:=hM.box
 refine enter9 (by simp) ?_
 conv=>whnf
 refine SeqP.cut (α:=Hp) (fun _=>[(2,ptr h.next 0),(1,int a1)]) (fun s H=>s = H∧H.at h.next = some (.row 25 true bx)∧Grows h H) ?_ ?_
 ·conv=>whnf
  exact ⟨_,⟨rfl,rfl,trivial⟩,⟨rfl,Hp.at_lay_self _ _,Grows.lay _ _⟩,rfl⟩
 rintro H0 φ0 _ ⟨rfl,aX,g0⟩
 conv=>whnf
 refine SeqP.cut (α:=Nat×List Value×Mac×Hp) (fun s=>[(5,ptr s.1 0)]) (fun s H=>s.2.2.2 = H∧OkS s.2.2.1∧H.at s.1 = some (.row 26 true s.2.1)∧Bx H s.2.1 s.2.2.1.i∧Grows H0 H) ?_ ?_
 ·conv=>whnf
  have gl1:Grows H0 (H0.lay (.row 26 true [int 0,nilS,nilS])):=Grows.lay _ _
  have aL:(H0.lay (.row 26 true [int 0,nilS,nilS])).at H0.next = some (.row 26 true [int 0,nilS,nilS]):=Hp.at_lay_self _ _
  have cX:=all_cells (gl1.at_ _ _ aX) hbx.len
  refine ⟨_,cX,?_⟩
  conv=>whnf
  refine CallP.mono (base_spec a1 _) ?_
  rintro r _ ⟨⟨B,rfl,hB1,hB2⟩,rfl⟩
  conv=>whnf
  refine CallP.mono (tame_spec _ M B 12 _ (Bx.mv (hbx.ext (g0.trans gl1))) hML ⟨hB1,hB2⟩ (by omega)) ?_
  rintro r H1 ⟨⟨m,hm,hmb,hml,hw⟩,g1⟩
  have hk:=hw.known
  obtain ⟨p,q,rfl⟩:=hk
  have aL1:=g1.at_ _ _ aL
  have hlt:=Hp.lt_of_at aL1
  have hltL:=Hp.lt_of_at aL
  have cX1:=g1.cells cX
  conv=>whnf
  refine ⟨rfl,_,storeAt_full (vs:=[int m.i.base,.slice p m.i.out.length m.i.out.length,.slice q m.i.next.length m.i.next.length]) aL1 rfl rfl rfl,?_⟩
  have hw2:=hw.put hltL (.row 26 true [int m.i.base,.slice p m.i.out.length m.i.out.length,.slice q m.i.next.length m.i.next.length])
  have aX2:∀ o,(H1.set H0.next o).at h.next = some (.row 25 true bx):=fun o=>by
   have:=Hp.lt_of_at aX
   rw [Hp.at_set_ne _ (by omega)]
   exact g1.at_ _ _ (gl1.at_ _ _ aX)
  have cX2:=fun o=>all_cells (aX2 o) hbx.len
  conv=>whnf
  refine ⟨?_,?_⟩
  ·repeat' (first | exact True.intro | (refine And.intro ?_ ?_ <;> (conv=>whnf)))
   all_goals first
    | exact sameAt_val (h2:=_) rfl (sameV_int _)
    | exact sameAt_val (h2:=_) rfl (sameV_ptr _ _)
    | exact sameAt_val (h2:=_) (congrArg (fun x=>hval _ (aggOf x)) cX) hbx.same
    | exact sameAt_val (h2:=_) (congrArg (fun x=>hval _ (aggOf x)) cX1) hbx.same
    | exact sameAt_val (h2:=_) (congrArg (fun x=>hval _ (aggOf x)) (cX2 _)) hbx.same
    | exact ⟨_,rfl,aL,rfl⟩
    | exact ⟨_,rfl,aL1,rfl⟩
    | exact ⟨_,rfl,Hp.at_set_self _ hlt,rfl⟩
    | trace_state
  exact ⟨(H0.next,_,m,_),⟨rfl,trivial⟩,⟨rfl,hm,Hp.at_set_self _ hlt,hw2.mv.bx,(gl1.trans g1).then_set _ (Nat.le_refl _)⟩,rfl⟩
 rintro ⟨N5,b5,m,H1⟩ φ1 _ ⟨rfl,hm,a5,hb5,g1⟩
 dsimp only at hm a5 hb5 g1 ⊢
 clear aX hbx g0 g1
 conv=>whnf
 refine SeqP.cut (α:=Nat×Int×Hp) (fun s=>[(6,ptr s.1 0),(7,int s.2.1),(5,ptr N5 0)]) (fun s H=>s.2.2 = H∧Grows H1 H∧Ans H s.1 s.2.1 (m.base≠2) (sqM m)) ?_ ?_
 ·conv=>whnf
  refine ⟨_,all_cells a5 hb5.len,?_⟩
  conv=>whnf
  refine CallP.mono (given_spec _ m.i _ (Bx.mv hb5) (lens_of hm)) ?_
  rintro r H2 ⟨hw,g2⟩
  rw [hm.cut] at hw
  have hk:=hw.known
  obtain ⟨p,q,rfl⟩:=hk
  conv=>whnf
  refine CallP.mono (Squared_spec _ m _ hw.mv hm) ?_
  rintro r K ⟨⟨hbad,hgood⟩,g⟩
  have hk:=ans_of hbad hgood
  obtain ⟨x,y,z,e,rfl,ho,hans⟩:=hk
  conv=>whnf
  refine ⟨rfl,_,storeAt_all (vs:=[x,y,z]) rfl ho rfl,?_⟩
  conv=>whnf
  exact ⟨(K.next,e,_),⟨rfl,rfl,rfl,trivial⟩,⟨rfl,(g2.trans g).then_lay _,hans⟩,rfl⟩
 rintro ⟨N6,e6,H2⟩ φ2 _ ⟨rfl,g2,s6⟩
 dsimp only at g2 s6 ⊢
 have a5:=g2.at_ _ _ a5
 have hb5:=hb5.ext g2
 clear g2
 obtain ⟨ao,an,co,cn,hcx⟩:=hb5.cx
 have c0:cellAt H2 N5 0 = some (int (m.base:Int)):=(hcx H2 N5 26 (.refl _) a5).c0
 obtain ⟨bq,lq,tq,yq,hq1,hq2⟩:=s6
 have cq:=all_cells tq lq
 have c5:=all_cells a5 hb5.len
 have y5:=hb5.same
 by_cases hB:m.base≠2
 ·have hq:=hq1 hB
  obtain ⟨ee,ebx⟩:=hq
  subst ebx
  subst ee
  conv=>whnf
  refine SeqP.go ?_
  conv=>whnf
  refine ⟨_,c0,?_⟩
  conv=>whnf
  refine cmpT (by omega) ?_
  conv=>whnf
  repeat (refine SeqP.go ?_; conv=>whnf)
  refine cmpT rfl ?_
  conv=>whnf
  refine ⟨_,cq,?_⟩
  conv=>whnf
  refine CallP.mono (empty_spec _ no0 _ (noM_mv _)) ?_
  rintro _ K1 ⟨⟨x,rfl,hx⟩,gk⟩
  cases x with
  | false=>exact absurd rfl hx.f
  | true =>
   conv=>whnf
   refine CallP.mono (awake_spec _) ?_
   rintro r G3 ⟨rfl,g3⟩
   conv=>whnf
   repeat (refine SeqP.go ?_; conv=>whnf)
   rfl
 have hb2:m.base = 2:=by omega
 have hq:=hq2 hB
 have hz:=sqM_zer hm.ok hm.zer
 have hok:=sqM_ok hm.ok
 have hbs:(sqM m).base = 4:=by show m.base * m.base = 4; rw [hb2]
 have hn12:=hm.n12
 have hev:OkB (sqM m):=⟨hok,hm.outs,by omega,by show m.out.length≤10000; omega⟩
 have hes:(sqM m).form.out.length≤12→OkS (sqM m).form:=fun n12=>Mac.form_s hok hz (by omega) (by omega) hm.outs n12
 conv=>whnf
 refine SeqP.cut (α:=Unit) (fun s=>[(6,ptr N6 0),(7,int e6),(5,ptr N5 0)]) (fun s H=>H2 = H) ?_ ?_
 ·conv=>whnf
  refine SeqP.go ?_
  conv=>whnf
  refine ⟨_,c0,?_⟩
  conv=>whnf
  refine cmpF (by omega) ?_
  conv=>whnf
  exact ⟨(),⟨rfl,rfl,rfl,trivial⟩,rfl,rfl⟩
 rintro _ φ3 _ rfl
 conv=>whnf
 repeat (refine SeqP.go ?_; conv=>whnf)
 refine ⟨_,cq,?_⟩
 conv=>whnf
 refine ⟨_,c5,?_⟩
 conv=>whnf
 refine CallP.mono (RSquared_spec _ m _ (Bx.mv hb5) hm) ?_
 rintro r K1 ⟨hw,gk⟩
 have hwk:=hw.box
 obtain ⟨b1,rfl,hb1⟩:=hwk
 have cqa:=gk.cells cq
 have c5a:=gk.cells c5
 conv=>whnf
 refine CallP.mono (right_spec _ _ e6 _ _ hw hev (fun n12=>⟨((hq.1 n12).1),(hq.1 n12).2.ext gk,hes n12⟩) (fun n12=>⟨(hq.2 n12).1,congrArg (fun b:List Value=>Value.agg ⟨b⟩) (hq.2 n12).2⟩)) ?_
 rintro r K2 ⟨rfl,gk2⟩
 have cqb:=gk2.cells cqa
 have c5b:=gk2.cells c5a
 conv=>whnf
 refine CallP.mono (awake_spec _) ?_
 rintro r K3 ⟨rfl,gk3⟩
 have cqc:=gk3.cells cqb
 have c5c:=gk3.cells c5b
 conv=>whnf
 refine ⟨?_,?_⟩
 ·repeat' (first | exact True.intro | (refine And.intro ?_ ?_ <;> (conv=>whnf)))
  all_goals first
   | exact sameAt_val (h2:=_) rfl (sameV_int _)
   | exact sameAt_val (h2:=_) rfl (sameV_ptr _ _)
   | exact sameAt_val (h2:=_) (congrArg (fun x=>hval _ (aggOf x)) cq) yq
   | exact sameAt_val (h2:=_) (congrArg (fun x=>hval _ (aggOf x)) cqa) yq
   | exact sameAt_val (h2:=_) (congrArg (fun x=>hval _ (aggOf x)) cqb) yq
   | exact sameAt_val (h2:=_) (congrArg (fun x=>hval _ (aggOf x)) cqc) yq
   | exact sameAt_val (h2:=_) (congrArg (fun x=>hval _ (aggOf x)) c5) y5
   | exact sameAt_val (h2:=_) (congrArg (fun x=>hval _ (aggOf x)) c5a) y5
   | exact sameAt_val (h2:=_) (congrArg (fun x=>hval _ (aggOf x)) c5b) y5
   | exact sameAt_val (h2:=_) (congrArg (fun x=>hval _ (aggOf x)) c5c) y5
   | trace_state
 conv=>whnf
 repeat (refine SeqP.go ?_; conv=>whnf)
 rfl
end
end Go.Proofs.Ytedneplaibmppaa
