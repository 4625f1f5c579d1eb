/- Contracts of the functions that POWF comes to. -/
import Derived.Test.YtedneplaibmppaaPOWE
set_option maxRecDepth 100000
set_option maxHeartbeats 2000000
set_option linter.unusedVariables false
set_option linter.unusedSectionVars false
set_option linter.unusedSimpArgs false
namespace Go.Proofs.Ytedneplaibmppaa
open Go.Rx Go.RowKit
theorem sep3 {H:Hp} {Z M r:Nat} (hZ:Z < H.next) (hM:M < H.next) (hr:r < H.next) (h1:Z≠M) (h2:Z≠r) (h3:M≠r) (n c:Nat):Rx.Sep H [pl Z,nilS,nilS,pl M,slc r 0 n c] []:=by
 refine ⟨fun v hv x e=>?_,fun u hu=>by simp at hu,fun i j v u hij hi hj=>?_,fun v hv u hu=>by simp at hu⟩
 ·simp at hv
  rcases hv with rfl | rfl | rfl | rfl
  ·cases e; exact hZ
  ·cases e
  ·cases e; exact hM
  ·cases e; exact hr
 ·match i,j,hi,hj with
  | 0,0,_,_=>exact absurd rfl hij
  | 3,3,_,_=>exact absurd rfl hij
  | 4,4,_,_=>exact absurd rfl hij
  | 0,3,hi,hj=>cases hi; cases hj; intro x e1 e2; cases e1; cases e2; exact h1 rfl
  | 3,0,hi,hj=>cases hi; cases hj; intro x e1 e2; cases e1; cases e2; exact h1 rfl
  | 0,4,hi,hj=>cases hi; cases hj; intro x e1 e2; cases e1; cases e2; exact h2 rfl
  | 4,0,hi,hj=>cases hi; cases hj; intro x e1 e2; cases e1; cases e2; exact h2 rfl
  | 3,4,hi,hj=>cases hi; cases hj; intro x e1 e2; cases e1; cases e2; exact h3 rfl
  | 4,3,hi,hj=>cases hi; cases hj; intro x e1 e2; cases e1; cases e2; exact h3 rfl
  | 1,_,hi,hj=>cases hi; exact Ap.nil _
  | 2,_,hi,hj=>cases hi; exact Ap.nil _
  | 0,1,hi,hj=>cases hj; exact (Ap.nil _).symm
  | 0,2,hi,hj=>cases hj; exact (Ap.nil _).symm
  | 3,1,hi,hj=>cases hj; exact (Ap.nil _).symm
  | 3,2,hi,hj=>cases hj; exact (Ap.nil _).symm
  | 4,1,hi,hj=>cases hj; exact (Ap.nil _).symm
  | 4,2,hi,hj=>cases hj; exact (Ap.nil _).symm
  | 0,j + 5,hi,hj=>simp at hj
  | 3,j + 5,hi,hj=>simp at hj
  | 4,j + 5,hi,hj=>simp at hj
  | i + 5,_,hi,_=>simp at hi
def nI (S:List Nat):List Int:=S.map fun n:Nat=>(n:Int)
theorem nI_len (S:List Nat):(nI S).length = S.length:=by unfold nI; rw [List.length_map]
theorem nI_get {S:List Nat} {i s:Nat} (h:S[i]? = some s):gl (nI S) i = s:=by
 unfold nI gl
 rw [List.getD_eq_getElem?_getD,List.getElem?_map,h]; rfl
theorem nI_app (S:List Nat) (t:Nat):nI (S ++ [t]) = nI S ++ [(t:Int)]:=by unfold nI; rw [List.map_append]; rfl
def prow (m:Mac) (S:List Nat) (s d:Nat):List Int:=(List.range d).map fun e=>((ixOf (clsOf m (rnotes m S s d)) (m.cl (m.nx s e)):Nat):Int)
theorem rnotes_in {m:Mac} {S:List Nat} {s:Nat}:∀ d e,e < d→m.cl (m.nx s e) ∈ clsOf m (rnotes m S s d)
 | d + 1,e,he=>by
  show m.cl (m.nx s e) ∈ clsOf m (rnote m (rnotes m S s d) (m.nx s d))
  rw [rnote_cls]
  by_cases h:e = d
  ·subst h; exact note_mem _ _
  ·exact note_sub (rnotes_in d e (by omega))
theorem prow_succ {m:Mac} {S:List Nat} {s d:Nat}:prow m S s (d + 1) = prow m S s d ++ [((ixOf (clsOf m (rnotes m S s (d + 1))) (m.cl (m.nx s d)):Nat):Int)]:=by
 unfold prow
 rw [List.range_succ,List.map_append]
 congr 1
 refine List.map_congr_left fun e he=>?_
 have he:=List.mem_range.1 he
 have hin:=rnotes_in (m:=m) (S:=S) (s:=s) d e he
 have e1:clsOf m (rnotes m S s (d + 1)) = note (clsOf m (rnotes m S s d)) (m.cl (m.nx s d)):=rnote_cls _ _ _
 rw [e1]
 obtain ⟨r,er⟩:=note_pre (clsOf m (rnotes m S s d)) (m.cl (m.nx s d))
 unfold ixOf
 rw [er,idxOf_app hin]
theorem rrow_stay {m:Mac} (hm:m.Ok) {S S':List Nat} {a:Nat} (k:Rq m S a) {r:List Nat} (e:S' = S ++ r):(S.take a).map (rrow m S') = (S.take a).map (rrow m S):=by
 have hb:=k.bq
 have hcl:clsOf m S' = clsOf m S ++ clsOf m r:=by rw [e]; unfold clsOf; rw [List.map_append]
 have hre:=rowsOf_ext hb.met hb.le hcl
 unfold rowsOf at hre
 have et:(clsOf m S).take a = clsOf m (S.take a):=by unfold clsOf; rw [List.map_take]
 have hle:a≤S.length:=by have:=hb.le; unfold clsOf at this; rw [List.length_map] at this; exact this
 have et':(clsOf m S').take a = clsOf m (S.take a):=by
  rw [hcl,List.take_append_of_le_length hb.le,et]
 rw [et,et'] at hre
 unfold clsOf at hre
 rw [List.map_map,List.map_map] at hre
 refine Eq.trans (List.map_congr_left fun s hs=>?_) (Eq.trans hre (List.map_congr_left fun s hs=>?_))
 ·exact rrow_eq hm S' (k.lt s (List.mem_of_mem_take hs))
 ·exact (rrow_eq hm S (k.lt s (List.mem_of_mem_take hs))).symm
attribute [local irreducible] E idxN cellAt cellsAt storeAt callable helems hmoved lookIn findKey keyOk hentries Hp.at Hp.set Hp.lay arBits hupdated setAt CallP YieldP BoolOf IsWrap Rnd LoopP AppP CutP Int.tmod Int.tdiv Int.fdiv
section
variable [Unknowns]
attribute [local irreducible] ResP sameAt finP
theorem RForm_spec (v:Value) (m:Mac) (h:Hp) (hv:MV h v m.i) (hm:OkB m):CallP E 40 [v] h (fun r h'=>OwnM h h' r m.form.i∧Grows h h'):=by
 obtain ⟨bx,rfl,hbx⟩:=hv.box
 obtain ⟨ao,an,co,cn,hcx⟩:=hbx.cx
 obtain ⟨i3,t3,-,z3⟩:=ty3
 obtain ⟨iM,tM,dM⟩:=ty114
 have hn12:=hm.n
 have hb5:=hm.b
 have hn1:=hm.ok.n1
 have hil:=hm.ok.ilen
 have hcl:=Mac.cls_len hm.ok
 refine enter40 (by simp) ?_
 conv=>whnf
 refine SeqP.cut (α:=Hp) (fun _=>[(1,ptr h.next 0),(2,ptr (h.next + 1) 0)]) (fun x H=>x = H∧Grows h H∧H.at h.next = some (.row 26 true bx)∧H.at (h.next + 1) = some (.row 26 true [int 0,nilS,nilS])∧H.next = h.next + 2) ?_ ?_
 ·conv=>whnf
  have n1:(h.lay (.row 26 true bx)).next = h.next + 1:=Hp.next_lay _ _
  exact ⟨_,⟨rfl,congrArg (fun k=>ptr k 0) n1,trivial⟩,⟨rfl,(Grows.lay _ _).then_lay _,Hp.at_lay_old _ (Hp.at_lay_self _ _),at_nx2 n1 (Hp.at_lay_self _ _),by rw [Hp.next_lay,n1]⟩,rfl⟩
 rintro H φ1 _ ⟨rfl,gH,aX,aR,nH⟩
 have kx:=hcx H h.next 26 gH aX
 have c1:cellAt H h.next 1 = some (.slice ao m.out.length co):=kx.c1
 have hout:∀ x ∈ m.out,0≤x∧x < 65536:=fun x hx=>by have:=hm.outs x hx; omega
 have hsr0:=split_ref (c:=m.out) hm rfl hout fun s t hs ht e=>e
 conv=>whnf
 refine SeqP.cut (α:=Option Addr×Hp) (fun q=>[(3,.slice q.1 m.out.length m.out.length),(1,ptr h.next 0),(2,ptr (h.next + 1) 0)]) (fun q H2=>q.2 = H2∧Grows H q.2∧View q.2 (.slice q.1 m.out.length m.out.length) (m.ref m.out)) ?_ ?_
 ·conv=>whnf
  refine ⟨_,all_cells aX hbx.len,?_⟩
  conv=>whnf
  refine ⟨_,c1,?_⟩
  conv=>whnf
  refine CallP.mono (split_spec _ _ m m.out _ (Bx.mv (hbx.ext gH)) kx.o hm rfl hout) ?_
  rintro r H2 ⟨hr,g2⟩
  rw [hsr0.1] at hr
  have hws:=hr.c.slice
  obtain ⟨a,rfl,-⟩:=hws
  have hv2:=hr.view
  rw [Mac.ref_len] at hv2
  conv=>whnf
  exact ⟨(a,H2),⟨congrArg (fun k=>Value.slice a k k) (Mac.ref_len m m.out),rfl,rfl,trivial⟩,⟨rfl,g2,hv2⟩,rfl⟩
 rintro ⟨a0,H2⟩ φ2 _ ⟨rfl,g2,v2⟩
 dsimp only at g2 v2 ⊢
 have g0:=Mac.Good.start hm.ok
 have hk0:=num_max (ks:=m.keys m.out) (fun e=>by have:=Mac.keys_len m m.out; rw [e] at this; simp at this; omega)
 conv=>whnf
 refine SeqP.cut (α:=Option Addr×Hp) (fun q=>[(3,.slice q.1 m.out.length m.out.length),(1,ptr h.next 0),(2,ptr (h.next + 1) 0)]) (fun q H3=>q.2 = H3∧Grows H q.2∧View q.2 (.slice q.1 m.out.length m.out.length) m.cls) ?_ ?_
 ·conv=>whnf
  repeat (refine SeqP.go ?_; conv=>whnf)
  refine loop_inv (α:=List Int×Nat×Option Addr×Hp) (fun q=>[(3,.slice q.2.2.1 m.out.length m.out.length),(1,ptr h.next 0),(2,ptr (h.next + 1) 0)]) (fun q=>q.2.2.2) (fun q=>Grows H q.2.2.2∧View q.2.2.2 (.slice q.2.2.1 m.out.length m.out.length) q.1∧(∃ f j,Mac.Good m q.1 j q.2.1∧m.clsF f q.1 q.2.1 = m.cls∧m.out.length + 1≤f + q.2.1)∧q.1.foldl max 0 + 1 = (q.2.1:Int)∧(∀ x ∈ q.1,0≤x∧x < 65536)) (fun q=>m.out.length + 1 - q.2.1) (m.ref m.out,m.cnt m.out,a0,H2) ⟨g2,v2,⟨m.out.length,1,g0,rfl,by have:=g0.le; show m.out.length + 1≤m.out.length + m.cnt m.out; omega⟩,hk0,ref_bd m.out hn12⟩ ⟨rfl,rfl,rfl,trivial⟩ (Hp.Le.refl _) ?_
  rintro ⟨c,k,a,G⟩ φ3 ⟨gG,vG,⟨f,j,good,hcls,hf⟩,hmax,hbd⟩
  dsimp only at gG vG good hcls hf hmax hbd ⊢
  have hclen:=good.len
  have hsr:=split_ref (c:=c) hm hclen hbd fun s t hs ht e=>good.out s t hs ht e
  have hmax2:=num_max (ks:=m.keys c) (fun e=>by have:=Mac.keys_len m c; rw [e] at this; simp at this; omega)
  have hkle:k≤m.cnt c:=by have:=Mac.cnt_ge m c; have:=good.cnt; omega
  have hcle:=Mac.cnt_le m c
  conv=>whnf
  repeat (refine SeqP.go ?_; conv=>whnf)
  refine ⟨_,all_cells (gG.at_ _ _ aX) hbx.len,?_⟩
  conv=>whnf
  refine CallP.mono (split_spec _ _ m c _ (Bx.mv (hbx.ext (gH.trans gG))) vG hm hclen hbd) ?_
  rintro r G2 ⟨hr,gG2⟩
  rw [hsr.1] at hr
  have hws:=hr.c.slice
  obtain ⟨a2,rfl,-⟩:=hws
  have v2c:=hr.view
  have hlr:=Mac.ref_len m c
  have hbr:=ref_bd c hn12
  conv=>whnf
  repeat (refine SeqP.go ?_; conv=>whnf)
  refine CallP.mono (count_spec _ (m.ref c) _ v2c (by omega) (fun x hx=>by have:=hbr x hx; omega)) ?_
  rintro _ G3 ⟨rfl,eG⟩
  have eG:=eG.symm
  subst eG
  conv=>whnf
  refine CallP.mono (count_spec _ c _ (vG.ext gG2) (by omega) (fun x hx=>by have:=hbd x hx; omega)) ?_
  rintro _ G4 ⟨rfl,eG⟩
  have eG:=eG.symm
  subst eG
  have hm1:(m.ref c).foldl max 0 + 1 = (m.cnt c:Int):=hmax2
  conv=>whnf
  by_cases hk:m.cnt c = k
  ·refine cmpT (by omega) ?_
   have ecls:c = m.cls:=by
    cases f with
    | zero=>omega
    | succ f =>
     unfold Mac.clsF at hcls
     rw [if_pos hk] at hcls
     exact hcls
   rw [ecls] at vG
   conv=>whnf
   repeat (refine SeqP.go ?_; conv=>whnf)
   exact ⟨(a,G2),⟨rfl,rfl,rfl,trivial⟩,⟨rfl,gG.trans gG2,vG.ext gG2⟩,rfl⟩
  ·refine cmpF (by omega) ?_
   have hnext:∃ f j,Mac.Good m (m.ref c) j (m.cnt c)∧m.clsF f (m.ref c) (m.cnt c) = m.cls∧m.out.length + 1≤f + m.cnt c:=by
    cases f with
    | zero=>omega
    | succ f =>
     unfold Mac.clsF at hcls
     rw [if_neg hk] at hcls
     exact ⟨f,j + 1,good.next hm.ok hk,hcls,by omega⟩
   rw [hlr] at v2c
   conv=>whnf
   repeat (refine SeqP.go ?_; conv=>whnf)
   exact Rnd.mk (m.ref c,m.cnt c,a2,G2) ⟨gG.trans gG2,v2c,hnext,hmax2,hbr⟩ (by show m.out.length + 1 - m.cnt c < m.out.length + 1 - k; omega) ⟨congrArg (fun k=>Value.slice a2 k k) hlr,rfl,rfl,trivial⟩ (Hp.Le.refl _) rfl
 rintro ⟨a,H3⟩ φ3 _ ⟨rfl,g3,v3⟩
 dsimp only at g3 v3 ⊢
 have hc0:=View.cellg v3 (i:=0) (by omega)
 obtain ⟨rc,oc,sc,ea,hsc,-,hc0⟩:=hc0
 subst ea
 have ecl0:gl m.cls 0 = m.cl 0:=rfl
 rw [ecl0] at hc0
 conv=>whnf
 refine SeqP.cut (α:=Nat×Hp) (fun q=>[(5,mapAt q.1),(3,.slice (some ⟨rc,oc,sc⟩) m.out.length m.out.length),(1,ptr h.next 0),(2,ptr (h.next + 1) 0)]) (fun q H4=>q.2 = H4∧Grows H3 H4∧Nums H4 q.1 encI [m.cl 0]∧H3.next≤q.1) ?_ ?_
 ·conv=>whnf
  refine ⟨hsc,⟨by omega,by omega⟩,?_⟩
  conv=>whnf
  refine ⟨_,(Grows.lay _ _).cell hc0,?_⟩
  conv=>whnf
  refine raw_insert tM dM keyI (k:=m.cl 0) (v:=int 0) (n:=0) rfl rfl rfl (MapAt.new _) ?_
  intro H4 hM4 y4
  have gl4:Grows H3 (H3.lay (.map [] 0)):=Grows.lay _ _
  have gk4:Grows H3 H4:=⟨by rw [y4.next]; exact gl4.next,fun r o e=>y4.at_ r o (by have:=Hp.lt_of_at e; omega) (gl4.at_ r o e)⟩
  conv=>whnf
  exact ⟨(H3.next,H4),⟨rfl,rfl,rfl,rfl,trivial⟩,⟨rfl,gk4,hM4.congr fun k=>by
   unfold fN
   by_cases e:k = m.cl 0
   ·rw [if_pos e,if_pos (by rw [e]; simp),e]; simp
   ·rw [if_neg e,if_neg (by simpa using e)],Nat.le_refl _⟩,rfl⟩
 rintro ⟨M,H4⟩ φ4 _ ⟨rfl,g4,hM4,hMge⟩
 dsimp only at g4 hM4 hMge ⊢
 have hltM:M < H4.next:=by
  obtain ⟨_,_,h1,_⟩:=hM4
  exact Hp.lt_of_at h1
 conv=>whnf
 refine SeqP.cut (α:=Hp) (fun q=>[(6,slc H4.next 0 1 1),(5,mapAt M),(3,.slice (some ⟨rc,oc,sc⟩) m.out.length m.out.length),(1,ptr h.next 0),(2,ptr (h.next + 1) 0)]) (fun q H5=>q = H5∧Grows H4 H5∧H5.at H4.next = some (.row 3 true [int 0])∧H5.next = H4.next + 1) ?_ ?_
 ·conv=>whnf
  exact ⟨_,⟨rfl,rfl,rfl,rfl,rfl,trivial⟩,⟨rfl,Grows.lay _ _,Hp.at_lay_self _ _,Hp.next_lay _ _⟩,rfl⟩
 rintro H5 φ5 _ ⟨rfl,g5,a5,n5⟩
 have g15:=(g3.trans g4).trans g5
 have d0:=(hcx H5 h.next 26 (gH.trans g15) (g15.at_ _ _ aX)).c0
 conv=>whnf
 refine SeqP.cut (α:=Hp) (fun q=>[(7,ptr H5.next 0),(6,slc H4.next 0 1 1),(5,mapAt M),(3,.slice (some ⟨rc,oc,sc⟩) m.out.length m.out.length),(1,ptr h.next 0),(2,ptr (h.next + 1) 0)]) (fun q H6=>q = H6∧Grows H5 H6∧H6.at H5.next = some (.row 26 true [int m.base,nilS,nilS])) ?_ ?_
 ·conv=>whnf
  refine ⟨_,d0,?_⟩
  conv=>whnf
  refine ⟨rfl,_,storeAt_all (vs:=[int m.base,nilS,nilS]) rfl rfl rfl,?_⟩
  conv=>whnf
  exact ⟨_,⟨rfl,rfl,rfl,rfl,rfl,rfl,trivial⟩,⟨rfl,Grows.lay _ _,Hp.at_lay_self _ _⟩,rfl⟩
 rintro H6 φ6 _ ⟨rfl,g6,a6⟩
 have hexZ:∃ Z,H5.next = Z:=⟨_,rfl⟩
 obtain ⟨Z,eZ⟩:=hexZ
 have hexr:∃ r6,H4.next = r6:=⟨_,rfl⟩
 obtain ⟨r6,er6⟩:=hexr
 rw [eZ] at a6 ⊢
 rw [er6] at a5 n5 hltM ⊢
 have hltZ:=Hp.lt_of_at a6
 have hn34:=g4.next
 have g36:=(g4.trans g5).trans g6
 have hz6:MZ H3 H6 26 Z nilS nilS [] [] [] [int m.base,nilS,nilS] [pl M,slc r6 0 1 1]:=⟨g36,a6,BuiltC.nil,BuiltC.nil,rfl,fun k u l e=>by simp at e,by omega,sep3 hltZ (by omega) (by omega) (by omega) (by omega) (by omega) 1 1⟩
 have hM6:Nums H6 M encI (clsOf m [0]):=(hM4.ext g5).ext g6
 have hst6:BuiltC H3 H6 3 1 (slc r6 0 1 1) (nI [0]).length ((nI [0]).map int):=⟨rfl,.inr ⟨r6,rfl,by omega,true,g6.at_ _ _ a5⟩⟩
 have rq0:=Rq.start hm.ok
 have gh3:=gH.trans g3
 have aX3:=g3.at_ _ _ aX
 have aR3:=g3.at_ _ _ aR
 have hn3:=g3.next
 have hz6':=hz6.more (.refl _) (v:=nilS) fun r e=>by cases e
 have hmem1:∀ w:Value,∀ u:Value,∀ us:List Value,u ∈ [pl M,u,w] ++ us:=fun w u us=>by simp
 clear a5 a6 g4 g5 g6 g36 g15 d0 hM4
 conv=>whnf
 refine SeqP.cut (α:=Value×Value×List Value×List Int×List (List Int)×Hp) (fun q=>[(7,ptr Z 0),(2,ptr (h.next + 1) 0)]) (fun q H7=>q.2.2.2.2.2 = H7∧∃ rs,MZ H3 q.2.2.2.2.2 26 Z q.1 q.2.1 q.2.2.2.1 q.2.2.1 q.2.2.2.2.1 [int m.base,q.1,q.2.1] rs∧m.form.i = ⟨m.base,q.2.2.2.1,q.2.2.2.2.1⟩) ?_ ?_
 rotate_left
 ·rintro ⟨ov,nv,us,O,N,H7⟩ φ7 _ ⟨rfl,rs,hz7,ef⟩
  dsimp only at hz7 ef ⊢
  have hov:=hz7.out_ok
  obtain ⟨ax,rfl⟩:=hov
  have hnv:=hz7.next_ok
  obtain ⟨ay,rfl⟩:=hnv
  have aR7:=hz7.gr.at_ _ _ aR3
  conv=>whnf
  repeat (refine SeqP.go ?_; conv=>whnf)
  refine ⟨_,all_cells hz7.z rfl,?_⟩
  conv=>whnf
  refine ⟨rfl,_,storeAt_full (vs:=[int m.base,.slice ax O.length O.length,.slice ay N.length N.length]) aR7 rfl rfl rfl,?_⟩
  conv=>whnf
  repeat (refine SeqP.go ?_; conv=>whnf)
  obtain ⟨iR,tR,agR,szR⟩:=ty26
  refine leave_cell (r:=h.next + 1) (o:=0) (cs:=[int m.base,.slice ax O.length O.length,.slice ay N.length N.length]) rfl tR agR ?_ ?_
  ·rw [szR]
   exact all_cells (Hp.at_set_self _ (Hp.lt_of_at aR7)) rfl
  ·rw [ef]
   exact hz7.leave (h:=h) (R:=h.next + 1) (by omega) (by omega) gh3 m.base (.row 26 true [int m.base,.slice ax O.length O.length,.slice ay N.length N.length])
 conv=>whnf
 repeat (refine SeqP.go ?_; conv=>whnf)
 refine loop_inv (α:=List Nat×Nat×Value×Value×Value×List Value×Hp) (fun q=>[(8,int q.2.1),(7,ptr Z 0),(6,q.2.2.1),(5,mapAt M),(3,.slice (some ⟨rc,oc,sc⟩) m.out.length m.out.length),(1,ptr h.next 0),(2,ptr (h.next + 1) 0)]) (fun q=>q.2.2.2.2.2.2) (fun q=>Rq m q.1 q.2.1∧MZ H3 q.2.2.2.2.2.2 26 Z q.2.2.2.1 q.2.2.2.2.1 ((q.1.take q.2.1).map m.o) q.2.2.2.2.2.1 ((q.1.take q.2.1).map (rrow m q.1)) [int m.base,q.2.2.2.1,q.2.2.2.2.1] [pl M,q.2.2.1,nilS]∧Nums q.2.2.2.2.2.2 M encI (clsOf m q.1)∧BuiltC H3 q.2.2.2.2.2.2 3 1 q.2.2.1 (nI q.1).length ((nI q.1).map int)) (fun q=>20000 - q.2.1) ([0],0,slc r6 0 1 1,nilS,nilS,[],H6) ⟨rq0,hz6',hM6,hst6⟩ ⟨rfl,rfl,rfl,rfl,rfl,rfl,rfl,trivial⟩ (Hp.Le.refl _) ?_
 rintro ⟨S,a,u6,ov,nv,us,G⟩ φ7 ⟨rq,hz,hM,hst⟩
 dsimp only at rq hz hM hst ⊢
 have hSl:S.length≤m.out.length:=by
  have:=rq.bq.few
  unfold clsOf at this
  rw [List.length_map,hcl] at this
  exact this
 have hale:a≤S.length:=by have:=rq.bq.le; unfold clsOf at this; rw [List.length_map] at this; exact this
 have hSI:=nI_len S
 have hws:=hst.slice
 obtain ⟨au,eu,hau⟩:=hws
 subst eu
 conv=>whnf
 repeat (refine SeqP.go ?_; conv=>whnf)
 refine cmpB (fun q1=>?_) (fun q1=>?_)
 rotate_left
 ·have hfull:S.length≤a:=by omega
  have ef:=rq.form hm.ok hfull
  rw [List.take_of_length_le hfull] at hz
  conv=>whnf
  repeat (refine SeqP.go ?_; conv=>whnf)
  exact ⟨(ov,nv,us,S.map m.o,S.map (rrow m S),G),⟨rfl,rfl,trivial⟩,⟨rfl,_,hz,ef⟩,rfl⟩
 have haS:a < S.length:=by omega
 have hs:=List.getElem?_eq_getElem haS
 have hexs:∃ s,S[a] = s:=⟨_,rfl⟩
 obtain ⟨s,es⟩:=hexs
 rw [es] at hs
 have hsl:=rq.lt s (List.mem_of_getElem? hs)
 have hvS:View G (.slice au (nI S).length (nI S).length) (nI S):=Built.view (h0:=H3) (e:=3) hst.b
 have hcs:=View.cellg hvS (i:=a) (by omega)
 obtain ⟨r1,o1,sp1,ea,hsp1,-,hc1⟩:=hcs
 subst ea
 rw [nI_get hs] at hc1
 conv=>whnf
 refine SeqP.go ?_
 conv=>whnf
 refine SeqP.cut (α:=Unit) (fun q=>[(9,int s),(8,int a),(7,ptr Z 0),(6,.slice (some ⟨r1,o1,sp1⟩) (nI S).length (nI S).length),(5,mapAt M),(3,.slice (some ⟨rc,oc,sc⟩) m.out.length m.out.length),(1,ptr h.next 0),(2,ptr (h.next + 1) 0)]) (fun q H7=>G = H7) ?_ ?_
 ·conv=>whnf
  refine ⟨hsp1,⟨by omega,by omega⟩,?_⟩
  conv=>whnf
  refine ⟨_,hc1,?_⟩
  conv=>whnf
  exact ⟨(),⟨rfl,rfl,rfl,rfl,rfl,rfl,rfl,rfl,trivial⟩,rfl,rfl⟩
 rintro _ φ8 _ rfl
 have hclen:m.cls.length = m.out.length:=hcl
 have hbM:∀ d,d≤m.base→(rnotes m S s d).length≤m.out.length:=fun d hd=>by
  have h1:=notesN_few (Mac.form_fin hm.ok) rq.bq (s:=m.cl s) (List.mem_of_getElem? (Mac.cl_get hm.ok hsl)) hd
  rw [← rnotes_cls hm.ok S hsl d hd,hcl] at h1
  unfold clsOf at h1
  rw [List.length_map] at h1
  exact h1
 conv=>whnf
 refine SeqP.go ?_
 conv=>whnf
 refine SeqP.cut (α:=Value×Value×Hp) (fun q=>[(10,q.2.1),(9,int s),(8,int a),(7,ptr Z 0),(6,q.1),(5,mapAt M),(3,.slice (some ⟨rc,oc,sc⟩) m.out.length m.out.length),(1,ptr h.next 0),(2,ptr (h.next + 1) 0)]) (fun q H7=>q.2.2 = H7∧MZ H3 q.2.2 26 Z ov nv ((S.take a).map m.o) us ((S.take a).map (rrow m S)) [int m.base,ov,nv] [pl M,q.1,q.2.1]∧Nums q.2.2 M encI (clsOf m (rnotes m S s m.base))∧BuiltC H3 q.2.2 3 1 q.1 (nI (rnotes m S s m.base)).length ((nI (rnotes m S s m.base)).map int)∧BuiltC H3 q.2.2 3 1 q.2.1 (prow m S s m.base).length ((prow m S s m.base).map int)) ?_ ?_
 ·conv=>whnf
  repeat (refine SeqP.go ?_; conv=>whnf)
  refine loop_inv (α:=Nat×Value×Value×Hp) (fun q=>[(11,int q.1),(10,q.2.2.1),(9,int s),(8,int a),(7,ptr Z 0),(6,q.2.1),(5,mapAt M),(3,.slice (some ⟨rc,oc,sc⟩) m.out.length m.out.length),(1,ptr h.next 0),(2,ptr (h.next + 1) 0)]) (fun q=>q.2.2.2) (fun q=>q.1≤m.base∧MZ H3 q.2.2.2 26 Z ov nv ((S.take a).map m.o) us ((S.take a).map (rrow m S)) [int m.base,ov,nv] [pl M,q.2.1,q.2.2.1]∧Nums q.2.2.2 M encI (clsOf m (rnotes m S s q.1))∧BuiltC H3 q.2.2.2 3 1 q.2.1 (nI (rnotes m S s q.1)).length ((nI (rnotes m S s q.1)).map int)∧BuiltC H3 q.2.2.2 3 1 q.2.2.1 (prow m S s q.1).length ((prow m S s q.1).map int)) (fun q=>m.base - q.1) (0,_,nilS,G) ⟨Nat.zero_le _,hz,hM,hst,BuiltC.nil⟩ ⟨rfl,rfl,rfl,rfl,rfl,rfl,rfl,rfl,rfl,rfl,trivial⟩ (Hp.Le.refl _) ?_
  rintro ⟨d,u,w,K⟩ φ9 ⟨hd,hzK,hMK,huK,hwK⟩
  dsimp only at hd hzK hMK huK hwK ⊢
  have kK:=hcx K h.next 26 (gh3.trans hzK.gr) (hzK.gr.at_ _ _ aX3)
  have f0:cellAt K h.next 0 = some (int (m.base:Int)):=kK.c0
  have f2:=kK.c2
  have hexT:∃ T,rnotes m S s d = T:=⟨_,rfl⟩
  obtain ⟨T,eT⟩:=hexT
  rw [eT] at hMK huK
  have hus:=huK.slice
  obtain ⟨au2,eu2,-⟩:=hus
  subst eu2
  have hws2:=hwK.slice
  obtain ⟨aw2,ew2,-⟩:=hws2
  subst ew2
  conv=>whnf
  repeat (refine SeqP.go ?_; conv=>whnf)
  refine ⟨_,f0,?_⟩
  conv=>whnf
  refine cmpB (fun q2=>?_) (fun q2=>?_)
  rotate_left
  ·have:d = m.base:=by omega
   subst this
   conv=>whnf
   repeat (refine SeqP.go ?_; conv=>whnf)
   exact ⟨(_,_,K),⟨rfl,rfl,rfl,rfl,rfl,rfl,rfl,rfl,rfl,trivial⟩,⟨rfl,hzK,by rw [eT]; exact hMK,by rw [eT]; exact huK,hwK⟩,rfl⟩
  have hd':d < m.base:=by omega
  have hnl:=hm.ok.lt s d hsl hd'
  have hnx:=kK.nextAt hm.ok hsl hd'
  obtain ⟨r5,o5,sp5,r7,o7,sp7,c7',ea,hsp5,hc5,hsp7,hc7⟩:=hnx
  subst ea
  have hext:∃ t,m.nx s d = t:=⟨_,rfl⟩
  obtain ⟨t,et⟩:=hext
  rw [et] at hc7 hnl
  have hSd:=hbM d (by omega)
  have hSd1:=hbM (d + 1) (by omega)
  have eS1:rnotes m S s (d + 1) = rnote m (rnotes m S s d) t:=by rw [← et]; rfl
  have ePr:prow m S s (d + 1) = prow m S s d ++ [((ixOf (clsOf m (rnotes m S s (d + 1))) (m.cl t):Nat):Int)]:=by rw [prow_succ,et]
  rw [eT] at hSd eS1
  have hexT1:∃ T1,rnotes m S s (d + 1) = T1:=⟨_,rfl⟩
  obtain ⟨T1,eT1⟩:=hexT1
  have hTin:m.cl t ∈ clsOf m T1:=by rw [← eT1,eS1,rnote_cls]; exact note_mem _ _
  rw [eT1] at hSd1 eS1 ePr
  have hnI:=nI_len T
  have hct:=View.cellg (v3.ext hzK.gr) (i:=t) (by omega)
  obtain ⟨r8,o8,sp8,ea,-,-,hc8⟩:=hct
  injection ea with ea
  injection ea with ea1 ea2 ea3
  subst ea1
  subst ea2
  subst ea3
  have eclt:gl m.cls t = m.cl t:=rfl
  rw [eclt] at hc8
  have hpl:(prow m S s d).length = d:=by unfold prow; rw [List.length_map,List.length_range]
  conv=>whnf
  refine SeqP.go ?_
  conv=>whnf
  refine SeqP.cut (α:=Unit) (fun q=>[(12,int t),(11,int d),(10,.slice aw2 (prow m S s d).length (prow m S s d).length),(9,int s),(8,int a),(7,ptr Z 0),(6,.slice au2 (nI T).length (nI T).length),(5,mapAt M),(3,.slice (some ⟨rc,oc,sc⟩) m.out.length m.out.length),(1,ptr h.next 0),(2,ptr (h.next + 1) 0)]) (fun q H7=>K = H7) ?_ ?_
  ·conv=>whnf
   refine ⟨_,f2,?_⟩
   conv=>whnf
   refine ⟨hsp5,⟨by omega,by omega⟩,?_⟩
   conv=>whnf
   refine ⟨_,hc5,?_⟩
   conv=>whnf
   refine ⟨hsp7,⟨by omega,by omega⟩,?_⟩
   conv=>whnf
   refine ⟨_,hc7,?_⟩
   conv=>whnf
   exact ⟨(),⟨rfl,rfl,rfl,rfl,rfl,rfl,rfl,rfl,rfl,rfl,rfl,trivial⟩,rfl,rfl⟩
  rintro _ φ10 _ rfl
  conv=>whnf
  refine SeqP.cut (α:=Value×Hp) (fun q=>[(12,int t),(11,int d),(10,.slice aw2 (prow m S s d).length (prow m S s d).length),(9,int s),(8,int a),(7,ptr Z 0),(6,q.1),(5,mapAt M),(3,.slice (some ⟨rc,oc,sc⟩) m.out.length m.out.length),(1,ptr h.next 0),(2,ptr (h.next + 1) 0)]) (fun q H7=>q.2 = H7∧MZ H3 q.2 26 Z ov nv ((S.take a).map m.o) us ((S.take a).map (rrow m S)) [int m.base,ov,nv] [pl M,q.1,.slice aw2 (prow m S s d).length (prow m S s d).length]∧Nums q.2 M encI (clsOf m T1)∧BuiltC H3 q.2 3 1 q.1 (nI T1).length ((nI T1).map int)∧BuiltC H3 q.2 3 1 (.slice aw2 (prow m S s d).length (prow m S s d).length) (prow m S s d).length ((prow m S s d).map int)) ?_ ?_
  ·by_cases hin:m.cl t ∈ clsOf m T
   ·have e1:T1 = T:=by rw [eS1]; unfold rnote; rw [if_pos hin]
    rw [e1]
    conv=>whnf
    refine SeqP.go ?_
    conv=>whnf
    refine ⟨hsc,⟨by omega,by omega⟩,?_⟩
    conv=>whnf
    refine ⟨_,hc8,?_⟩
    conv=>whnf
    refine raw_look2_some tM dM t3 z3 keyI (k:=m.cl t) rfl rfl hMK (fN_some hin) ?_
    conv=>whnf
    repeat (refine SeqP.go ?_; conv=>whnf)
    exact ⟨(_,K),⟨rfl,rfl,rfl,rfl,rfl,rfl,rfl,rfl,rfl,rfl,rfl,trivial⟩,⟨rfl,hzK,hMK,huK,hwK⟩,rfl⟩
   ·have e1:T1 = T ++ [t]:=by rw [eS1]; unfold rnote; rw [if_neg hin]
    have e2:clsOf m T1 = clsOf m T ++ [m.cl t]:=by rw [e1]; unfold clsOf; rw [List.map_append]; rfl
    have hcT:(clsOf m T).length = T.length:=by unfold clsOf; rw [List.length_map]
    conv=>whnf
    refine SeqP.go ?_
    conv=>whnf
    refine ⟨hsc,⟨by omega,by omega⟩,?_⟩
    conv=>whnf
    refine ⟨_,hc8,?_⟩
    conv=>whnf
    refine raw_look2_none tM dM t3 z3 keyI (k:=m.cl t) rfl rfl hMK (fN_none hin) ?_
    conv=>whnf
    repeat (refine SeqP.go ?_; conv=>whnf)
    refine ⟨hsc,⟨by omega,by omega⟩,?_⟩
    conv=>whnf
    refine ⟨_,hc8,?_⟩
    conv=>whnf
    refine raw_update tM dM keyI (k:=m.cl t) (v:=int (nI T).length) rfl rfl rfl hMK ?_
    intro K1 hM1 y1
    rw [hnI.trans hcT.symm] at hM1
    have htz:=hzK.touch (i:=0) (v:=pl M) rfl (Kx.keeps y1) (y1.grows hzK.gr hMge) (by rw [y1.next]; exact Nat.le_refl _)
    have hM1':=Nums.add hin hM1
    have hu1:=htz.2.builtC (v:=.slice au2 (nI T).length (nI T).length) (by simp) huK
    have hw1:=htz.2.builtC (v:=.slice aw2 (prow m S s d).length (prow m S s d).length) (by simp) hwK
    conv=>whnf
    repeat (refine SeqP.go ?_; conv=>whnf)
    refine htz.1.r_app (i:=1) rfl hu1 (by omega) ?_
    intro u' K2 hu' hb2 hz2' kv2
    obtain ⟨a9,n9,rfl⟩:=hu'
    have hM2':=kv2.map (M:=M) (by simp) hM1'
    have hw2:=kv2.builtC (v:=.slice aw2 (prow m S s d).length (prow m S s d).length) (by simp) hw1
    conv=>whnf
    exact ⟨(_,K2),⟨rfl,rfl,rfl,rfl,rfl,rfl,rfl,rfl,rfl,rfl,rfl,trivial⟩,⟨rfl,hz2',by rw [e2]; exact hM2',by rw [e1,nI_app]; exact hb2,hw2⟩,rfl⟩
  rintro ⟨u2,K1⟩ φ11 _ ⟨rfl,hz1,hM1,hu1,hw1⟩
  dsimp only at hz1 hM1 hu1 hw1 ⊢
  have hc8':=View.cellg (v3.ext hz1.gr) (i:=t) (by omega)
  obtain ⟨r9,o9,sp9,ea,-,-,hc9⟩:=hc8'
  injection ea with ea
  injection ea with ea1 ea2 ea3
  subst ea1
  subst ea2
  subst ea3
  rw [eclt] at hc9
  have hus3:=hu1.slice
  obtain ⟨au3,eu3,-⟩:=hus3
  subst eu3
  conv=>whnf
  refine ⟨hsc,⟨by omega,by omega⟩,?_⟩
  conv=>whnf
  refine ⟨_,hc9,?_⟩
  conv=>whnf
  refine raw_look1_some tM dM t3 z3 keyI (k:=m.cl t) rfl rfl hM1 (fN_some hTin) ?_
  conv=>whnf
  refine hz1.r_app (i:=2) rfl hw1 (by omega) ?_
  intro w' K2 hw' hb2 hz2' kv2
  obtain ⟨a9,n9,rfl⟩:=hw'
  have hM2':=kv2.map (M:=M) (by simp) hM1
  have hu2:=kv2.builtC (v:=.slice au3 (nI T1).length (nI T1).length) (by simp) hu1
  conv=>whnf
  repeat (refine SeqP.go ?_; conv=>whnf)
  refine ⟨((d + 1:Nat):Int),wie (by omega) (by omega),?_⟩
  conv=>whnf
  exact Rnd.mk (d + 1,_,_,K2) ⟨by show d + 1≤m.base; omega,hz2',by show Nums K2 M encI (clsOf m (rnotes m S s (d + 1))); rw [eT1]; exact hM2',by show BuiltC H3 K2 3 1 _ (nI (rnotes m S s (d + 1))).length ((nI (rnotes m S s (d + 1))).map int); rw [eT1]; exact hu2,by show BuiltC H3 K2 3 1 _ (prow m S s (d + 1)).length ((prow m S s (d + 1)).map int); rw [ePr]; exact hb2⟩ (by show m.base - (d + 1) < m.base - d; omega) ⟨rfl,rfl,rfl,rfl,rfl,rfl,rfl,rfl,rfl,rfl,trivial⟩ (Hp.Le.refl _) rfl
 rintro ⟨u2,w2,K⟩ φ9 _ ⟨rfl,hzK,hMK,huK,hwK⟩
 dsimp only at hzK hMK huK hwK ⊢
 have hpre:=rnotes_pre m S s m.base
 obtain ⟨rr,err⟩:=hpre
 have hrqn:=rq.next hm.ok hs
 have hstay:=rrow_stay hm.ok rq err
 have hexS':∃ S',rnotes m S s m.base = S':=⟨_,rfl⟩
 obtain ⟨S',eS'⟩:=hexS'
 have ePR:prow m S s m.base = rrow m S' s:=by rw [← eS']; rfl
 rw [eS'] at hMK huK err hrqn hstay
 rw [ePR] at hwK
 have hs':S'[a]? = some s:=by rw [err,List.getElem?_append_left haS]; exact hs
 have etk:S'.take a = S.take a:=by rw [err,List.take_append_of_le_length hale]
 have eO:((S.take a).map m.o) ++ [m.o s] = (S'.take (a + 1)).map m.o:=by rw [take_snoc hs',List.map_append,etk]; rfl
 have eN:((S.take a).map (rrow m S)) ++ [rrow m S' s] = (S'.take (a + 1)).map (rrow m S'):=by rw [take_snoc hs',List.map_append,etk,hstay]; rfl
 have htl:(S.take a).length = a:=by rw [List.length_take]; omega
 have hus:=huK.slice
 obtain ⟨au2,eu2,-⟩:=hus
 subst eu2
 have hws2:=hwK.slice
 obtain ⟨aw2,ew2,-⟩:=hws2
 subst ew2
 have hov:=hzK.out_ok
 obtain ⟨ax,eov⟩:=hov
 subst eov
 have hnv:=hzK.next_ok
 obtain ⟨ay,env⟩:=hnv
 subst env
 have z1:=cellAt_row (o:=1) hzK.z rfl
 have z2:=cellAt_row (o:=2) hzK.z rfl
 have kK:=hcx K h.next 26 (gh3.trans hzK.gr) (hzK.gr.at_ _ _ aX3)
 have f1:cellAt K h.next 1 = some (.slice ao m.out.length co):=kK.c1
 have hoM:=kK.outM hsl
 obtain ⟨r5,o5,sp5,ea,hsp5,hc5⟩:=hoM
 subst ea
 conv=>whnf
 repeat (refine SeqP.go ?_; conv=>whnf)
 refine ⟨_,z1,?_⟩
 conv=>whnf
 refine ⟨_,z2,?_⟩
 conv=>whnf
 repeat (refine SeqP.go ?_; conv=>whnf)
 refine ⟨_,f1,?_⟩
 conv=>whnf
 refine ⟨hsp5,⟨by omega,by omega⟩,?_⟩
 conv=>whnf
 refine ⟨_,hc5,?_⟩
 conv=>whnf
 refine hzK.o_app (by rw [List.length_map]; omega) ?_
 intro ov7 K7 hov7 hz7 kv7
 obtain ⟨a7,n7,rfl⟩:=hov7
 have hM7:=kv7.map (M:=M) (by simp) hMK
 have hu7:=kv7.builtC (v:=.slice au2 (nI S').length (nI S').length) (by simp) huK
 have hw7:=kv7.builtC (v:=.slice aw2 (rrow m S' s).length (rrow m S' s).length) (by simp) hwK
 conv=>whnf
 refine ⟨rfl,_,storeAt_row hz7.z (by simp) rfl,?_⟩
 have hz8:=hz7.put [int m.base,.slice a7 n7 n7,.slice ay ((S.take a).map (rrow m S)).length ((S.take a).map (rrow m S)).length]
 have hM8:=hz8.2.map (M:=M) (by simp) hM7
 have hu8:=hz8.2.builtC (v:=.slice au2 (nI S').length (nI S').length) (by simp) hu7
 have hw8:=hz8.2.builtC (v:=.slice aw2 (rrow m S' s).length (rrow m S' s).length) (by simp) hw7
 conv=>whnf
 repeat (refine SeqP.go ?_; conv=>whnf)
 refine hz8.1.n_app (i:=2) (by rw [List.length_map]; omega) rfl hw8.b ?_
 intro nv9 K9 hnv9 hz9 kv9
 obtain ⟨a9,n9,rfl⟩:=hnv9
 have hM9:=kv9.map (M:=M) (by simp) hM8
 have hu9:=kv9.builtC (v:=.slice au2 (nI S').length (nI S').length) (by simp) hu8
 conv=>whnf
 refine ⟨rfl,_,storeAt_row hz9.z (by simp) rfl,?_⟩
 have hz10:=hz9.put [int m.base,.slice a7 n7 n7,.slice a9 n9 n9]
 have hM10:=hz10.2.map (M:=M) (by simp) hM9
 have hu10:=hz10.2.builtC (v:=.slice au2 (nI S').length (nI S').length) (by simp) hu9
 have hz11:=hz10.1
 rw [eO,eN] at hz11
 conv=>whnf
 repeat (refine SeqP.go ?_; conv=>whnf)
 refine ⟨((a + 1:Nat):Int),wie (by omega) (by omega),?_⟩
 conv=>whnf
 exact Rnd.mk (S',a + 1,_,_,_,_,_) ⟨hrqn,hz11,hM10,hu10⟩ (by show 20000 - (a + 1) < 20000 - a; omega) ⟨rfl,rfl,rfl,rfl,rfl,rfl,rfl,trivial⟩ (Hp.Le.refl _) rfl
end
end Go.Proofs.Ytedneplaibmppaa
namespace Go.Proofs.Ytedneplaibmppaa
open Go.Rx Go.RowKit
structure Wr (hb H0 H:Hp):Prop where
 gr:Grows hb H
 next:H.next = H0.next
 row:∀ (r:Nat) (x:Bool) (l:List Int),H0.at r = some (.row 3 x (l.map int))→∃ l':List Int,l'.length = l.length∧H.at r = some (.row 3 x (l'.map int))
 oth:∀ (r e:Nat) (x:Bool) (cs:List Value),e≠3→H0.at r = some (.row e x cs)→H.at r = some (.row e x cs)
theorem Wr.refl {hb H:Hp} (g:Grows hb H):Wr hb H H:=⟨g,rfl,fun r x l e=>⟨l,rfl,e⟩,fun r e x cs _ h=>h⟩
theorem Wr.write {hb H0 H:Hp} (k:Wr hb H0 H) {r:Nat} {x:Bool} {l:List Int} (hr:hb.next≤r) (ha:H.at r = some (.row 3 x (l.map int))) (i:Nat) (z:Int):Wr hb H0 (H.set r (.row 3 x ((l.map int).set i (int z)))):=by
 have hlt:=Hp.lt_of_at ha
 refine ⟨k.gr.then_set _ hr,by rw [Hp.next_set]; exact k.next,fun q y l0 e0=>?_,fun q e y cs hne e0=>?_⟩
 ·obtain ⟨l',h1,h2⟩:=k.row q y l0 e0
  by_cases hq:q = r
  ·subst hq
   rw [ha] at h2
   injection h2 with h2
   injection h2 with h2a h2b h2c
   subst h2b
   refine ⟨l.set i z,?_,by rw [Hp.at_set_self _ hlt,List.map_set]⟩
   have:=congrArg List.length h2c
   rw [List.length_map,List.length_map] at this
   rw [List.length_set,this,h1]
  ·exact ⟨l',h1,by rw [Hp.at_set_ne _ hq]; exact h2⟩
 ·have h2:=k.oth q e y cs hne e0
  have hq:q≠r:=fun eq=>by
   subst eq
   rw [ha] at h2
   injection h2 with h2
   injection h2 with h2a
   exact hne h2a.symm
  rw [Hp.at_set_ne _ hq]; exact h2
end Go.Proofs.Ytedneplaibmppaa
namespace Go.Proofs.Ytedneplaibmppaa
open Go.Rx Go.RowKit
attribute [local irreducible] E idxN cellAt cellsAt storeAt callable helems hmoved lookIn findKey keyOk hentries Hp.at Hp.set Hp.lay arBits hupdated setAt CallP YieldP BoolOf IsWrap Rnd LoopP AppP CutP Int.tmod Int.tdiv Int.fdiv
section
variable [Unknowns]
attribute [local irreducible] ResP sameAt
theorem own_law (ts0:List Tr) (hy0:TyT Try.prog 25 ts0) (a1:Int) (w1:Rx.InR a1):∀ h vs,AllT h vs [.ag ts0,.num a1]→CallP E 16 vs h (fun r _=>r = .bool true):=by
 intro h vs hvs
 match vs,hvs with
 | [v0,v1],hvs =>
 obtain ⟨k0,k1,-⟩:=hvs
 obtain ⟨M,hMb,hML,hM⟩:=mac_arg hy0
 have hM:=hM h v0 k0
 cases k1
 obtain ⟨bx,rfl,hbx⟩:=hM.box
 refine enter16 (by simp) ?_
 conv=>whnf
 refine SeqP.cut (α:=Hp) (fun _=>[(2,ptr h.next 0),(1,int a1)]) (fun s H=>s = H∧H.at h.next = some (.row 25 true bx)∧Grows h H) ?_ ?_
 ·conv=>whnf
  exact ⟨_,⟨rfl,rfl,trivial⟩,⟨rfl,Hp.at_lay_self _ _,Grows.lay _ _⟩,rfl⟩
 rintro H0 φ0 _ ⟨rfl,aX,g0⟩
 conv=>whnf
 refine SeqP.cut (α:=Nat×List Value×Mac×Hp) (fun s=>[(5,ptr s.1 0)]) (fun s H=>s.2.2.2 = H∧OkS s.2.2.1∧H.at s.1 = some (.row 26 true s.2.1)∧Bx H s.2.1 s.2.2.1.i∧Grows H0 H) ?_ ?_
 ·conv=>whnf
  have gl1:Grows H0 (H0.lay (.row 26 true [int 0,nilS,nilS])):=Grows.lay _ _
  have aL:(H0.lay (.row 26 true [int 0,nilS,nilS])).at H0.next = some (.row 26 true [int 0,nilS,nilS]):=Hp.at_lay_self _ _
  have cX:=all_cells (gl1.at_ _ _ aX) hbx.len
  refine ⟨_,cX,?_⟩
  conv=>whnf
  refine CallP.mono (base_spec a1 _) ?_
  rintro r _ ⟨⟨B,rfl,hB1,hB2⟩,rfl⟩
  conv=>whnf
  refine CallP.mono (tame_spec _ M B 6 _ (Bx.mv (hbx.ext (g0.trans gl1))) hML ⟨hB1,hB2⟩ (by omega)) ?_
  rintro r H1 ⟨⟨m,hm,hmb,hml,hw⟩,g1⟩
  have hk:=hw.known
  obtain ⟨p,q,rfl⟩:=hk
  have aL1:=g1.at_ _ _ aL
  have hlt:=Hp.lt_of_at aL1
  have hltL:=Hp.lt_of_at aL
  have cX1:=g1.cells cX
  conv=>whnf
  refine ⟨rfl,_,storeAt_full (vs:=[int m.i.base,.slice p m.i.out.length m.i.out.length,.slice q m.i.next.length m.i.next.length]) aL1 rfl rfl rfl,?_⟩
  have hw2:=hw.put hltL (.row 26 true [int m.i.base,.slice p m.i.out.length m.i.out.length,.slice q m.i.next.length m.i.next.length])
  have aX2:∀ o,(H1.set H0.next o).at h.next = some (.row 25 true bx):=fun o=>by
   have:=Hp.lt_of_at aX
   rw [Hp.at_set_ne _ (by omega)]
   exact g1.at_ _ _ (gl1.at_ _ _ aX)
  have cX2:=fun o=>all_cells (aX2 o) hbx.len
  conv=>whnf
  refine ⟨?_,?_⟩
  ·repeat' (first | exact True.intro | (refine And.intro ?_ ?_ <;> (conv=>whnf)))
   all_goals first
    | exact sameAt_val (h2:=_) rfl (sameV_int _)
    | exact sameAt_val (h2:=_) rfl (sameV_ptr _ _)
    | exact sameAt_val (h2:=_) (congrArg (fun x=>hval _ (aggOf x)) cX) hbx.same
    | exact sameAt_val (h2:=_) (congrArg (fun x=>hval _ (aggOf x)) cX1) hbx.same
    | exact sameAt_val (h2:=_) (congrArg (fun x=>hval _ (aggOf x)) (cX2 _)) hbx.same
    | exact ⟨_,rfl,aL,rfl⟩
    | exact ⟨_,rfl,aL1,rfl⟩
    | exact ⟨_,rfl,Hp.at_set_self _ hlt,rfl⟩
    | trace_state
  exact ⟨(H0.next,_,m,_),⟨rfl,trivial⟩,⟨rfl,hm,Hp.at_set_self _ hlt,hw2.mv.bx,(gl1.trans g1).then_set _ (Nat.le_refl _)⟩,rfl⟩
 rintro ⟨N5,b5,m,H1⟩ φ1 _ ⟨rfl,hm,a5,hb5,g1⟩
 dsimp only at hm a5 hb5 g1 ⊢
 clear aX hbx g0 g1
 have hlen:=Mac.form_len hm.ok
 have hn12:=hm.n12
 have hFs:OkS m.form:=Mac.form_s hm.ok hm.zer hm.b2 hm.b5 hm.outs (by omega)
 conv=>whnf
 refine SeqP.cut (α:=Nat×List Value×Hp) (fun s=>[(6,ptr s.1 0),(5,ptr N5 0)]) (fun s H=>s.2.2 = H∧H.at s.1 = some (.row 25 true s.2.1)∧Bx H s.2.1 m.i∧Grows H1 H) ?_ ?_
 ·conv=>whnf
  refine ⟨_,all_cells a5 hb5.len,?_⟩
  conv=>whnf
  refine CallP.mono (given_spec _ m.i _ (Bx.mv hb5) (lens_of hm)) ?_
  rintro r H2 ⟨hw,g2⟩
  rw [hm.cut] at hw
  have hk:=hw.known
  obtain ⟨p,q,rfl⟩:=hk
  conv=>whnf
  refine ⟨rfl,_,storeAt_all (vs:=[int m.i.base,.slice p m.i.out.length m.i.out.length,.slice q m.i.next.length m.i.next.length]) rfl rfl rfl,?_⟩
  conv=>whnf
  exact ⟨(H2.next,_,_),⟨rfl,rfl,trivial⟩,⟨rfl,Hp.at_lay_self _ _,(hw.mv.ext (Grows.lay _ _)).bx,g2.then_lay _⟩,rfl⟩
 rintro ⟨N6,b6,H2⟩ φ2 _ ⟨rfl,a6,hb6,g2⟩
 dsimp only at a6 hb6 g2 ⊢
 have a5:=g2.at_ _ _ a5
 have hb5:=hb5.ext g2
 clear g2
 have hexF:∃ F,m.form = F:=⟨_,rfl⟩
 obtain ⟨F,eF⟩:=hexF
 rw [eF] at hFs hlen
 have hFn:=hFs.ok.n1
 have hFn12:=hFs.n12
 have hFil:=hFs.ok.ilen
 conv=>whnf
 refine SeqP.cut (α:=Nat×Option Addr×Option Addr×Hp) (fun s=>[(7,ptr s.1 0),(8,int 0),(6,ptr N6 0),(5,ptr N5 0)]) (fun s H=>s.2.2.2 = H∧H.at s.1 = some (.row 25 true [int F.i.base,.slice s.2.1 F.out.length F.out.length,.slice s.2.2.1 F.i.next.length F.i.next.length])∧OwnM H2 H (.agg ⟨[int F.i.base,.slice s.2.1 F.out.length F.out.length,.slice s.2.2.1 F.i.next.length F.i.next.length]⟩) F.i∧Grows H2 H) ?_ ?_
 ·conv=>whnf
  refine ⟨_,all_cells a6 hb6.len,?_⟩
  conv=>whnf
  refine CallP.mono (Form_spec _ m _ (Bx.mv hb6) hm) ?_
  rintro r H3 ⟨⟨u,rfl,hu⟩,g3⟩
  rw [eF] at hu
  have hk:=hu.known
  obtain ⟨p,q,rfl⟩:=hk
  conv=>whnf
  refine ⟨rfl,_,storeAt_all (vs:=[int F.i.base,.slice p F.out.length F.out.length,.slice q F.i.next.length F.i.next.length]) rfl rfl rfl,?_⟩
  conv=>whnf
  exact ⟨(H3.next,p,q,_),⟨rfl,rfl,rfl,rfl,trivial⟩,⟨rfl,Hp.at_lay_self _ _,hu.ext (Grows.lay _ _),g3.then_lay _⟩,rfl⟩
 rintro ⟨N7,p,q,H3⟩ φ3 _ ⟨rfl,a7,hu,g3⟩
 dsimp only at a7 hu g3 ⊢
 conv=>whnf
 refine SeqP.cut (α:=Option Addr×Hp) (fun s=>[(9,.slice s.1 20 20),(10,int 0),(7,ptr N7 0),(8,int 0),(6,ptr N6 0),(5,ptr N5 0)]) (fun s H=>s.2 = H∧Built H3 H 3 (.slice s.1 20 20) (seqL m 20)∧Grows H3 H) ?_ ?_
 ·conv=>whnf
  refine ⟨_,all_cells (g3.at_ _ _ a6) hb6.len,?_⟩
  conv=>whnf
  refine CallP.mono (First_spec _ m 20 _ (Bx.mv (hb6.ext g3)) hm) ?_
  rintro r H4 ⟨⟨-,hr0⟩,g4⟩
  have hr0:=hr0 (by omega) (by omega)
  obtain ⟨w,rfl,hw⟩:=hr0
  have e20:(20:Int).toNat = 20:=rfl
  rw [e20] at hw
  have hws:=hw.c.slice
  obtain ⟨aw,ew,-⟩:=hws
  rw [seqL_len] at ew
  subst ew
  conv=>whnf
  exact ⟨(aw,H4),⟨rfl,rfl,rfl,rfl,rfl,rfl,trivial⟩,⟨rfl,hw,g4⟩,rfl⟩
 rintro ⟨aw,H4⟩ φ4 _ ⟨rfl,h9,g4⟩
 dsimp only at h9 g4 ⊢
 have a74:=g4.at_ _ _ a7
 have hu4:=hu.ext g4
 have g24:=g3.trans g4
 have hn3:=g3.next
 conv=>whnf
 refine SeqP.cut (α:=Unit) (fun _=>[(11,.slice p F.out.length F.out.length),(12,.slice q F.i.next.length F.i.next.length),(9,.slice aw 20 20),(10,int 0),(8,int 0),(6,ptr N6 0),(5,ptr N5 0)]) (fun _ H=>H4 = H) ?_ ?_
 ·conv=>whnf
  refine ⟨_,cellAt_row a74 rfl,?_⟩
  conv=>whnf
  refine ⟨_,cellAt_row a74 rfl,?_⟩
  conv=>whnf
  exact ⟨(),⟨rfl,rfl,rfl,rfl,rfl,rfl,rfl,trivial⟩,rfl,rfl⟩
 rintro _ φ5 _ rfl
 obtain ⟨vo,vn,us,euu,ho,hnn,hul,hue⟩:=hu4
 injection euu with euu
 injection euu with euu
 injection euu with eu0 eu1
 injection eu1 with eu1 eu2
 injection eu2 with eu2 eu3
 subst eu1
 subst eu2
 have hob:Built H2 H4 3 (.slice p F.out.length F.out.length) F.out:=ho.b
 have w0:Wr H2 H4 H4:=Wr.refl g24
 rcases hob with ⟨_,eo⟩ | ⟨ro,epo,hro,xo,hato⟩
 ·rw [eo] at hFn; simp at hFn
 cases epo
 conv=>whnf
 refine SeqP.cut (α:=Hp) (fun H=>[(12,.slice q F.i.next.length F.i.next.length),(9,.slice aw 20 20),(10,int 0),(8,int 0),(6,ptr N6 0),(5,ptr N5 0)]) (fun s H=>s = H∧Wr H2 H4 H) ?_ ?_
 ·conv=>whnf
  repeat (refine SeqP.go ?_; conv=>whnf)
  refine loop_inv (α:=Nat×Hp) (fun s=>[(13,int s.1),(11,slc ro 0 F.out.length F.out.length),(12,.slice q F.i.next.length F.i.next.length),(9,.slice aw 20 20),(10,int 0),(8,int 0),(6,ptr N6 0),(5,ptr N5 0)]) (fun s=>s.2) (fun s=>s.1≤F.out.length∧Wr H2 H4 s.2) (fun s=>F.out.length - s.1) (0,H4) ⟨Nat.zero_le _,w0⟩ ⟨rfl,rfl,rfl,rfl,rfl,rfl,rfl,rfl,trivial⟩ (Hp.Le.refl _) ?_
  rintro ⟨i,G⟩ φ6 ⟨hi,wG⟩
  dsimp only at hi wG ⊢
  conv=>whnf
  repeat (refine SeqP.go ?_; conv=>whnf)
  refine cmpB (fun hlt=>?_) (fun hlt=>?_)
  rotate_left
  ·conv=>whnf
   repeat (refine SeqP.go ?_; conv=>whnf)
   exact ⟨G,⟨rfl,rfl,rfl,rfl,rfl,rfl,trivial⟩,⟨rfl,wG⟩,rfl⟩
  have hrow:=wG.row ro xo F.out hato
  obtain ⟨l',hl',hat'⟩:=hrow
  conv=>whnf
  repeat (refine SeqP.go ?_; conv=>whnf)
  refine ⟨rfl,⟨by omega,by omega⟩,?_⟩
  conv=>whnf
  refine ⟨rfl,_,storeAt_off hat' (by rw [List.length_map,Int.toNat_natCast]; omega) rfl,?_⟩
  conv=>whnf
  repeat (refine SeqP.go ?_; conv=>whnf)
  refine ⟨((i + 1:Nat):Int),wie (by omega) (by omega),?_⟩
  conv=>whnf
  exact Rnd.mk (i + 1,_) ⟨by show i + 1≤F.out.length; omega,wG.write hro hat' i (-7)⟩ (by show F.out.length - (i + 1) < F.out.length - i; omega) ⟨rfl,rfl,rfl,rfl,rfl,rfl,rfl,rfl,trivial⟩ (Hp.Le.refl _) rfl
 rintro H5 φ6 _ ⟨rfl,w5⟩
 have hqb:∃ rq,q = some ⟨rq,0,none⟩∧∃ xq,H4.at rq = some (.row 22 xq us):=by
  obtain ⟨_,⟨_,e2⟩ | ⟨rq,e2,_,xq,hq⟩⟩:=hnn
  ·first | omega | (rw [e2] at hul; simp at hul; omega) | (have:=congrArg List.length e2; simp at this; omega)
  ·injection e2 with e2 _ _
   exact ⟨rq,e2,xq,hq⟩
 obtain ⟨rq,eq_,xq,hatq⟩:=hqb
 subst eq_
 have rowk:∀ k,k < F.i.next.length→∃ rk xk,∃ l:List Int,us[k]? = some (slc rk 0 F.base F.base)∧l.length = F.base∧H2.next≤rk∧H4.at rk = some (.row 3 xk (l.map int)):=fun k hk=>by
  have h1:us[k]? = some (us[k]'(by omega)):=List.getElem?_eq_getElem (by omega)
  have h2:F.i.next[k]? = some F.i.next[k]:=List.getElem?_eq_getElem hk
  have hbk:=hue k _ _ h1 h2
  have hlk:=hFs.ok.irow (s:=k) (by omega)
  rw [rw_at hk] at hlk
  have hb1:=hFs.ok.b1
  rcases hbk with ⟨_,e⟩ | ⟨rk,ek,hrk,xk,hak⟩
  ·rw [e] at hlk; simp at hlk; omega
  ·rw [hlk] at ek
   exact ⟨rk,xk,_,by rw [h1,ek],hlk,hrk,hak⟩
 have hb5:=hb5
 have hFb5:=hFs.b5
 conv=>whnf
 refine SeqP.cut (α:=Hp) (fun H=>[(9,.slice aw 20 20),(10,int 0),(8,int 0),(6,ptr N6 0),(5,ptr N5 0)]) (fun s H=>s = H∧Wr H2 H4 H) ?_ ?_
 ·conv=>whnf
  repeat (refine SeqP.go ?_; conv=>whnf)
  refine loop_inv (α:=Nat×Hp) (fun s=>[(14,int s.1),(12,slc rq 0 F.i.next.length F.i.next.length),(9,.slice aw 20 20),(10,int 0),(8,int 0),(6,ptr N6 0),(5,ptr N5 0)]) (fun s=>s.2) (fun s=>s.1≤F.i.next.length∧Wr H2 H4 s.2) (fun s=>F.i.next.length - s.1) (0,H5) ⟨Nat.zero_le _,w5⟩ ⟨rfl,rfl,rfl,rfl,rfl,rfl,rfl,trivial⟩ (Hp.Le.refl _) ?_
  rintro ⟨k,G⟩ φ7 ⟨hk,wG⟩
  dsimp only at hk wG ⊢
  conv=>whnf
  repeat (refine SeqP.go ?_; conv=>whnf)
  refine cmpB (fun hlt=>?_) (fun hlt=>?_)
  rotate_left
  ·conv=>whnf
   repeat (refine SeqP.go ?_; conv=>whnf)
   exact ⟨G,⟨rfl,rfl,rfl,rfl,rfl,trivial⟩,⟨rfl,wG⟩,rfl⟩
  have hk':k < F.i.next.length:=by omega
  have hrk:=rowk k hk'
  obtain ⟨rk,xk,l,huk,hll,hrkn,hak⟩:=hrk
  conv=>whnf
  repeat (refine SeqP.go ?_; conv=>whnf)
  refine loop_inv (α:=Nat×Hp) (fun s=>[(15,int s.1),(14,int k),(12,slc rq 0 F.i.next.length F.i.next.length),(9,.slice aw 20 20),(10,int 0),(8,int 0),(6,ptr N6 0),(5,ptr N5 0)]) (fun s=>s.2) (fun s=>s.1≤F.base∧Wr H2 H4 s.2) (fun s=>F.base - s.1) (0,G) ⟨Nat.zero_le _,wG⟩ ⟨rfl,rfl,rfl,rfl,rfl,rfl,rfl,rfl,trivial⟩ (Hp.Le.refl _) ?_
  rintro ⟨d,G2⟩ φ8 ⟨hd,wG2⟩
  dsimp only at hd wG2 ⊢
  have hcq:cellAt G2 rq (offAt 0 k 1) = some (slc rk 0 F.base F.base):=cell_row (wG2.oth rq 22 xq us (by omega) hatq) huk
  conv=>whnf
  repeat (refine SeqP.go ?_; conv=>whnf)
  refine ⟨rfl,⟨by omega,by omega⟩,?_⟩
  conv=>whnf
  refine ⟨_,hcq,?_⟩
  conv=>whnf
  refine cmpB (fun hlt2=>?_) (fun hlt2=>?_)
  rotate_left
  ·conv=>whnf
   repeat (refine SeqP.go ?_; conv=>whnf)
   refine ⟨((k + 1:Nat):Int),wie (by omega) (by omega),?_⟩
   conv=>whnf
   exact Rnd.mk (k + 1,G2) ⟨by show k + 1≤F.i.next.length; omega,wG2⟩ (by show F.i.next.length - (k + 1) < F.i.next.length - k; omega) ⟨rfl,rfl,rfl,rfl,rfl,rfl,rfl,trivial⟩ (Hp.Le.refl _) rfl
  have hrow:=wG2.row rk xk l hak
  obtain ⟨l',hl',hat'⟩:=hrow
  conv=>whnf
  repeat (refine SeqP.go ?_; conv=>whnf)
  refine ⟨rfl,⟨by omega,by omega⟩,?_⟩
  conv=>whnf
  refine ⟨_,hcq,?_⟩
  conv=>whnf
  refine ⟨rfl,⟨by omega,by omega⟩,?_⟩
  conv=>whnf
  refine ⟨rfl,_,storeAt_off hat' (by rw [List.length_map,Int.toNat_natCast]; omega) rfl,?_⟩
  conv=>whnf
  repeat (refine SeqP.go ?_; conv=>whnf)
  refine ⟨((d + 1:Nat):Int),wie (by omega) (by omega),?_⟩
  conv=>whnf
  exact Rnd.mk (d + 1,_) ⟨by show d + 1≤F.base; omega,wG2.write hrkn hat' d (-7)⟩ (by show F.base - (d + 1) < F.base - d; omega) ⟨rfl,rfl,rfl,rfl,rfl,rfl,rfl,rfl,trivial⟩ (Hp.Le.refl _) rfl
 rintro H6 φ7 _ ⟨rfl,w6⟩
 have h9b:∃ r9 x9,aw = some ⟨r9,0,none⟩∧H3.next≤r9∧H4.at r9 = some (.row 3 x9 ((seqL m 20).map int)):=by
  rcases h9 with ⟨e,_⟩ | ⟨r9,e,h1,x9,h2⟩
  ·cases e
  ·injection e with e _ _
   exact ⟨r9,x9,e,h1,h2⟩
 obtain ⟨r9,x9,e9,hr9,hat9⟩:=h9b
 subst e9
 have hl20:(seqL m 20).length = 20:=seqL_len m 20
 conv=>whnf
 refine SeqP.cut (α:=Hp) (fun H=>[(10,int 0),(8,int 0),(6,ptr N6 0),(5,ptr N5 0)]) (fun s H=>s = H∧Wr H2 H4 H) ?_ ?_
 ·conv=>whnf
  repeat (refine SeqP.go ?_; conv=>whnf)
  refine loop_inv (α:=Nat×Hp) (fun s=>[(16,int s.1),(9,slc r9 0 20 20),(10,int 0),(8,int 0),(6,ptr N6 0),(5,ptr N5 0)]) (fun s=>s.2) (fun s=>s.1≤20∧Wr H2 H4 s.2) (fun s=>20 - s.1) (0,H6) ⟨Nat.zero_le _,w6⟩ ⟨rfl,rfl,rfl,rfl,rfl,rfl,trivial⟩ (Hp.Le.refl _) ?_
  rintro ⟨i,G⟩ φ8 ⟨hi,wG⟩
  dsimp only at hi wG ⊢
  conv=>whnf
  repeat (refine SeqP.go ?_; conv=>whnf)
  refine cmpB (fun hlt=>?_) (fun hlt=>?_)
  rotate_left
  ·conv=>whnf
   repeat (refine SeqP.go ?_; conv=>whnf)
   exact ⟨G,⟨rfl,rfl,rfl,rfl,trivial⟩,⟨rfl,wG⟩,rfl⟩
  have hrow:=wG.row r9 x9 _ hat9
  obtain ⟨l',hl',hat'⟩:=hrow
  conv=>whnf
  repeat (refine SeqP.go ?_; conv=>whnf)
  refine ⟨rfl,⟨by omega,by omega⟩,?_⟩
  conv=>whnf
  refine ⟨rfl,_,storeAt_off hat' (by rw [List.length_map,Int.toNat_natCast]; omega) rfl,?_⟩
  conv=>whnf
  repeat (refine SeqP.go ?_; conv=>whnf)
  refine ⟨((i + 1:Nat):Int),wie (by omega) (by omega),?_⟩
  conv=>whnf
  exact Rnd.mk (i + 1,_) ⟨by show i + 1≤20; omega,wG.write (by omega) hat' i (-7)⟩ (by show 20 - (i + 1) < 20 - i; omega) ⟨rfl,rfl,rfl,rfl,rfl,rfl,trivial⟩ (Hp.Le.refl _) rfl
 rintro H7 φ8 _ ⟨rfl,w7⟩
 have g27:=w7.gr
 have a67:=g27.at_ _ _ a6
 have a57:=g27.at_ _ _ a5
 have hb67:=hb6.ext g27
 have hb57:=hb5.ext g27
 clear w0 w5 w6 w7 hue hnn ho a7 a74 hu h9 g3 g4 g24 a5 a6 hb5 hb6
 conv=>whnf
 refine SeqP.cut (α:=Nat×List Value×Hp) (fun s=>[(17,ptr s.1 0),(18,int 0),(10,int 0),(8,int 0),(6,ptr N6 0),(5,ptr N5 0)]) (fun s H=>s.2.2 = H∧H.at s.1 = some (.row 25 true s.2.1)∧Bx H s.2.1 F.i∧Grows H7 H) ?_ ?_
 ·conv=>whnf
  refine ⟨_,all_cells a67 hb67.len,?_⟩
  conv=>whnf
  refine CallP.mono (Form_spec _ m _ (Bx.mv hb67) hm) ?_
  rintro r H8 ⟨⟨u,rfl,hu⟩,g8⟩
  rw [eF] at hu
  have hk:=hu.known
  obtain ⟨p2,q2,rfl⟩:=hk
  conv=>whnf
  refine ⟨rfl,_,storeAt_all (vs:=[int F.i.base,.slice p2 F.i.out.length F.i.out.length,.slice q2 F.i.next.length F.i.next.length]) rfl rfl rfl,?_⟩
  conv=>whnf
  exact ⟨(H8.next,_,_),⟨rfl,rfl,rfl,rfl,rfl,rfl,trivial⟩,⟨rfl,Hp.at_lay_self _ _,(hu.mv.ext (Grows.lay _ _)).bx,g8.then_lay _⟩,rfl⟩
 rintro ⟨N17,b17,H8⟩ φ9 _ ⟨rfl,a17,hb17,g8⟩
 dsimp only at a17 hb17 g8 ⊢
 have a68:=g8.at_ _ _ a67
 have a58:=g8.at_ _ _ a57
 have hb68:=hb67.ext g8
 have hb58:=hb57.ext g8
 conv=>whnf
 refine SeqP.cut (α:=Nat×Option Addr×Option Addr×Hp) (fun s=>[(19,ptr s.1 0),(17,ptr N17 0),(18,int 0),(10,int 0),(8,int 0),(6,ptr N6 0),(5,ptr N5 0)]) (fun s H=>s.2.2.2 = H∧H.at s.1 = some (.row 25 true [int 2,.slice s.2.1 2 2,.slice s.2.2.1 2 2])∧Built H8 H 3 (.slice s.2.1 2 2) [0,1]∧Grows H8 H) ?_ ?_
 ·conv=>whnf
  refine CallP.mono (Morse_spec _) ?_
  rintro w H9 ⟨hw,g9⟩
  have hk:=hw.known
  obtain ⟨p2,q2,rfl⟩:=hk
  obtain ⟨vo2,vn2,us2,e2,ho2,-⟩:=hw
  injection e2 with e2
  injection e2 with e2
  injection e2 with e2a e2
  injection e2 with e2 _
  subst e2
  conv=>whnf
  refine ⟨rfl,_,storeAt_all (vs:=[int 2,.slice p2 2 2,.slice q2 2 2]) rfl rfl rfl,?_⟩
  conv=>whnf
  exact ⟨(H9.next,p2,q2,_),⟨rfl,rfl,rfl,rfl,rfl,rfl,rfl,trivial⟩,⟨rfl,Hp.at_lay_self _ _,(show Built H8 H9 3 (.slice p2 2 2) [0,1] from ho2.b).ext (Grows.lay _ _),g9.then_lay _⟩,rfl⟩
 rintro ⟨N19,p2,q2,H9⟩ φ10 _ ⟨rfl,a19,hbm,g9⟩
 dsimp only at a19 hbm g9 ⊢
 conv=>whnf
 refine SeqP.cut (α:=Unit) (fun _=>[(20,.slice p2 2 2),(17,ptr N17 0),(18,int 0),(10,int 0),(8,int 0),(6,ptr N6 0),(5,ptr N5 0)]) (fun _ H=>H9 = H) ?_ ?_
 ·conv=>whnf
  refine ⟨_,cellAt_row a19 rfl,?_⟩
  conv=>whnf
  exact ⟨(),⟨rfl,rfl,rfl,rfl,rfl,rfl,rfl,trivial⟩,rfl,rfl⟩
 rintro _ φ11 _ rfl
 have hbmr:∃ rm xm,p2 = some ⟨rm,0,none⟩∧H8.next≤rm∧H9.at rm = some (.row 3 xm (([0,1]:List Int).map int)):=by
  rcases hbm with ⟨e,_⟩ | ⟨rm,e,h1,xm,h2⟩
  ·cases e
  ·injection e with e _ _
   exact ⟨rm,xm,e,h1,h2⟩
 obtain ⟨rm,xm,em,hrm,hatm⟩:=hbmr
 subst em
 conv=>whnf
 refine SeqP.cut (α:=Hp) (fun H=>[(17,ptr N17 0),(18,int 0),(10,int 0),(8,int 0),(6,ptr N6 0),(5,ptr N5 0)]) (fun s H=>s = H∧Wr H8 H9 H) ?_ ?_
 ·conv=>whnf
  repeat (refine SeqP.go ?_; conv=>whnf)
  refine loop_inv (α:=Nat×Hp) (fun s=>[(21,int s.1),(20,slc rm 0 2 2),(17,ptr N17 0),(18,int 0),(10,int 0),(8,int 0),(6,ptr N6 0),(5,ptr N5 0)]) (fun s=>s.2) (fun s=>s.1≤2∧Wr H8 H9 s.2) (fun s=>2 - s.1) (0,H9) ⟨Nat.zero_le _,Wr.refl g9⟩ ⟨rfl,rfl,rfl,rfl,rfl,rfl,rfl,rfl,trivial⟩ (Hp.Le.refl _) ?_
  rintro ⟨i,G⟩ φ12 ⟨hi,wG⟩
  dsimp only at hi wG ⊢
  conv=>whnf
  repeat (refine SeqP.go ?_; conv=>whnf)
  refine cmpB (fun hlt=>?_) (fun hlt=>?_)
  rotate_left
  ·conv=>whnf
   repeat (refine SeqP.go ?_; conv=>whnf)
   exact ⟨G,⟨rfl,rfl,rfl,rfl,rfl,rfl,trivial⟩,⟨rfl,wG⟩,rfl⟩
  have hrow:=wG.row rm xm [0,1] hatm
  obtain ⟨l',hl',hat'⟩:=hrow
  have hl2:l'.length = 2:=hl'
  conv=>whnf
  repeat (refine SeqP.go ?_; conv=>whnf)
  refine ⟨rfl,⟨by omega,by omega⟩,?_⟩
  conv=>whnf
  refine ⟨rfl,_,storeAt_off hat' (by rw [List.length_map,Int.toNat_natCast]; omega) rfl,?_⟩
  conv=>whnf
  repeat (refine SeqP.go ?_; conv=>whnf)
  refine ⟨((i + 1:Nat):Int),wie (by omega) (by omega),?_⟩
  conv=>whnf
  exact Rnd.mk (i + 1,_) ⟨by show i + 1≤2; omega,wG.write hrm hat' i 9⟩ (by show 2 - (i + 1) < 2 - i; omega) ⟨rfl,rfl,rfl,rfl,rfl,rfl,rfl,rfl,trivial⟩ (Hp.Le.refl _) rfl
 rintro K0 φ12 _ ⟨rfl,wK⟩
 have gK:=wK.gr
 have a6K:=gK.at_ _ _ a68
 have a5K:=gK.at_ _ _ a58
 have a17K:=gK.at_ _ _ a17
 have hb6K:=hb68.ext gK
 have hb5K:=hb58.ext gK
 have hb17K:=hb17.ext gK
 have c6:=all_cells a6K hb6K.len
 have c5:=all_cells a5K hb5K.len
 have c17:=all_cells a17K hb17K.len
 conv=>whnf
 repeat (refine SeqP.go ?_; conv=>whnf)
 refine cmpT rfl ?_
 conv=>whnf
 refine cmpT rfl ?_
 conv=>whnf
 refine cmpT rfl ?_
 conv=>whnf
 refine ⟨_,c6,?_⟩
 conv=>whnf
 refine CallP.mono (own_spec _ m.i _ (Bx.mv hb6K) (lens_of hm)) ?_
 rintro r K1 ⟨w1,g1⟩
 rw [hm.cut] at w1
 have hk:=w1.known
 obtain ⟨y1,y2,rfl⟩:=hk
 have c6a:=g1.cells c6
 have c5a:=g1.cells c5
 have c17a:=g1.cells c17
 conv=>whnf
 refine ⟨_,c5a,?_⟩
 conv=>whnf
 refine CallP.mono (REqual_spec _ _ m.i m.i _ w1.mv (Bx.mv (hb5K.ext g1)) hm.ok.ilen hm.lens.1 hm.lens.2.2) ?_
 rintro _ K2 ⟨⟨x,rfl,hx⟩,g2⟩
 cases x with
 | false=>exact absurd rfl hx.f
 | true =>
  have g12:=g1.trans g2
  have c6b:=g2.cells c6a
  have c5b:=g2.cells c5a
  have c17b:=g2.cells c17a
  conv=>whnf
  refine ⟨_,c17b,?_⟩
  conv=>whnf
  refine CallP.mono (own_spec _ F.i _ (Bx.mv (hb17K.ext g12)) (lens_of hFs)) ?_
  rintro r K3 ⟨w3,g3⟩
  rw [hFs.cut] at w3
  have hk:=w3.known
  obtain ⟨y3,y4,rfl⟩:=hk
  have c6c:=g3.cells c6b
  have c5c:=g3.cells c5b
  have c17c:=g3.cells c17b
  have g13:=g12.trans g3
  conv=>whnf
  refine ⟨_,c5c,?_⟩
  conv=>whnf
  refine CallP.mono (RForm_spec _ m _ (Bx.mv (hb5K.ext g13)) hm.big) ?_
  rintro r K4 ⟨w4,g4⟩
  rw [eF] at w4
  have hk:=w4.known
  obtain ⟨y5,y6,rfl⟩:=hk
  have c6d:=g4.cells c6c
  have c5d:=g4.cells c5c
  have c17d:=g4.cells c17c
  conv=>whnf
  refine CallP.mono (REqual_spec _ _ F.i F.i _ (w3.mv.ext g4) w4.mv hFs.ok.ilen hFs.lens.1 hFs.lens.2.2) ?_
  rintro _ K5 ⟨⟨x,rfl,hx2⟩,g5⟩
  cases x with
  | false=>exact absurd rfl hx2.f
  | true =>
   have c6e:=g5.cells c6d
   have c5e:=g5.cells c5d
   have c17e:=g5.cells c17d
   conv=>whnf
   refine CallP.mono (awake_spec _) ?_
   rintro r K6 ⟨rfl,g6⟩
   have c6f:=g6.cells c6e
   have c5f:=g6.cells c5e
   have c17f:=g6.cells c17e
   conv=>whnf
   refine ⟨?_,?_⟩
   ·repeat' (first | exact True.intro | (refine And.intro ?_ ?_ <;> (conv=>whnf)))
    all_goals first
     | exact sameAt_val (h2:=_) (congrArg (fun x=>hval _ (aggOf x)) c6) hb6K.same
     | exact sameAt_val (h2:=_) (congrArg (fun x=>hval _ (aggOf x)) c6a) hb6K.same
     | exact sameAt_val (h2:=_) (congrArg (fun x=>hval _ (aggOf x)) c6b) hb6K.same
     | exact sameAt_val (h2:=_) (congrArg (fun x=>hval _ (aggOf x)) c6c) hb6K.same
     | exact sameAt_val (h2:=_) (congrArg (fun x=>hval _ (aggOf x)) c6d) hb6K.same
     | exact sameAt_val (h2:=_) (congrArg (fun x=>hval _ (aggOf x)) c6e) hb6K.same
     | exact sameAt_val (h2:=_) (congrArg (fun x=>hval _ (aggOf x)) c6f) hb6K.same
     | exact sameAt_val (h2:=_) (congrArg (fun x=>hval _ (aggOf x)) c5) hb5K.same
     | exact sameAt_val (h2:=_) (congrArg (fun x=>hval _ (aggOf x)) c5a) hb5K.same
     | exact sameAt_val (h2:=_) (congrArg (fun x=>hval _ (aggOf x)) c5b) hb5K.same
     | exact sameAt_val (h2:=_) (congrArg (fun x=>hval _ (aggOf x)) c5c) hb5K.same
     | exact sameAt_val (h2:=_) (congrArg (fun x=>hval _ (aggOf x)) c5d) hb5K.same
     | exact sameAt_val (h2:=_) (congrArg (fun x=>hval _ (aggOf x)) c5e) hb5K.same
     | exact sameAt_val (h2:=_) (congrArg (fun x=>hval _ (aggOf x)) c5f) hb5K.same
     | exact sameAt_val (h2:=_) (congrArg (fun x=>hval _ (aggOf x)) c17) hb17K.same
     | exact sameAt_val (h2:=_) (congrArg (fun x=>hval _ (aggOf x)) c17a) hb17K.same
     | exact sameAt_val (h2:=_) (congrArg (fun x=>hval _ (aggOf x)) c17b) hb17K.same
     | exact sameAt_val (h2:=_) (congrArg (fun x=>hval _ (aggOf x)) c17c) hb17K.same
     | exact sameAt_val (h2:=_) (congrArg (fun x=>hval _ (aggOf x)) c17d) hb17K.same
     | exact sameAt_val (h2:=_) (congrArg (fun x=>hval _ (aggOf x)) c17e) hb17K.same
     | exact sameAt_val (h2:=_) (congrArg (fun x=>hval _ (aggOf x)) c17f) hb17K.same
     | trace_state
   conv=>whnf
   repeat (refine SeqP.go ?_; conv=>whnf)
   rfl
end
end Go.Proofs.Ytedneplaibmppaa
