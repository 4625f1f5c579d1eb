/- Contracts of the functions that PEVF comes to. -/
import Derived.Test.YtedneplaibmppaaPEVE
set_option maxRecDepth 100000
set_option maxHeartbeats 2000000
set_option linter.unusedVariables false
set_option linter.unusedSectionVars false
set_option linter.unusedSimpArgs false
namespace Go.Proofs.Ytedneplaibmppaa
open Go.Rx Go.RowKit
theorem sep3 {H:Hp} {Z M r:Nat} (hZ:Z < H.next) (hM:M < H.next) (hr:r < H.next) (h1:Z≠M) (h2:Z≠r) (h3:M≠r) (n c:Nat):Rx.Sep H [pl Z,nilS,nilS,pl M,slc r 0 n c] []:=by
 refine ⟨fun v hv x e=>?_,fun u hu=>by simp at hu,fun i j v u hij hi hj=>?_,fun v hv u hu=>by simp at hu⟩
 ·simp at hv
  rcases hv with rfl | rfl | rfl | rfl
  ·cases e; exact hZ
  ·cases e
  ·cases e; exact hM
  ·cases e; exact hr
 ·match i,j,hi,hj with
  | 0,0,_,_=>exact absurd rfl hij
  | 3,3,_,_=>exact absurd rfl hij
  | 4,4,_,_=>exact absurd rfl hij
  | 0,3,hi,hj=>cases hi; cases hj; intro x e1 e2; cases e1; cases e2; exact h1 rfl
  | 3,0,hi,hj=>cases hi; cases hj; intro x e1 e2; cases e1; cases e2; exact h1 rfl
  | 0,4,hi,hj=>cases hi; cases hj; intro x e1 e2; cases e1; cases e2; exact h2 rfl
  | 4,0,hi,hj=>cases hi; cases hj; intro x e1 e2; cases e1; cases e2; exact h2 rfl
  | 3,4,hi,hj=>cases hi; cases hj; intro x e1 e2; cases e1; cases e2; exact h3 rfl
  | 4,3,hi,hj=>cases hi; cases hj; intro x e1 e2; cases e1; cases e2; exact h3 rfl
  | 1,_,hi,hj=>cases hi; exact Ap.nil _
  | 2,_,hi,hj=>cases hi; exact Ap.nil _
  | 0,1,hi,hj=>cases hj; exact (Ap.nil _).symm
  | 0,2,hi,hj=>cases hj; exact (Ap.nil _).symm
  | 3,1,hi,hj=>cases hj; exact (Ap.nil _).symm
  | 3,2,hi,hj=>cases hj; exact (Ap.nil _).symm
  | 4,1,hi,hj=>cases hj; exact (Ap.nil _).symm
  | 4,2,hi,hj=>cases hj; exact (Ap.nil _).symm
  | 0,j + 5,hi,hj=>simp at hj
  | 3,j + 5,hi,hj=>simp at hj
  | 4,j + 5,hi,hj=>simp at hj
  | i + 5,_,hi,_=>simp at hi
def nI (S:List Nat):List Int:=S.map fun n:Nat=>(n:Int)
theorem nI_len (S:List Nat):(nI S).length = S.length:=by unfold nI; rw [List.length_map]
theorem nI_get {S:List Nat} {i s:Nat} (h:S[i]? = some s):gl (nI S) i = s:=by
 unfold nI gl
 rw [List.getD_eq_getElem?_getD,List.getElem?_map,h]; rfl
theorem nI_app (S:List Nat) (t:Nat):nI (S ++ [t]) = nI S ++ [(t:Int)]:=by unfold nI; rw [List.map_append]; rfl
def prow (m:Mac) (S:List Nat) (s d:Nat):List Int:=(List.range d).map fun e=>((ixOf (clsOf m (rnotes m S s d)) (m.cl (m.nx s e)):Nat):Int)
theorem rnotes_in {m:Mac} {S:List Nat} {s:Nat}:∀ d e,e < d→m.cl (m.nx s e) ∈ clsOf m (rnotes m S s d)
 | d + 1,e,he=>by
  show m.cl (m.nx s e) ∈ clsOf m (rnote m (rnotes m S s d) (m.nx s d))
  rw [rnote_cls]
  by_cases h:e = d
  ·subst h; exact note_mem _ _
  ·exact note_sub (rnotes_in d e (by omega))
theorem prow_succ {m:Mac} {S:List Nat} {s d:Nat}:prow m S s (d + 1) = prow m S s d ++ [((ixOf (clsOf m (rnotes m S s (d + 1))) (m.cl (m.nx s d)):Nat):Int)]:=by
 unfold prow
 rw [List.range_succ,List.map_append]
 congr 1
 refine List.map_congr_left fun e he=>?_
 have he:=List.mem_range.1 he
 have hin:=rnotes_in (m:=m) (S:=S) (s:=s) d e he
 have e1:clsOf m (rnotes m S s (d + 1)) = note (clsOf m (rnotes m S s d)) (m.cl (m.nx s d)):=rnote_cls _ _ _
 rw [e1]
 obtain ⟨r,er⟩:=note_pre (clsOf m (rnotes m S s d)) (m.cl (m.nx s d))
 unfold ixOf
 rw [er,idxOf_app hin]
theorem rrow_stay {m:Mac} (hm:m.Ok) {S S':List Nat} {a:Nat} (k:Rq m S a) {r:List Nat} (e:S' = S ++ r):(S.take a).map (rrow m S') = (S.take a).map (rrow m S):=by
 have hb:=k.bq
 have hcl:clsOf m S' = clsOf m S ++ clsOf m r:=by rw [e]; unfold clsOf; rw [List.map_append]
 have hre:=rowsOf_ext hb.met hb.le hcl
 unfold rowsOf at hre
 have et:(clsOf m S).take a = clsOf m (S.take a):=by unfold clsOf; rw [List.map_take]
 have hle:a≤S.length:=by have:=hb.le; unfold clsOf at this; rw [List.length_map] at this; exact this
 have et':(clsOf m S').take a = clsOf m (S.take a):=by
  rw [hcl,List.take_append_of_le_length hb.le,et]
 rw [et,et'] at hre
 unfold clsOf at hre
 rw [List.map_map,List.map_map] at hre
 refine Eq.trans (List.map_congr_left fun s hs=>?_) (Eq.trans hre (List.map_congr_left fun s hs=>?_))
 ·exact rrow_eq hm S' (k.lt s (List.mem_of_mem_take hs))
 ·exact (rrow_eq hm S (k.lt s (List.mem_of_mem_take hs))).symm
attribute [local irreducible] E idxN cellAt cellsAt storeAt callable helems hmoved lookIn findKey keyOk hentries Hp.at Hp.set Hp.lay arBits hupdated setAt CallP YieldP BoolOf IsWrap Rnd LoopP AppP CutP Int.tmod Int.tdiv Int.fdiv
section
variable [Unknowns]
attribute [local irreducible] ResP sameAt finP
theorem RForm_spec (v:Value) (m:Mac) (h:Hp) (hv:MV h v m.i) (hm:OkB m):CallP E 40 [v] h (fun r h'=>OwnM h h' r m.form.i∧Grows h h'):=by
 obtain ⟨bx,rfl,hbx⟩:=hv.box
 obtain ⟨ao,an,co,cn,hcx⟩:=hbx.cx
 obtain ⟨i3,t3,-,z3⟩:=ty3
 obtain ⟨iM,tM,dM⟩:=ty114
 have hn12:=hm.n
 have hb5:=hm.b
 have hn1:=hm.ok.n1
 have hil:=hm.ok.ilen
 have hcl:=Mac.cls_len hm.ok
 refine enter40 (by simp) ?_
 conv=>whnf
 refine SeqP.cut (α:=Hp) (fun _=>[(1,ptr h.next 0),(2,ptr (h.next + 1) 0)]) (fun x H=>x = H∧Grows h H∧H.at h.next = some (.row 26 true bx)∧H.at (h.next + 1) = some (.row 26 true [int 0,nilS,nilS])∧H.next = h.next + 2) ?_ ?_
 ·conv=>whnf
  have n1:(h.lay (.row 26 true bx)).next = h.next + 1:=Hp.next_lay _ _
  exact ⟨_,⟨rfl,congrArg (fun k=>ptr k 0) n1,trivial⟩,⟨rfl,(Grows.lay _ _).then_lay _,Hp.at_lay_old _ (Hp.at_lay_self _ _),at_nx2 n1 (Hp.at_lay_self _ _),by rw [Hp.next_lay,n1]⟩,rfl⟩
 rintro H φ1 _ ⟨rfl,gH,aX,aR,nH⟩
 have kx:=hcx H h.next 26 gH aX
 have c1:cellAt H h.next 1 = some (.slice ao m.out.length co):=kx.c1
 have hout:∀ x ∈ m.out,0≤x∧x < 65536:=fun x hx=>by have:=hm.outs x hx; omega
 have hsr0:=split_ref (c:=m.out) hm rfl hout fun s t hs ht e=>e
 conv=>whnf
 refine SeqP.cut (α:=Option Addr×Hp) (fun q=>[(3,.slice q.1 m.out.length m.out.length),(1,ptr h.next 0),(2,ptr (h.next + 1) 0)]) (fun q H2=>q.2 = H2∧Grows H q.2∧View q.2 (.slice q.1 m.out.length m.out.length) (m.ref m.out)) ?_ ?_
 ·conv=>whnf
  refine ⟨_,all_cells aX hbx.len,?_⟩
  conv=>whnf
  refine ⟨_,c1,?_⟩
  conv=>whnf
  refine CallP.mono (split_spec _ _ m m.out _ (Bx.mv (hbx.ext gH)) kx.o hm rfl hout) ?_
  rintro r H2 ⟨hr,g2⟩
  rw [hsr0.1] at hr
  have hws:=hr.c.slice
  obtain ⟨a,rfl,-⟩:=hws
  have hv2:=hr.view
  rw [Mac.ref_len] at hv2
  conv=>whnf
  exact ⟨(a,H2),⟨congrArg (fun k=>Value.slice a k k) (Mac.ref_len m m.out),rfl,rfl,trivial⟩,⟨rfl,g2,hv2⟩,rfl⟩
 rintro ⟨a0,H2⟩ φ2 _ ⟨rfl,g2,v2⟩
 dsimp only at g2 v2 ⊢
 have g0:=Mac.Good.start hm.ok
 have hk0:=num_max (ks:=m.keys m.out) (fun e=>by have:=Mac.keys_len m m.out; rw [e] at this; simp at this; omega)
 conv=>whnf
 refine SeqP.cut (α:=Option Addr×Hp) (fun q=>[(3,.slice q.1 m.out.length m.out.length),(1,ptr h.next 0),(2,ptr (h.next + 1) 0)]) (fun q H3=>q.2 = H3∧Grows H q.2∧View q.2 (.slice q.1 m.out.length m.out.length) m.cls) ?_ ?_
 ·conv=>whnf
  repeat (refine SeqP.go ?_; conv=>whnf)
  refine loop_inv (α:=List Int×Nat×Option Addr×Hp) (fun q=>[(3,.slice q.2.2.1 m.out.length m.out.length),(1,ptr h.next 0),(2,ptr (h.next + 1) 0)]) (fun q=>q.2.2.2) (fun q=>Grows H q.2.2.2∧View q.2.2.2 (.slice q.2.2.1 m.out.length m.out.length) q.1∧(∃ f j,Mac.Good m q.1 j q.2.1∧m.clsF f q.1 q.2.1 = m.cls∧m.out.length + 1≤f + q.2.1)∧q.1.foldl max 0 + 1 = (q.2.1:Int)∧(∀ x ∈ q.1,0≤x∧x < 65536)) (fun q=>m.out.length + 1 - q.2.1) (m.ref m.out,m.cnt m.out,a0,H2) ⟨g2,v2,⟨m.out.length,1,g0,rfl,by have:=g0.le; show m.out.length + 1≤m.out.length + m.cnt m.out; omega⟩,hk0,ref_bd m.out hn12⟩ ⟨rfl,rfl,rfl,trivial⟩ (Hp.Le.refl _) ?_
  rintro ⟨c,k,a,G⟩ φ3 ⟨gG,vG,⟨f,j,good,hcls,hf⟩,hmax,hbd⟩
  dsimp only at gG vG good hcls hf hmax hbd ⊢
  have hclen:=good.len
  have hsr:=split_ref (c:=c) hm hclen hbd fun s t hs ht e=>good.out s t hs ht e
  have hmax2:=num_max (ks:=m.keys c) (fun e=>by have:=Mac.keys_len m c; rw [e] at this; simp at this; omega)
  have hkle:k≤m.cnt c:=by have:=Mac.cnt_ge m c; have:=good.cnt; omega
  have hcle:=Mac.cnt_le m c
  conv=>whnf
  repeat (refine SeqP.go ?_; conv=>whnf)
  refine ⟨_,all_cells (gG.at_ _ _ aX) hbx.len,?_⟩
  conv=>whnf
  refine CallP.mono (split_spec _ _ m c _ (Bx.mv (hbx.ext (gH.trans gG))) vG hm hclen hbd) ?_
  rintro r G2 ⟨hr,gG2⟩
  rw [hsr.1] at hr
  have hws:=hr.c.slice
  obtain ⟨a2,rfl,-⟩:=hws
  have v2c:=hr.view
  have hlr:=Mac.ref_len m c
  have hbr:=ref_bd c hn12
  conv=>whnf
  repeat (refine SeqP.go ?_; conv=>whnf)
  refine CallP.mono (count_spec _ (m.ref c) _ v2c (by omega) (fun x hx=>by have:=hbr x hx; omega)) ?_
  rintro _ G3 ⟨rfl,eG⟩
  have eG:=eG.symm
  subst eG
  conv=>whnf
  refine CallP.mono (count_spec _ c _ (vG.ext gG2) (by omega) (fun x hx=>by have:=hbd x hx; omega)) ?_
  rintro _ G4 ⟨rfl,eG⟩
  have eG:=eG.symm
  subst eG
  have hm1:(m.ref c).foldl max 0 + 1 = (m.cnt c:Int):=hmax2
  conv=>whnf
  by_cases hk:m.cnt c = k
  ·refine cmpT (by omega) ?_
   have ecls:c = m.cls:=by
    cases f with
    | zero=>omega
    | succ f =>
     unfold Mac.clsF at hcls
     rw [if_pos hk] at hcls
     exact hcls
   rw [ecls] at vG
   conv=>whnf
   repeat (refine SeqP.go ?_; conv=>whnf)
   exact ⟨(a,G2),⟨rfl,rfl,rfl,trivial⟩,⟨rfl,gG.trans gG2,vG.ext gG2⟩,rfl⟩
  ·refine cmpF (by omega) ?_
   have hnext:∃ f j,Mac.Good m (m.ref c) j (m.cnt c)∧m.clsF f (m.ref c) (m.cnt c) = m.cls∧m.out.length + 1≤f + m.cnt c:=by
    cases f with
    | zero=>omega
    | succ f =>
     unfold Mac.clsF at hcls
     rw [if_neg hk] at hcls
     exact ⟨f,j + 1,good.next hm.ok hk,hcls,by omega⟩
   rw [hlr] at v2c
   conv=>whnf
   repeat (refine SeqP.go ?_; conv=>whnf)
   exact Rnd.mk (m.ref c,m.cnt c,a2,G2) ⟨gG.trans gG2,v2c,hnext,hmax2,hbr⟩ (by show m.out.length + 1 - m.cnt c < m.out.length + 1 - k; omega) ⟨congrArg (fun k=>Value.slice a2 k k) hlr,rfl,rfl,trivial⟩ (Hp.Le.refl _) rfl
 rintro ⟨a,H3⟩ φ3 _ ⟨rfl,g3,v3⟩
 dsimp only at g3 v3 ⊢
 have hc0:=View.cellg v3 (i:=0) (by omega)
 obtain ⟨rc,oc,sc,ea,hsc,-,hc0⟩:=hc0
 subst ea
 have ecl0:gl m.cls 0 = m.cl 0:=rfl
 rw [ecl0] at hc0
 conv=>whnf
 refine SeqP.cut (α:=Nat×Hp) (fun q=>[(5,mapAt q.1),(3,.slice (some ⟨rc,oc,sc⟩) m.out.length m.out.length),(1,ptr h.next 0),(2,ptr (h.next + 1) 0)]) (fun q H4=>q.2 = H4∧Grows H3 H4∧Nums H4 q.1 encI [m.cl 0]∧H3.next≤q.1) ?_ ?_
 ·conv=>whnf
  refine ⟨hsc,⟨by omega,by omega⟩,?_⟩
  conv=>whnf
  refine ⟨_,(Grows.lay _ _).cell hc0,?_⟩
  conv=>whnf
  refine raw_insert tM dM keyI (k:=m.cl 0) (v:=int 0) (n:=0) rfl rfl rfl (MapAt.new _) ?_
  intro H4 hM4 y4
  have gl4:Grows H3 (H3.lay (.map [] 0)):=Grows.lay _ _
  have gk4:Grows H3 H4:=⟨by rw [y4.next]; exact gl4.next,fun r o e=>y4.at_ r o (by have:=Hp.lt_of_at e; omega) (gl4.at_ r o e)⟩
  conv=>whnf
  exact ⟨(H3.next,H4),⟨rfl,rfl,rfl,rfl,trivial⟩,⟨rfl,gk4,hM4.congr fun k=>by
   unfold fN
   by_cases e:k = m.cl 0
   ·rw [if_pos e,if_pos (by rw [e]; simp),e]; simp
   ·rw [if_neg e,if_neg (by simpa using e)],Nat.le_refl _⟩,rfl⟩
 rintro ⟨M,H4⟩ φ4 _ ⟨rfl,g4,hM4,hMge⟩
 dsimp only at g4 hM4 hMge ⊢
 have hltM:M < H4.next:=by
  obtain ⟨_,_,h1,_⟩:=hM4
  exact Hp.lt_of_at h1
 conv=>whnf
 refine SeqP.cut (α:=Hp) (fun q=>[(6,slc H4.next 0 1 1),(5,mapAt M),(3,.slice (some ⟨rc,oc,sc⟩) m.out.length m.out.length),(1,ptr h.next 0),(2,ptr (h.next + 1) 0)]) (fun q H5=>q = H5∧Grows H4 H5∧H5.at H4.next = some (.row 3 true [int 0])∧H5.next = H4.next + 1) ?_ ?_
 ·conv=>whnf
  exact ⟨_,⟨rfl,rfl,rfl,rfl,rfl,trivial⟩,⟨rfl,Grows.lay _ _,Hp.at_lay_self _ _,Hp.next_lay _ _⟩,rfl⟩
 rintro H5 φ5 _ ⟨rfl,g5,a5,n5⟩
 have g15:=(g3.trans g4).trans g5
 have d0:=(hcx H5 h.next 26 (gH.trans g15) (g15.at_ _ _ aX)).c0
 conv=>whnf
 refine SeqP.cut (α:=Hp) (fun q=>[(7,ptr H5.next 0),(6,slc H4.next 0 1 1),(5,mapAt M),(3,.slice (some ⟨rc,oc,sc⟩) m.out.length m.out.length),(1,ptr h.next 0),(2,ptr (h.next + 1) 0)]) (fun q H6=>q = H6∧Grows H5 H6∧H6.at H5.next = some (.row 26 true [int m.base,nilS,nilS])) ?_ ?_
 ·conv=>whnf
  refine ⟨_,d0,?_⟩
  conv=>whnf
  refine ⟨rfl,_,storeAt_all (vs:=[int m.base,nilS,nilS]) rfl rfl rfl,?_⟩
  conv=>whnf
  exact ⟨_,⟨rfl,rfl,rfl,rfl,rfl,rfl,trivial⟩,⟨rfl,Grows.lay _ _,Hp.at_lay_self _ _⟩,rfl⟩
 rintro H6 φ6 _ ⟨rfl,g6,a6⟩
 have hexZ:∃ Z,H5.next = Z:=⟨_,rfl⟩
 obtain ⟨Z,eZ⟩:=hexZ
 have hexr:∃ r6,H4.next = r6:=⟨_,rfl⟩
 obtain ⟨r6,er6⟩:=hexr
 rw [eZ] at a6 ⊢
 rw [er6] at a5 n5 hltM ⊢
 have hltZ:=Hp.lt_of_at a6
 have hn34:=g4.next
 have g36:=(g4.trans g5).trans g6
 have hz6:MZ H3 H6 26 Z nilS nilS [] [] [] [int m.base,nilS,nilS] [pl M,slc r6 0 1 1]:=⟨g36,a6,BuiltC.nil,BuiltC.nil,rfl,fun k u l e=>by simp at e,by omega,sep3 hltZ (by omega) (by omega) (by omega) (by omega) (by omega) 1 1⟩
 have hM6:Nums H6 M encI (clsOf m [0]):=(hM4.ext g5).ext g6
 have hst6:BuiltC H3 H6 3 1 (slc r6 0 1 1) (nI [0]).length ((nI [0]).map int):=⟨rfl,.inr ⟨r6,rfl,by omega,true,g6.at_ _ _ a5⟩⟩
 have rq0:=Rq.start hm.ok
 have gh3:=gH.trans g3
 have aX3:=g3.at_ _ _ aX
 have aR3:=g3.at_ _ _ aR
 have hn3:=g3.next
 have hz6':=hz6.more (.refl _) (v:=nilS) fun r e=>by cases e
 have hmem1:∀ w:Value,∀ u:Value,∀ us:List Value,u ∈ [pl M,u,w] ++ us:=fun w u us=>by simp
 clear a5 a6 g4 g5 g6 g36 g15 d0 hM4
 conv=>whnf
 refine SeqP.cut (α:=Value×Value×List Value×List Int×List (List Int)×Hp) (fun q=>[(7,ptr Z 0),(2,ptr (h.next + 1) 0)]) (fun q H7=>q.2.2.2.2.2 = H7∧∃ rs,MZ H3 q.2.2.2.2.2 26 Z q.1 q.2.1 q.2.2.2.1 q.2.2.1 q.2.2.2.2.1 [int m.base,q.1,q.2.1] rs∧m.form.i = ⟨m.base,q.2.2.2.1,q.2.2.2.2.1⟩) ?_ ?_
 rotate_left
 ·rintro ⟨ov,nv,us,O,N,H7⟩ φ7 _ ⟨rfl,rs,hz7,ef⟩
  dsimp only at hz7 ef ⊢
  have hov:=hz7.out_ok
  obtain ⟨ax,rfl⟩:=hov
  have hnv:=hz7.next_ok
  obtain ⟨ay,rfl⟩:=hnv
  have aR7:=hz7.gr.at_ _ _ aR3
  conv=>whnf
  repeat (refine SeqP.go ?_; conv=>whnf)
  refine ⟨_,all_cells hz7.z rfl,?_⟩
  conv=>whnf
  refine ⟨rfl,_,storeAt_full (vs:=[int m.base,.slice ax O.length O.length,.slice ay N.length N.length]) aR7 rfl rfl rfl,?_⟩
  conv=>whnf
  repeat (refine SeqP.go ?_; conv=>whnf)
  obtain ⟨iR,tR,agR,szR⟩:=ty26
  refine leave_cell (r:=h.next + 1) (o:=0) (cs:=[int m.base,.slice ax O.length O.length,.slice ay N.length N.length]) rfl tR agR ?_ ?_
  ·rw [szR]
   exact all_cells (Hp.at_set_self _ (Hp.lt_of_at aR7)) rfl
  ·rw [ef]
   exact hz7.leave (h:=h) (R:=h.next + 1) (by omega) (by omega) gh3 m.base (.row 26 true [int m.base,.slice ax O.length O.length,.slice ay N.length N.length])
 conv=>whnf
 repeat (refine SeqP.go ?_; conv=>whnf)
 refine loop_inv (α:=List Nat×Nat×Value×Value×Value×List Value×Hp) (fun q=>[(8,int q.2.1),(7,ptr Z 0),(6,q.2.2.1),(5,mapAt M),(3,.slice (some ⟨rc,oc,sc⟩) m.out.length m.out.length),(1,ptr h.next 0),(2,ptr (h.next + 1) 0)]) (fun q=>q.2.2.2.2.2.2) (fun q=>Rq m q.1 q.2.1∧MZ H3 q.2.2.2.2.2.2 26 Z q.2.2.2.1 q.2.2.2.2.1 ((q.1.take q.2.1).map m.o) q.2.2.2.2.2.1 ((q.1.take q.2.1).map (rrow m q.1)) [int m.base,q.2.2.2.1,q.2.2.2.2.1] [pl M,q.2.2.1,nilS]∧Nums q.2.2.2.2.2.2 M encI (clsOf m q.1)∧BuiltC H3 q.2.2.2.2.2.2 3 1 q.2.2.1 (nI q.1).length ((nI q.1).map int)) (fun q=>20000 - q.2.1) ([0],0,slc r6 0 1 1,nilS,nilS,[],H6) ⟨rq0,hz6',hM6,hst6⟩ ⟨rfl,rfl,rfl,rfl,rfl,rfl,rfl,trivial⟩ (Hp.Le.refl _) ?_
 rintro ⟨S,a,u6,ov,nv,us,G⟩ φ7 ⟨rq,hz,hM,hst⟩
 dsimp only at rq hz hM hst ⊢
 have hSl:S.length≤m.out.length:=by
  have:=rq.bq.few
  unfold clsOf at this
  rw [List.length_map,hcl] at this
  exact this
 have hale:a≤S.length:=by have:=rq.bq.le; unfold clsOf at this; rw [List.length_map] at this; exact this
 have hSI:=nI_len S
 have hws:=hst.slice
 obtain ⟨au,eu,hau⟩:=hws
 subst eu
 conv=>whnf
 repeat (refine SeqP.go ?_; conv=>whnf)
 refine cmpB (fun q1=>?_) (fun q1=>?_)
 rotate_left
 ·have hfull:S.length≤a:=by omega
  have ef:=rq.form hm.ok hfull
  rw [List.take_of_length_le hfull] at hz
  conv=>whnf
  repeat (refine SeqP.go ?_; conv=>whnf)
  exact ⟨(ov,nv,us,S.map m.o,S.map (rrow m S),G),⟨rfl,rfl,trivial⟩,⟨rfl,_,hz,ef⟩,rfl⟩
 have haS:a < S.length:=by omega
 have hs:=List.getElem?_eq_getElem haS
 have hexs:∃ s,S[a] = s:=⟨_,rfl⟩
 obtain ⟨s,es⟩:=hexs
 rw [es] at hs
 have hsl:=rq.lt s (List.mem_of_getElem? hs)
 have hvS:View G (.slice au (nI S).length (nI S).length) (nI S):=Built.view (h0:=H3) (e:=3) hst.b
 have hcs:=View.cellg hvS (i:=a) (by omega)
 obtain ⟨r1,o1,sp1,ea,hsp1,-,hc1⟩:=hcs
 subst ea
 rw [nI_get hs] at hc1
 conv=>whnf
 refine SeqP.go ?_
 conv=>whnf
 refine SeqP.cut (α:=Unit) (fun q=>[(9,int s),(8,int a),(7,ptr Z 0),(6,.slice (some ⟨r1,o1,sp1⟩) (nI S).length (nI S).length),(5,mapAt M),(3,.slice (some ⟨rc,oc,sc⟩) m.out.length m.out.length),(1,ptr h.next 0),(2,ptr (h.next + 1) 0)]) (fun q H7=>G = H7) ?_ ?_
 ·conv=>whnf
  refine ⟨hsp1,⟨by omega,by omega⟩,?_⟩
  conv=>whnf
  refine ⟨_,hc1,?_⟩
  conv=>whnf
  exact ⟨(),⟨rfl,rfl,rfl,rfl,rfl,rfl,rfl,rfl,trivial⟩,rfl,rfl⟩
 rintro _ φ8 _ rfl
 have hclen:m.cls.length = m.out.length:=hcl
 have hbM:∀ d,d≤m.base→(rnotes m S s d).length≤m.out.length:=fun d hd=>by
  have h1:=notesN_few (Mac.form_fin hm.ok) rq.bq (s:=m.cl s) (List.mem_of_getElem? (Mac.cl_get hm.ok hsl)) hd
  rw [← rnotes_cls hm.ok S hsl d hd,hcl] at h1
  unfold clsOf at h1
  rw [List.length_map] at h1
  exact h1
 conv=>whnf
 refine SeqP.go ?_
 conv=>whnf
 refine SeqP.cut (α:=Value×Value×Hp) (fun q=>[(10,q.2.1),(9,int s),(8,int a),(7,ptr Z 0),(6,q.1),(5,mapAt M),(3,.slice (some ⟨rc,oc,sc⟩) m.out.length m.out.length),(1,ptr h.next 0),(2,ptr (h.next + 1) 0)]) (fun q H7=>q.2.2 = H7∧MZ H3 q.2.2 26 Z ov nv ((S.take a).map m.o) us ((S.take a).map (rrow m S)) [int m.base,ov,nv] [pl M,q.1,q.2.1]∧Nums q.2.2 M encI (clsOf m (rnotes m S s m.base))∧BuiltC H3 q.2.2 3 1 q.1 (nI (rnotes m S s m.base)).length ((nI (rnotes m S s m.base)).map int)∧BuiltC H3 q.2.2 3 1 q.2.1 (prow m S s m.base).length ((prow m S s m.base).map int)) ?_ ?_
 ·conv=>whnf
  repeat (refine SeqP.go ?_; conv=>whnf)
  refine loop_inv (α:=Nat×Value×Value×Hp) (fun q=>[(11,int q.1),(10,q.2.2.1),(9,int s),(8,int a),(7,ptr Z 0),(6,q.2.1),(5,mapAt M),(3,.slice (some ⟨rc,oc,sc⟩) m.out.length m.out.length),(1,ptr h.next 0),(2,ptr (h.next + 1) 0)]) (fun q=>q.2.2.2) (fun q=>q.1≤m.base∧MZ H3 q.2.2.2 26 Z ov nv ((S.take a).map m.o) us ((S.take a).map (rrow m S)) [int m.base,ov,nv] [pl M,q.2.1,q.2.2.1]∧Nums q.2.2.2 M encI (clsOf m (rnotes m S s q.1))∧BuiltC H3 q.2.2.2 3 1 q.2.1 (nI (rnotes m S s q.1)).length ((nI (rnotes m S s q.1)).map int)∧BuiltC H3 q.2.2.2 3 1 q.2.2.1 (prow m S s q.1).length ((prow m S s q.1).map int)) (fun q=>m.base - q.1) (0,_,nilS,G) ⟨Nat.zero_le _,hz,hM,hst,BuiltC.nil⟩ ⟨rfl,rfl,rfl,rfl,rfl,rfl,rfl,rfl,rfl,rfl,trivial⟩ (Hp.Le.refl _) ?_
  rintro ⟨d,u,w,K⟩ φ9 ⟨hd,hzK,hMK,huK,hwK⟩
  dsimp only at hd hzK hMK huK hwK ⊢
  have kK:=hcx K h.next 26 (gh3.trans hzK.gr) (hzK.gr.at_ _ _ aX3)
  have f0:cellAt K h.next 0 = some (int (m.base:Int)):=kK.c0
  have f2:=kK.c2
  have hexT:∃ T,rnotes m S s d = T:=⟨_,rfl⟩
  obtain ⟨T,eT⟩:=hexT
  rw [eT] at hMK huK
  have hus:=huK.slice
  obtain ⟨au2,eu2,-⟩:=hus
  subst eu2
  have hws2:=hwK.slice
  obtain ⟨aw2,ew2,-⟩:=hws2
  subst ew2
  conv=>whnf
  repeat (refine SeqP.go ?_; conv=>whnf)
  refine ⟨_,f0,?_⟩
  conv=>whnf
  refine cmpB (fun q2=>?_) (fun q2=>?_)
  rotate_left
  ·have:d = m.base:=by omega
   subst this
   conv=>whnf
   repeat (refine SeqP.go ?_; conv=>whnf)
   exact ⟨(_,_,K),⟨rfl,rfl,rfl,rfl,rfl,rfl,rfl,rfl,rfl,trivial⟩,⟨rfl,hzK,by rw [eT]; exact hMK,by rw [eT]; exact huK,hwK⟩,rfl⟩
  have hd':d < m.base:=by omega
  have hnl:=hm.ok.lt s d hsl hd'
  have hnx:=kK.nextAt hm.ok hsl hd'
  obtain ⟨r5,o5,sp5,r7,o7,sp7,c7',ea,hsp5,hc5,hsp7,hc7⟩:=hnx
  subst ea
  have hext:∃ t,m.nx s d = t:=⟨_,rfl⟩
  obtain ⟨t,et⟩:=hext
  rw [et] at hc7 hnl
  have hSd:=hbM d (by omega)
  have hSd1:=hbM (d + 1) (by omega)
  have eS1:rnotes m S s (d + 1) = rnote m (rnotes m S s d) t:=by rw [← et]; rfl
  have ePr:prow m S s (d + 1) = prow m S s d ++ [((ixOf (clsOf m (rnotes m S s (d + 1))) (m.cl t):Nat):Int)]:=by rw [prow_succ,et]
  rw [eT] at hSd eS1
  have hexT1:∃ T1,rnotes m S s (d + 1) = T1:=⟨_,rfl⟩
  obtain ⟨T1,eT1⟩:=hexT1
  have hTin:m.cl t ∈ clsOf m T1:=by rw [← eT1,eS1,rnote_cls]; exact note_mem _ _
  rw [eT1] at hSd1 eS1 ePr
  have hnI:=nI_len T
  have hct:=View.cellg (v3.ext hzK.gr) (i:=t) (by omega)
  obtain ⟨r8,o8,sp8,ea,-,-,hc8⟩:=hct
  injection ea with ea
  injection ea with ea1 ea2 ea3
  subst ea1
  subst ea2
  subst ea3
  have eclt:gl m.cls t = m.cl t:=rfl
  rw [eclt] at hc8
  have hpl:(prow m S s d).length = d:=by unfold prow; rw [List.length_map,List.length_range]
  conv=>whnf
  refine SeqP.go ?_
  conv=>whnf
  refine SeqP.cut (α:=Unit) (fun q=>[(12,int t),(11,int d),(10,.slice aw2 (prow m S s d).length (prow m S s d).length),(9,int s),(8,int a),(7,ptr Z 0),(6,.slice au2 (nI T).length (nI T).length),(5,mapAt M),(3,.slice (some ⟨rc,oc,sc⟩) m.out.length m.out.length),(1,ptr h.next 0),(2,ptr (h.next + 1) 0)]) (fun q H7=>K = H7) ?_ ?_
  ·conv=>whnf
   refine ⟨_,f2,?_⟩
   conv=>whnf
   refine ⟨hsp5,⟨by omega,by omega⟩,?_⟩
   conv=>whnf
   refine ⟨_,hc5,?_⟩
   conv=>whnf
   refine ⟨hsp7,⟨by omega,by omega⟩,?_⟩
   conv=>whnf
   refine ⟨_,hc7,?_⟩
   conv=>whnf
   exact ⟨(),⟨rfl,rfl,rfl,rfl,rfl,rfl,rfl,rfl,rfl,rfl,rfl,trivial⟩,rfl,rfl⟩
  rintro _ φ10 _ rfl
  conv=>whnf
  refine SeqP.cut (α:=Value×Hp) (fun q=>[(12,int t),(11,int d),(10,.slice aw2 (prow m S s d).length (prow m S s d).length),(9,int s),(8,int a),(7,ptr Z 0),(6,q.1),(5,mapAt M),(3,.slice (some ⟨rc,oc,sc⟩) m.out.length m.out.length),(1,ptr h.next 0),(2,ptr (h.next + 1) 0)]) (fun q H7=>q.2 = H7∧MZ H3 q.2 26 Z ov nv ((S.take a).map m.o) us ((S.take a).map (rrow m S)) [int m.base,ov,nv] [pl M,q.1,.slice aw2 (prow m S s d).length (prow m S s d).length]∧Nums q.2 M encI (clsOf m T1)∧BuiltC H3 q.2 3 1 q.1 (nI T1).length ((nI T1).map int)∧BuiltC H3 q.2 3 1 (.slice aw2 (prow m S s d).length (prow m S s d).length) (prow m S s d).length ((prow m S s d).map int)) ?_ ?_
  ·by_cases hin:m.cl t ∈ clsOf m T
   ·have e1:T1 = T:=by rw [eS1]; unfold rnote; rw [if_pos hin]
    rw [e1]
    conv=>whnf
    refine SeqP.go ?_
    conv=>whnf
    refine ⟨hsc,⟨by omega,by omega⟩,?_⟩
    conv=>whnf
    refine ⟨_,hc8,?_⟩
    conv=>whnf
    refine raw_look2_some tM dM t3 z3 keyI (k:=m.cl t) rfl rfl hMK (fN_some hin) ?_
    conv=>whnf
    repeat (refine SeqP.go ?_; conv=>whnf)
    exact ⟨(_,K),⟨rfl,rfl,rfl,rfl,rfl,rfl,rfl,rfl,rfl,rfl,rfl,trivial⟩,⟨rfl,hzK,hMK,huK,hwK⟩,rfl⟩
   ·have e1:T1 = T ++ [t]:=by rw [eS1]; unfold rnote; rw [if_neg hin]
    have e2:clsOf m T1 = clsOf m T ++ [m.cl t]:=by rw [e1]; unfold clsOf; rw [List.map_append]; rfl
    have hcT:(clsOf m T).length = T.length:=by unfold clsOf; rw [List.length_map]
    conv=>whnf
    refine SeqP.go ?_
    conv=>whnf
    refine ⟨hsc,⟨by omega,by omega⟩,?_⟩
    conv=>whnf
    refine ⟨_,hc8,?_⟩
    conv=>whnf
    refine raw_look2_none tM dM t3 z3 keyI (k:=m.cl t) rfl rfl hMK (fN_none hin) ?_
    conv=>whnf
    repeat (refine SeqP.go ?_; conv=>whnf)
    refine ⟨hsc,⟨by omega,by omega⟩,?_⟩
    conv=>whnf
    refine ⟨_,hc8,?_⟩
    conv=>whnf
    refine raw_update tM dM keyI (k:=m.cl t) (v:=int (nI T).length) rfl rfl rfl hMK ?_
    intro K1 hM1 y1
    rw [hnI.trans hcT.symm] at hM1
    have htz:=hzK.touch (i:=0) (v:=pl M) rfl (Kx.keeps y1) (y1.grows hzK.gr hMge) (by rw [y1.next]; exact Nat.le_refl _)
    have hM1':=Nums.add hin hM1
    have hu1:=htz.2.builtC (v:=.slice au2 (nI T).length (nI T).length) (by simp) huK
    have hw1:=htz.2.builtC (v:=.slice aw2 (prow m S s d).length (prow m S s d).length) (by simp) hwK
    conv=>whnf
    repeat (refine SeqP.go ?_; conv=>whnf)
    refine htz.1.r_app (i:=1) rfl hu1 (by omega) ?_
    intro u' K2 hu' hb2 hz2' kv2
    obtain ⟨a9,n9,rfl⟩:=hu'
    have hM2':=kv2.map (M:=M) (by simp) hM1'
    have hw2:=kv2.builtC (v:=.slice aw2 (prow m S s d).length (prow m S s d).length) (by simp) hw1
    conv=>whnf
    exact ⟨(_,K2),⟨rfl,rfl,rfl,rfl,rfl,rfl,rfl,rfl,rfl,rfl,rfl,trivial⟩,⟨rfl,hz2',by rw [e2]; exact hM2',by rw [e1,nI_app]; exact hb2,hw2⟩,rfl⟩
  rintro ⟨u2,K1⟩ φ11 _ ⟨rfl,hz1,hM1,hu1,hw1⟩
  dsimp only at hz1 hM1 hu1 hw1 ⊢
  have hc8':=View.cellg (v3.ext hz1.gr) (i:=t) (by omega)
  obtain ⟨r9,o9,sp9,ea,-,-,hc9⟩:=hc8'
  injection ea with ea
  injection ea with ea1 ea2 ea3
  subst ea1
  subst ea2
  subst ea3
  rw [eclt] at hc9
  have hus3:=hu1.slice
  obtain ⟨au3,eu3,-⟩:=hus3
  subst eu3
  conv=>whnf
  refine ⟨hsc,⟨by omega,by omega⟩,?_⟩
  conv=>whnf
  refine ⟨_,hc9,?_⟩
  conv=>whnf
  refine raw_look1_some tM dM t3 z3 keyI (k:=m.cl t) rfl rfl hM1 (fN_some hTin) ?_
  conv=>whnf
  refine hz1.r_app (i:=2) rfl hw1 (by omega) ?_
  intro w' K2 hw' hb2 hz2' kv2
  obtain ⟨a9,n9,rfl⟩:=hw'
  have hM2':=kv2.map (M:=M) (by simp) hM1
  have hu2:=kv2.builtC (v:=.slice au3 (nI T1).length (nI T1).length) (by simp) hu1
  conv=>whnf
  repeat (refine SeqP.go ?_; conv=>whnf)
  refine ⟨((d + 1:Nat):Int),wie (by omega) (by omega),?_⟩
  conv=>whnf
  exact Rnd.mk (d + 1,_,_,K2) ⟨by show d + 1≤m.base; omega,hz2',by show Nums K2 M encI (clsOf m (rnotes m S s (d + 1))); rw [eT1]; exact hM2',by show BuiltC H3 K2 3 1 _ (nI (rnotes m S s (d + 1))).length ((nI (rnotes m S s (d + 1))).map int); rw [eT1]; exact hu2,by show BuiltC H3 K2 3 1 _ (prow m S s (d + 1)).length ((prow m S s (d + 1)).map int); rw [ePr]; exact hb2⟩ (by show m.base - (d + 1) < m.base - d; omega) ⟨rfl,rfl,rfl,rfl,rfl,rfl,rfl,rfl,rfl,rfl,trivial⟩ (Hp.Le.refl _) rfl
 rintro ⟨u2,w2,K⟩ φ9 _ ⟨rfl,hzK,hMK,huK,hwK⟩
 dsimp only at hzK hMK huK hwK ⊢
 have hpre:=rnotes_pre m S s m.base
 obtain ⟨rr,err⟩:=hpre
 have hrqn:=rq.next hm.ok hs
 have hstay:=rrow_stay hm.ok rq err
 have hexS':∃ S',rnotes m S s m.base = S':=⟨_,rfl⟩
 obtain ⟨S',eS'⟩:=hexS'
 have ePR:prow m S s m.base = rrow m S' s:=by rw [← eS']; rfl
 rw [eS'] at hMK huK err hrqn hstay
 rw [ePR] at hwK
 have hs':S'[a]? = some s:=by rw [err,List.getElem?_append_left haS]; exact hs
 have etk:S'.take a = S.take a:=by rw [err,List.take_append_of_le_length hale]
 have eO:((S.take a).map m.o) ++ [m.o s] = (S'.take (a + 1)).map m.o:=by rw [take_snoc hs',List.map_append,etk]; rfl
 have eN:((S.take a).map (rrow m S)) ++ [rrow m S' s] = (S'.take (a + 1)).map (rrow m S'):=by rw [take_snoc hs',List.map_append,etk,hstay]; rfl
 have htl:(S.take a).length = a:=by rw [List.length_take]; omega
 have hus:=huK.slice
 obtain ⟨au2,eu2,-⟩:=hus
 subst eu2
 have hws2:=hwK.slice
 obtain ⟨aw2,ew2,-⟩:=hws2
 subst ew2
 have hov:=hzK.out_ok
 obtain ⟨ax,eov⟩:=hov
 subst eov
 have hnv:=hzK.next_ok
 obtain ⟨ay,env⟩:=hnv
 subst env
 have z1:=cellAt_row (o:=1) hzK.z rfl
 have z2:=cellAt_row (o:=2) hzK.z rfl
 have kK:=hcx K h.next 26 (gh3.trans hzK.gr) (hzK.gr.at_ _ _ aX3)
 have f1:cellAt K h.next 1 = some (.slice ao m.out.length co):=kK.c1
 have hoM:=kK.outM hsl
 obtain ⟨r5,o5,sp5,ea,hsp5,hc5⟩:=hoM
 subst ea
 conv=>whnf
 repeat (refine SeqP.go ?_; conv=>whnf)
 refine ⟨_,z1,?_⟩
 conv=>whnf
 refine ⟨_,z2,?_⟩
 conv=>whnf
 repeat (refine SeqP.go ?_; conv=>whnf)
 refine ⟨_,f1,?_⟩
 conv=>whnf
 refine ⟨hsp5,⟨by omega,by omega⟩,?_⟩
 conv=>whnf
 refine ⟨_,hc5,?_⟩
 conv=>whnf
 refine hzK.o_app (by rw [List.length_map]; omega) ?_
 intro ov7 K7 hov7 hz7 kv7
 obtain ⟨a7,n7,rfl⟩:=hov7
 have hM7:=kv7.map (M:=M) (by simp) hMK
 have hu7:=kv7.builtC (v:=.slice au2 (nI S').length (nI S').length) (by simp) huK
 have hw7:=kv7.builtC (v:=.slice aw2 (rrow m S' s).length (rrow m S' s).length) (by simp) hwK
 conv=>whnf
 refine ⟨rfl,_,storeAt_row hz7.z (by simp) rfl,?_⟩
 have hz8:=hz7.put [int m.base,.slice a7 n7 n7,.slice ay ((S.take a).map (rrow m S)).length ((S.take a).map (rrow m S)).length]
 have hM8:=hz8.2.map (M:=M) (by simp) hM7
 have hu8:=hz8.2.builtC (v:=.slice au2 (nI S').length (nI S').length) (by simp) hu7
 have hw8:=hz8.2.builtC (v:=.slice aw2 (rrow m S' s).length (rrow m S' s).length) (by simp) hw7
 conv=>whnf
 repeat (refine SeqP.go ?_; conv=>whnf)
 refine hz8.1.n_app (i:=2) (by rw [List.length_map]; omega) rfl hw8.b ?_
 intro nv9 K9 hnv9 hz9 kv9
 obtain ⟨a9,n9,rfl⟩:=hnv9
 have hM9:=kv9.map (M:=M) (by simp) hM8
 have hu9:=kv9.builtC (v:=.slice au2 (nI S').length (nI S').length) (by simp) hu8
 conv=>whnf
 refine ⟨rfl,_,storeAt_row hz9.z (by simp) rfl,?_⟩
 have hz10:=hz9.put [int m.base,.slice a7 n7 n7,.slice a9 n9 n9]
 have hM10:=hz10.2.map (M:=M) (by simp) hM9
 have hu10:=hz10.2.builtC (v:=.slice au2 (nI S').length (nI S').length) (by simp) hu9
 have hz11:=hz10.1
 rw [eO,eN] at hz11
 conv=>whnf
 repeat (refine SeqP.go ?_; conv=>whnf)
 refine ⟨((a + 1:Nat):Int),wie (by omega) (by omega),?_⟩
 conv=>whnf
 exact Rnd.mk (S',a + 1,_,_,_,_,_) ⟨hrqn,hz11,hM10,hu10⟩ (by show 20000 - (a + 1) < 20000 - a; omega) ⟨rfl,rfl,rfl,rfl,rfl,rfl,rfl,trivial⟩ (Hp.Le.refl _) rfl
end
end Go.Proofs.Ytedneplaibmppaa
namespace Go.Proofs.Ytedneplaibmppaa
open Go.Rx Go.RowKit
attribute [local irreducible] E idxN cellAt cellsAt storeAt callable helems hmoved lookIn findKey keyOk hentries Hp.at Hp.set Hp.lay arBits hupdated setAt CallP YieldP BoolOf IsWrap Rnd LoopP AppP CutP Int.tmod Int.tdiv Int.fdiv
section
variable [Unknowns]
attribute [local irreducible] ResP sameAt
theorem right_spec (va vb:Value) (e:Int) (m:Mac) (h:Hp) (hb:MV h vb m.i) (hm:OkB m) (hgood:m.form.out.length≤12→e = 0∧MV h va m.form.i∧OkS m.form) (hbad:12 < m.form.out.length→e = 8∧va = noM):CallP E 43 [va,int e,vb] h (fun r h'=>r = .bool true∧Grows h h'):=by
 have hva:∃ bx:List Value,va = .agg ⟨bx⟩∧bx.length = 3:=by
  by_cases hl:m.form.out.length≤12
  ·obtain ⟨bx,e1,hbx⟩:=(hgood hl).2.1.box
   exact ⟨bx,e1,hbx.len⟩
  ·exact ⟨_,(hbad (by omega)).2,rfl⟩
 obtain ⟨bxa,rfl,hla⟩:=hva
 obtain ⟨bxb,rfl,hxb⟩:=hb.box
 refine enter43 (by simp) ?_
 conv=>whnf
 refine SeqP.cut (α:=Hp) (fun _=>[(3,ptr h.next 0),(5,ptr (h.next + 1) 0),(1,int e)]) (fun x H=>x = H∧Grows h H∧H.at h.next = some (.row 25 true bxa)∧H.at (h.next + 1) = some (.row 26 true bxb)) ?_ ?_
 ·conv=>whnf
  have n1:(h.lay (.row 25 true bxa)).next = h.next + 1:=Hp.next_lay _ _
  exact ⟨_,⟨rfl,congrArg (fun k=>ptr k 0) n1,rfl,trivial⟩,⟨rfl,(Grows.lay _ _).then_lay _,Hp.at_lay_old _ (Hp.at_lay_self _ _),at_nx2 n1 (Hp.at_lay_self _ _)⟩,rfl⟩
 rintro H φ1 _ ⟨rfl,gH,aX,aY⟩
 conv=>whnf
 refine SeqP.cut (α:=Nat×List Value×Hp) (fun s=>[(7,ptr s.1 0),(3,ptr h.next 0),(1,int e)]) (fun s H2=>s.2.2 = H2∧H2.at s.1 = some (.row 26 true s.2.1)∧Bx H2 s.2.1 m.form.i∧Grows H H2) ?_ ?_
 ·conv=>whnf
  refine ⟨_,all_cells aY hxb.len,?_⟩
  conv=>whnf
  refine CallP.mono (RForm_spec _ m _ (Bx.mv (hxb.ext gH)) hm) ?_
  rintro r H2 ⟨hw,g2⟩
  have hk:=hw.known
  obtain ⟨p,q,rfl⟩:=hk
  conv=>whnf
  refine ⟨rfl,_,storeAt_all (vs:=[int m.form.i.base,.slice p m.form.i.out.length m.form.i.out.length,.slice q m.form.i.next.length m.form.i.next.length]) rfl rfl rfl,?_⟩
  conv=>whnf
  exact ⟨(H2.next,_,_),⟨rfl,rfl,rfl,trivial⟩,⟨rfl,Hp.at_lay_self _ _,(hw.mv.ext (Grows.lay _ _)).bx,g2.then_lay _⟩,rfl⟩
 rintro ⟨N7,b7,H2⟩ φ2 _ ⟨rfl,a7,hb7,g2⟩
 dsimp only at a7 hb7 g2 ⊢
 have aX2:=g2.at_ _ _ aX
 have gh2:=gH.trans g2
 have hexF:∃ F,m.form = F:=⟨_,rfl⟩
 obtain ⟨F,eF⟩:=hexF
 rw [eF] at hb7 hgood hbad
 obtain ⟨bo,bn,do_,dn,hdx⟩:=hb7.cx
 have e1:cellAt H2 N7 1 = some (.slice bo F.out.length do_):=(hdx H2 N7 26 (.refl _) a7).c1
 by_cases hl:F.out.length≤12
 ·obtain ⟨rfl,hva,hFs⟩:=hgood hl
  have hba:Bx H2 bxa F.i:=(hva.ext gh2).bx
  obtain ⟨ao,an,co,cn,hcx⟩:=hba.cx
  have c3:=all_cells aX2 hla
  have c7:=all_cells a7 hb7.len
  have e2:cellAt H2 N7 2 = some (.slice bn F.i.next.length dn):=(hdx H2 N7 26 (.refl _) a7).c2
  conv=>whnf
  repeat (refine SeqP.go ?_; conv=>whnf)
  refine ⟨_,e1,?_⟩
  conv=>whnf
  refine cmpF (by omega) ?_
  conv=>whnf
  repeat (refine SeqP.go ?_; conv=>whnf)
  refine cmpT rfl ?_
  conv=>whnf
  refine ⟨_,c3,?_⟩
  conv=>whnf
  refine CallP.mono (own_spec _ F.i _ (Bx.mv hba) (lens_of hFs)) ?_
  rintro r G1 ⟨hw,g1⟩
  rw [hFs.cut] at hw
  have hk:=hw.known
  obtain ⟨p,q,rfl⟩:=hk
  have c3a:=g1.cells c3
  have c7a:=g1.cells c7
  conv=>whnf
  refine ⟨_,c7a,?_⟩
  conv=>whnf
  refine CallP.mono (REqual_spec _ _ F.i F.i _ hw.mv (Bx.mv (hb7.ext g1)) hFs.ok.ilen hFs.lens.1 hFs.lens.2.2) ?_
  rintro _ G2 ⟨⟨x,rfl,hx⟩,gg2⟩
  cases x with
  | false=>exact absurd rfl hx.f
  | true =>
   have g12:=g1.trans gg2
   have c3b:=gg2.cells c3a
   have c7b:=gg2.cells c7a
   have d1:cellAt G2 h.next 1 = some (.slice ao F.out.length co):=(hcx G2 h.next 25 g12 (g12.at_ _ _ aX2)).c1
   have d2:cellAt G2 h.next 2 = some (.slice an F.i.next.length cn):=(hcx G2 h.next 25 g12 (g12.at_ _ _ aX2)).c2
   have f1:=g12.cell e1
   have f2:=g12.cell e2
   conv=>whnf
   refine ⟨_,d1,?_⟩
   conv=>whnf
   refine ⟨_,f1,?_⟩
   conv=>whnf
   refine cmpT rfl ?_
   conv=>whnf
   refine ⟨_,d2,?_⟩
   conv=>whnf
   refine ⟨_,f2,?_⟩
   conv=>whnf
   refine cmpT rfl ?_
   conv=>whnf
   refine ⟨?_,?_⟩
   ·repeat' (first | exact True.intro | (refine And.intro ?_ ?_ <;> (conv=>whnf)))
    all_goals first
     | exact sameAt_val (h2:=_) rfl (sameV_int _)
     | exact sameAt_val (h2:=_) rfl (sameV_ptr _ _)
     | exact sameAt_val (h2:=_) (congrArg (fun x=>hval _ (aggOf x)) c3) hba.same
     | exact sameAt_val (h2:=_) (congrArg (fun x=>hval _ (aggOf x)) c3a) hba.same
     | exact sameAt_val (h2:=_) (congrArg (fun x=>hval _ (aggOf x)) c3b) hba.same
     | exact sameAt_val (h2:=_) (congrArg (fun x=>hval _ (aggOf x)) c7) hb7.same
     | exact sameAt_val (h2:=_) (congrArg (fun x=>hval _ (aggOf x)) c7a) hb7.same
     | exact sameAt_val (h2:=_) (congrArg (fun x=>hval _ (aggOf x)) c7b) hb7.same
     | trace_state
   conv=>whnf
   repeat (refine SeqP.go ?_; conv=>whnf)
   exact ⟨rfl,gh2.trans g12⟩
 ·have hbd:=hbad (by omega)
  obtain ⟨rfl,enm⟩:=hbd
  injection enm with enm
  injection enm with enm
  subst enm
  conv=>whnf
  repeat (refine SeqP.go ?_; conv=>whnf)
  refine ⟨_,e1,?_⟩
  conv=>whnf
  refine cmpT (by omega) ?_
  conv=>whnf
  repeat (refine SeqP.go ?_; conv=>whnf)
  refine cmpT rfl ?_
  conv=>whnf
  refine ⟨_,all_cells aX2 rfl,?_⟩
  conv=>whnf
  refine CallP.mono (empty_spec _ no0 _ (noM_mv _)) ?_
  rintro _ G1 ⟨⟨x,rfl,hx⟩,g1⟩
  cases x with
  | false=>exact absurd rfl hx.f
  | true =>
   conv=>whnf
   repeat (refine SeqP.go ?_; conv=>whnf)
   exact ⟨rfl,gh2.trans g1⟩
end
end Go.Proofs.Ytedneplaibmppaa
namespace Go.Proofs.Ytedneplaibmppaa
open Go.Rx Go.RowKit
attribute [local irreducible] E idxN cellAt cellsAt storeAt callable helems hmoved lookIn findKey keyOk hentries Hp.at Hp.set Hp.lay arBits hupdated setAt CallP YieldP BoolOf IsWrap Rnd LoopP AppP CutP Int.tmod Int.tdiv Int.fdiv
section
variable [Unknowns]
attribute [local irreducible] ResP sameAt
theorem index83_spec (a:Option Addr) (n c M:Nat) (L:List (Int×Int)) (kk:Int×Int) (h:Hp) (hM:Nums h M encP L) (hn:n = L.length):CallP E 83 [.slice a n c,mapAt M,encP kk] h (fun r h'=>((kk ∈ L→r = .tuple ⟨[int (ixOf L kk:Nat),.bool true]⟩)∧(kk ∉ L→r = .tuple ⟨[int L.length,.bool false]⟩))∧Grows h h'):=by
 subst hn
 obtain ⟨i3,t3,-,z3⟩:=ty3
 obtain ⟨iM,tM,dM⟩:=ty117
 obtain ⟨x,y⟩:=kk
 unfold encP
 refine enter83 (by simp) ?_
 conv=>whnf
 refine SeqP.cut (α:=Hp) (fun _=>[(5,ptr h.next 0),(0,.slice a L.length c),(1,mapAt M)]) (fun q H=>q = H∧Grows h H∧H.at h.next = some (.row 64 true [int x,int y])) ?_ ?_
 ·conv=>whnf
  exact ⟨_,⟨rfl,rfl,rfl,trivial⟩,⟨rfl,Grows.lay _ _,Hp.at_lay_self _ _⟩,rfl⟩
 rintro H φ1 _ ⟨rfl,gH,aK⟩
 have hM1:=hM.ext gH
 by_cases hin:(x,y) ∈ L
 ·conv=>whnf
  repeat (refine SeqP.go ?_; conv=>whnf)
  refine ⟨_,all_cells aK rfl,?_⟩
  conv=>whnf
  refine raw_look2_some tM dM t3 z3 key64 (k:=(x,y)) rfl rfl hM1 (fN_some hin) ?_
  conv=>whnf
  repeat (refine SeqP.go ?_; conv=>whnf)
  exact ⟨⟨fun _=>rfl,fun q=>absurd hin q⟩,gH⟩
 ·conv=>whnf
  repeat (refine SeqP.go ?_; conv=>whnf)
  refine ⟨_,all_cells aK rfl,?_⟩
  conv=>whnf
  refine raw_look2_none tM dM t3 z3 key64 (k:=(x,y)) rfl rfl hM1 (fN_none hin) ?_
  conv=>whnf
  repeat (refine SeqP.go ?_; conv=>whnf)
  exact ⟨⟨fun q=>absurd q hin,fun _=>rfl⟩,gH⟩
end
end Go.Proofs.Ytedneplaibmppaa
namespace Go.Proofs.Ytedneplaibmppaa
open Go.Rx Go.RowKit
structure Wr (hb H0 H:Hp):Prop where
 gr:Grows hb H
 next:H.next = H0.next
 row:∀ (r:Nat) (x:Bool) (l:List Int),H0.at r = some (.row 3 x (l.map int))→∃ l':List Int,l'.length = l.length∧H.at r = some (.row 3 x (l'.map int))
 oth:∀ (r e:Nat) (x:Bool) (cs:List Value),e≠3→H0.at r = some (.row e x cs)→H.at r = some (.row e x cs)
theorem Wr.refl {hb H:Hp} (g:Grows hb H):Wr hb H H:=⟨g,rfl,fun r x l e=>⟨l,rfl,e⟩,fun r e x cs _ h=>h⟩
end Go.Proofs.Ytedneplaibmppaa
namespace Go.Proofs.Ytedneplaibmppaa
open Go.Rx Go.RowKit
/-! The machine of the states that are met. -/
def outM (m:Mac) (s:Int):Int:=m.o s.toNat
/-! Other outputs. -/
/-! Two digits at once. -/
/-! Two machines side by side. -/
end Go.Proofs.Ytedneplaibmppaa
namespace Go.Proofs.Ytedneplaibmppaa
open Go.Rx Go.RowKit
theorem rem_val2 {x y r:Int} {h:Hp} (hy:y≠0) (e:x.tmod y = r):hval h (arK .i64 .rem x y) = .val (int r) h:=by
 unfold arK
 dsimp only
 rw [if_neg hy,e]
 rfl
theorem fl2_get:∀ (l:List (Int×Int)) (k:Nat) (x:Int×Int),l[k]? = some x→(fl2 l)[k * 2]? = some (int x.1)∧(fl2 l)[k * 2 + 1]? = some (int x.2)
 | p :: l,0,x,h=>by cases h; exact ⟨rfl,rfl⟩
 | p :: l,k + 1,x,h=>by
  have:=fl2_get l k x (by simpa using h)
  rw [show (k + 1) * 2 = k * 2 + 1 + 1 by omega]
  exact this
theorem fl2_at {h0 H:Hp} {e:Nat} {v:Value} {L:List (Int×Int)} (k:BuiltC h0 H e 2 v L.length (fl2 L)) {i:Nat} {x:Int×Int} (hi:L[i]? = some x):∃ r,v = slc r 0 L.length L.length∧cellAt H r (offAt (offAt 0 i 2) 0 1) = some (int x.1)∧cellAt H r (offAt (offAt 0 i 2) 1 1) = some (int x.2):=by
 have hl:=(List.getElem?_eq_some_iff.1 hi).1
 obtain ⟨hlen,⟨_,e1⟩ | ⟨r,er,_,y,hr⟩⟩:=k
 ·omega
 ·have h2:=fl2_get L i x hi
  refine ⟨r,er,?_,?_⟩
  ·rw [offAt_eq,offAt_eq]
   exact cellAt_row hr (by simpa using h2.1)
  ·rw [offAt_eq,offAt_eq]
   exact cellAt_row hr (by simpa using h2.2)
section
variable {S:Type} [DecidableEq S]
theorem rowOf_succ {next:S→Nat→S} {d:Nat} {L L':List S} {s:S} (hL:∀ j,j < d→next s j ∈ L) {r:List S} (e:L' = L ++ r):rowOf next (d + 1) L' s = rowOf next d L s ++ [((ixOf L' (next s d):Nat):Int)]:=by
 unfold rowOf
 rw [List.range_succ,List.map_append]
 congr 1
 refine List.map_congr_left fun j hj=>?_
 unfold ixOf
 rw [e,idxOf_app (hL j (List.mem_range.1 hj))]
theorem rowOf_len {next:S→Nat→S} {b:Nat} {L:List S} {s:S}:(rowOf next b L s).length = b:=by unfold rowOf; rw [List.length_map,List.length_range]
end
attribute [local irreducible] E idxN cellAt cellsAt storeAt callable helems hmoved lookIn findKey keyOk hentries Hp.at Hp.set Hp.lay arBits hupdated setAt CallP YieldP BoolOf IsWrap Rnd LoopP AppP CutP Int.tmod Int.tdiv Int.fdiv
section
variable [Unknowns]
attribute [local irreducible] ResP sameAt finP
theorem REvery_spec (v:Value) (m:Mac) (step from_:Nat) (h:Hp) (hv:MV h v m.i) (hm:OkS m) (hst_:step≤1000) (hf_:from_≤1000):CallP E 44 [v,int step,int from_] h (fun r h'=>OwnM h h' r (m.every step from_).i∧Grows h h'):=by
 obtain ⟨bx,rfl,hbx⟩:=hv.box
 obtain ⟨ao,an,co,cn,hcx⟩:=hbx.cx
 have hb5:=hm.b5
 have hb2:=hm.b2
 have hn12:=hm.n12
 have hil:=hm.ok.ilen
 have hU0:=Mac.every_fin hm.ok (step:=step) (B:=1000) hst_
 have hs0:=Mac.every_mem hm.ok (f:=from_) (B:=1000) hf_
 have hUlen:m.out.length * 1001≤12 * 1001:=Nat.mul_le_mul_right _ hn12
 have hexn:∃ next,m.nextE step = next:=⟨_,rfl⟩
 obtain ⟨next,enext⟩:=hexn
 have hexo:∃ out,m.outE = out:=⟨_,rfl⟩
 obtain ⟨out,eout⟩:=hexo
 have emach:built m.base (0,(from_:Int)) out next = m.every step from_:=by rw [← eout,← enext]; rfl
 rw [enext] at hU0
 have hUl0:(sq m.out.length (1000 + 1)).length = m.out.length * 1001:=sq_len m.out.length 1001
 have hexU:∃ U,sq m.out.length (1000 + 1) = U:=⟨_,rfl⟩
 obtain ⟨U,eU⟩:=hexU
 have hsq:∀ p ∈ U,(0≤p.1∧p.1 < m.out.length)∧(0≤p.2∧p.2 < 1001):=fun p hp=>by rw [← eU] at hp; exact sq_mem.1 hp
 have hU:=hU0
 rw [eU] at hU hs0
 have hUl:U.length≤1000000:=by rw [← eU]; omega
 obtain ⟨i3,t3,-,z3⟩:=ty3
 obtain ⟨iM,tM,dM⟩:=ty117
 refine enter44 (by simp) ?_
 conv=>whnf
 refine SeqP.cut (α:=Hp) (fun _=>[(6,ptr (h.next + 1) 0),(3,ptr h.next 0),(1,int step),(2,int from_)]) (fun x H=>x = H∧Grows h H∧H.at h.next = some (.row 26 true bx)∧H.at (h.next + 1) = some (.row 26 true [int 0,nilS,nilS])∧H.next = h.next + 2) ?_ ?_
 ·conv=>whnf
  have n1:(h.lay (.row 26 true bx)).next = h.next + 1:=Hp.next_lay _ _
  exact ⟨_,⟨congrArg (fun k=>ptr k 0) n1,rfl,rfl,rfl,trivial⟩,⟨rfl,(Grows.lay _ _).then_lay _,Hp.at_lay_old _ (Hp.at_lay_self _ _),at_nx2 n1 (Hp.at_lay_self _ _),by rw [Hp.next_lay,n1]⟩,rfl⟩
 rintro H φ1 _ ⟨rfl,gH,aX,aR,nH⟩
 have hltR:=Hp.lt_of_at aR
 have hexR:∃ RR,h.next + 1 = RR:=⟨_,rfl⟩
 obtain ⟨RR,eRR⟩:=hexR
 rw [eRR] at aR hltR ⊢
 have hRh:h.next≤RR:=by omega
 conv=>whnf
 refine SeqP.cut (α:=Hp) (fun _=>[(7,slc H.next 0 1 1),(6,ptr RR 0),(3,ptr h.next 0),(1,int step),(2,int from_)]) (fun x H2=>x = H2∧Grows H H2∧H2.at H.next = some (.row 64 true [int 0,int from_])∧H2.next = H.next + 1) ?_ ?_
 ·conv=>whnf
  exact ⟨_,⟨rfl,rfl,rfl,rfl,rfl,trivial⟩,⟨rfl,Grows.lay _ _,Hp.at_lay_self _ _,Hp.next_lay _ _⟩,rfl⟩
 rintro H2 φ2 _ ⟨rfl,g2,a2,n2⟩
 conv=>whnf
 refine SeqP.cut (α:=Hp) (fun _=>[(8,mapAt H2.next),(7,slc H.next 0 1 1),(6,ptr RR 0),(3,ptr h.next 0),(1,int step),(2,int from_)]) (fun x H3=>x = H3∧Grows H2 H3∧Nums H3 H2.next encP [((0:Int),(from_:Int))]) ?_ ?_
 ·conv=>whnf
  refine raw_insert tM dM key64 (k:=((0:Int),(from_:Int))) (v:=int 0) (n:=0) rfl rfl rfl (MapAt.new _) ?_
  intro H4 hM4 y4
  have gl4:Grows H2 (H2.lay (.map [] 0)):=Grows.lay _ _
  have gk4:Grows H2 H4:=⟨by rw [y4.next]; exact gl4.next,fun r o e=>y4.at_ r o (by have:=Hp.lt_of_at e; omega) (gl4.at_ r o e)⟩
  conv=>whnf
  exact ⟨H4,⟨rfl,rfl,rfl,rfl,rfl,rfl,trivial⟩,⟨rfl,gk4,hM4.congr fun k=>by
   unfold fN
   by_cases e:k = ((0:Int),(from_:Int))
   ·rw [if_pos e,if_pos (by rw [e]; simp),e]; simp
   ·rw [if_neg e,if_neg (by simpa using e)]⟩,rfl⟩
 rintro H3 φ3 _ ⟨rfl,g3,hM3⟩
 have hltM:H2.next < H3.next:=by
  obtain ⟨_,_,h1,_⟩:=hM3
  exact Hp.lt_of_at h1
 have d0:=(hcx H3 h.next 26 ((gH.trans g2).trans g3) (g3.at_ _ _ (g2.at_ _ _ aX))).c0
 conv=>whnf
 refine SeqP.cut (α:=Hp) (fun q=>[(9,ptr H3.next 0),(8,mapAt H2.next),(7,slc H.next 0 1 1),(6,ptr RR 0),(3,ptr h.next 0),(1,int step),(2,int from_)]) (fun q H6=>q = H6∧Grows H3 H6∧H6.at H3.next = some (.row 26 true [int m.base,nilS,nilS])) ?_ ?_
 ·conv=>whnf
  refine ⟨_,d0,?_⟩
  conv=>whnf
  refine ⟨rfl,_,storeAt_all (vs:=[int m.base,nilS,nilS]) rfl rfl rfl,?_⟩
  conv=>whnf
  exact ⟨_,⟨rfl,rfl,rfl,rfl,rfl,rfl,rfl,trivial⟩,⟨rfl,Grows.lay _ _,Hp.at_lay_self _ _⟩,rfl⟩
 rintro H6 φ6 _ ⟨rfl,g6,a6⟩
 have hexZ:∃ Z,H3.next = Z:=⟨_,rfl⟩
 obtain ⟨Z,eZ⟩:=hexZ
 have hexr:∃ r6,H.next = r6:=⟨_,rfl⟩
 obtain ⟨r6,er6⟩:=hexr
 have hexM:∃ M,H2.next = M:=⟨_,rfl⟩
 obtain ⟨M,eM⟩:=hexM
 have hRr:RR < r6:=by omega
 rw [eZ] at a6 hltM ⊢
 rw [er6] at a2 n2 ⊢
 rw [eM] at hM3 hltM n2 ⊢
 have hltZ:=Hp.lt_of_at a6
 have g36:=(g2.trans g3).trans g6
 have hz6:MZ H H6 26 Z nilS nilS [] [] [] [int m.base,nilS,nilS] [pl M,slc r6 0 1 1]:=⟨g36,a6,BuiltC.nil,BuiltC.nil,rfl,fun k u l e=>by simp at e,by omega,sep3 hltZ (by omega) (by omega) (by omega) (by omega) (by omega) 1 1⟩
 have hM6:Nums H6 M encP [((0:Int),(from_:Int))]:=hM3.ext g6
 have hst6:BuiltC H H6 64 2 (slc r6 0 1 1) [((0:Int),(from_:Int))].length (fl2 [((0:Int),(from_:Int))]):=⟨rfl,.inr ⟨r6,rfl,by omega,true,g6.at_ _ _ (g3.at_ _ _ a2)⟩⟩
 have hz6':=hz6.more (.refl _) (v:=nilS) fun r e=>by cases e
 have hMge:H.next≤M:=by omega
 have hq0:=Bq.start hU hs0
 clear a6 g6 g36 hM3 a2
 conv=>whnf
 refine SeqP.cut (α:=Value×Value×List Value×List Int×List (List Int)×Hp) (fun q=>[(9,ptr Z 0),(6,ptr RR 0)]) (fun q H7=>q.2.2.2.2.2 = H7∧∃ rs,MZ H q.2.2.2.2.2 26 Z q.1 q.2.1 q.2.2.2.1 q.2.2.1 q.2.2.2.2.1 [int m.base,q.1,q.2.1] rs∧(m.every step from_).i = ⟨m.base,q.2.2.2.1,q.2.2.2.2.1⟩) ?_ ?_
 rotate_left
 ·rintro ⟨ov,nv,us,O,N,H7⟩ φ7 _ ⟨rfl,rs,hz7,ef⟩
  dsimp only at hz7 ef ⊢
  have hov:=hz7.out_ok
  obtain ⟨ax,rfl⟩:=hov
  have hnv:=hz7.next_ok
  obtain ⟨ay,rfl⟩:=hnv
  have aR7:=hz7.gr.at_ _ _ aR
  conv=>whnf
  repeat (refine SeqP.go ?_; conv=>whnf)
  refine ⟨_,all_cells hz7.z rfl,?_⟩
  conv=>whnf
  refine ⟨rfl,_,storeAt_full (vs:=[int m.base,.slice ax O.length O.length,.slice ay N.length N.length]) aR7 rfl rfl rfl,?_⟩
  conv=>whnf
  repeat (refine SeqP.go ?_; conv=>whnf)
  obtain ⟨iR,tR,agR,szR⟩:=ty26
  refine leave_cell (r:=RR) (o:=0) (cs:=[int m.base,.slice ax O.length O.length,.slice ay N.length N.length]) rfl tR agR ?_ ?_
  ·rw [szR]
   exact all_cells (Hp.at_set_self _ (Hp.lt_of_at aR7)) rfl
  ·rw [ef]
   exact hz7.leave (h:=h) (R:=RR) (by omega) (by omega) gH m.base (.row 26 true [int m.base,.slice ax O.length O.length,.slice ay N.length N.length])
 conv=>whnf
 repeat (refine SeqP.go ?_; conv=>whnf)
 refine loop_inv (α:=List (Int×Int)×Nat×Value×Value×Value×List Value×Hp) (fun q=>[(10,int q.2.1),(9,ptr Z 0),(8,mapAt M),(7,q.2.2.1),(6,ptr RR 0),(3,ptr h.next 0),(1,int step),(2,int from_)]) (fun q=>q.2.2.2.2.2.2) (fun q=>Bq next m.base ((0:Int),(from_:Int)) U q.1 q.2.1∧MZ H q.2.2.2.2.2.2 26 Z q.2.2.2.1 q.2.2.2.2.1 ((q.1.take q.2.1).map out) q.2.2.2.2.2.1 (rowsOf next m.base q.1 q.2.1) [int m.base,q.2.2.2.1,q.2.2.2.2.1] [pl M,q.2.2.1,nilS]∧Nums q.2.2.2.2.2.2 M encP q.1∧BuiltC H q.2.2.2.2.2.2 64 2 q.2.2.1 q.1.length (fl2 q.1)) (fun q=>2000000 - q.2.1) ([((0:Int),(from_:Int))],0,slc r6 0 1 1,nilS,nilS,[],H6) ⟨hq0,hz6',hM6,hst6⟩ ⟨rfl,rfl,rfl,rfl,rfl,rfl,rfl,rfl,trivial⟩ (Hp.Le.refl _) ?_
 rintro ⟨L,a,u6,ov,nv,us,G⟩ φ7 ⟨hq,hz,hM,hst⟩
 dsimp only at hq hz hM hst ⊢
 clear hz6 hM6 hst6 hz6' hq0
 have hfew:=hq.few
 have hale:=hq.le
 have hsk:=hst.slice
 obtain ⟨au,eu,-⟩:=hsk
 subst eu
 conv=>whnf
 repeat (refine SeqP.go ?_; conv=>whnf)
 refine cmpB (fun q1=>?_) (fun q1=>?_)
 rotate_left
 ·have hbd:=hq.done (by omega)
  have ea:a = L.length:=by omega
  subst ea
  rw [List.take_length] at hz
  conv=>whnf
  repeat (refine SeqP.go ?_; conv=>whnf)
  exact ⟨(ov,nv,us,L.map out,rowsOf next m.base L L.length,G),⟨rfl,rfl,trivial⟩,⟨rfl,_,hz,by rw [← emach]; exact built_i hbd⟩,rfl⟩
 have haL:a < L.length:=by omega
 have hexs:∃ s,L[a]? = some s:=⟨_,List.getElem?_eq_getElem haL⟩
 obtain ⟨s,hs⟩:=hexs
 have hsU:=hq.sub s (List.mem_of_getElem? hs)
 have hOl:((L.take a).map out).length = a:=by rw [List.length_map,List.length_take]; omega
 have hNl:(rowsOf next m.base L a).length = a:=by unfold rowsOf; rw [List.length_map,List.length_take]; omega
 have hq2:=hq.next hU hs
 have hsc:=fl2_at hst hs
 obtain ⟨rst,erst,hsc1,hsc2⟩:=hsc
 cases erst
 have hpr:∃ s1 s2:Nat,s = ((s1:Int),(s2:Int))∧s1 < m.out.length∧s2 < 1001:=by
  have h1:=hsq s hsU
  obtain ⟨p1,p2⟩:=s
  dsimp only at h1
  exact ⟨p1.toNat,p2.toNat,by rw [Int.toNat_of_nonneg (by omega),Int.toNat_of_nonneg (by omega)],by omega,by omega⟩
 obtain ⟨s1,s2,es,hs12⟩:=hpr
 rw [es] at hsc1 hsc2
 dsimp only at hsc1 hsc2
 conv=>whnf
 refine SeqP.go ?_
 conv=>whnf
 refine SeqP.cut (α:=Unit) (fun q=>[(11,int s1),(12,int s2),(10,int a),(9,ptr Z 0),(8,mapAt M),(7,slc rst 0 L.length L.length),(6,ptr RR 0),(3,ptr h.next 0),(1,int step),(2,int from_)]) (fun q H7=>G = H7) ?_ ?_
 ·conv=>whnf
  refine ⟨rfl,⟨by omega,by omega⟩,?_⟩
  conv=>whnf
  refine ⟨⟨by omega,by omega⟩,?_⟩
  conv=>whnf
  refine ⟨_,hsc1,?_⟩
  conv=>whnf
  refine ⟨rfl,⟨by omega,by omega⟩,?_⟩
  conv=>whnf
  refine ⟨⟨by omega,by omega⟩,?_⟩
  conv=>whnf
  refine ⟨_,hsc2,?_⟩
  conv=>whnf
  exact ⟨(),⟨rfl,rfl,rfl,rfl,rfl,rfl,rfl,rfl,rfl,rfl,trivial⟩,rfl,rfl⟩
 rintro _ φ8 _ rfl
 clear hsc1 hsc2
 conv=>whnf
 refine SeqP.go ?_
 conv=>whnf
 refine SeqP.cut (α:=Value×Value×Hp) (fun q=>[(13,q.2.1),(11,int s1),(12,int s2),(10,int a),(9,ptr Z 0),(8,mapAt M),(7,q.1),(6,ptr RR 0),(3,ptr h.next 0),(1,int step),(2,int from_)]) (fun q H7=>q.2.2 = H7∧MZ H q.2.2 26 Z ov nv ((L.take a).map out) us (rowsOf next m.base L a) [int m.base,ov,nv] [pl M,q.1,q.2.1]∧Nums q.2.2 M encP (notes L (outsN next s m.base))∧BuiltC H q.2.2 64 2 q.1 (notes L (outsN next s m.base)).length (fl2 (notes L (outsN next s m.base)))∧BuiltC H q.2.2 3 1 q.2.1 (rowOf next m.base (notes L (outsN next s m.base)) s).length ((rowOf next m.base (notes L (outsN next s m.base)) s).map int)) ?_ ?_
 ·conv=>whnf
  repeat (refine SeqP.go ?_; conv=>whnf)
  refine loop_inv (α:=Nat×Value×Value×Hp) (fun q=>[(14,int q.1),(13,q.2.2.1),(11,int s1),(12,int s2),(10,int a),(9,ptr Z 0),(8,mapAt M),(7,q.2.1),(6,ptr RR 0),(3,ptr h.next 0),(1,int step),(2,int from_)]) (fun q=>q.2.2.2) (fun q=>q.1≤m.base∧MZ H q.2.2.2 26 Z ov nv ((L.take a).map out) us (rowsOf next m.base L a) [int m.base,ov,nv] [pl M,q.2.1,q.2.2.1]∧Nums q.2.2.2 M encP (notes L (outsN next s q.1))∧BuiltC H q.2.2.2 64 2 q.2.1 (notes L (outsN next s q.1)).length (fl2 (notes L (outsN next s q.1)))∧BuiltC H q.2.2.2 3 1 q.2.2.1 (rowOf next q.1 (notes L (outsN next s q.1)) s).length ((rowOf next q.1 (notes L (outsN next s q.1)) s).map int)) (fun q=>m.base - q.1) (0,_,nilS,G) ⟨Nat.zero_le _,hz,hM,hst,BuiltC.nil⟩ ⟨rfl,rfl,rfl,rfl,rfl,rfl,rfl,rfl,rfl,rfl,rfl,rfl,trivial⟩ (Hp.Le.refl _) ?_
  rintro ⟨d,u,w,K⟩ φ9 ⟨hd,hzK,hMK,huK,hwK⟩
  dsimp only at hd hzK hMK huK hwK ⊢
  have hpre:=notes_pre (outsN next s d) L
  obtain ⟨r8,e8⟩:=hpre
  have hfew8:=notesN_few hU hq hsU hd
  have hin8:∀ j,j < d→next s j ∈ notes L (outsN next s d):=fun j hj=>notes_mem (outsN_mem hj)
  have hsucc:notes L (outsN next s (d + 1)) = note (notes L (outsN next s d)) (next s d):=by rw [outsN_succ,notes_snoc]
  have hexT:∃ L',notes L (outsN next s d) = L':=⟨_,rfl⟩
  obtain ⟨L',eL'⟩:=hexT
  rw [eL'] at hMK huK hwK e8 hfew8 hin8 hsucc
  have hus:=huK.slice
  obtain ⟨au2,eu2,-⟩:=hus
  subst eu2
  have hws2:=hwK.slice
  obtain ⟨aw2,ew2,-⟩:=hws2
  rw [rowOf_len] at ew2
  subst ew2
  have kK:=hcx K h.next 26 (gH.trans hzK.gr) (hzK.gr.at_ _ _ aX)
  have f0:cellAt K h.next 0 = some (int (m.base:Int)):=kK.c0
  have f2:=kK.c2
  conv=>whnf
  repeat (refine SeqP.go ?_; conv=>whnf)
  refine ⟨_,f0,?_⟩
  conv=>whnf
  refine cmpB (fun q2=>?_) (fun q2=>?_)
  rotate_left
  ·have:d = m.base:=by omega
   subst this
   conv=>whnf
   repeat (refine SeqP.go ?_; conv=>whnf)
   exact ⟨(_,_,K),⟨rfl,rfl,rfl,rfl,rfl,rfl,rfl,rfl,rfl,rfl,rfl,trivial⟩,⟨rfl,hzK,by rw [eL']; exact hMK,by rw [eL']; exact huK,by rw [eL']; exact hwK⟩,rfl⟩
  have hd':d < m.base:=by omega
  have hfew9:=notesN_few hU hq hsU (d:=d + 1) (by omega)
  rw [hsucc] at hfew9
  have hext:∃ t,next s d = t:=⟨_,rfl⟩
  obtain ⟨t,et⟩:=hext
  rw [et] at hfew9 hsucc
  conv=>whnf
  refine SeqP.go ?_
  conv=>whnf
  have hmul:step * d≤1000 * 5:=Nat.mul_le_mul hst_ (by omega)
  have emul:(step:Int) * (d:Int) = ((step * d:Nat):Int):=by rw [Int.natCast_mul]
  have hexu:∃ u,step * d = u:=⟨_,rfl⟩
  obtain ⟨u,eu⟩:=hexu
  have eE:t = (((m.nx s1 ((u + s2) % m.base):Nat):Int),(((u + s2) / m.base:Nat):Int)):=by
   rw [← et,← enext,es]
   unfold Mac.nextE
   dsimp only
   rw [Int.toNat_natCast,Int.toNat_natCast,eu]
  rw [eu] at hmul emul
  have em:=tmod_nat (u + s2) m.base
  have ed:=tdiv_nat (u + s2) m.base
  have hml:=Nat.mod_lt (u + s2) (show m.base > 0 by omega)
  have hdl:=Nat.div_le_self (u + s2) m.base
  have hexq:∃ q,(u + s2) / m.base = q:=⟨_,rfl⟩
  obtain ⟨q,eq⟩:=hexq
  have hexr:∃ r,(u + s2) % m.base = r:=⟨_,rfl⟩
  obtain ⟨r,er⟩:=hexr
  rw [eq] at eE ed hdl
  rw [er] at eE em hml
  have hnx:=kK.nextAt hm.ok (s:=s1) (d:=r) (by omega) hml
  obtain ⟨r1,o1,sp1,r2,o2,sp2,c2',ean,hsp1,hc1,hsp2,hc2⟩:=hnx
  subst ean
  refine SeqP.cut (α:=Unit) (fun _=>[(15,int (u + s2:Nat)),(14,int d),(13,.slice aw2 d d),(11,int s1),(12,int s2),(10,int a),(9,ptr Z 0),(8,mapAt M),(7,.slice au2 L'.length L'.length),(6,ptr RR 0),(3,ptr h.next 0),(1,int step),(2,int from_)]) (fun _ H3=>K = H3) ?_ ?_
  ·conv=>whnf
   refine ⟨(u:Int),wie emul (by omega),?_⟩
   conv=>whnf
   refine ⟨((u + s2:Nat):Int),wie (by omega) (by omega),?_⟩
   conv=>whnf
   exact ⟨(),⟨rfl,rfl,rfl,rfl,rfl,rfl,rfl,rfl,rfl,rfl,rfl,rfl,rfl,trivial⟩,rfl,rfl⟩
  rintro _ φ20 _ rfl
  conv=>whnf
  refine SeqP.cut (α:=Nat×Hp) (fun q=>[(16,ptr q.1 0),(14,int d),(13,.slice aw2 d d),(11,int s1),(12,int s2),(10,int a),(9,ptr Z 0),(8,mapAt M),(7,.slice au2 L'.length L'.length),(6,ptr RR 0),(3,ptr h.next 0),(1,int step),(2,int from_)]) (fun q H7=>q.2 = H7∧Grows K q.2∧q.2.at q.1 = some (.row 64 true [int t.1,int t.2])∧K.next≤q.1) ?_ ?_
  ·conv=>whnf
   rw [eE]
   have gl1:Grows K (K.lay (.row 64 true [int 0,int 0])):=Grows.lay _ _
   have gl2:Grows K (K.lay (.row 64 true [int (m.nx s1 r:Nat),int q])):=Grows.lay _ _
   have b0:=gl1.cell f0
   have b2:=gl1.cell f2
   have b1:=gl1.cell hc1
   have b3:=gl1.cell hc2
   have e0:=gl2.cell f0
   have e2:=gl2.cell f2
   have e1:=gl2.cell hc1
   have e3:=gl2.cell hc2
   refine ⟨_,f2,?_⟩
   conv=>whnf
   refine ⟨hsp1,⟨by omega,by omega⟩,?_⟩
   conv=>whnf
   refine ⟨_,hc1,?_⟩
   conv=>whnf
   refine ⟨_,f0,?_⟩
   conv=>whnf
   refine ⟨by show (m.base:Int)≠0; omega,?_⟩
   conv=>whnf
   rw [em]
   refine ⟨hsp2,⟨by omega,by omega⟩,?_⟩
   conv=>whnf
   refine ⟨_,hc2,?_⟩
   conv=>whnf
   refine ⟨_,f0,?_⟩
   conv=>whnf
   refine ⟨by show (m.base:Int)≠0; omega,(q:Int),wie ed (by omega),?_⟩
   conv=>whnf
   refine ⟨rfl,_,storeAt_all (vs:=[int (m.nx s1 r:Nat),int q]) rfl rfl rfl,?_⟩
   conv=>whnf
   refine ⟨?_,?_⟩
   ·repeat' (first | exact True.intro | (refine And.intro ?_ ?_ <;> (conv=>whnf)))
    all_goals first
     | exact sameAt_val (h2:=_) rfl (sameV_int _)
     | exact sameAt_val (h2:=_) rfl (sameV_ptr _ _)
     | exact sameAt_val (h2:=_) rfl (sameV_slice _ _ _)
     | exact sameAt_val (h2:=_) rfl (sameV_agg2 _ _)
     | exact sameAt_val (h2:=_) (congrArg (hval _) f0) (sameV_int _)
     | exact sameAt_val (h2:=_) (congrArg (hval _) f0) (sameV_slice _ _ _)
     | exact sameAt_val (h2:=_) (congrArg (hval _) f2) (sameV_int _)
     | exact sameAt_val (h2:=_) (congrArg (hval _) f2) (sameV_slice _ _ _)
     | exact sameAt_val (h2:=_) (congrArg (hval _) hc1) (sameV_int _)
     | exact sameAt_val (h2:=_) (congrArg (hval _) hc1) (sameV_slice _ _ _)
     | exact sameAt_val (h2:=_) (congrArg (hval _) hc2) (sameV_int _)
     | exact sameAt_val (h2:=_) (congrArg (hval _) hc2) (sameV_slice _ _ _)
     | exact sameAt_val (h2:=_) (congrArg (hval _) b0) (sameV_int _)
     | exact sameAt_val (h2:=_) (congrArg (hval _) b0) (sameV_slice _ _ _)
     | exact sameAt_val (h2:=_) (congrArg (hval _) b2) (sameV_int _)
     | exact sameAt_val (h2:=_) (congrArg (hval _) b2) (sameV_slice _ _ _)
     | exact sameAt_val (h2:=_) (congrArg (hval _) b1) (sameV_int _)
     | exact sameAt_val (h2:=_) (congrArg (hval _) b1) (sameV_slice _ _ _)
     | exact sameAt_val (h2:=_) (congrArg (hval _) b3) (sameV_int _)
     | exact sameAt_val (h2:=_) (congrArg (hval _) b3) (sameV_slice _ _ _)
     | exact sameAt_val (h2:=_) (congrArg (hval _) e0) (sameV_int _)
     | exact sameAt_val (h2:=_) (congrArg (hval _) e0) (sameV_slice _ _ _)
     | exact sameAt_val (h2:=_) (congrArg (hval _) e2) (sameV_int _)
     | exact sameAt_val (h2:=_) (congrArg (hval _) e2) (sameV_slice _ _ _)
     | exact sameAt_val (h2:=_) (congrArg (hval _) e1) (sameV_int _)
     | exact sameAt_val (h2:=_) (congrArg (hval _) e1) (sameV_slice _ _ _)
     | exact sameAt_val (h2:=_) (congrArg (hval _) e3) (sameV_int _)
     | exact sameAt_val (h2:=_) (congrArg (hval _) e3) (sameV_slice _ _ _)
     | exact sameAt_val (h2:=_) (show hval _ (idxSV 1 (.slice (some ⟨_,_,_⟩) _ _) (int _)) = _ from idxS_val' hsp1 ⟨by omega,by omega⟩) (sameV_ptr _ _)
     | exact sameAt_val (h2:=_) (show hval _ (idxSV 1 (.slice (some ⟨_,_,_⟩) _ _) (int _)) = _ from idxS_val' hsp2 ⟨by omega,by omega⟩) (sameV_ptr _ _)
     | exact ⟨_,rfl,Hp.at_lay_self _ _,rfl⟩
     | exact sameAt_val (h2:=_) (show hval _ (arK .i64 .rem _ _) = _ from rem_val2 (by omega) em) (sameV_int _)
     | exact sameAt_val (h2:=_) (show hval _ (arK .i64 .quo _ _) = _ from quo_val (by omega) ed (by omega)) (sameV_int _)
   exact ⟨(K.next,_),⟨rfl,rfl,rfl,rfl,rfl,rfl,rfl,rfl,rfl,rfl,rfl,rfl,rfl,trivial⟩,⟨rfl,Grows.lay _ _,Hp.at_lay_self _ _,Nat.le_refl _⟩,rfl⟩
  rintro ⟨x15,K9⟩ φ10 _ ⟨rfl,g9,aK,hx15⟩
  dsimp only at g9 aK hx15 ⊢
  have hltM9:M < K.next:=by
   obtain ⟨_,_,h1,_⟩:=hMK
   exact Hp.lt_of_at h1
  have hz9:=hzK.ext g9
  have hM9:=hMK.ext g9
  have hu9:=huK.ext g9
  have hw9:=hwK.ext g9
  have hneu:ad (.slice au2 L'.length L'.length)≠some x15:=fun e=>by
   have h1:=(huK.ad_lt x15 e).2
   omega
  clear hzK hMK huK hwK
  conv=>whnf
  refine SeqP.cut (α:=Nat×Bool×Hp) (fun q=>[(17,int q.1),(18,.bool q.2.1),(16,ptr x15 0),(14,int d),(13,.slice aw2 d d),(11,int s1),(12,int s2),(10,int a),(9,ptr Z 0),(8,mapAt M),(7,.slice au2 L'.length L'.length),(6,ptr RR 0),(3,ptr h.next 0),(1,int step),(2,int from_)]) (fun q H7=>q.2.2 = H7∧Grows K9 H7∧(t ∈ L'→q.1 = ixOf L' t∧q.2.1 = true)∧(t ∉ L'→q.1 = L'.length∧q.2.1 = false)) ?_ ?_
  ·conv=>whnf
   refine ⟨_,all_cells aK rfl,?_⟩
   conv=>whnf
   refine CallP.mono (index83_spec au2 L'.length L'.length M L' t K9 hM9 rfl) ?_
   rintro r H9 ⟨hr,g10⟩
   by_cases hin:t ∈ L'
   ·have hr:=hr.1 hin
    subst hr
    conv=>whnf
    exact ⟨(ixOf L' t,true,H9),⟨rfl,rfl,rfl,rfl,rfl,rfl,rfl,rfl,rfl,rfl,rfl,rfl,rfl,rfl,rfl,trivial⟩,⟨rfl,g10,fun _=>⟨rfl,rfl⟩,fun q=>absurd hin q⟩,rfl⟩
   ·have hr:=hr.2 hin
    subst hr
    conv=>whnf
    exact ⟨(L'.length,false,H9),⟨rfl,rfl,rfl,rfl,rfl,rfl,rfl,rfl,rfl,rfl,rfl,rfl,rfl,rfl,rfl,trivial⟩,⟨rfl,g10,fun q=>absurd q hin,fun _=>⟨rfl,rfl⟩⟩,rfl⟩
  rintro ⟨kx,isb,K9⟩ φ11 _ ⟨rfl,g10,hin1,hin2⟩
  dsimp only at g10 hin1 hin2 ⊢
  have hz9:=hz9.ext g10
  have hM9:=hM9.ext g10
  have hu9:=hu9.ext g10
  have hw9:=hw9.ext g10
  have aK:=g10.at_ _ _ aK
  clear g10
  conv=>whnf
  refine SeqP.cut (α:=Value×Hp) (fun q=>[(17,int (ixOf (note L' t) t:Nat)),(14,int d),(13,.slice aw2 d d),(11,int s1),(12,int s2),(10,int a),(9,ptr Z 0),(8,mapAt M),(7,q.1),(6,ptr RR 0),(3,ptr h.next 0),(1,int step),(2,int from_)]) (fun q H7=>q.2 = H7∧MZ H q.2 26 Z ov nv ((L.take a).map out) us (rowsOf next m.base L a) [int m.base,ov,nv] [pl M,q.1,.slice aw2 d d]∧Nums q.2 M encP (note L' t)∧BuiltC H q.2 64 2 q.1 (note L' t).length (fl2 (note L' t))∧BuiltC H q.2 3 1 (.slice aw2 d d) (rowOf next d L' s).length ((rowOf next d L' s).map int)) ?_ ?_
  ·by_cases hin:t ∈ L'
   ·have hnote:note L' t = L':=by unfold note; rw [if_pos hin]
    have hk:=hin1 hin
    obtain ⟨hk1,hk2⟩:=hk
    subst hk1
    subst hk2
    rw [hnote]
    conv=>whnf
    refine SeqP.go ?_
    conv=>whnf
    repeat (refine SeqP.go ?_; conv=>whnf)
    exact ⟨(_,K9),⟨rfl,rfl,rfl,rfl,rfl,rfl,rfl,rfl,rfl,rfl,rfl,rfl,rfl,trivial⟩,⟨rfl,hz9,hM9,hu9,hw9⟩,rfl⟩
   ·have hnote:note L' t = L' ++ [t]:=by unfold note; rw [if_neg hin]
    have hnl:(L' ++ [t]).length = L'.length + 1:=by rw [List.length_append]; rfl
    have hix:ixOf (L' ++ [t]) t = L'.length:=idxOf_new hin
    have hk:=hin2 hin
    obtain ⟨hk1,hk2⟩:=hk
    subst hk1
    subst hk2
    rw [hnote] at hfew9 ⊢
    rw [hix]
    conv=>whnf
    refine SeqP.go ?_
    conv=>whnf
    repeat (refine SeqP.go ?_; conv=>whnf)
    refine ⟨_,all_cells aK rfl,?_⟩
    conv=>whnf
    refine raw_update tM dM key64 (k:=t) (v:=int L'.length) rfl rfl rfl hM9 ?_
    intro K10 hM10 y10
    have htz:=hz9.touch (i:=0) (v:=pl M) rfl (Kx.keeps y10) (y10.grows hz9.gr hMge) (by rw [y10.next]; exact Nat.le_refl _)
    have hM10':=Nums.add hin hM10
    have hst10:=htz.2.builtC (v:=.slice au2 L'.length L'.length) (by simp) hu9
    have hw10:=htz.2.builtC (v:=.slice aw2 d d) (by simp) hw9
    have hzz:=htz.1
    have aK10:K10.at x15 = some (.row 64 true [int t.1,int t.2]):=y10.at_ _ _ (by omega) aK
    conv=>whnf
    repeat (refine SeqP.go ?_; conv=>whnf)
    refine ⟨_,all_cells aK10 rfl,?_⟩
    conv=>whnf
    refine hzz.c_app (i:=1) (n:=L'.length) (cl:=fl2 L') (new:=[int t.1,int t.2]) rfl hst10 rfl rfl (by omega) (by omega) ?_
    intro st11 K11 hst11e hst11 hz11 kv11 kx11
    obtain ⟨a11,n11,rfl⟩:=hst11e
    have hM11:=kv11.map (M:=M) (by simp) hM10'
    have hw11:=kv11.builtC (v:=.slice aw2 d d) (by simp) hw10
    conv=>whnf
    exact ⟨(_,K11),⟨rfl,rfl,rfl,rfl,rfl,rfl,rfl,rfl,rfl,rfl,rfl,rfl,rfl,trivial⟩,⟨rfl,hz11,hM11,by rw [fl2_app,hnl]; exact hst11,hw11⟩,rfl⟩
  rintro ⟨u2,K1⟩ φ12 _ ⟨rfl,hz1,hM1,hu1,hw1⟩
  dsimp only at hz1 hM1 hu1 hw1 ⊢
  have hpre2:=note_pre L' t
  obtain ⟨r10,e10⟩:=hpre2
  have hrs:=rowOf_succ (next:=next) (s:=s) hin8 e10
  rw [et] at hrs
  have hus3:=hu1.slice
  obtain ⟨au3,eu3,-⟩:=hus3
  subst eu3
  have hrl:(rowOf next d L' s).length = d:=rowOf_len
  conv=>whnf
  refine hz1.r_app (i:=2) rfl hw1 (by omega) ?_
  intro w' K2 hw' hb2 hz2' kv2
  obtain ⟨a9,n9,rfl⟩:=hw'
  have hM2':=kv2.map (M:=M) (by simp) hM1
  have hu2:=kv2.builtC (v:=.slice au3 (note L' t).length (note L' t).length) (by simp) hu1
  rw [← hrs] at hb2
  conv=>whnf
  repeat (refine SeqP.go ?_; conv=>whnf)
  refine ⟨((d + 1:Nat):Int),wie (by omega) (by omega),?_⟩
  conv=>whnf
  exact Rnd.mk (d + 1,_,_,K2) ⟨by show d + 1≤m.base; omega,hz2',by show Nums K2 M encP (notes L (outsN next s (d + 1))); rw [hsucc]; exact hM2',by show BuiltC H K2 64 2 _ (notes L (outsN next s (d + 1))).length (fl2 (notes L (outsN next s (d + 1)))); rw [hsucc]; exact hu2,by show BuiltC H K2 3 1 _ (rowOf next (d + 1) (notes L (outsN next s (d + 1))) s).length ((rowOf next (d + 1) (notes L (outsN next s (d + 1))) s).map int); rw [hsucc]; exact hb2⟩ (by show m.base - (d + 1) < m.base - d; omega) ⟨rfl,rfl,rfl,rfl,rfl,rfl,rfl,rfl,rfl,rfl,rfl,rfl,trivial⟩ (Hp.Le.refl _) rfl
 rintro ⟨u2,w2,K⟩ φ9 _ ⟨rfl,hzK,hMK,huK,hwK⟩
 dsimp only at hzK hMK huK hwK ⊢
 clear hz hM hst
 have hpre:=notes_pre (outsN next s m.base) L
 obtain ⟨r8,e8⟩:=hpre
 have hrows:=rowsOf_ext hq.met hq.le e8
 have eouts:outs next m.base s = outsN next s m.base:=rfl
 rw [eouts] at hq2
 have hexL:∃ L',notes L (outsN next s m.base) = L':=⟨_,rfl⟩
 obtain ⟨L',eL'⟩:=hexL
 rw [eL'] at hMK huK hwK hq2 e8 hrows
 have hsL':L'[a]? = some s:=by rw [e8,List.getElem?_append_left haL]; exact hs
 have htk:L'.take a = L.take a:=by rw [e8,List.take_append_of_le_length hale]
 have eO:((L.take a).map out) ++ [out s] = (L'.take (a + 1)).map out:=by rw [take_snoc hsL',List.map_append,htk]; rfl
 have eN:rowsOf next m.base L a ++ [rowOf next m.base L' s] = rowsOf next m.base L' (a + 1):=by
  rw [← hrows]
  unfold rowsOf
  rw [take_snoc hsL',List.map_append]; rfl
 have hus:=huK.slice
 obtain ⟨au2,eu2,-⟩:=hus
 subst eu2
 have hws2:=hwK.slice
 obtain ⟨aw2,ew2,-⟩:=hws2
 subst ew2
 have hov:=hzK.out_ok
 obtain ⟨ax,eov⟩:=hov
 subst eov
 have hnv:=hzK.next_ok
 obtain ⟨ay,env⟩:=hnv
 subst env
 have z1:=cellAt_row (o:=1) hzK.z rfl
 have z2:=cellAt_row (o:=2) hzK.z rfl
 conv=>whnf
 refine SeqP.cut (α:=Unit) (fun q=>[(19,.slice ax ((L.take a).map out).length ((L.take a).map out).length),(20,.slice ay (rowsOf next m.base L a).length (rowsOf next m.base L a).length),(13,.slice aw2 (rowOf next m.base L' s).length (rowOf next m.base L' s).length),(11,int s1),(12,int s2),(10,int a),(9,ptr Z 0),(8,mapAt M),(7,.slice au2 L'.length L'.length),(6,ptr RR 0),(3,ptr h.next 0),(1,int step),(2,int from_)]) (fun q H7=>K = H7) ?_ ?_
 ·conv=>whnf
  refine ⟨_,z1,?_⟩
  conv=>whnf
  refine ⟨_,z2,?_⟩
  conv=>whnf
  exact ⟨(),⟨rfl,rfl,rfl,rfl,rfl,rfl,rfl,rfl,rfl,rfl,rfl,rfl,rfl,trivial⟩,rfl,rfl⟩
 rintro _ φ10 _ rfl
 have aXK:=hzK.gr.at_ _ _ aX
 conv=>whnf
 refine SeqP.cut (α:=Value×Hp) (fun q=>[(20,.slice ay (rowsOf next m.base L a).length (rowsOf next m.base L a).length),(13,.slice aw2 (rowOf next m.base L' s).length (rowOf next m.base L' s).length),(10,int a),(9,ptr Z 0),(8,mapAt M),(7,.slice au2 L'.length L'.length),(6,ptr RR 0),(3,ptr h.next 0),(1,int step),(2,int from_)]) (fun q H7=>q.2 = H7∧(∃ a n,q.1 = .slice a n n)∧MZ H q.2 26 Z q.1 (.slice ay (rowsOf next m.base L a).length (rowsOf next m.base L a).length) ((L'.take (a + 1)).map out) us (rowsOf next m.base L a) [int m.base,q.1,.slice ay (rowsOf next m.base L a).length (rowsOf next m.base L a).length] [pl M,.slice au2 L'.length L'.length,.slice aw2 (rowOf next m.base L' s).length (rowOf next m.base L' s).length]∧Nums q.2 M encP L'∧BuiltC H q.2 64 2 (.slice au2 L'.length L'.length) L'.length (fl2 L')∧BuiltC H q.2 3 1 (.slice aw2 (rowOf next m.base L' s).length (rowOf next m.base L' s).length) (rowOf next m.base L' s).length ((rowOf next m.base L' s).map int)) ?_ ?_
 ·conv=>whnf
  refine ⟨_,all_cells aXK hbx.len,?_⟩
  conv=>whnf
  refine CallP.mono (RAt_spec _ m s1 s2 K (Bx.mv (hbx.ext (gH.trans hzK.gr))) hm.ok ⟨hb2,by omega⟩ (by omega) (by omega) (by omega)) ?_
  rintro _ K6 ⟨rfl,g6⟩
  have hzQ:=hzK.ext g6
  have hMQ:=hMK.ext g6
  have huQ:=huK.ext g6
  have hwQ:=hwK.ext g6
  have eos:m.at_ s1 s2 = out s:=by
   rw [← eout,es]
   unfold Mac.outE
   dsimp only
   rw [Int.toNat_natCast,Int.toNat_natCast]
  rw [eos]
  conv=>whnf
  refine hzQ.o_app (by omega) ?_
  intro ov7 K7 hov7 hz7 kv7
  obtain ⟨a7,n7,rfl⟩:=hov7
  have hM7:=kv7.map (M:=M) (by simp) hMQ
  have hu7:=kv7.builtC (v:=.slice au2 L'.length L'.length) (by simp) huQ
  have hw7:=kv7.builtC (v:=.slice aw2 (rowOf next m.base L' s).length (rowOf next m.base L' s).length) (by simp) hwQ
  conv=>whnf
  refine ⟨rfl,_,storeAt_row hz7.z (by simp) rfl,?_⟩
  have hz8:=hz7.put [int m.base,.slice a7 n7 n7,.slice ay (rowsOf next m.base L a).length (rowsOf next m.base L a).length]
  have hM8:=hz8.2.map (M:=M) (by simp) hM7
  have hu8:=hz8.2.builtC (v:=.slice au2 L'.length L'.length) (by simp) hu7
  have hw8:=hz8.2.builtC (v:=.slice aw2 (rowOf next m.base L' s).length (rowOf next m.base L' s).length) (by simp) hw7
  have hz8a:=hz8.1
  rw [eO] at hz8a
  conv=>whnf
  exact ⟨(_,_),⟨rfl,rfl,rfl,rfl,rfl,rfl,rfl,rfl,rfl,rfl,trivial⟩,⟨rfl,⟨_,_,rfl⟩,hz8a,hM8,hu8,hw8⟩,rfl⟩
 rintro ⟨ov8,K8⟩ φ11 _ ⟨rfl,hov8,hz8,hM8,hu8,hw8⟩
 dsimp only at hov8 hz8 hM8 hu8 hw8 ⊢
 obtain ⟨a8,n8,rfl⟩:=hov8
 conv=>whnf
 repeat (refine SeqP.go ?_; conv=>whnf)
 refine hz8.n_app (i:=2) (by omega) rfl hw8.b ?_
 intro nv9 K9 hnv9 hz9 kv9
 obtain ⟨a9,n9,rfl⟩:=hnv9
 have hM9:=kv9.map (M:=M) (by simp) hM8
 have hu9:=kv9.builtC (v:=.slice au2 L'.length L'.length) (by simp) hu8
 conv=>whnf
 refine ⟨rfl,_,storeAt_row hz9.z (by simp) rfl,?_⟩
 have hz10:=hz9.put [int m.base,.slice a8 n8 n8,.slice a9 n9 n9]
 have hM10:=hz10.2.map (M:=M) (by simp) hM9
 have hu10:=hz10.2.builtC (v:=.slice au2 L'.length L'.length) (by simp) hu9
 have hz11:=hz10.1
 rw [eN] at hz11
 conv=>whnf
 repeat (refine SeqP.go ?_; conv=>whnf)
 refine ⟨((a + 1:Nat):Int),wie (by omega) (by omega),?_⟩
 conv=>whnf
 exact Rnd.mk (L',a + 1,_,_,_,_,_) ⟨hq2,hz11,hM10,hu10⟩ (by show 2000000 - (a + 1) < 2000000 - a; omega) ⟨rfl,rfl,rfl,rfl,rfl,rfl,rfl,rfl,trivial⟩ (Hp.Le.refl _) rfl
end
end Go.Proofs.Ytedneplaibmppaa
namespace Go.Proofs.Ytedneplaibmppaa
open Go.Rx Go.RowKit
def Ans (H:Hp) (N:Nat) (e:Int) (P:Prop) (w:Mac):Prop:=∃ bx:List Value,bx.length = 3∧H.at N = some (.row 25 true bx)∧sameV 4 (.agg ⟨bx⟩) (.agg ⟨bx⟩) = true∧(P→e = 1∧bx = [int 0,nilS,nilS])∧(¬ P→(w.form.out.length≤12→e = 0∧MV H (.agg ⟨bx⟩) w.form.i)∧(12 < w.form.out.length→e = 8∧bx = [int 0,nilS,nilS]))
theorem Ans.ext {H H':Hp} {N:Nat} {e:Int} {P:Prop} {w:Mac} (g:Grows H H') (k:Ans H N e P w):Ans H' N e P w:=by
 obtain ⟨bx,h1,h2,h3,h4,h5⟩:=k
 exact ⟨bx,h1,g.at_ _ _ h2,h3,h4,fun q=>⟨fun l=>⟨((h5 q).1 l).1,((h5 q).1 l).2.ext g⟩,(h5 q).2⟩⟩
theorem ans_of {h h':Hp} {r:Value} {P:Prop} {w:Mac} (hb:P→r = .tuple ⟨[noM,int 1]⟩) (hg:¬ P→FitR h h' r w):∃ a b c e,r = .tuple ⟨[.agg ⟨[a,b,c]⟩,int e]⟩∧[a,b,c].all oneCell = true∧Ans (h'.lay (.row 25 true [a,b,c])) h'.next e P w:=by
 by_cases p:P
 ·exact ⟨_,_,_,1,hb p,rfl,_,rfl,Hp.at_lay_self _ _,sameV_mac _ _ _ _ _ _ _,fun _=>⟨rfl,rfl⟩,fun q=>absurd p q⟩
 ·obtain ⟨u,e,rfl,h1,h2⟩:=hg p
  by_cases hl:w.form.out.length≤12
  ·obtain ⟨rfl,ho⟩:=h1 hl
   obtain ⟨x,y,rfl⟩:=ho.known
   exact ⟨_,_,_,0,rfl,rfl,_,rfl,Hp.at_lay_self _ _,sameV_mac _ _ _ _ _ _ _,fun q=>absurd q p,fun _=>⟨fun _=>⟨rfl,ho.mv.ext (Grows.lay _ _)⟩,fun q=>by omega⟩⟩
  ·obtain ⟨rfl,rfl⟩:=h2 (by omega)
   exact ⟨_,_,_,8,rfl,rfl,_,rfl,Hp.at_lay_self _ _,sameV_mac _ _ _ _ _ _ _,fun q=>absurd q p,fun _=>⟨fun q=>absurd q hl,fun _=>⟨rfl,rfl⟩⟩⟩
theorem every_big {m:Mac} (h:OkS m) (h6:m.out.length≤6) {s f:Nat} (hs:s≤100) (hf:f≤100):OkB (m.every s f):=by
 have h1:=Mac.every_ok h.ok s f
 refine ⟨h1.1,Mac.every_outs h s f,?_,?_⟩
 ·show m.base≤100
  have:=h.b5
  omega
 ·have h2:m.out.length * (max s f + 1)≤6 * 101:=Nat.mul_le_mul h6 (by omega)
  have:=h1.2
  omega
theorem MV.bx_same {h:Hp} {bx:List Value} {M:MacI} (k:MV h (.agg ⟨bx⟩) M):sameV 4 (.agg ⟨bx⟩) (.agg ⟨bx⟩) = true:=by
 obtain ⟨b2,e,hb⟩:=k.box
 cases e
 exact hb.same
attribute [local irreducible] E idxN cellAt cellsAt storeAt callable helems hmoved lookIn findKey keyOk hentries Hp.at Hp.set Hp.lay arBits hupdated setAt CallP YieldP BoolOf IsWrap Rnd LoopP AppP CutP Int.tmod Int.tdiv Int.fdiv
section
variable [Unknowns]
attribute [local irreducible] ResP sameAt
theorem everies_law (ts0:List Tr) (hy0:TyT Try.prog 25 ts0) (a1:Int) (w1:Rx.InR a1) (ts2:List Tr) (hy2:TyT Try.prog 66 ts2):∀ h vs,AllT h vs [.ag ts0,.num a1,.ag ts2]→CallP E 7 vs h (fun r _=>r = .bool true):=by
 intro h vs hvs
 match vs,hvs with
 | [v0,v1,v2],hvs =>
 obtain ⟨k0,k1,k2,-⟩:=hvs
 obtain ⟨M,hMb,hML,hM⟩:=mac_arg hy0
 obtain ⟨pa0,pb0,pc0,hpa,hpb,hpc,hP⟩:=three_arg hy2
 have hM:=hM h v0 k0
 have hP:=hP h v2 k2
 subst hP
 cases k1
 obtain ⟨bx,rfl,hbx⟩:=hM.box
 refine enter7 (by simp) ?_
 conv=>whnf
 refine SeqP.cut (α:=Hp) (fun _=>[(3,ptr h.next 0),(5,ptr (h.next + 1) 0),(1,int a1)]) (fun s H=>s = H∧H.at h.next = some (.row 25 true bx)∧H.at (h.next + 1) = some (.row 66 true [int pa0,int pb0,int pc0])∧Grows h H∧H.next = h.next + 2) ?_ ?_
 ·conv=>whnf
  have n1:(h.lay (.row 25 true bx)).next = h.next + 1:=Hp.next_lay _ _
  exact ⟨_,⟨rfl,congrArg (fun k=>ptr k 0) n1,rfl,trivial⟩,⟨rfl,Hp.at_lay_old _ (Hp.at_lay_self _ _),at_nx2 n1 (Hp.at_lay_self _ _),(Grows.lay _ _).then_lay _,by rw [Hp.next_lay,n1]⟩,rfl⟩
 rintro H0 φ0 _ ⟨rfl,aX,aP,g0,n0⟩
 have hexP:∃ P,h.next + 1 = P:=⟨_,rfl⟩
 obtain ⟨P,eP⟩:=hexP
 rw [eP] at aP ⊢
 have hPn:P < H0.next:=by omega
 conv=>whnf
 refine SeqP.cut (α:=Nat×List Value×Mac×Hp) (fun s=>[(7,ptr s.1 0),(5,ptr P 0)]) (fun s H=>s.2.2.2 = H∧OkS s.2.2.1∧s.2.2.1.out.length≤6∧H.at s.1 = some (.row 26 true s.2.1)∧s.2.1.length = 3∧(∃ Hb,P < Hb.next∧OwnM Hb H (.agg ⟨s.2.1⟩) s.2.2.1.i)∧H.at P = some (.row 66 true [int pa0,int pb0,int pc0])∧P < s.1) ?_ ?_
 ·conv=>whnf
  have gl1:Grows H0 (H0.lay (.row 26 true [int 0,nilS,nilS])):=Grows.lay _ _
  have aL:(H0.lay (.row 26 true [int 0,nilS,nilS])).at H0.next = some (.row 26 true [int 0,nilS,nilS]):=Hp.at_lay_self _ _
  have cX:=all_cells (gl1.at_ _ _ aX) hbx.len
  refine ⟨_,cX,?_⟩
  conv=>whnf
  refine CallP.mono (base_spec a1 _) ?_
  rintro r _ ⟨⟨B,rfl,hB1,hB2⟩,rfl⟩
  conv=>whnf
  refine CallP.mono (tame_spec _ M B 6 _ (Bx.mv (hbx.ext (g0.trans gl1))) hML ⟨hB1,hB2⟩ (by omega)) ?_
  rintro r H1 ⟨⟨m,hm,hmb,hml,hw⟩,g1⟩
  have hk:=hw.known
  obtain ⟨p,q,rfl⟩:=hk
  have aL1:=g1.at_ _ _ aL
  have hlt:=Hp.lt_of_at aL1
  have hltL:=Hp.lt_of_at aL
  have cX1:=g1.cells cX
  conv=>whnf
  refine ⟨rfl,_,storeAt_full (vs:=[int m.i.base,.slice p m.i.out.length m.i.out.length,.slice q m.i.next.length m.i.next.length]) aL1 rfl rfl rfl,?_⟩
  have hw2:=hw.put hltL (.row 26 true [int m.i.base,.slice p m.i.out.length m.i.out.length,.slice q m.i.next.length m.i.next.length])
  have aX2:∀ o,(H1.set H0.next o).at h.next = some (.row 25 true bx):=fun o=>by
   have:=Hp.lt_of_at aX
   rw [Hp.at_set_ne _ (by omega)]
   exact g1.at_ _ _ (gl1.at_ _ _ aX)
  have aP2:∀ o,(H1.set H0.next o).at P = some (.row 66 true [int pa0,int pb0,int pc0]):=fun o=>by
   rw [Hp.at_set_ne _ (by omega)]
   exact g1.at_ _ _ (gl1.at_ _ _ aP)
  have cX2:=fun o=>all_cells (aX2 o) hbx.len
  conv=>whnf
  refine ⟨?_,?_⟩
  ·repeat' (first | exact True.intro | (refine And.intro ?_ ?_ <;> (conv=>whnf)))
   all_goals first
    | exact sameAt_val (h2:=_) rfl (sameV_int _)
    | exact sameAt_val (h2:=_) rfl (sameV_ptr _ _)
    | exact sameAt_val (h2:=_) (congrArg (fun x=>hval _ (aggOf x)) cX) hbx.same
    | exact sameAt_val (h2:=_) (congrArg (fun x=>hval _ (aggOf x)) cX1) hbx.same
    | exact sameAt_val (h2:=_) (congrArg (fun x=>hval _ (aggOf x)) (cX2 _)) hbx.same
    | exact ⟨_,rfl,aL,rfl⟩
    | exact ⟨_,rfl,aL1,rfl⟩
    | exact ⟨_,rfl,Hp.at_set_self _ hlt,rfl⟩
    | trace_state
  exact ⟨(H0.next,_,m,_),⟨rfl,rfl,trivial⟩,⟨rfl,hm,hml,Hp.at_set_self _ hlt,rfl,⟨_,Nat.lt_trans hPn hltL,hw2⟩,aP2 _,hPn⟩,rfl⟩
 rintro ⟨N7,b7,m,H1⟩ φ1 _ ⟨rfl,hm,h6,a7,l7,⟨Hb,hHb,o7⟩,aP,hN7⟩
 dsimp only at hm h6 a7 l7 o7 aP hN7 ⊢
 clear aX hbx g0
 conv=>whnf
 refine SeqP.cut (α:=Nat×List Value×Hp) (fun s=>[(8,ptr s.1 0),(7,ptr N7 0),(5,ptr P 0)]) (fun s H=>s.2.2 = H∧Grows H1 H∧H.at s.1 = some (.row 25 true s.2.1)∧s.2.1.length = 3∧OwnM H1 H (.agg ⟨s.2.1⟩) m.i∧P < s.1) ?_ ?_
 ·conv=>whnf
  refine ⟨_,all_cells a7 l7,?_⟩
  conv=>whnf
  refine CallP.mono (given_spec _ m.i _ o7.mv (lens_of hm)) ?_
  rintro r H2 ⟨hw,g2⟩
  rw [hm.cut] at hw
  have hk:=hw.known
  obtain ⟨p,q,rfl⟩:=hk
  have hlt:=Hp.lt_of_at (g2.at_ _ _ aP)
  conv=>whnf
  refine ⟨rfl,_,storeAt_all (vs:=[int m.i.base,.slice p m.i.out.length m.i.out.length,.slice q m.i.next.length m.i.next.length]) rfl rfl rfl,?_⟩
  conv=>whnf
  exact ⟨(H2.next,_,_),⟨rfl,rfl,rfl,trivial⟩,⟨rfl,g2.then_lay _,Hp.at_lay_self _ _,rfl,hw.ext (Grows.lay _ _),hlt⟩,rfl⟩
 rintro ⟨N8,b8,H2⟩ φ2 _ ⟨rfl,g2,a8,l8,o8,hN8⟩
 dsimp only at g2 a8 l8 o8 hN8 ⊢
 have hP1:=Hp.lt_of_at aP
 have a7:=g2.at_ _ _ a7
 have aP:=g2.at_ _ _ aP
 have o7:=o7.ext g2
 have hn6:=h6
 conv=>whnf
 refine SeqP.cut (α:=Unit) (fun s=>[]) (fun s H=>True) ?_ ?_
 rotate_left
 ·rintro _ φ3 Hz _
  conv=>whnf
  repeat (refine SeqP.go ?_; conv=>whnf)
  refine CallP.mono (awake_spec _) ?_
  rintro r G3 ⟨rfl,g3⟩
  conv=>whnf
  repeat (refine SeqP.go ?_; conv=>whnf)
  rfl
 conv=>whnf
 repeat (refine SeqP.go ?_; conv=>whnf)
 refine loop_inv (α:=Nat×Int×Int×Int×Hp) (fun q=>[(9,int q.1),(8,ptr N8 0),(7,ptr N7 0),(5,ptr P 0)]) (fun q=>q.2.2.2.2) (fun q=>q.1≤2∧q.2.2.2.2.at N7 = some (.row 26 true b7)∧q.2.2.2.2.at N8 = some (.row 25 true b8)∧OwnM Hb q.2.2.2.2 (.agg ⟨b7⟩) m.i∧OwnM H1 q.2.2.2.2 (.agg ⟨b8⟩) m.i∧q.2.2.2.2.at P = some (.row 66 true [int q.2.1,int q.2.2.1,int q.2.2.2.1])) (fun q=>2 - q.1) (0,pa0,pb0,pc0,H2) ⟨by omega,a7,a8,o7,o8,aP⟩ ⟨rfl,rfl,rfl,rfl,trivial⟩ (Hp.Le.refl _) ?_
 clear a7 a8 o7 o8 aP g2
 rintro ⟨rd,pa,pb,pc,G⟩ φ3 ⟨hrd,a7,a8,o7,o8,aP⟩
 dsimp only at hrd a7 a8 o7 o8 aP ⊢
 conv=>whnf
 repeat (refine SeqP.go ?_; conv=>whnf)
 refine cmpB (fun q1=>?_) (fun q1=>?_)
 rotate_left
 ·conv=>whnf
  repeat (refine SeqP.go ?_; conv=>whnf)
  exact ⟨(),trivial,trivial,rfl⟩
 conv=>whnf
 refine SeqP.go ?_
 conv=>whnf
 refine SeqP.cut (α:=Nat×Int×Hp) (fun q=>[(10,ptr q.1 0),(11,int q.2.1),(9,int rd),(8,ptr N8 0),(7,ptr N7 0),(5,ptr P 0)]) (fun q H=>q.2.2 = H∧Grows G H∧Ans H q.1 q.2.1 (BadE 1 pa) (m.every 1 pa.toNat)) ?_ ?_
 ·conv=>whnf
  refine ⟨_,all_cells a8 l8,?_⟩
  conv=>whnf
  refine ⟨⟨by omega,by omega⟩,?_⟩
  conv=>whnf
  refine ⟨_,cellAt_row aP (o:=0) rfl,?_⟩
  conv=>whnf
  refine CallP.mono (Later_spec _ m pa _ o8.mv hm) ?_
  rintro r K ⟨⟨hbad,hgood⟩,g⟩
  have hk:=ans_of hbad hgood
  obtain ⟨x,y,z,e,rfl,ho,hans⟩:=hk
  conv=>whnf
  refine ⟨rfl,_,storeAt_all (vs:=[x,y,z]) rfl ho rfl,?_⟩
  conv=>whnf
  exact ⟨(K.next,e,_),⟨rfl,rfl,rfl,rfl,rfl,rfl,trivial⟩,⟨rfl,g.then_lay _,hans⟩,rfl⟩
 rintro ⟨N10,e10,G1⟩ φ4 _ ⟨rfl,g,s10⟩
 dsimp only at g s10 ⊢
 have a7:=g.at_ _ _ a7
 have a8:=g.at_ _ _ a8
 have aP:=g.at_ _ _ aP
 have o7:=o7.ext g
 have o8:=o8.ext g
 have s10a:=s10
 clear g
 conv=>whnf
 refine SeqP.cut (α:=Nat×Int×Hp) (fun q=>[(12,ptr q.1 0),(13,int q.2.1),(10,ptr N10 0),(11,int e10),(9,int rd),(8,ptr N8 0),(7,ptr N7 0),(5,ptr P 0)]) (fun q H=>q.2.2 = H∧Grows G1 H∧Ans H q.1 q.2.1 (BadE pb pc) (m.every pb.toNat pc.toNat)) ?_ ?_
 ·conv=>whnf
  refine ⟨_,all_cells a8 l8,?_⟩
  conv=>whnf
  refine ⟨⟨by omega,by omega⟩,?_⟩
  conv=>whnf
  refine ⟨_,cellAt_row aP (o:=1) rfl,?_⟩
  conv=>whnf
  refine ⟨⟨by omega,by omega⟩,?_⟩
  conv=>whnf
  refine ⟨_,cellAt_row aP (o:=2) rfl,?_⟩
  conv=>whnf
  refine CallP.mono (Every_spec _ m pb pc _ o8.mv hm) ?_
  rintro r K ⟨⟨hbad,hgood⟩,g⟩
  have hk:=ans_of hbad hgood
  obtain ⟨x,y,z,e,rfl,ho,hans⟩:=hk
  conv=>whnf
  refine ⟨rfl,_,storeAt_all (vs:=[x,y,z]) rfl ho rfl,?_⟩
  conv=>whnf
  exact ⟨(K.next,e,_),⟨rfl,rfl,rfl,rfl,rfl,rfl,rfl,rfl,trivial⟩,⟨rfl,g.then_lay _,hans⟩,rfl⟩
 rintro ⟨N12,e12,G2⟩ φ4 _ ⟨rfl,g,s12⟩
 dsimp only at g s12 ⊢
 have a7:=g.at_ _ _ a7
 have a8:=g.at_ _ _ a8
 have aP:=g.at_ _ _ aP
 have o7:=o7.ext g
 have o8:=o8.ext g
 have s10:=s10.ext g
 clear g s10a
 conv=>whnf
 refine SeqP.cut (α:=Hp) (fun q=>[(12,ptr N12 0),(13,int e12),(9,int rd),(8,ptr N8 0),(7,ptr N7 0),(5,ptr P 0)]) (fun q H=>q = H∧Grows G2 H) ?_ ?_
 ·conv=>whnf
  refine SeqP.cut (α:=Bool) (fun q=>[(47,.bool q),(12,ptr N12 0),(13,int e12),(10,ptr N10 0),(11,int e10),(9,int rd),(8,ptr N8 0),(7,ptr N7 0),(5,ptr P 0)]) (fun q H=>G2 = H∧(q = true↔BadE 1 pa)) ?_ ?_
  ·conv=>whnf
   refine ⟨⟨by omega,by omega⟩,?_⟩
   conv=>whnf
   refine ⟨_,cellAt_row aP (o:=0) rfl,?_⟩
   conv=>whnf
   refine cmpB (fun c0=>?_) (fun c0=>?_)
   ·conv=>whnf
    exact ⟨true,⟨rfl,rfl,rfl,rfl,rfl,rfl,rfl,rfl,rfl,trivial⟩,⟨rfl,fun _=>by unfold BadE; omega,fun _=>rfl⟩,rfl⟩
   conv=>whnf
   refine ⟨⟨by omega,by omega⟩,?_⟩
   conv=>whnf
   refine ⟨_,cellAt_row aP (o:=0) rfl,?_⟩
   conv=>whnf
   refine cmpB (fun c1=>?_) (fun c1=>?_)
   ·conv=>whnf
    exact ⟨true,⟨rfl,rfl,rfl,rfl,rfl,rfl,rfl,rfl,rfl,trivial⟩,⟨rfl,fun _=>by unfold BadE; omega,fun _=>rfl⟩,rfl⟩
   conv=>whnf
   exact ⟨false,⟨rfl,rfl,rfl,rfl,rfl,rfl,rfl,rfl,rfl,trivial⟩,⟨rfl,fun e=>(by cases e),fun k=>absurd k (by unfold BadE; omega)⟩,rfl⟩
  rintro qb φ5 _ ⟨rfl,hqb⟩
  obtain ⟨bq,lq,tq,yq,hq1,hq2⟩:=s10
  have cq:=all_cells tq lq
  by_cases hB:BadE 1 pa
  ·have hqt:=hqb.2 hB
   subst hqt
   have hq:=hq1 hB
   obtain ⟨ee,ebx⟩:=hq
   subst ebx
   conv=>whnf
   repeat (refine SeqP.go ?_; conv=>whnf)
   refine cmpF (by omega) ?_
   conv=>whnf
   refine ⟨_,cq,?_⟩
   conv=>whnf
   refine CallP.mono (empty_spec _ no0 _ (noM_mv _)) ?_
   rintro _ K1 ⟨⟨x,rfl,hx⟩,gk⟩
   cases x with
   | false=>exact absurd rfl hx.f
   | true =>
    conv=>whnf
    repeat (refine SeqP.go ?_; conv=>whnf)
    exact ⟨K1,⟨rfl,rfl,rfl,rfl,rfl,rfl,trivial⟩,⟨rfl,gk⟩,rfl⟩
  ·have hqf:qb = false:=by
    cases qb with
    | false=>rfl
    | true=>exact absurd (hqb.1 rfl) hB
   subst hqf
   have hq:=hq2 hB
   have hev:=every_big hm h6 (s:=1) (f:=pa.toNat) (by unfold BadE at hB; omega) (by unfold BadE at hB; omega)
   have hes:=fun n12=>Mac.every_s hm 1 pa.toNat n12
   have c7:=all_cells a7 l7
   have y7:=o7.mv.bx_same
   conv=>whnf
   repeat (refine SeqP.go ?_; conv=>whnf)
   refine ⟨_,cq,?_⟩
   conv=>whnf
   refine ⟨_,c7,?_⟩
   conv=>whnf
   refine ⟨⟨by omega,by omega⟩,?_⟩
   conv=>whnf
   refine ⟨_,cellAt_row aP (o:=0) rfl,?_⟩
   conv=>whnf
   have hpa0:∃ k:Nat,pa = k:=⟨pa.toNat,by unfold BadE at hB; omega⟩
   obtain ⟨k,ek⟩:=hpa0
   have ek2:pa.toNat = k:=by omega
   rw [ek2] at hev hes hq
   rw [ek]
   refine CallP.mono (REvery_spec _ m 1 k _ o7.mv hm (by omega) (by unfold BadE at hB; omega)) ?_
   rintro r K1 ⟨hw,gk⟩
   have hwk:=hw.known
   obtain ⟨p,q,rfl⟩:=hwk
   have cqa:=gk.cells cq
   have c7a:=gk.cells c7
   conv=>whnf
   refine CallP.mono (right_spec _ _ e10 _ _ hw.mv hev (fun n12=>⟨((hq.1 n12).1),(hq.1 n12).2.ext gk,hes n12⟩) (fun n12=>⟨(hq.2 n12).1,congrArg (fun b:List Value=>Value.agg ⟨b⟩) (hq.2 n12).2⟩)) ?_
   rintro r K2 ⟨rfl,gk2⟩
   have cqb:=gk2.cells cqa
   have c7b:=gk2.cells c7a
   have aPa:=gk.at_ _ _ aP
   have aPb:=gk2.at_ _ _ aPa
   conv=>whnf
   refine ⟨?_,?_⟩
   ·repeat' (first | exact True.intro | (refine And.intro ?_ ?_ <;> (conv=>whnf)))
    all_goals first
     | exact sameAt_val (h2:=_) rfl (sameV_int _)
     | exact sameAt_val (h2:=_) rfl (sameV_ptr _ _)
     | exact sameAt_val (h2:=_) (congrArg (fun x=>hval _ (aggOf x)) cq) yq
     | exact sameAt_val (h2:=_) (congrArg (fun x=>hval _ (aggOf x)) cqa) yq
     | exact sameAt_val (h2:=_) (congrArg (fun x=>hval _ (aggOf x)) cqb) yq
     | exact sameAt_val (h2:=_) (congrArg (fun x=>hval _ (aggOf x)) c7) y7
     | exact sameAt_val (h2:=_) (congrArg (fun x=>hval _ (aggOf x)) c7a) y7
     | exact sameAt_val (h2:=_) (congrArg (fun x=>hval _ (aggOf x)) c7b) y7
     | exact sameAt_val (h2:=_) (congrArg (hval _) (cellAt_row (o:=0) aP rfl)) (sameV_int _)
     | exact sameAt_val (h2:=_) (congrArg (hval _) (cellAt_row (o:=0) aPa rfl)) (sameV_int _)
     | exact sameAt_val (h2:=_) (congrArg (hval _) (cellAt_row (o:=0) aPb rfl)) (sameV_int _)
     | exact sameAt_val (h2:=_) (congrArg (hval _) (cellAt_row (o:=1) aP rfl)) (sameV_int _)
     | exact sameAt_val (h2:=_) (congrArg (hval _) (cellAt_row (o:=1) aPa rfl)) (sameV_int _)
     | exact sameAt_val (h2:=_) (congrArg (hval _) (cellAt_row (o:=1) aPb rfl)) (sameV_int _)
     | exact sameAt_val (h2:=_) (congrArg (hval _) (cellAt_row (o:=2) aP rfl)) (sameV_int _)
     | exact sameAt_val (h2:=_) (congrArg (hval _) (cellAt_row (o:=2) aPa rfl)) (sameV_int _)
     | exact sameAt_val (h2:=_) (congrArg (hval _) (cellAt_row (o:=2) aPb rfl)) (sameV_int _)
     | exact sameAt_val (h2:=_) (show hval _ (idxAV 3 1 (ptr P 0) (int (0:Nat))) = _ from idxA_val' ⟨by omega,by omega⟩) (sameV_ptr _ _)
     | exact sameAt_val (h2:=_) (show hval _ (idxAV 3 1 (ptr P 0) (int (1:Nat))) = _ from idxA_val' ⟨by omega,by omega⟩) (sameV_ptr _ _)
     | exact sameAt_val (h2:=_) (show hval _ (idxAV 3 1 (ptr P 0) (int (2:Nat))) = _ from idxA_val' ⟨by omega,by omega⟩) (sameV_ptr _ _)
     | trace_state
   conv=>whnf
   repeat (refine SeqP.go ?_; conv=>whnf)
   exact ⟨K2,⟨rfl,rfl,rfl,rfl,rfl,rfl,trivial⟩,⟨rfl,gk.trans gk2⟩,rfl⟩
 rintro G3 φ6 _ ⟨rfl,g⟩
 have a7:=g.at_ _ _ a7
 have a8:=g.at_ _ _ a8
 have aP:=g.at_ _ _ aP
 have o7:=o7.ext g
 have o8:=o8.ext g
 have s12:=s12.ext g
 clear g
 conv=>whnf
 refine SeqP.cut (α:=Hp) (fun q=>[(9,int rd),(8,ptr N8 0),(7,ptr N7 0),(5,ptr P 0)]) (fun q H=>q = H∧Grows G3 H) ?_ ?_
 ·conv=>whnf
  refine SeqP.cut (α:=Bool) (fun q=>[(80,.bool q),(12,ptr N12 0),(13,int e12),(9,int rd),(8,ptr N8 0),(7,ptr N7 0),(5,ptr P 0)]) (fun q H=>G3 = H∧(q = true↔BadE pb pc)) ?_ ?_
  ·conv=>whnf
   refine ⟨⟨by omega,by omega⟩,?_⟩
   conv=>whnf
   refine ⟨_,cellAt_row aP (o:=1) rfl,?_⟩
   conv=>whnf
   refine cmpB (fun c0=>?_) (fun c0=>?_)
   ·conv=>whnf
    exact ⟨true,⟨rfl,rfl,rfl,rfl,rfl,rfl,rfl,trivial⟩,⟨rfl,fun _=>by unfold BadE; omega,fun _=>rfl⟩,rfl⟩
   conv=>whnf
   refine ⟨⟨by omega,by omega⟩,?_⟩
   conv=>whnf
   refine ⟨_,cellAt_row aP (o:=1) rfl,?_⟩
   conv=>whnf
   refine cmpB (fun c1=>?_) (fun c1=>?_)
   ·conv=>whnf
    exact ⟨true,⟨rfl,rfl,rfl,rfl,rfl,rfl,rfl,trivial⟩,⟨rfl,fun _=>by unfold BadE; omega,fun _=>rfl⟩,rfl⟩
   conv=>whnf
   refine ⟨⟨by omega,by omega⟩,?_⟩
   conv=>whnf
   refine ⟨_,cellAt_row aP (o:=2) rfl,?_⟩
   conv=>whnf
   refine cmpB (fun c2=>?_) (fun c2=>?_)
   ·conv=>whnf
    exact ⟨true,⟨rfl,rfl,rfl,rfl,rfl,rfl,rfl,trivial⟩,⟨rfl,fun _=>by unfold BadE; omega,fun _=>rfl⟩,rfl⟩
   conv=>whnf
   refine ⟨⟨by omega,by omega⟩,?_⟩
   conv=>whnf
   refine ⟨_,cellAt_row aP (o:=2) rfl,?_⟩
   conv=>whnf
   refine cmpB (fun c3=>?_) (fun c3=>?_)
   ·conv=>whnf
    exact ⟨true,⟨rfl,rfl,rfl,rfl,rfl,rfl,rfl,trivial⟩,⟨rfl,fun _=>by unfold BadE; omega,fun _=>rfl⟩,rfl⟩
   conv=>whnf
   exact ⟨false,⟨rfl,rfl,rfl,rfl,rfl,rfl,rfl,trivial⟩,⟨rfl,fun e=>(by cases e),fun k=>absurd k (by unfold BadE; omega)⟩,rfl⟩
  rintro qb φ5 _ ⟨rfl,hqb⟩
  obtain ⟨bq,lq,tq,yq,hq1,hq2⟩:=s12
  have cq:=all_cells tq lq
  by_cases hB:BadE pb pc
  ·have hqt:=hqb.2 hB
   subst hqt
   have hq:=hq1 hB
   obtain ⟨ee,ebx⟩:=hq
   subst ebx
   conv=>whnf
   repeat (refine SeqP.go ?_; conv=>whnf)
   refine cmpF (by omega) ?_
   conv=>whnf
   refine ⟨_,cq,?_⟩
   conv=>whnf
   refine CallP.mono (empty_spec _ no0 _ (noM_mv _)) ?_
   rintro _ K1 ⟨⟨x,rfl,hx⟩,gk⟩
   cases x with
   | false=>exact absurd rfl hx.f
   | true =>
    conv=>whnf
    repeat (refine SeqP.go ?_; conv=>whnf)
    exact ⟨K1,⟨rfl,rfl,rfl,rfl,trivial⟩,⟨rfl,gk⟩,rfl⟩
  ·have hqf:qb = false:=by
    cases qb with
    | false=>rfl
    | true=>exact absurd (hqb.1 rfl) hB
   subst hqf
   have hq:=hq2 hB
   have hev:=every_big hm h6 (s:=pb.toNat) (f:=pc.toNat) (by unfold BadE at hB; omega) (by unfold BadE at hB; omega)
   have hes:=fun n12=>Mac.every_s hm pb.toNat pc.toNat n12
   have c7:=all_cells a7 l7
   have y7:=o7.mv.bx_same
   conv=>whnf
   repeat (refine SeqP.go ?_; conv=>whnf)
   refine ⟨_,cq,?_⟩
   conv=>whnf
   refine ⟨_,c7,?_⟩
   conv=>whnf
   refine ⟨⟨by omega,by omega⟩,?_⟩
   conv=>whnf
   refine ⟨_,cellAt_row aP (o:=1) rfl,?_⟩
   conv=>whnf
   refine ⟨⟨by omega,by omega⟩,?_⟩
   conv=>whnf
   refine ⟨_,cellAt_row aP (o:=2) rfl,?_⟩
   conv=>whnf
   have hpb0:∃ k:Nat,pb = k:=⟨pb.toNat,by unfold BadE at hB; omega⟩
   obtain ⟨k,ek⟩:=hpb0
   have hpc0:∃ k:Nat,pc = k:=⟨pc.toNat,by unfold BadE at hB; omega⟩
   obtain ⟨k',ek'⟩:=hpc0
   have ek2:pb.toNat = k:=by omega
   have ek2':pc.toNat = k':=by omega
   rw [ek2,ek2'] at hev hes hq
   rw [ek,ek']
   refine CallP.mono (REvery_spec _ m k k' _ o7.mv hm (by unfold BadE at hB; omega) (by unfold BadE at hB; omega)) ?_
   rintro r K1 ⟨hw,gk⟩
   have hwk:=hw.known
   obtain ⟨p,q,rfl⟩:=hwk
   have cqa:=gk.cells cq
   have c7a:=gk.cells c7
   conv=>whnf
   refine CallP.mono (right_spec _ _ e12 _ _ hw.mv hev (fun n12=>⟨((hq.1 n12).1),(hq.1 n12).2.ext gk,hes n12⟩) (fun n12=>⟨(hq.2 n12).1,congrArg (fun b:List Value=>Value.agg ⟨b⟩) (hq.2 n12).2⟩)) ?_
   rintro r K2 ⟨rfl,gk2⟩
   have cqb:=gk2.cells cqa
   have c7b:=gk2.cells c7a
   have aPa:=gk.at_ _ _ aP
   have aPb:=gk2.at_ _ _ aPa
   conv=>whnf
   refine ⟨?_,?_⟩
   ·repeat' (first | exact True.intro | (refine And.intro ?_ ?_ <;> (conv=>whnf)))
    all_goals first
     | exact sameAt_val (h2:=_) rfl (sameV_int _)
     | exact sameAt_val (h2:=_) rfl (sameV_ptr _ _)
     | exact sameAt_val (h2:=_) (congrArg (fun x=>hval _ (aggOf x)) cq) yq
     | exact sameAt_val (h2:=_) (congrArg (fun x=>hval _ (aggOf x)) cqa) yq
     | exact sameAt_val (h2:=_) (congrArg (fun x=>hval _ (aggOf x)) cqb) yq
     | exact sameAt_val (h2:=_) (congrArg (fun x=>hval _ (aggOf x)) c7) y7
     | exact sameAt_val (h2:=_) (congrArg (fun x=>hval _ (aggOf x)) c7a) y7
     | exact sameAt_val (h2:=_) (congrArg (fun x=>hval _ (aggOf x)) c7b) y7
     | exact sameAt_val (h2:=_) (congrArg (hval _) (cellAt_row (o:=0) aP rfl)) (sameV_int _)
     | exact sameAt_val (h2:=_) (congrArg (hval _) (cellAt_row (o:=0) aPa rfl)) (sameV_int _)
     | exact sameAt_val (h2:=_) (congrArg (hval _) (cellAt_row (o:=0) aPb rfl)) (sameV_int _)
     | exact sameAt_val (h2:=_) (congrArg (hval _) (cellAt_row (o:=1) aP rfl)) (sameV_int _)
     | exact sameAt_val (h2:=_) (congrArg (hval _) (cellAt_row (o:=1) aPa rfl)) (sameV_int _)
     | exact sameAt_val (h2:=_) (congrArg (hval _) (cellAt_row (o:=1) aPb rfl)) (sameV_int _)
     | exact sameAt_val (h2:=_) (congrArg (hval _) (cellAt_row (o:=2) aP rfl)) (sameV_int _)
     | exact sameAt_val (h2:=_) (congrArg (hval _) (cellAt_row (o:=2) aPa rfl)) (sameV_int _)
     | exact sameAt_val (h2:=_) (congrArg (hval _) (cellAt_row (o:=2) aPb rfl)) (sameV_int _)
     | exact sameAt_val (h2:=_) (show hval _ (idxAV 3 1 (ptr P 0) (int (0:Nat))) = _ from idxA_val' ⟨by omega,by omega⟩) (sameV_ptr _ _)
     | exact sameAt_val (h2:=_) (show hval _ (idxAV 3 1 (ptr P 0) (int (1:Nat))) = _ from idxA_val' ⟨by omega,by omega⟩) (sameV_ptr _ _)
     | exact sameAt_val (h2:=_) (show hval _ (idxAV 3 1 (ptr P 0) (int (2:Nat))) = _ from idxA_val' ⟨by omega,by omega⟩) (sameV_ptr _ _)
     | trace_state
   conv=>whnf
   repeat (refine SeqP.go ?_; conv=>whnf)
   exact ⟨K2,⟨rfl,rfl,rfl,rfl,trivial⟩,⟨rfl,gk.trans gk2⟩,rfl⟩
 rintro G4 φ6 _ ⟨rfl,g⟩
 have a7:=g.at_ _ _ a7
 have a8:=g.at_ _ _ a8
 have aP:=g.at_ _ _ aP
 have o7:=o7.ext g
 have o8:=o8.ext g
 clear g
 have hux:=u64_of pa
 obtain ⟨u,u0,u1,hu⟩:=hux
 have e1:=tmod_bd u0 (show (0:Int) < 8 by omega)
 have hux:=u64_of pb
 obtain ⟨u',u0',u1',hu'⟩:=hux
 have e1':=tmod_bd u0' (show (0:Int) < 5 by omega)
 have hux:=u64_of pc
 obtain ⟨u'',u0'',u1'',hu''⟩:=hux
 have e1'':=tmod_bd u0'' (show (0:Int) < 8 by omega)
 have hexk:∃ k:Int,u.tmod 8 = k:=⟨_,rfl⟩
 obtain ⟨k,ek⟩:=hexk
 have hexk:∃ k:Int,u'.tmod 5 = k:=⟨_,rfl⟩
 obtain ⟨k',ek'⟩:=hexk
 have hexk:∃ k:Int,u''.tmod 8 = k:=⟨_,rfl⟩
 obtain ⟨k'',ek''⟩:=hexk
 conv=>whnf
 refine ⟨⟨by omega,by omega⟩,?_⟩
 conv=>whnf
 refine ⟨_,cellAt_row aP (o:=0) rfl,?_⟩
 conv=>whnf
 refine ⟨u,hu,?_⟩
 conv=>whnf
 refine ⟨by omega,?_⟩
 conv=>whnf
 refine ⟨k,wie ek (by omega),?_⟩
 conv=>whnf
 refine ⟨⟨by omega,by omega⟩,?_⟩
 conv=>whnf
 refine ⟨_,cellAt_row aP (o:=1) rfl,?_⟩
 conv=>whnf
 refine ⟨u',hu',?_⟩
 conv=>whnf
 refine ⟨by omega,?_⟩
 conv=>whnf
 refine ⟨k',wie ek' (by omega),?_⟩
 conv=>whnf
 refine ⟨k' + 1,wie (by omega) (by omega),?_⟩
 conv=>whnf
 refine ⟨⟨by omega,by omega⟩,?_⟩
 conv=>whnf
 refine ⟨_,cellAt_row aP (o:=2) rfl,?_⟩
 conv=>whnf
 refine ⟨u'',hu'',?_⟩
 conv=>whnf
 refine ⟨by omega,?_⟩
 conv=>whnf
 refine ⟨k'',wie ek'' (by omega),?_⟩
 conv=>whnf
 refine ⟨rfl,_,storeAt_full (vs:=[int k,int (k' + 1),int k'']) aP rfl rfl rfl,?_⟩
 conv=>whnf
 repeat (refine SeqP.go ?_; conv=>whnf)
 refine ⟨((rd + 1:Nat):Int),wie (by omega) (by omega),?_⟩
 conv=>whnf
 exact Rnd.mk (rd + 1,k,k' + 1,k'',G4.set P (.row 66 true [int k,int (k' + 1),int k''])) ⟨by show rd + 1≤2; omega,by rw [Hp.at_set_ne _ (by omega)]; exact a7,by rw [Hp.at_set_ne _ (by omega)]; exact a8,o7.put hHb _,o8.put hP1 _,Hp.at_set_self _ (Hp.lt_of_at aP)⟩ (by show 2 - (rd + 1) < 2 - rd; omega) ⟨rfl,rfl,rfl,rfl,trivial⟩ (Hp.Le.refl _) rfl
end
end Go.Proofs.Ytedneplaibmppaa
