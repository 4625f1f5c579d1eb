/- Contracts of the functions that PEEE comes to. -/
import Derived.Test.YtedneplaibmppaaPEEA
import Derived.Test.YtedneplaibmppaaWx21
import Derived.KernelRfl
set_option maxRecDepth 100000
set_option maxHeartbeats 2000000
set_option linter.unusedVariables false
set_option linter.unusedSectionVars false
set_option linter.unusedSimpArgs false
namespace Go.Proofs.Ytedneplaibmppaa
open Go.Rx Go.RowKit
structure OkS (m:Mac):Prop where
 ok:m.Ok
 zer:m.Zer
 ck:OkI m.i
theorem OkS.b2 {m:Mac} (h:OkS m):2≤m.base:=by have:(2:Int)≤(m.base:Int):=h.ck.b2; omega
theorem OkS.b5 {m:Mac} (h:OkS m):m.base≤5:=by have:(m.base:Int)≤5:=h.ck.b5; omega
theorem OkS.n12 {m:Mac} (h:OkS m):m.out.length≤12:=h.ck.n12
theorem OkS.outs {m:Mac} (h:OkS m):∀ x ∈ m.out,0≤x∧x≤9:=h.ck.outs
theorem OkS.o {m:Mac} (h:OkS m) {s:Nat} (hs:s < m.out.length):0≤m.o s∧m.o s≤9:=gl_forall (P:=fun x=>0≤x∧x≤9) h.outs hs
theorem OkS.lens {m:Mac} (h:OkS m):m.i.out.length≤1000000∧m.i.next.length≤1000000∧∀ s,(rw_ m.i.next s).length≤1000000:=by
 have h1:=h.n12
 have h2:=h.ok.ilen
 have h3:=h.b5
 refine ⟨by show m.out.length≤_; omega,by omega,fun s=>?_⟩
 by_cases hs:s < m.out.length
 ·rw [h.ok.irow hs]; omega
 ·have:rw_ m.i.next s = []:=by
   unfold rw_; rw [List.getD_eq_getElem?_getD,List.getElem?_eq_none (by omega)]; rfl
  rw [this]; simp
theorem map_toNat {l:List Int} (h:∀ x ∈ l,0≤x):(l.map Int.toNat).map (fun n:Nat=>(n:Int)) = l:=by
 rw [List.map_map]
 conv=>rhs; rw [← List.map_id l]
 refine List.map_congr_left fun x hx=>?_
 have:=h x hx
 show ((x.toNat:Nat):Int) = x
 omega
theorem mac_of {b:Nat} {O:List Int} {N:List (List Int)} (h:∀ l ∈ N,∀ x ∈ l,0≤x):(⟨b,O,N.map fun l=>l.map Int.toNat⟩:Mac).i = ⟨b,O,N⟩:=by
 unfold Mac.i
 dsimp only
 rw [List.map_map]
 congr 1
 conv=>rhs; rw [← List.map_id N]
 exact List.map_congr_left fun l hl=>map_toNat (h l hl)
theorem okI_mac {M:MacI} (h:OkI M):∃ m:Mac,m.i = M∧OkS m∧(m.base:Int) = M.base∧m.out = M.out:=by
 obtain ⟨B,O,N⟩:=M
 have hb2:=h.b2
 dsimp only at hb2
 obtain ⟨b,rfl⟩:∃ b:Nat,B = b:=⟨B.toNat,by omega⟩
 have hnn:∀ l ∈ N,∀ x ∈ l,0≤x:=fun l hl x hx=>by
  obtain ⟨i,hi,rfl⟩:=List.getElem_of_mem hl
  have:=(h.rows i (by rw [← h.len]; exact hi)).lt x (by rw [rw_at hi]; exact hx)
  exact this.1
 have e:=mac_of (b:=b) (O:=O) hnn
 refine ⟨⟨b,O,N.map fun l=>l.map Int.toNat⟩,e,?_,rfl,rfl⟩
 have hck:OkI (⟨b,O,N.map fun l=>l.map Int.toNat⟩:Mac).i:=by rw [e]; exact h
 have hrl:∀ s,s < O.length→((N.map fun l=>l.map Int.toNat).getD s []).length = b:=fun s hs=>by
  have h1:=(hck.rows s hs).len
  rw [Mac.i_row,List.length_map] at h1
  have h2:((⟨b,O,N.map fun l=>l.map Int.toNat⟩:Mac).i.base) = (b:Int):=rfl
  rw [h2] at h1
  dsimp only at h1
  omega
 refine ⟨⟨by show 1≤b; omega,h.n1,by show (N.map _).length = O.length; rw [List.length_map]; exact h.len,hrl,fun s d hs hd=>?_⟩,fun s hs=>?_,hck⟩
 ·have h1:=(hck.rows s hs)
  have h2:d < (rw_ (⟨b,O,N.map fun l=>l.map Int.toNat⟩:Mac).i.next s).length:=by
   rw [Mac.i_row,List.length_map,hrl s hs]; exact hd
  have h3:=gl_forall (P:=fun x=>0≤x∧x < (O.length:Int)) h1.lt h2
  rw [Mac.i_nx] at h3
  show Mac.nx _ s d < O.length
  omega
 ·have h1:=(hck.rows s hs).zer
  rw [Mac.i_nx,Int.toNat_natCast] at h1
  exact h1
theorem gl_app {l:List Int} {x:Int} {j:Nat} (h:j < l.length):gl (l ++ [x]) j = gl l j:=by
 unfold gl
 rw [List.getD_eq_getElem?_getD,List.getD_eq_getElem?_getD,List.getElem?_append_left h]
theorem rw_app {L:List (List Int)} {x:List Int} {j:Nat} (h:j < L.length):rw_ (L ++ [x]) j = rw_ L j:=by
 unfold rw_
 rw [List.getD_eq_getElem?_getD,List.getD_eq_getElem?_getD,List.getElem?_append_left h]
theorem rw_last (L:List (List Int)) (x:List Int):rw_ (L ++ [x]) L.length = x:=by
 unfold rw_
 rw [List.getD_eq_getElem?_getD,List.getElem?_append_right (Nat.le_refl _)]
 simp
theorem mem_snoc {l:List Int} {x:Int} {P:Int→Prop} (h:∀ y ∈ l,P y) (hx:P x):∀ y ∈ l ++ [x],P y:=fun y hy=>by
 rcases List.mem_append.1 hy with hy | hy
 ·exact h y hy
 ·rw [List.mem_singleton.1 hy]; exact hx
def TRow (O:List Int) (b:Nat) (s:Nat) (row:List Int):Prop:=row.length = b∧(∀ x ∈ row,0≤x∧x < (O.length:Int))∧gl O (gl row 0).toNat = gl O s
def TPart (O:List Int) (r:Nat) (s:Nat) (row:List Int):Prop:=row.length = r∧(∀ x ∈ row,0≤x∧x < (O.length:Int))∧(0 < r→gl O (gl row 0).toNat = gl O s)
theorem TPart.add {O:List Int} {r s:Nat} {row:List Int} (k:TPart O r s row) {t:Int} (ht:0≤t∧t < (O.length:Int)) (hz:r = 0→gl O t.toNat = gl O s):TPart O (r + 1) s (row ++ [t]):=by
 obtain ⟨h1,h2,h3⟩:=k
 refine ⟨by rw [List.length_append,h1]; rfl,mem_snoc (P:=fun x=>0≤x∧x < (O.length:Int)) h2 ht,fun _=>?_⟩
 by_cases h:r = 0
 ·have:row = []:=List.eq_nil_of_length_eq_zero (by omega)
  rw [this]
  exact hz h
 ·rw [gl_app (by omega)]
  exact h3 (by omega)
theorem okI_of {b:Nat} {O:List Int} {N:List (List Int)} (hb:2≤b∧b≤5) (h1:1≤O.length) (h2:O.length≤12) (ho:∀ x ∈ O,0≤x∧x≤9) (hl:N.length = O.length) (hr:∀ s,s < N.length→TRow O b s (rw_ N s)):OkI ⟨b,O,N⟩ :=
 ⟨by show (2:Int)≤b; omega,by show (b:Int)≤5; omega,h1,h2,ho,hl,fun s hs=>by
  obtain ⟨a1,a2,a3⟩:=hr s (by rw [hl]; exact hs)
  exact ⟨by show ((rw_ N s).length:Int) = b; omega,a2,a3⟩⟩
structure Lens (M:MacI):Prop where
 o:M.out.length < 9223372036854775808
 n:M.next.length < 9223372036854775808
 r:∀ s,(rw_ M.next s).length < 9223372036854775808
attribute [local irreducible] E idxN cellAt cellsAt storeAt callable helems hmoved lookIn findKey keyOk hentries Hp.at Hp.set Hp.lay arBits hupdated setAt CallP YieldP BoolOf IsWrap Rnd LoopP AppP CutP Int.tmod Int.tdiv Int.fdiv
section
variable [Unknowns]
attribute [local irreducible] ResP sameAt finP
theorem tame_spec (v:Value) (M:MacI) (b most:Nat) (h:Hp) (hv:MV h v M) (hL:Lens M) (hb:2≤b∧b≤5) (hm:1≤most∧most≤12):CallP E 37 [v,int b,int most] h (fun r h'=>(∃ m:Mac,OkS m∧m.base = b∧m.out.length≤most∧OwnM h h' r m.i)∧Grows h h'):=by
 obtain ⟨bx,rfl,hbx⟩:=hv.box
 obtain ⟨ao,an,co,cn,hcx⟩:=hbx.cx
 have hLo:=hL.o
 have hLn:=hL.n
 refine enter37 (by simp) ?_
 conv=>whnf
 refine SeqP.cut (α:=Hp) (fun _=>[(3,ptr h.next 0),(6,ptr (h.next + 1) 0),(2,int most),(1,int b)]) (fun x H=>x = H∧Grows h H∧H.at h.next = some (.row 25 true bx)∧H.at (h.next + 1) = some (.row 26 true [int 0,nilS,nilS])∧H.next = h.next + 2) ?_ ?_
 ·conv=>whnf
  have n1:(h.lay (.row 25 true bx)).next = h.next + 1:=Hp.next_lay _ _
  exact ⟨_,⟨rfl,congrArg (fun k=>ptr k 0) n1,rfl,rfl,trivial⟩,⟨rfl,(Grows.lay _ _).then_lay _,Hp.at_lay_old _ (Hp.at_lay_self _ _),at_nx2 n1 (Hp.at_lay_self _ _),by rw [Hp.next_lay,n1]⟩,rfl⟩
 rintro H φ1 _ ⟨rfl,gH,aX,aR,nH⟩
 have c1:=(hcx H h.next 25 gH aX).c1
 conv=>whnf
 refine SeqP.cut (α:=Nat) (fun n=>[(7,int n),(3,ptr h.next 0),(6,ptr (h.next + 1) 0),(2,int most),(1,int b)]) (fun n H2=>H = H2∧1≤n∧n≤most) ?_ ?_
 ·conv=>whnf
  refine ⟨_,c1,?_⟩
  conv=>whnf
  refine resP_val (v:=int (min (M.out.length:Int) most)) (h:=H) (congrArg (fun v=>HRes.val v H) (min_eq3 _ _)) ?_
  conv=>whnf
  refine resP_val (v:=int (max 1 (min (M.out.length:Int) most))) (h:=H) (congrArg (fun v=>HRes.val v H) (max_eq3 _ _)) ?_
  conv=>whnf
  refine ⟨(max 1 (min (M.out.length:Int) most)).toNat,⟨?_,rfl,rfl,rfl,rfl,trivial⟩,⟨rfl,by omega,by omega⟩,rfl⟩
  exact congrArg int (by omega)
 rintro n φ2 _ ⟨rfl,hn1,hn2⟩
 conv=>whnf
 refine SeqP.cut (α:=Hp) (fun _=>[(8,ptr H.next 0),(7,int n),(3,ptr h.next 0),(6,ptr (h.next + 1) 0),(1,int b)]) (fun x H2=>x = H2∧MZ H H2 26 H.next nilS nilS [] [] [] [int b,nilS,nilS] []) ?_ ?_
 ·conv=>whnf
  refine ⟨rfl,_,storeAt_all (vs:=[int b,nilS,nilS]) rfl rfl rfl,?_⟩
  conv=>whnf
  exact ⟨_,⟨rfl,rfl,rfl,rfl,rfl,trivial⟩,⟨rfl,MZ.start (.refl _)⟩,rfl⟩
 rintro H2 φ3 _ ⟨rfl,hz⟩
 have hexZ:∃ Z,H.next = Z:=⟨_,rfl⟩
 obtain ⟨Z,eZ⟩:=hexZ
 rw [eZ] at hz ⊢
 conv=>whnf
 refine SeqP.cut (α:=Value×List Int×Hp) (fun _=>[(8,ptr Z 0),(7,int n),(3,ptr h.next 0),(6,ptr (h.next + 1) 0),(1,int b)]) (fun s H3=>s.2.2 = H3∧MZ H s.2.2 26 Z s.1 nilS s.2.1 [] [] [int b,s.1,nilS] []∧s.2.1.length = n∧∀ x ∈ s.2.1,0≤x∧x≤9) ?_ ?_
 ·conv=>whnf
  repeat (refine SeqP.go ?_; conv=>whnf)
  refine loop_inv (α:=Nat×Value×List Int×Hp) (fun s=>[(9,int s.1),(8,ptr Z 0),(7,int n),(3,ptr h.next 0),(6,ptr (h.next + 1) 0),(1,int b)]) (fun s=>s.2.2.2) (fun s=>s.1≤n∧MZ H s.2.2.2 26 Z s.2.1 nilS s.2.2.1 [] [] [int b,s.2.1,nilS] []∧s.2.2.1.length = s.1∧∀ x ∈ s.2.2.1,0≤x∧x≤9) (fun s=>n - s.1) (0,nilS,[],H2) ⟨Nat.zero_le _,hz,rfl,by simp⟩ ⟨rfl,rfl,rfl,rfl,rfl,rfl,trivial⟩ (Hp.Le.refl _) ?_
  rintro ⟨k,ov,O,H3⟩ φ4 ⟨hk,hz3,hOl,hO⟩
  dsimp only at hk hz3 hOl hO ⊢
  have g3:=gH.trans hz3.gr
  have aX3:=hz3.gr.at_ _ _ aX
  have k3:=hcx H3 h.next 25 g3 aX3
  have d1:=k3.c1
  conv=>whnf
  repeat (refine SeqP.go ?_; conv=>whnf)
  refine cmpB (fun q1=>?_) (fun q1=>?_)
  rotate_left
  ·have:k = n:=by omega
   conv=>whnf
   exact ⟨(ov,O,H3),⟨rfl,rfl,rfl,rfl,rfl,trivial⟩,⟨rfl,hz3,by show O.length = n; omega,hO⟩,rfl⟩
  conv=>whnf
  refine SeqP.cut (α:=Value×List Int×Hp) (fun s=>[(9,int k),(8,ptr Z 0),(7,int n),(3,ptr h.next 0),(6,ptr (h.next + 1) 0),(1,int b)]) (fun s H4=>s.2.2 = H4∧MZ H s.2.2 26 Z s.1 nilS s.2.1 [] [] [int b,s.1,nilS] []∧s.2.1.length = k + 1∧∀ x ∈ s.2.1,0≤x∧x≤9) ?_ ?_
  rotate_left
  ·rintro ⟨ov4,O4,H4⟩ φ5 _ ⟨rfl,hz4,hOl4,hO4⟩
   dsimp only at hz4 hOl4 hO4 ⊢
   conv=>whnf
   refine ⟨((k + 1:Nat):Int),wie (by omega) (by omega),?_⟩
   conv=>whnf
   exact Rnd.mk (k + 1,ov4,O4,H4) ⟨by show k + 1≤n; omega,hz4,hOl4,hO4⟩ (by show n - (k + 1) < n - k; omega) ⟨rfl,rfl,rfl,rfl,rfl,rfl,trivial⟩ (Hp.Le.refl _) rfl
  conv=>whnf
  refine SeqP.go ?_
  conv=>whnf
  refine SeqP.cut (α:=Int) (fun z=>[(10,int z),(9,int k),(8,ptr Z 0),(7,int n),(3,ptr h.next 0),(6,ptr (h.next + 1) 0),(1,int b)]) (fun z H4=>H3 = H4∧0≤z∧z≤9) ?_ ?_
  ·conv=>whnf
   repeat (refine SeqP.go ?_; conv=>whnf)
   refine ⟨_,d1,?_⟩
   conv=>whnf
   refine cmpB (fun q2=>?_) (fun q2=>?_)
   rotate_left
   ·conv=>whnf
    exact ⟨0,⟨rfl,rfl,rfl,rfl,rfl,rfl,rfl,trivial⟩,⟨rfl,by omega,by omega⟩,rfl⟩
   have ho:=k3.outAt (i:=k) (by omega)
   obtain ⟨r,o,sp,rfl,hsp,hco⟩:=ho
   have hux:=u64_of (gl M.out k)
   obtain ⟨u,u0,u1,hu⟩:=hux
   have e1:=tmod_bd u0 (show (0:Int) < 10 by omega)
   conv=>whnf
   refine ⟨_,d1,?_⟩
   conv=>whnf
   refine ⟨hsp,⟨by omega,by omega⟩,?_⟩
   conv=>whnf
   refine ⟨_,hco,?_⟩
   conv=>whnf
   refine ⟨u,hu,?_⟩
   conv=>whnf
   refine ⟨by omega,?_⟩
   conv=>whnf
   refine ⟨u.tmod 10,wid (by omega),?_⟩
   conv=>whnf
   exact ⟨u.tmod 10,⟨rfl,rfl,rfl,rfl,rfl,rfl,rfl,trivial⟩,⟨rfl,by omega,by omega⟩,rfl⟩
  rintro z φ5 _ ⟨rfl,hz0,hz9⟩
  have z1:cellAt H3 Z 1 = some ov:=cellAt_row hz3.z rfl
  conv=>whnf
  repeat (refine SeqP.go ?_; conv=>whnf)
  refine ⟨_,z1,?_⟩
  conv=>whnf
  refine hz3.o_app (by omega) ?_
  intro ov' H4 hov' hz4 kv4
  obtain ⟨a4,n4,rfl⟩:=hov'
  conv=>whnf
  refine ⟨rfl,_,storeAt_row hz4.z (by simp) rfl,?_⟩
  conv=>whnf
  exact ⟨(_,O ++ [z],_),⟨rfl,rfl,rfl,rfl,rfl,rfl,trivial⟩,⟨rfl,(hz4.put _).1,by show (O ++ [z]).length = k + 1; rw [List.length_append,hOl]; rfl,mem_snoc (P:=fun x=>0≤x∧x≤9) hO ⟨hz0,hz9⟩⟩,rfl⟩
 rintro ⟨ov,O,H3⟩ φ4 _ ⟨rfl,hz3,hOl,hO⟩
 dsimp only at hz3 hOl hO ⊢
 conv=>whnf
 refine SeqP.cut (α:=Value×List Value×List (List Int)×Hp) (fun _=>[(8,ptr Z 0),(6,ptr (h.next + 1) 0)]) (fun s H4=>s.2.2.2 = H4∧MZ H s.2.2.2 26 Z ov s.1 O s.2.1 s.2.2.1 [int b,ov,s.1] [nilS]∧s.2.2.1.length = n∧∀ s',s' < s.2.2.1.length→TRow O b s' (rw_ s.2.2.1 s')) ?_ ?_
 rotate_left
 ·rintro ⟨nv,us,N,H4⟩ φ5 _ ⟨rfl,hz4,hNl,hN⟩
  dsimp only at hz4 hNl hN ⊢
  have hok:=okI_of hb (by omega) (by omega) hO (by omega) hN
  have hmm:=okI_mac hok
  obtain ⟨m,em,hms,hmb,hmo⟩:=hmm
  have hmb:(m.base:Int) = (b:Int):=hmb
  have hov:=hz4.out_ok
  obtain ⟨ax,rfl⟩:=hov
  have hnv:=hz4.next_ok
  obtain ⟨ay,rfl⟩:=hnv
  have aR4:=hz4.gr.at_ _ _ aR
  have hzz:=(hz4.own (b:=b)).mv
  conv=>whnf
  repeat (refine SeqP.go ?_; conv=>whnf)
  refine ⟨_,all_cells hz4.z rfl,?_⟩
  conv=>whnf
  refine ⟨rfl,_,storeAt_full (vs:=[int b,.slice ax O.length O.length,.slice ay N.length N.length]) aR4 rfl rfl rfl,?_⟩
  conv=>whnf
  repeat (refine SeqP.go ?_; conv=>whnf)
  obtain ⟨i26,t26,ag26,sz26⟩:=ty26
  have hZ:=hz4.hZ
  refine leave_cell (r:=h.next + 1) (o:=0) (cs:=[int b,.slice ax O.length O.length,.slice ay N.length N.length]) rfl t26 ag26 ?_ ?_
  ·rw [sz26]
   exact all_cells (Hp.at_set_self _ (Hp.lt_of_at aR4)) rfl
  ·have hmo':m.out.length = O.length:=by rw [hmo]
   have hown:=hz4.own (b:=b)
   refine ⟨⟨m,hms,by omega,by omega,?_⟩,(gH.trans hz4.gr).then_set _ (by omega)⟩
   rw [em]
   have hx:∀ (e:TypeId) (sz k:Nat) (w:Value) (cs:List Value) (o:Rx.Obj),BuiltC H H4 e sz w k cs→BuiltC H (H4.set (h.next + 1) o) e sz w k cs:=fun e sz k w cs o hb=>builtC_stay hb fun r o2 hr ho=>by
    rw [Hp.at_set_ne _ (by have:=(hb.ad_lt r hr).1; omega)]; exact ho
   refine OwnM.back gH.next ⟨_,_,us,rfl,hx _ _ _ _ _ _ hz4.o,?_,hz4.ul,fun j u l e1 e2=>?_⟩
   ·have:=hx _ _ _ _ _ (.row 26 true [int b,.slice ax O.length O.length,.slice ay N.length N.length]) hz4.n
    exact this
   ·have hb2:=hz4.ue j u l e1 e2
    exact built_stay hb2 fun r o2 hr ho=>by
     rw [Hp.at_set_ne _ (by have:=(hb2.ad_lt r hr).1; omega)]; exact ho
 conv=>whnf
 repeat (refine SeqP.go ?_; conv=>whnf)
 have hz3':MZ H H3 26 Z ov nilS O [] [] [int b,ov,nilS] [nilS]:=hz3.more (.refl _) (v:=nilS) fun r e=>by cases e
 refine loop_inv (α:=Nat×Value×List Value×List (List Int)×Hp) (fun s=>[(12,int s.1),(8,ptr Z 0),(7,int n),(3,ptr h.next 0),(6,ptr (h.next + 1) 0),(1,int b)]) (fun s=>s.2.2.2.2) (fun s=>s.1≤n∧MZ H s.2.2.2.2 26 Z ov s.2.1 O s.2.2.1 s.2.2.2.1 [int b,ov,s.2.1] [nilS]∧s.2.2.2.1.length = s.1∧∀ s',s' < s.2.2.2.1.length→TRow O b s' (rw_ s.2.2.2.1 s')) (fun s=>n - s.1) (0,nilS,[],[],H3) ⟨Nat.zero_le _,hz3',rfl,fun s' hs=>by simp at hs⟩ ⟨rfl,rfl,rfl,rfl,rfl,rfl,trivial⟩ (Hp.Le.refl _) ?_
 rintro ⟨k,nv,us,N,H4⟩ φ5 ⟨hk,hz4,hNl,hN⟩
 dsimp only at hk hz4 hNl hN ⊢
 conv=>whnf
 repeat (refine SeqP.go ?_; conv=>whnf)
 refine cmpB (fun q1=>?_) (fun q1=>?_)
 rotate_left
 ·have:k = n:=by omega
  conv=>whnf
  exact ⟨(nv,us,N,H4),⟨rfl,rfl,trivial⟩,⟨rfl,hz4,by show N.length = n; omega,hN⟩,rfl⟩
 conv=>whnf
 refine SeqP.cut (α:=Value×List Value×List (List Int)×Hp) (fun s=>[(12,int k),(8,ptr Z 0),(7,int n),(3,ptr h.next 0),(6,ptr (h.next + 1) 0),(1,int b)]) (fun s H5=>s.2.2.2 = H5∧MZ H s.2.2.2 26 Z ov s.1 O s.2.1 s.2.2.1 [int b,ov,s.1] [nilS]∧s.2.2.1.length = k + 1∧∀ s',s' < s.2.2.1.length→TRow O b s' (rw_ s.2.2.1 s')) ?_ ?_
 rotate_left
 ·rintro ⟨nv5,us5,N5,H5⟩ φ6 _ ⟨rfl,hz5,hNl5,hN5⟩
  dsimp only at hz5 hNl5 hN5 ⊢
  conv=>whnf
  refine ⟨((k + 1:Nat):Int),wie (by omega) (by omega),?_⟩
  conv=>whnf
  exact Rnd.mk (k + 1,nv5,us5,N5,H5) ⟨by show k + 1≤n; omega,hz5,hNl5,hN5⟩ (by show n - (k + 1) < n - k; omega) ⟨rfl,rfl,rfl,rfl,rfl,rfl,trivial⟩ (Hp.Le.refl _) rfl
 conv=>whnf
 refine SeqP.go ?_
 conv=>whnf
 refine SeqP.cut (α:=Value×List Int×Hp) (fun s=>[(13,s.1),(12,int k),(8,ptr Z 0),(7,int n),(3,ptr h.next 0),(6,ptr (h.next + 1) 0),(1,int b)]) (fun s H5=>s.2.2 = H5∧MZ H s.2.2 26 Z ov nv O us N [int b,ov,nv] [s.1]∧BuiltC H s.2.2 3 1 s.1 s.2.1.length (s.2.1.map int)∧TRow O b k s.2.1) ?_ ?_
 rotate_left
 ·rintro ⟨w,row,H5⟩ φ6 _ ⟨rfl,hz5,hw,hrow⟩
  dsimp only at hz5 hw hrow ⊢
  have z2:cellAt H5 Z 2 = some nv:=cellAt_row hz5.z rfl
  have hws:=hw.slice
  obtain ⟨aw,rfl,-⟩:=hws
  conv=>whnf
  repeat (refine SeqP.go ?_; conv=>whnf)
  refine ⟨_,z2,?_⟩
  conv=>whnf
  refine hz5.n_app (i:=0) (by omega) rfl hw.b ?_
  intro nv' H6 hnv' hz6 kv6
  obtain ⟨a6,n6,rfl⟩:=hnv'
  conv=>whnf
  refine ⟨rfl,_,storeAt_row hz6.z (by simp) rfl,?_⟩
  conv=>whnf
  refine ⟨(_,_,N ++ [row],_),⟨rfl,rfl,rfl,rfl,rfl,rfl,trivial⟩,⟨rfl,(hz6.put _).1,by show (N ++ [row]).length = k + 1; rw [List.length_append,hNl]; rfl,fun s' hs'=>?_⟩,rfl⟩
  rw [List.length_append,List.length_singleton] at hs'
  by_cases e:s' < N.length
  ·rw [rw_app e]; exact hN s' e
  ·have:s' = N.length:=by omega
   subst this
   rw [rw_last,hNl]
   exact hrow
 conv=>whnf
 repeat (refine SeqP.go ?_; conv=>whnf)
 refine loop_inv (α:=Nat×Value×List Int×Hp) (fun s=>[(14,int s.1),(13,s.2.1),(12,int k),(8,ptr Z 0),(7,int n),(3,ptr h.next 0),(6,ptr (h.next + 1) 0),(1,int b)]) (fun s=>s.2.2.2) (fun s=>s.1≤b∧MZ H s.2.2.2 26 Z ov nv O us N [int b,ov,nv] [s.2.1]∧BuiltC H s.2.2.2 3 1 s.2.1 s.2.2.1.length (s.2.2.1.map int)∧TPart O s.1 k s.2.2.1) (fun s=>b - s.1) (0,nilS,[],H4) ⟨Nat.zero_le _,hz4,BuiltC.nil,rfl,by simp,fun x=>absurd x (Nat.lt_irrefl _)⟩ ⟨rfl,rfl,rfl,rfl,rfl,rfl,rfl,rfl,trivial⟩ (Hp.Le.refl _) ?_
 rintro ⟨r,w,row,H5⟩ φ6 ⟨hr,hz5,hw,hrow⟩
 dsimp only at hr hz5 hw hrow ⊢
 have g5:=gH.trans hz5.gr
 have aX5:=hz5.gr.at_ _ _ aX
 have k5:=hcx H5 h.next 25 g5 aX5
 have d2:=k5.c2
 have z1:cellAt H5 Z 1 = some ov:=cellAt_row hz5.z rfl
 conv=>whnf
 repeat (refine SeqP.go ?_; conv=>whnf)
 refine cmpB (fun q2=>?_) (fun q2=>?_)
 rotate_left
 ·have:r = b:=by omega
  subst this
  conv=>whnf
  exact ⟨(w,row,H5),⟨rfl,rfl,rfl,rfl,rfl,rfl,rfl,trivial⟩,⟨rfl,hz5,hw,hrow.1,hrow.2.1,hrow.2.2 (by omega)⟩,rfl⟩
 conv=>whnf
 refine SeqP.cut (α:=Value×List Int×Hp) (fun s=>[(14,int r),(13,s.1),(12,int k),(8,ptr Z 0),(7,int n),(3,ptr h.next 0),(6,ptr (h.next + 1) 0),(1,int b)]) (fun s H6=>s.2.2 = H6∧MZ H s.2.2 26 Z ov nv O us N [int b,ov,nv] [s.1]∧BuiltC H s.2.2 3 1 s.1 s.2.1.length (s.2.1.map int)∧TPart O (r + 1) k s.2.1) ?_ ?_
 rotate_left
 ·rintro ⟨w6,row6,H6⟩ φ7 _ ⟨rfl,hz6,hw6,hrow6⟩
  dsimp only at hz6 hw6 hrow6 ⊢
  conv=>whnf
  refine ⟨((r + 1:Nat):Int),wie (by omega) (by omega),?_⟩
  conv=>whnf
  exact Rnd.mk (r + 1,w6,row6,H6) ⟨by show r + 1≤b; omega,hz6,hw6,hrow6⟩ (by show b - (r + 1) < b - r; omega) ⟨rfl,rfl,rfl,rfl,rfl,rfl,rfl,rfl,trivial⟩ (Hp.Le.refl _) rfl
 conv=>whnf
 refine SeqP.go ?_
 conv=>whnf
 refine SeqP.cut (α:=Nat) (fun t=>[(15,int t),(14,int r),(13,w),(12,int k),(8,ptr Z 0),(7,int n),(3,ptr h.next 0),(6,ptr (h.next + 1) 0),(1,int b)]) (fun t H6=>H5 = H6∧t < n) ?_ ?_
 ·conv=>whnf
  repeat (refine SeqP.go ?_; conv=>whnf)
  refine ⟨_,d2,?_⟩
  conv=>whnf
  refine cmpB (fun q3=>?_) (fun q3=>?_)
  rotate_left
  ·conv=>whnf
   exact ⟨k,⟨rfl,rfl,rfl,rfl,rfl,rfl,rfl,rfl,rfl,trivial⟩,⟨rfl,by omega⟩,rfl⟩
  have hro:=k5.rowAt (i:=k) (by omega)
  obtain ⟨r1,o1,sp1,a1,c1',rfl,hsp1,hc1,hv1⟩:=hro
  have hLr:=hL.r k
  conv=>whnf
  refine ⟨_,d2,?_⟩
  conv=>whnf
  refine ⟨hsp1,⟨by omega,by omega⟩,?_⟩
  conv=>whnf
  refine ⟨_,hc1,?_⟩
  conv=>whnf
  refine cmpB (fun q4=>?_) (fun q4=>?_)
  rotate_left
  ·conv=>whnf
   exact ⟨k,⟨rfl,rfl,rfl,rfl,rfl,rfl,rfl,rfl,rfl,trivial⟩,⟨rfl,by omega⟩,rfl⟩
  have hre:=View.cellg hv1 (i:=r) (by omega)
  obtain ⟨r2,o2,sp2,rfl,hsp2,-,hc2⟩:=hre
  have hux:=u64_of (gl (rw_ M.next k) r)
  obtain ⟨u,u0,u1,hu⟩:=hux
  have e1:=tmod_bd u0 (show (0:Int) < (n:Int) by omega)
  have hux2:=u64_id (n:=(n:Int)) (by omega)
  conv=>whnf
  refine ⟨_,d2,?_⟩
  conv=>whnf
  refine ⟨hsp1,⟨by omega,by omega⟩,?_⟩
  conv=>whnf
  refine ⟨_,hc1,?_⟩
  conv=>whnf
  refine ⟨hsp2,⟨by omega,by omega⟩,?_⟩
  conv=>whnf
  refine ⟨_,hc2,?_⟩
  conv=>whnf
  refine ⟨u,hu,?_⟩
  conv=>whnf
  refine ⟨(n:Int),hux2,?_⟩
  conv=>whnf
  refine ⟨by omega,?_⟩
  conv=>whnf
  refine ⟨u.tmod n,wid (by omega),?_⟩
  conv=>whnf
  refine ⟨(u.tmod n).toNat,⟨congrArg int (by omega),rfl,rfl,rfl,rfl,rfl,rfl,rfl,rfl,trivial⟩,⟨rfl,by omega⟩,rfl⟩
 rintro t φ7 _ ⟨rfl,ht⟩
 have hov:=hz5.out_ok
 obtain ⟨ax,rfl⟩:=hov
 have hvo:=hz5.o.view
 have hct:=View.cellg hvo (i:=t) (by omega)
 obtain ⟨r3,o3,sp3,rfl,hsp3,-,hc3⟩:=hct
 have hck:=View.cellg hvo (i:=k) (by omega)
 obtain ⟨r4,o4,sp4,e4,hsp4,hc4⟩:=hck
 cases e4
 obtain ⟨-,hc4⟩:=hc4
 conv=>whnf
 refine SeqP.cut (α:=Nat) (fun t=>[(15,int t),(14,int r),(13,w),(12,int k),(8,ptr Z 0),(7,int n),(3,ptr h.next 0),(6,ptr (h.next + 1) 0),(1,int b)]) (fun t H6=>H5 = H6∧t < n∧(r = 0→gl O t = gl O k)) ?_ ?_
 ·conv=>whnf
  repeat (refine SeqP.go ?_; conv=>whnf)
  refine cmpB (fun q3=>?_) (fun q3=>?_)
  rotate_left
  ·conv=>whnf
   exact ⟨t,⟨rfl,rfl,rfl,rfl,rfl,rfl,rfl,rfl,rfl,trivial⟩,⟨rfl,ht,fun e=>absurd (by omega) q3⟩,rfl⟩
  conv=>whnf
  refine ⟨_,z1,?_⟩
  conv=>whnf
  refine ⟨hsp3,⟨by omega,by omega⟩,?_⟩
  conv=>whnf
  refine ⟨_,hc3,?_⟩
  conv=>whnf
  refine ⟨_,z1,?_⟩
  conv=>whnf
  refine ⟨hsp3,⟨by omega,by omega⟩,?_⟩
  conv=>whnf
  refine ⟨_,hc4,?_⟩
  conv=>whnf
  refine cmpB (fun q4=>?_) (fun q4=>?_)
  ·conv=>whnf
   exact ⟨k,⟨rfl,rfl,rfl,rfl,rfl,rfl,rfl,rfl,rfl,trivial⟩,⟨rfl,by omega,fun _=>rfl⟩,rfl⟩
  ·conv=>whnf
   exact ⟨t,⟨rfl,rfl,rfl,rfl,rfl,rfl,rfl,rfl,rfl,trivial⟩,⟨rfl,ht,fun _=>Classical.byContradiction q4⟩,rfl⟩
 rintro t2 φ8 _ ⟨rfl,ht2,hz2⟩
 conv=>whnf
 repeat (refine SeqP.go ?_; conv=>whnf)
 refine hz5.r_app (i:=0) rfl hw (by have:=hrow.1; omega) ?_
 intro w' H6 hw' hb6 hz6 kv6
 obtain ⟨a6,n6,rfl⟩:=hw'
 conv=>whnf
 exact ⟨(_,row ++ [(t2:Int)],H6),⟨rfl,rfl,rfl,rfl,rfl,rfl,rfl,rfl,trivial⟩,⟨rfl,hz6,hb6,hrow.add ⟨by omega,by omega⟩ fun e=>by rw [Int.toNat_natCast]; exact hz2 e⟩,rfl⟩
end
end Go.Proofs.Ytedneplaibmppaa
namespace Go.Proofs.Ytedneplaibmppaa
open Go.Rx Go.RowKit
def cutI (M:MacI):MacI:=⟨M.base,M.out.take 13,(M.next.take 13).map fun l=>l.take 26⟩
theorem cutI_id {M:MacI} (h1:M.out.length≤13) (h2:M.next.length≤13) (h3:∀ l ∈ M.next,l.length≤26):cutI M = M:=by
 obtain ⟨b,o,n⟩:=M
 unfold cutI
 dsimp only at h1 h2 h3 ⊢
 rw [List.take_of_length_le h1,List.take_of_length_le h2]
 congr 1
 conv=>rhs; rw [← List.map_id n]
 exact List.map_congr_left fun l hl=>List.take_of_length_le (h3 l hl)
theorem MZ.start2 {h H hb:Hp} {tz Z:Nat} {ov:Value} {O:List Int} {cs:List Value} (g:Grows h H) (hz:H.at Z = some (.row tz true cs)) (hZ:h.next≤Z) (hb1:Z < hb.next) (hbn:h.next≤hb.next) (ho:BuiltC hb H 3 1 ov O.length (O.map int)):MZ h H tz Z ov nilS O [] [] cs [] :=
 ⟨g,hz,ho.back hbn,BuiltC.nil,rfl,fun k u l e=>by simp at e,hZ,by
  have hlt:=Hp.lt_of_at hz
  refine ⟨fun v hv r e=>?_,fun u hu=>by simp at hu,fun i j v u hij hi hj=>?_,fun v hv u hu=>by simp at hu⟩
  ·simp at hv
   rcases hv with rfl | rfl | rfl
   ·cases e; exact hlt
   ·exact (ho.ad_lt r e).2
   ·cases e
  ·match i,j,hi,hj with
   | 0,0,_,_=>exact absurd rfl hij
   | 1,1,_,_=>exact absurd rfl hij
   | 0,1,hi,hj=>cases hi; cases hj; intro r e1 e2; cases e1; have:=(ho.ad_lt _ e2).1; omega
   | 1,0,hi,hj=>cases hi; cases hj; intro r e1 e2; cases e2; have:=(ho.ad_lt _ e1).1; omega
   | 0,2,hi,hj=>cases hj; exact (Ap.nil _).symm
   | 1,2,hi,hj=>cases hj; exact (Ap.nil _).symm
   | 0,j + 3,hi,hj=>simp at hj
   | 1,j + 3,hi,hj=>simp at hj
   | 2,_,hi,hj=>cases hi; exact Ap.nil _
   | i + 3,_,hi,_=>simp at hi⟩
theorem MZ.leave {h hb H:Hp} {tz Z R:Nat} {ov nv:Value} {O:List Int} {us:List Value} {N:List (List Int)} {cs rs:List Value} (k:MZ hb H tz Z ov nv O us N cs rs) (hR:R < hb.next) (hR2:h.next≤R) (g:Grows h hb) (b:Int) (o:Rx.Obj):OwnM h (H.set R o) (.agg ⟨[int b,ov,nv]⟩) ⟨b,O,N⟩∧Grows h (H.set R o):=by
 have hx:∀ (e:TypeId) (sz j:Nat) (w:Value) (cs:List Value),BuiltC hb H e sz w j cs→BuiltC hb (H.set R o) e sz w j cs:=fun e sz j w cs hc=>builtC_stay hc fun r o2 hr ho=>by
  rw [Hp.at_set_ne _ (by have:=(hc.ad_lt r hr).1; omega)]; exact ho
 refine ⟨OwnM.back g.next ⟨_,_,us,rfl,hx _ _ _ _ _ k.o,hx _ _ _ _ _ k.n,k.ul,fun j u l e1 e2=>?_⟩,(g.trans k.gr).then_set _ hR2⟩
 have hb2:=k.ue j u l e1 e2
 exact built_stay hb2 fun r o2 hr ho=>by
  rw [Hp.at_set_ne _ (by have:=(hb2.ad_lt r hr).1; omega)]; exact ho
theorem take_succ_rw {L:List (List Int)} {k:Nat} (h:k < L.length):L.take (k + 1) = L.take k ++ [rw_ L k]:=by
 rw [List.take_succ_eq_append_getElem h,rw_at h]
attribute [local irreducible] E idxN cellAt cellsAt storeAt callable helems hmoved lookIn findKey keyOk hentries Hp.at Hp.set Hp.lay arBits hupdated setAt CallP YieldP BoolOf IsWrap Rnd LoopP AppP CutP Int.tmod Int.tdiv Int.fdiv
section
variable [Unknowns]
attribute [local irreducible] ResP sameAt finP
theorem own_spec (v:Value) (M:MacI) (h:Hp) (hv:MV h v M) (hL:Lens M):CallP E 17 [v] h (fun r h'=>OwnM h h' r (cutI M)∧Grows h h'):=by
 obtain ⟨bx,rfl,hbx⟩:=hv.box
 obtain ⟨ao,an,co,cn,hcx⟩:=hbx.cx
 have hLo:=hL.o
 have hLn:=hL.n
 refine enter17 (by simp) ?_
 conv=>whnf
 refine SeqP.cut (α:=Hp) (fun _=>[(1,ptr h.next 0),(2,ptr (h.next + 1) 0)]) (fun x H=>x = H∧Grows h H∧H.at h.next = some (.row 25 true bx)∧H.at (h.next + 1) = some (.row 26 true [int 0,nilS,nilS])∧H.next = h.next + 2) ?_ ?_
 ·conv=>whnf
  have n1:(h.lay (.row 25 true bx)).next = h.next + 1:=Hp.next_lay _ _
  exact ⟨_,⟨rfl,congrArg (fun k=>ptr k 0) n1,trivial⟩,⟨rfl,(Grows.lay _ _).then_lay _,Hp.at_lay_old _ (Hp.at_lay_self _ _),at_nx2 n1 (Hp.at_lay_self _ _),by rw [Hp.next_lay,n1]⟩,rfl⟩
 rintro H φ1 _ ⟨rfl,gH,aX,aR,nH⟩
 have gL:Grows H (H.lay (.row 26 true [int 0,nilS,nilS])):=Grows.lay _ _
 have kL:=hcx _ h.next 25 (gH.trans gL) (gL.at_ _ _ aX)
 have c0:=kL.c0
 have c1:=kL.c1
 have aZ:(H.lay (.row 26 true [int 0,nilS,nilS])).at H.next = some (.row 26 true [int 0,nilS,nilS]):=Hp.at_lay_self _ _
 have nL:(H.lay (.row 26 true [int 0,nilS,nilS])).next = H.next + 1:=Hp.next_lay _ _
 conv=>whnf
 refine SeqP.cut (α:=Value×Hp) (fun s=>[(3,ptr H.next 0),(1,ptr h.next 0),(2,ptr (h.next + 1) 0)]) (fun s H2=>s.2 = H2∧MZ H s.2 26 H.next s.1 nilS (M.out.take 13) [] [] [int M.base,s.1,nilS] []) ?_ ?_
 ·conv=>whnf
  refine ⟨_,c0,?_⟩
  conv=>whnf
  refine ⟨_,c1,?_⟩
  conv=>whnf
  refine CallP.mono (few_spec _ M.out _ kL.o hLo 13 (by omega)) ?_
  rintro r H2 ⟨hb2,g2⟩
  have hz2:MZ H H2 26 H.next r nilS (M.out.take 13) [] [] [int 0,nilS,nilS] []:=MZ.start2 (hb:=H.lay (.row 26 true [int 0,nilS,nilS])) (gL.trans g2) (g2.at_ _ _ aZ) (Nat.le_refl _) (by rw [nL]; omega) (by rw [nL]; omega) hb2.c
  have hzo:=hz2.out_ok
  obtain ⟨ax,rfl⟩:=hzo
  have c0':=g2.cell c0
  have c1':=g2.cell c1
  conv=>whnf
  refine ⟨rfl,_,storeAt_full (vs:=[int M.base,.slice ax (M.out.take 13).length (M.out.take 13).length,nilS]) hz2.z rfl rfl rfl,?_⟩
  conv=>whnf
  refine ⟨?_,?_⟩
  ·repeat' (first | exact True.intro | (refine And.intro ?_ ?_ <;> (conv=>whnf)))
   all_goals first
    | exact sameAt_val (h2:=_) rfl (sameV_ptr _ _)
    | exact sameAt_val (h2:=_) rfl (sameV_slice _ _ _)
    | exact sameAt_val (h2:=_) (congrArg (hval _) c0) (sameV_int _)
    | exact sameAt_val (h2:=_) (congrArg (hval _) c0') (sameV_int _)
    | exact sameAt_val (h2:=_) (congrArg (hval _) c1) (sameV_slice _ _ _)
    | exact sameAt_val (h2:=_) (congrArg (hval _) c1') (sameV_slice _ _ _)
    | exact ⟨_,rfl,Hp.at_lay_self _ _,rfl⟩
    | exact ⟨H.next,rfl,g2.at_ _ _ aZ,rfl⟩
    | exact ⟨H.next,rfl,aZ,rfl⟩
    | trace_state
  exact ⟨(_,_),⟨rfl,rfl,rfl,trivial⟩,⟨rfl,(hz2.put _).1⟩,rfl⟩
 rintro ⟨ov,H2⟩ φ2 _ ⟨rfl,hz2⟩
 dsimp only at hz2 ⊢
 have hexZ:∃ Z,H.next = Z:=⟨_,rfl⟩
 obtain ⟨Z,eZ⟩:=hexZ
 rw [eZ] at hz2 ⊢
 conv=>whnf
 refine SeqP.cut (α:=Value×List Value×List (List Int)×Hp) (fun _=>[(3,ptr Z 0),(2,ptr (h.next + 1) 0)]) (fun s H4=>s.2.2.2 = H4∧MZ H s.2.2.2 26 Z ov s.1 (M.out.take 13) s.2.1 s.2.2.1 [int M.base,ov,s.1] [nilS]∧s.2.2.1 = (M.next.take 13).map fun l=>l.take 26) ?_ ?_
 rotate_left
 ·rintro ⟨nv,us,N,H4⟩ φ5 _ ⟨rfl,hz4,hN⟩
  dsimp only at hz4 hN ⊢
  have hov:=hz4.out_ok
  obtain ⟨ax,rfl⟩:=hov
  have hnv:=hz4.next_ok
  obtain ⟨ay,rfl⟩:=hnv
  have aR4:=hz4.gr.at_ _ _ aR
  conv=>whnf
  repeat (refine SeqP.go ?_; conv=>whnf)
  refine ⟨_,all_cells hz4.z rfl,?_⟩
  conv=>whnf
  refine ⟨rfl,_,storeAt_full (vs:=[int M.base,.slice ax (M.out.take 13).length (M.out.take 13).length,.slice ay N.length N.length]) aR4 rfl rfl rfl,?_⟩
  conv=>whnf
  repeat (refine SeqP.go ?_; conv=>whnf)
  obtain ⟨iR,tR,agR,szR⟩:=ty26
  refine leave_cell (r:=h.next + 1) (o:=0) (cs:=[int M.base,.slice ax (M.out.take 13).length (M.out.take 13).length,.slice ay N.length N.length]) rfl tR agR ?_ ?_
  ·rw [szR]
   exact all_cells (Hp.at_set_self _ (Hp.lt_of_at aR4)) rfl
  ·have:=hz4.leave (h:=h) (R:=h.next + 1) (by omega) (by omega) gH M.base (.row 26 true [int M.base,.slice ax (M.out.take 13).length (M.out.take 13).length,.slice ay N.length N.length])
   rw [hN] at this ⊢
   exact this
 conv=>whnf
 repeat (refine SeqP.go ?_; conv=>whnf)
 have hz2':MZ H H2 26 Z ov nilS (M.out.take 13) [] [] [int M.base,ov,nilS] [nilS]:=hz2.more (.refl _) (v:=nilS) fun r e=>by cases e
 refine loop_inv (α:=Nat×Value×List Value×List (List Int)×Hp) (fun s=>[(4,int s.1),(3,ptr Z 0),(1,ptr h.next 0),(2,ptr (h.next + 1) 0)]) (fun s=>s.2.2.2.2) (fun s=>s.1≤M.next.length∧s.1≤13∧MZ H s.2.2.2.2 26 Z ov s.2.1 (M.out.take 13) s.2.2.1 s.2.2.2.1 [int M.base,ov,s.2.1] [nilS]∧s.2.2.2.1 = (M.next.take s.1).map fun l=>l.take 26) (fun s=>13 - s.1) (0,nilS,[],[],H2) ⟨Nat.zero_le _,Nat.zero_le _,hz2',rfl⟩ ⟨rfl,rfl,rfl,rfl,trivial⟩ (Hp.Le.refl _) ?_
 rintro ⟨k,nv,us,N,H4⟩ φ5 ⟨hk,hk13,hz4,hN⟩
 dsimp only at hk hk13 hz4 hN ⊢
 have g4:=gH.trans hz4.gr
 have k4:=hcx H4 h.next 25 g4 (hz4.gr.at_ _ _ aX)
 have d2:=k4.c2
 conv=>whnf
 repeat (refine SeqP.go ?_; conv=>whnf)
 refine ⟨_,d2,?_⟩
 conv=>whnf
 refine cmpB (fun q1=>?_) (fun q1=>?_)
 rotate_left
 ·have:k = M.next.length:=by omega
  conv=>whnf
  refine ⟨(nv,us,N,H4),⟨rfl,rfl,trivial⟩,⟨rfl,hz4,?_⟩,rfl⟩
  show N = _
  rw [hN,this,List.take_of_length_le (Nat.le_refl _),List.take_of_length_le (by omega)]
 conv=>whnf
 refine cmpB (fun q2=>?_) (fun q2=>?_)
 rotate_left
 ·have:k = 13:=by omega
  conv=>whnf
  refine ⟨(nv,us,N,H4),⟨rfl,rfl,trivial⟩,⟨rfl,hz4,?_⟩,rfl⟩
  show N = _
  rw [hN,this]
 have hro:=k4.rowAt (i:=k) (by omega)
 obtain ⟨r1,o1,sp1,a1,c1',rfl,hsp1,hc1,hv1⟩:=hro
 have hLr:=hL.r k
 have z2:cellAt H4 Z 2 = some nv:=cellAt_row hz4.z rfl
 conv=>whnf
 repeat (refine SeqP.go ?_; conv=>whnf)
 refine ⟨_,z2,?_⟩
 conv=>whnf
 repeat (refine SeqP.go ?_; conv=>whnf)
 refine ⟨_,d2,?_⟩
 conv=>whnf
 refine ⟨hsp1,⟨by omega,by omega⟩,?_⟩
 conv=>whnf
 refine ⟨_,hc1,?_⟩
 conv=>whnf
 refine CallP.mono (few_spec _ (rw_ M.next k) _ hv1 hLr 26 (by omega)) ?_
 rintro u H5 ⟨hb5,g5⟩
 have hz5:MZ H H5 26 Z ov nv (M.out.take 13) us N [int M.base,ov,nv] [u]:=hz4.add g5 (i:=0) rfl fun r e=>hb5.ad_lt r e
 have hws:=hb5.c.slice
 obtain ⟨aw,rfl,-⟩:=hws
 have hNl:N.length≤13:=by rw [hN,List.length_map,List.length_take]; omega
 conv=>whnf
 refine hz5.n_app (i:=0) (by omega) rfl (hb5.back hz4.gr.next) ?_
 intro nv' H6 hnv' hz6 kv6
 obtain ⟨a6,n6,rfl⟩:=hnv'
 conv=>whnf
 refine ⟨rfl,_,storeAt_row hz6.z (by simp) rfl,?_⟩
 conv=>whnf
 repeat (refine SeqP.go ?_; conv=>whnf)
 refine ⟨((k + 1:Nat):Int),wie (by omega) (by omega),?_⟩
 conv=>whnf
 refine Rnd.mk (k + 1,_,_,N ++ [(rw_ M.next k).take 26],_) ⟨by show k + 1≤_; omega,by show k + 1≤13; omega,(hz6.put _).1,?_⟩ (by show 13 - (k + 1) < 13 - k; omega) ⟨rfl,rfl,rfl,rfl,trivial⟩ (Hp.Le.refl _) rfl
 show N ++ [(rw_ M.next k).take 26] = _
 rw [hN,take_succ_rw (by omega),List.map_append]
 rfl
theorem given_spec (v:Value) (M:MacI) (h:Hp) (hv:MV h v M) (hL:Lens M):CallP E 18 [v] h (fun r h'=>OwnM h h' r (cutI M)∧Grows h h'):=by
 obtain ⟨bx,rfl,hbx⟩:=hv.box
 obtain ⟨ao,an,co,cn,hcx⟩:=hbx.cx
 have hLo:=hL.o
 have hLn:=hL.n
 refine enter18 (by simp) ?_
 conv=>whnf
 refine SeqP.cut (α:=Hp) (fun _=>[(1,ptr h.next 0),(2,ptr (h.next + 1) 0)]) (fun x H=>x = H∧Grows h H∧H.at h.next = some (.row 26 true bx)∧H.at (h.next + 1) = some (.row 25 true [int 0,nilS,nilS])∧H.next = h.next + 2) ?_ ?_
 ·conv=>whnf
  have n1:(h.lay (.row 26 true bx)).next = h.next + 1:=Hp.next_lay _ _
  exact ⟨_,⟨rfl,congrArg (fun k=>ptr k 0) n1,trivial⟩,⟨rfl,(Grows.lay _ _).then_lay _,Hp.at_lay_old _ (Hp.at_lay_self _ _),at_nx2 n1 (Hp.at_lay_self _ _),by rw [Hp.next_lay,n1]⟩,rfl⟩
 rintro H φ1 _ ⟨rfl,gH,aX,aR,nH⟩
 have gL:Grows H (H.lay (.row 25 true [int 0,nilS,nilS])):=Grows.lay _ _
 have kL:=hcx _ h.next 26 (gH.trans gL) (gL.at_ _ _ aX)
 have c0:=kL.c0
 have c1:=kL.c1
 have aZ:(H.lay (.row 25 true [int 0,nilS,nilS])).at H.next = some (.row 25 true [int 0,nilS,nilS]):=Hp.at_lay_self _ _
 have nL:(H.lay (.row 25 true [int 0,nilS,nilS])).next = H.next + 1:=Hp.next_lay _ _
 conv=>whnf
 refine SeqP.cut (α:=Value×Hp) (fun s=>[(3,ptr H.next 0),(1,ptr h.next 0),(2,ptr (h.next + 1) 0)]) (fun s H2=>s.2 = H2∧MZ H s.2 25 H.next s.1 nilS (M.out.take 13) [] [] [int M.base,s.1,nilS] []) ?_ ?_
 ·conv=>whnf
  refine ⟨_,c0,?_⟩
  conv=>whnf
  refine ⟨_,c1,?_⟩
  conv=>whnf
  refine CallP.mono (few_spec _ M.out _ kL.o hLo 13 (by omega)) ?_
  rintro r H2 ⟨hb2,g2⟩
  have hz2:MZ H H2 25 H.next r nilS (M.out.take 13) [] [] [int 0,nilS,nilS] []:=MZ.start2 (hb:=H.lay (.row 25 true [int 0,nilS,nilS])) (gL.trans g2) (g2.at_ _ _ aZ) (Nat.le_refl _) (by rw [nL]; omega) (by rw [nL]; omega) hb2.c
  have hzo:=hz2.out_ok
  obtain ⟨ax,rfl⟩:=hzo
  have c0':=g2.cell c0
  have c1':=g2.cell c1
  conv=>whnf
  refine ⟨rfl,_,storeAt_full (vs:=[int M.base,.slice ax (M.out.take 13).length (M.out.take 13).length,nilS]) hz2.z rfl rfl rfl,?_⟩
  conv=>whnf
  refine ⟨?_,?_⟩
  ·repeat' (first | exact True.intro | (refine And.intro ?_ ?_ <;> (conv=>whnf)))
   all_goals first
    | exact sameAt_val (h2:=_) rfl (sameV_ptr _ _)
    | exact sameAt_val (h2:=_) rfl (sameV_slice _ _ _)
    | exact sameAt_val (h2:=_) (congrArg (hval _) c0) (sameV_int _)
    | exact sameAt_val (h2:=_) (congrArg (hval _) c0') (sameV_int _)
    | exact sameAt_val (h2:=_) (congrArg (hval _) c1) (sameV_slice _ _ _)
    | exact sameAt_val (h2:=_) (congrArg (hval _) c1') (sameV_slice _ _ _)
    | exact ⟨_,rfl,Hp.at_lay_self _ _,rfl⟩
    | exact ⟨H.next,rfl,g2.at_ _ _ aZ,rfl⟩
    | exact ⟨H.next,rfl,aZ,rfl⟩
    | trace_state
  exact ⟨(_,_),⟨rfl,rfl,rfl,trivial⟩,⟨rfl,(hz2.put _).1⟩,rfl⟩
 rintro ⟨ov,H2⟩ φ2 _ ⟨rfl,hz2⟩
 dsimp only at hz2 ⊢
 have hexZ:∃ Z,H.next = Z:=⟨_,rfl⟩
 obtain ⟨Z,eZ⟩:=hexZ
 rw [eZ] at hz2 ⊢
 conv=>whnf
 refine SeqP.cut (α:=Value×List Value×List (List Int)×Hp) (fun _=>[(3,ptr Z 0),(2,ptr (h.next + 1) 0)]) (fun s H4=>s.2.2.2 = H4∧MZ H s.2.2.2 25 Z ov s.1 (M.out.take 13) s.2.1 s.2.2.1 [int M.base,ov,s.1] [nilS]∧s.2.2.1 = (M.next.take 13).map fun l=>l.take 26) ?_ ?_
 rotate_left
 ·rintro ⟨nv,us,N,H4⟩ φ5 _ ⟨rfl,hz4,hN⟩
  dsimp only at hz4 hN ⊢
  have hov:=hz4.out_ok
  obtain ⟨ax,rfl⟩:=hov
  have hnv:=hz4.next_ok
  obtain ⟨ay,rfl⟩:=hnv
  have aR4:=hz4.gr.at_ _ _ aR
  conv=>whnf
  repeat (refine SeqP.go ?_; conv=>whnf)
  refine ⟨_,all_cells hz4.z rfl,?_⟩
  conv=>whnf
  refine ⟨rfl,_,storeAt_full (vs:=[int M.base,.slice ax (M.out.take 13).length (M.out.take 13).length,.slice ay N.length N.length]) aR4 rfl rfl rfl,?_⟩
  conv=>whnf
  repeat (refine SeqP.go ?_; conv=>whnf)
  obtain ⟨iR,tR,agR,szR⟩:=ty25
  refine leave_cell (r:=h.next + 1) (o:=0) (cs:=[int M.base,.slice ax (M.out.take 13).length (M.out.take 13).length,.slice ay N.length N.length]) rfl tR agR ?_ ?_
  ·rw [szR]
   exact all_cells (Hp.at_set_self _ (Hp.lt_of_at aR4)) rfl
  ·have:=hz4.leave (h:=h) (R:=h.next + 1) (by omega) (by omega) gH M.base (.row 25 true [int M.base,.slice ax (M.out.take 13).length (M.out.take 13).length,.slice ay N.length N.length])
   rw [hN] at this ⊢
   exact this
 conv=>whnf
 repeat (refine SeqP.go ?_; conv=>whnf)
 have hz2':MZ H H2 25 Z ov nilS (M.out.take 13) [] [] [int M.base,ov,nilS] [nilS]:=hz2.more (.refl _) (v:=nilS) fun r e=>by cases e
 refine loop_inv (α:=Nat×Value×List Value×List (List Int)×Hp) (fun s=>[(4,int s.1),(3,ptr Z 0),(1,ptr h.next 0),(2,ptr (h.next + 1) 0)]) (fun s=>s.2.2.2.2) (fun s=>s.1≤M.next.length∧s.1≤13∧MZ H s.2.2.2.2 25 Z ov s.2.1 (M.out.take 13) s.2.2.1 s.2.2.2.1 [int M.base,ov,s.2.1] [nilS]∧s.2.2.2.1 = (M.next.take s.1).map fun l=>l.take 26) (fun s=>13 - s.1) (0,nilS,[],[],H2) ⟨Nat.zero_le _,Nat.zero_le _,hz2',rfl⟩ ⟨rfl,rfl,rfl,rfl,trivial⟩ (Hp.Le.refl _) ?_
 rintro ⟨k,nv,us,N,H4⟩ φ5 ⟨hk,hk13,hz4,hN⟩
 dsimp only at hk hk13 hz4 hN ⊢
 have g4:=gH.trans hz4.gr
 have k4:=hcx H4 h.next 26 g4 (hz4.gr.at_ _ _ aX)
 have d2:=k4.c2
 conv=>whnf
 repeat (refine SeqP.go ?_; conv=>whnf)
 refine ⟨_,d2,?_⟩
 conv=>whnf
 refine cmpB (fun q1=>?_) (fun q1=>?_)
 rotate_left
 ·have:k = M.next.length:=by omega
  conv=>whnf
  refine ⟨(nv,us,N,H4),⟨rfl,rfl,trivial⟩,⟨rfl,hz4,?_⟩,rfl⟩
  show N = _
  rw [hN,this,List.take_of_length_le (Nat.le_refl _),List.take_of_length_le (by omega)]
 conv=>whnf
 refine cmpB (fun q2=>?_) (fun q2=>?_)
 rotate_left
 ·have:k = 13:=by omega
  conv=>whnf
  refine ⟨(nv,us,N,H4),⟨rfl,rfl,trivial⟩,⟨rfl,hz4,?_⟩,rfl⟩
  show N = _
  rw [hN,this]
 have hro:=k4.rowAt (i:=k) (by omega)
 obtain ⟨r1,o1,sp1,a1,c1',rfl,hsp1,hc1,hv1⟩:=hro
 have hLr:=hL.r k
 have z2:cellAt H4 Z 2 = some nv:=cellAt_row hz4.z rfl
 conv=>whnf
 repeat (refine SeqP.go ?_; conv=>whnf)
 refine ⟨_,z2,?_⟩
 conv=>whnf
 repeat (refine SeqP.go ?_; conv=>whnf)
 refine ⟨_,d2,?_⟩
 conv=>whnf
 refine ⟨hsp1,⟨by omega,by omega⟩,?_⟩
 conv=>whnf
 refine ⟨_,hc1,?_⟩
 conv=>whnf
 refine CallP.mono (few_spec _ (rw_ M.next k) _ hv1 hLr 26 (by omega)) ?_
 rintro u H5 ⟨hb5,g5⟩
 have hz5:MZ H H5 25 Z ov nv (M.out.take 13) us N [int M.base,ov,nv] [u]:=hz4.add g5 (i:=0) rfl fun r e=>hb5.ad_lt r e
 have hws:=hb5.c.slice
 obtain ⟨aw,rfl,-⟩:=hws
 have hNl:N.length≤13:=by rw [hN,List.length_map,List.length_take]; omega
 conv=>whnf
 refine hz5.n_app (i:=0) (by omega) rfl (hb5.back hz4.gr.next) ?_
 intro nv' H6 hnv' hz6 kv6
 obtain ⟨a6,n6,rfl⟩:=hnv'
 conv=>whnf
 refine ⟨rfl,_,storeAt_row hz6.z (by simp) rfl,?_⟩
 conv=>whnf
 repeat (refine SeqP.go ?_; conv=>whnf)
 refine ⟨((k + 1:Nat):Int),wie (by omega) (by omega),?_⟩
 conv=>whnf
 refine Rnd.mk (k + 1,_,_,N ++ [(rw_ M.next k).take 26],_) ⟨by show k + 1≤_; omega,by show k + 1≤13; omega,(hz6.put _).1,?_⟩ (by show 13 - (k + 1) < 13 - k; omega) ⟨rfl,rfl,rfl,rfl,trivial⟩ (Hp.Le.refl _) rfl
 show N ++ [(rw_ M.next k).take 26] = _
 rw [hN,take_succ_rw (by omega),List.map_append]
 rfl
end
end Go.Proofs.Ytedneplaibmppaa
namespace Go.Proofs.Ytedneplaibmppaa
open Go.Rx Go.RowKit
def seqL (m:Mac) (k:Nat):List Int:=(List.range k).map fun i=>m.at_ 0 i
theorem seqL_len (m:Mac) (k:Nat):(seqL m k).length = k:=by unfold seqL; rw [List.length_map,List.length_range]
def seqRow (m:Mac) (n k:Nat):List Value:=rowV n fun j=>if j < k then int (m.at_ 0 j) else int 0
theorem seqRow_step (m:Mac) (n k:Nat):(seqRow m n k).set k (int (m.at_ 0 k)) = seqRow m n (k + 1):=by
 unfold seqRow
 rw [rowV_set]
 refine rowV_congr fun j hj=>?_
 by_cases h:j = k
 ·subst h; rw [if_pos rfl,if_pos (by omega)]
 ·rw [if_neg h]
  by_cases h2:j < k
  ·rw [if_pos h2,if_pos (by omega)]
  ·rw [if_neg h2,if_neg (by omega)]
theorem seqRow_full (m:Mac) (n:Nat):seqRow m n n = (seqL m n).map int:=by
 unfold seqRow seqL rowV
 rw [List.map_map]
 refine List.map_congr_left fun j hj=>?_
 rw [if_pos (List.mem_range.1 hj)]; rfl
theorem OkS.b25 {m:Mac} (h:OkS m):2≤m.base∧m.base≤25:=⟨h.b2,by have:=h.b5; omega⟩
theorem OkS.n1 {m:Mac} (h:OkS m):0 < m.out.length:=h.ok.n1
attribute [local irreducible] E idxN cellAt cellsAt storeAt callable helems hmoved lookIn findKey keyOk hentries Hp.at Hp.set Hp.lay arBits hupdated setAt CallP YieldP BoolOf IsWrap Rnd LoopP AppP CutP Int.tmod Int.tdiv Int.fdiv
section
variable [Unknowns]

theorem First_spec (v:Value) (m:Mac) (n:Int) (h:Hp) (hv:MV h v m.i) (hm:OkS m):CallP E 24 [v,int n] h (fun r h'=>((n < 0∨1000 < n→r = .tuple ⟨[nilS,int 1]⟩)∧(0≤n→n≤1000→∃ w,r = .tuple ⟨[w,int 0]⟩∧Built h h' 3 w (seqL m n.toNat)))∧Grows h h'):=by
 obtain ⟨bx,rfl,hbx⟩:=hv.box
 have hL:=hm.lens
 refine enter24 (by simp) ?_
 conv=>whnf
 refine SeqP.cut (α:=Hp) (fun _=>[(2,ptr h.next 0),(1,int n)]) (fun x H=>x = H∧Grows h H∧H.at h.next = some (.row 25 true bx)) ?_ ?_
 ·conv=>whnf
  exact ⟨_,⟨rfl,rfl,trivial⟩,⟨rfl,Grows.lay _ _,Hp.at_lay_self _ _⟩,rfl⟩
 rintro H φ1 _ ⟨rfl,gH,aX⟩
 conv=>whnf
 refine SeqP.cut (α:=Hp) (fun _=>[(2,ptr h.next 0),(1,int n)]) (fun x H2=>x = H2∧Grows H H2) ?_ ?_
 ·conv=>whnf
  refine ⟨_,all_cells aX hbx.len,?_⟩
  conv=>whnf
  refine CallP.mono (Check_spec _ m.i _ (Bx.mv (hbx.ext gH)) hL.1 hL.2.1 hL.2.2) ?_
  rintro r H2 ⟨⟨e,rfl,he,-⟩,g2⟩
  have he:=he hm.ck
  subst he
  conv=>whnf
  repeat (refine SeqP.go ?_; conv=>whnf)
  refine cmpF (by omega) ?_
  conv=>whnf
  exact ⟨_,⟨rfl,rfl,trivial⟩,⟨rfl,g2⟩,rfl⟩
 rintro H2 φ2 _ ⟨rfl,g2⟩
 have aX2:=g2.at_ _ _ aX
 have gh2:=gH.trans g2
 conv=>whnf
 refine SeqP.cut (α:=Unit) (fun _=>[(2,ptr h.next 0),(1,int n)]) (fun _ H3=>H2 = H3∧0≤n∧n≤1000) ?_ ?_
 ·conv=>whnf
  repeat (refine SeqP.go ?_; conv=>whnf)
  refine cmpB (fun q1=>?_) (fun q1=>?_)
  ·conv=>whnf
   repeat (refine SeqP.go ?_; conv=>whnf)
   exact ⟨⟨fun _=>rfl,fun k=>absurd k (by omega)⟩,gh2⟩
  ·conv=>whnf
   refine cmpB (fun q2=>?_) (fun q2=>?_)
   ·conv=>whnf
    repeat (refine SeqP.go ?_; conv=>whnf)
    exact ⟨⟨fun _=>rfl,fun _ k=>absurd k (by omega)⟩,gh2⟩
   ·conv=>whnf
    exact ⟨(),⟨rfl,rfl,trivial⟩,⟨rfl,by omega,by omega⟩,rfl⟩
 rintro _ φ3 _ ⟨rfl,hn0,hn1⟩
 have hexn:∃ k:Nat,n = k:=⟨n.toNat,by omega⟩
 obtain ⟨k,rfl⟩:=hexn
 conv=>whnf
 refine SeqP.cut (α:=Hp) (fun _=>[(7,slc H2.next 0 k k),(2,ptr h.next 0)]) (fun x H3=>x = H3∧Grows H2 H3∧H3.at H2.next = some (.row 3 true (seqRow m k 0))) ?_ ?_
 ·conv=>whnf
  refine ⟨⟨by omega,by omega,by omega,by omega⟩,?_⟩
  conv=>whnf
  refine ⟨_,⟨rfl,rfl,trivial⟩,⟨rfl,Grows.lay _ _,?_⟩,rfl⟩
  rw [Hp.at_lay_self,Int.toNat_natCast]
  show some (Rx.Obj.row 3 true (times [int 0] k)) = _
  rw [times_one]
  rfl
 rintro H3 φ4 _ ⟨rfl,g3,aW⟩
 conv=>whnf
 refine SeqP.cut (α:=Hp) (fun _=>[(7,slc H2.next 0 k k)]) (fun x H4=>x = H4∧Grows H2 H4∧H4.at H2.next = some (.row 3 true (seqRow m k k))) ?_ ?_
 rotate_left
 ·rintro H4 φ5 _ ⟨rfl,g4,aW4⟩
  conv=>whnf
  repeat (refine SeqP.go ?_; conv=>whnf)
  refine ⟨⟨fun q=>absurd q (by omega),fun _ _=>⟨_,rfl,?_⟩⟩,gh2.trans g4⟩
  rw [Int.toNat_natCast]
  rw [seqRow_full] at aW4
  refine .inr ⟨H2.next,?_,gh2.next,true,aW4⟩
  rw [seqL_len]
  rfl
 conv=>whnf
 repeat (refine SeqP.go ?_; conv=>whnf)
 have hlt:=Hp.lt_of_at aX2
 refine loop_inv (α:=Nat×Hp) (fun s=>[(24,int s.1),(23,int k),(7,slc H2.next 0 k k),(2,ptr h.next 0)]) (fun s=>s.2) (fun s=>s.1≤k∧Grows H2 s.2∧s.2.at H2.next = some (.row 3 true (seqRow m k s.1))) (fun s=>k - s.1) (0,H3) ⟨Nat.zero_le _,g3,aW⟩ ⟨rfl,rfl,rfl,rfl,trivial⟩ (Hp.Le.refl _) ?_
 rintro ⟨j,H4⟩ φ5 ⟨hj,g4,aW4⟩
 dsimp only at hj g4 aW4 ⊢
 have aX4:=g4.at_ _ _ aX2
 conv=>whnf
 repeat (refine SeqP.go ?_; conv=>whnf)
 refine cmpB (fun q1=>?_) (fun q1=>?_)
 rotate_left
 ·have:j = k:=by omega
  subst this
  conv=>whnf
  exact ⟨H4,⟨rfl,trivial⟩,⟨rfl,g4,aW4⟩,rfl⟩
 conv=>whnf
 repeat (refine SeqP.go ?_; conv=>whnf)
 refine ⟨_,all_cells aX4 hbx.len,?_⟩
 conv=>whnf
 refine CallP.mono (at_spec _ m 0 j _ (Bx.mv (hbx.ext (gh2.trans g4))) hm.ok hm.b25 hm.n1 (by have:=hm.n12; omega) (by omega)) ?_
 rintro r H5 ⟨rfl,g5⟩
 have aW5:=g5.at_ _ _ aW4
 conv=>whnf
 refine ⟨rfl,⟨by omega,by omega⟩,?_⟩
 conv=>whnf
 refine ⟨rfl,_,storeAt_off aW5 (by unfold seqRow; rw [rowV_length]; omega) rfl,?_⟩
 conv=>whnf
 refine ⟨((j + 1:Nat):Int),wie (by omega) (by omega),?_⟩
 conv=>whnf
 refine Rnd.mk (j + 1,_) ⟨by show j + 1≤k; omega,(g4.trans g5).then_set _ (Nat.le_refl _),?_⟩ (by show k - (j + 1) < k - j; omega) ⟨rfl,rfl,rfl,rfl,trivial⟩ (Hp.Le.refl _) rfl
 show (H5.set _ _).at _ = _
 rw [Hp.at_set_self _ (Hp.lt_of_at aW5),Int.toNat_natCast]
 exact congrArg (fun l=>some (Rx.Obj.row 3 true l)) (seqRow_step m k j)
end
end Go.Proofs.Ytedneplaibmppaa
namespace Go.Proofs.Ytedneplaibmppaa
open Go.Rx Go.RowKit
abbrev encI:Int→Value:=fun n:Int=>int n
def encP (p:Int×Int):Value:=.agg ⟨[int p.1,int p.2]⟩
theorem keyP_ok106 (k:Int×Int):keyOk E 106 (encP k) = true:=by kernel_rfl
theorem keyP_ok136 (k:Int×Int):keyOk E 136 (encP k) = true:=by kernel_rfl
theorem keyP_ok147 (k:Int×Int):keyOk E 147 (encP k) = true:=by kernel_rfl
theorem keyP_bits (k:Int×Int):Instr.sameBits 10000 (encP k) (encP k) = true:=by
 obtain ⟨a,b⟩:=k
 unfold encP
 simp [Instr.sameBits]
theorem pr_bind {α β:Type} {P:Program}:∀ (x:Sem α) (f:α→Sem β),pureRun P (x >>= f) = match pureRun P x with | some v=>pureRun P (f v) | none=>none:=by
 intro x f
 show pureRun P (x.bind f) = _
 induction x with
 | pure a=>rfl
 | program k ih=>exact ih P
 | _=>rfl
theorem pr_pure {α:Type} {P:Program} (a:α):pureRun P (pure a) = some a:=rfl
theorem pr_underlying {P:Program} {t:TypeId} {D:TypeDesc} (hu:P.underlying t = some D):pureRun P (underlying t) = some D:=by
 have:=pureRun_underlying hu (fun D=>(pure D:Sem TypeDesc))
 rw [pr_bind] at this
 cases h:pureRun P (underlying t) with
 | none=>rw [h] at this; cases this
 | some D'=>rw [h] at this; cases this; rfl
theorem eq_int (d:Nat) (a c:Int):pureRun Try.prog (Op.equalIn (d + 1) 3 (int a) (int c)) = some (a == c):=by
 unfold Op.equalIn
 rw [pr_bind,pr_underlying Try.underlying3]
 rfl
theorem eq_struct106 (a b c d:Int):pureRun Try.prog (Op.equal 106 (.agg ⟨[int a,int b]⟩) (.agg ⟨[int c,int d]⟩)) = some (bif (a == c) then (b == d) else false):=by
 have p0:∀ x y:Int,pureRun Try.prog (part 3 ⟨[int x,int y]⟩ 0) = some (int x):=fun x y=>by kernel_rfl
 have p1:∀ x y:Int,pureRun Try.prog (part 3 ⟨[int x,int y]⟩ 1) = some (int y):=fun x y=>by kernel_rfl
 have hs:Try.prog.stoodInHeld 106 = false:=by kernel_rfl
 have e1:∀ x y:Int,pureRun Try.prog (Op.equalIn 9999 3 (int x) (int y)) = some (x == y):=eq_int 9998
 unfold Op.equal Op.maxDepth Op.equalIn
 rw [pr_bind,pr_underlying Try.underlying106]
 dsimp only
 rw [pr_bind,show pureRun Try.prog program = some Try.prog from rfl]
 dsimp only
 rw [hs]
 simp only [Bool.false_eq_true,if_false,ne_eq,String.reduceEq,not_false_eq_true,if_true,pr_bind,pr_pure,p0,p1,e1,List.forIn_toArray,List.forIn_cons,List.forIn_nil]
 generalize (a == c) = p
 cases p
 ·simp only [Bool.not_false,Bool.not_true,if_true,Bool.false_eq_true,if_false,pr_pure,cond_false,cond_true]
 ·simp only [Bool.not_false,Bool.not_true,if_true,Bool.false_eq_true,if_false,pr_pure,cond_false,cond_true,pr_bind,p1,e1]
  generalize (b == d) = q
  cases q <;> simp only [Bool.not_false,Bool.not_true,if_true,Bool.false_eq_true,if_false,pr_pure,cond_false,cond_true,pr_bind]
theorem keyP_eq106 (k k':Int×Int):keyEq Try.prog 106 (encP k) (encP k') = some (decide (k = k')):=by
 obtain ⟨a,b⟩:=k
 obtain ⟨a',b'⟩:=k'
 have e1:decide ((a,b) = (a',b')) = (bif (a == a') then (b == b') else false):=by
  rw [Bool.eq_iff_iff]
  cases h:(a == a') <;> simp_all
 rw [e1]
 exact eq_struct106 a b a' b'
theorem eq_struct136 (a b c d:Int):pureRun Try.prog (Op.equal 136 (.agg ⟨[int a,int b]⟩) (.agg ⟨[int c,int d]⟩)) = some (bif (a == c) then (b == d) else false):=by
 have p0:∀ x y:Int,pureRun Try.prog (part 3 ⟨[int x,int y]⟩ 0) = some (int x):=fun x y=>by kernel_rfl
 have p1:∀ x y:Int,pureRun Try.prog (part 3 ⟨[int x,int y]⟩ 1) = some (int y):=fun x y=>by kernel_rfl
 have hs:Try.prog.stoodInHeld 136 = false:=by kernel_rfl
 have e1:∀ x y:Int,pureRun Try.prog (Op.equalIn 9999 3 (int x) (int y)) = some (x == y):=eq_int 9998
 unfold Op.equal Op.maxDepth Op.equalIn
 rw [pr_bind,pr_underlying Try.underlying136]
 dsimp only
 rw [pr_bind,show pureRun Try.prog program = some Try.prog from rfl]
 dsimp only
 rw [hs]
 simp only [Bool.false_eq_true,if_false,ne_eq,String.reduceEq,not_false_eq_true,if_true,pr_bind,pr_pure,p0,p1,e1,List.forIn_toArray,List.forIn_cons,List.forIn_nil]
 generalize (a == c) = p
 cases p
 ·simp only [Bool.not_false,Bool.not_true,if_true,Bool.false_eq_true,if_false,pr_pure,cond_false,cond_true]
 ·simp only [Bool.not_false,Bool.not_true,if_true,Bool.false_eq_true,if_false,pr_pure,cond_false,cond_true,pr_bind,p1,e1]
  generalize (b == d) = q
  cases q <;> simp only [Bool.not_false,Bool.not_true,if_true,Bool.false_eq_true,if_false,pr_pure,cond_false,cond_true,pr_bind]
theorem keyP_eq136 (k k':Int×Int):keyEq Try.prog 136 (encP k) (encP k') = some (decide (k = k')):=by
 obtain ⟨a,b⟩:=k
 obtain ⟨a',b'⟩:=k'
 have e1:decide ((a,b) = (a',b')) = (bif (a == a') then (b == b') else false):=by
  rw [Bool.eq_iff_iff]
  cases h:(a == a') <;> simp_all
 rw [e1]
 exact eq_struct136 a b a' b'
theorem eq_struct147 (a b c d:Int):pureRun Try.prog (Op.equal 147 (.agg ⟨[int a,int b]⟩) (.agg ⟨[int c,int d]⟩)) = some (bif (a == c) then (b == d) else false):=by
 have p0:∀ x y:Int,pureRun Try.prog (part 3 ⟨[int x,int y]⟩ 0) = some (int x):=fun x y=>by kernel_rfl
 have p1:∀ x y:Int,pureRun Try.prog (part 3 ⟨[int x,int y]⟩ 1) = some (int y):=fun x y=>by kernel_rfl
 have hs:Try.prog.stoodInHeld 147 = false:=by kernel_rfl
 have e1:∀ x y:Int,pureRun Try.prog (Op.equalIn 9999 3 (int x) (int y)) = some (x == y):=eq_int 9998
 unfold Op.equal Op.maxDepth Op.equalIn
 rw [pr_bind,pr_underlying Try.underlying147]
 dsimp only
 rw [pr_bind,show pureRun Try.prog program = some Try.prog from rfl]
 dsimp only
 rw [hs]
 simp only [Bool.false_eq_true,if_false,ne_eq,String.reduceEq,not_false_eq_true,if_true,pr_bind,pr_pure,p0,p1,e1,List.forIn_toArray,List.forIn_cons,List.forIn_nil]
 generalize (a == c) = p
 cases p
 ·simp only [Bool.not_false,Bool.not_true,if_true,Bool.false_eq_true,if_false,pr_pure,cond_false,cond_true]
 ·simp only [Bool.not_false,Bool.not_true,if_true,Bool.false_eq_true,if_false,pr_pure,cond_false,cond_true,pr_bind,p1,e1]
  generalize (b == d) = q
  cases q <;> simp only [Bool.not_false,Bool.not_true,if_true,Bool.false_eq_true,if_false,pr_pure,cond_false,cond_true,pr_bind]
theorem keyP_eq147 (k k':Int×Int):keyEq Try.prog 147 (encP k) (encP k') = some (decide (k = k')):=by
 obtain ⟨a,b⟩:=k
 obtain ⟨a',b'⟩:=k'
 have e1:decide ((a,b) = (a',b')) = (bif (a == a') then (b == b') else false):=by
  rw [Bool.eq_iff_iff]
  cases h:(a == a') <;> simp_all
 rw [e1]
 exact eq_struct147 a b a' b'
theorem key106:KeyTy E 106 encP where
 ok:=keyP_ok106
 eq:=keyP_eq106
 bits:=keyP_bits
theorem key136:KeyTy E 136 encP where
 ok:=keyP_ok136
 eq:=keyP_eq136
 bits:=keyP_bits
theorem key147:KeyTy E 147 encP where
 ok:=keyP_ok147
 eq:=keyP_eq147
 bits:=keyP_bits
theorem ty3:∃ i,E.ty 3 = some i∧isI64 i.desc = true∧i.zero = some (int 0):=by
 have hs:(tiOf Try.prog 3).isSome = true:=by kernel_rfl
 refine ⟨(tiOf Try.prog 3).get hs,ty_get (by kernel_rfl) (Option.some_get hs).symm,?_,?_⟩ <;> kernel_rfl
theorem ty4:∃ i,E.ty 4 = some i∧i.zero = some (.bool false):=by
 have hs:(tiOf Try.prog 4).isSome = true:=by kernel_rfl
 refine ⟨(tiOf Try.prog 4).get hs,ty_get (by kernel_rfl) (Option.some_get hs).symm,?_⟩
 kernel_rfl
theorem keyI:KeyTy E 3 encI:=by
 obtain ⟨i,hi,hd,_⟩:=ty3
 exact keyInt hi hd
theorem ty114:∃ i,E.ty 114 = some i∧i.desc = .map 3 3:=by
 have hs:(tiOf Try.prog 114).isSome = true:=by kernel_rfl
 refine ⟨(tiOf Try.prog 114).get hs,ty_get (by kernel_rfl) (Option.some_get hs).symm,?_⟩
 kernel_rfl
theorem ty131:∃ i,E.ty 131 = some i∧i.desc = .map 106 4:=by
 have hs:(tiOf Try.prog 131).isSome = true:=by kernel_rfl
 refine ⟨(tiOf Try.prog 131).get hs,ty_get (by kernel_rfl) (Option.some_get hs).symm,?_⟩
 kernel_rfl
theorem ty140:∃ i,E.ty 140 = some i∧i.desc = .map 106 3:=by
 have hs:(tiOf Try.prog 140).isSome = true:=by kernel_rfl
 refine ⟨(tiOf Try.prog 140).get hs,ty_get (by kernel_rfl) (Option.some_get hs).symm,?_⟩
 kernel_rfl
theorem ty153:∃ i,E.ty 153 = some i∧i.desc = .map 136 3:=by
 have hs:(tiOf Try.prog 153).isSome = true:=by kernel_rfl
 refine ⟨(tiOf Try.prog 153).get hs,ty_get (by kernel_rfl) (Option.some_get hs).symm,?_⟩
 kernel_rfl
theorem ty156:∃ i,E.ty 156 = some i∧i.desc = .map 147 3:=by
 have hs:(tiOf Try.prog 156).isSome = true:=by kernel_rfl
 refine ⟨(tiOf Try.prog 156).get hs,ty_get (by kernel_rfl) (Option.some_get hs).symm,?_⟩
 kernel_rfl
section
variable {κ:Type} [DecidableEq κ] {enc:κ→Value}
theorem raw_insert {t kt et:TypeId} {ti:TI} (ht:E.ty t = some ti) (hd:ti.desc = .map kt et) (K:KeyTy E kt enc) {φ:Rx.Frame} {h:Hp} {ty:TypeId} {x j y:Operand} {r:Nat} {k:κ} {v:Value} {f:κ→Option Value} {n:Nat}
  (hx:evφ φ x = mapAt r) (hj:evφ φ j = enc k) (hy:evφ φ y = v) (hm:MapAt h r enc f n) {Q:Value→Hp→Prop}
  (q:∀ h',MapAt h' r enc (fun k'=>if k' = k then some v else f k') (if (f k).isSome then n else n + 1)→Keeps r h h'→Q undef h'):MapP E (.raw (.insert t x j y) ty) φ h Q:=by
 have:=raw_update (ty:=ty) ht hd K hx hj hy hm q
 exact ⟨this.1⟩
theorem raw_look1_some {t kt et:TypeId} {ti ei:TI} (ht:E.ty t = some ti) (hd:ti.desc = .map kt et) (he:E.ty et = some ei) {z:Value} (hz:ei.zero = some z) (K:KeyTy E kt enc) {φ:Rx.Frame} {h:Hp} {ty:TypeId} {x j:Operand} {r:Nat} {k:κ} {v:Value} {f:κ→Option Value} {n:Nat}
  (hx:evφ φ x = mapAt r) (hj:evφ φ j = enc k) (hm:MapAt h r enc f n) (hf:f k = some v) {Q:Value→Hp→Prop} (q:Q v h):MapP E (.raw (.lookup t x j false) ty) φ h Q :=
 raw_lookup1 ht hd he hz K hx hj hm (by rw [hf]; exact q)
theorem raw_look1_none {t kt et:TypeId} {ti ei:TI} (ht:E.ty t = some ti) (hd:ti.desc = .map kt et) (he:E.ty et = some ei) {z:Value} (hz:ei.zero = some z) (K:KeyTy E kt enc) {φ:Rx.Frame} {h:Hp} {ty:TypeId} {x j:Operand} {r:Nat} {k:κ} {f:κ→Option Value} {n:Nat}
  (hx:evφ φ x = mapAt r) (hj:evφ φ j = enc k) (hm:MapAt h r enc f n) (hf:f k = none) {Q:Value→Hp→Prop} (q:Q z h):MapP E (.raw (.lookup t x j false) ty) φ h Q :=
 raw_lookup1 ht hd he hz K hx hj hm (by rw [hf]; exact q)
def fN (L:List κ) (k:κ):Option Value:=if k ∈ L then some (int (L.idxOf k:Nat)) else none
theorem fN_some {L:List κ} {k:κ} (h:k ∈ L):fN L k = some (int (L.idxOf k:Nat)):=if_pos h
theorem fN_none {L:List κ} {k:κ} (h:k ∉ L):fN L k = none:=if_neg h
theorem fN_add {L:List κ} {k:κ} (h:k ∉ L) (k':κ):(if k' = k then some (int (L.length:Nat)) else fN L k') = fN (L ++ [k]) k':=by
 unfold fN
 by_cases e:k' = k
 ·subst e
  rw [if_pos rfl,if_pos (by simp),idxOf_new h]
 ·rw [if_neg e]
  by_cases hm:k' ∈ L
  ·rw [if_pos hm,if_pos (List.mem_append_left _ hm),idxOf_app hm]
  ·rw [if_neg hm,if_neg (fun x=>by
    rcases List.mem_append.1 x with x | x
    ·exact hm x
    ·exact e (List.mem_singleton.1 x))]
def Nums (h:Hp) (r:Nat) (enc:κ→Value) (L:List κ):Prop:=MapAt h r enc (fN L) L.length
theorem Nums.ext {h h':Hp} {r:Nat} {L:List κ} (g:Grows h h') (k:Nums h r enc L):Nums h' r enc L:=MapAt.ext g k
theorem Nums.add {h':Hp} {r:Nat} {L:List κ} {k:κ} (hn:k ∉ L) (m:MapAt h' r enc (fun k'=>if k' = k then some (int (L.length:Nat)) else fN L k') (if (fN L k).isSome then L.length else L.length + 1)):Nums h' r enc (L ++ [k]):=by
 rw [fN_none hn] at m
 have:=m.congr (fN_add hn)
 unfold Nums
 rw [List.length_append]
 exact this
theorem Nums.nil (h:Hp):Nums (h.lay (.map [] 0)) h.next enc ([]:List κ):=(MapAt.new h).congr fun k=>(fN_none (by simp)).symm
end
end Go.Proofs.Ytedneplaibmppaa
namespace Go.Proofs.Ytedneplaibmppaa
open Go.Rx
namespace Mac
def fkeys (m:Mac) (c F:List Int) (d:Nat):List (Int×Int):=(List.range m.out.length).map fun s=>(F.getD s 0,c.getD (m.nx s d) 0)
def fin_ (m:Mac) (c:List Int):Nat→List Int
 | 0=>c
 | d + 1=>num (m.fkeys c (fin_ m c d) d)
def fmany (m:Mac) (c:List Int):Nat→Nat
 | 0=>0
 | d + 1=>many (m.fkeys c (m.fin_ c d) d)
theorem fkeys_len (m:Mac) (c F:List Int) (d:Nat):(m.fkeys c F d).length = m.out.length:=by unfold fkeys; rw [List.length_map,List.length_range]
theorem fkeys_get {m:Mac} {c F:List Int} {d s:Nat} (h:s < m.out.length):(m.fkeys c F d)[s]? = some (F.getD s 0,c.getD (m.nx s d) 0):=by
 unfold fkeys; rw [List.getElem?_map,List.getElem?_range h]; rfl
theorem fin_len {m:Mac} {c:List Int} (hc:c.length = m.out.length):∀ d,(m.fin_ c d).length = m.out.length
 | 0=>hc
 | d + 1=>by unfold fin_; rw [num_len,fkeys_len]
theorem num_gl {κ:Type} [DecidableEq κ] {ks:List κ} {s:Nat} {k:κ} (h:ks[s]? = some k):(num ks).getD s 0 = ((notes [] ks).idxOf k:Nat):=by
 rw [List.getD_eq_getElem?_getD,num_get h]; rfl
theorem fin_pat {m:Mac} {c:List Int} {s t:Nat} (hs:s < m.out.length) (ht:t < m.out.length):∀ d,(m.fin_ c d).getD s 0 = (m.fin_ c d).getD t 0↔c.getD s 0 = c.getD t 0∧∀ e,e < d→c.getD (m.nx s e) 0 = c.getD (m.nx t e) 0
 | 0=>⟨fun h=>⟨h,fun e he=>absurd he (Nat.not_lt_zero _)⟩,fun h=>h.1⟩
 | d + 1=>by
  have ih:=fin_pat (c:=c) hs ht d
  have h:=num_eq (fkeys_get (c:=c) (F:=m.fin_ c d) (d:=d) hs) (fkeys_get (c:=c) (F:=m.fin_ c d) (d:=d) ht)
  unfold fin_
  have h2:(num (m.fkeys c (m.fin_ c d) d)).getD s 0 = (num (m.fkeys c (m.fin_ c d) d)).getD t 0↔(num (m.fkeys c (m.fin_ c d) d))[s]? = (num (m.fkeys c (m.fin_ c d) d))[t]?:=by
   rw [List.getD_eq_getElem?_getD,List.getD_eq_getElem?_getD,num_get (fkeys_get hs),num_get (fkeys_get ht)]
   simp
  rw [h2,h,Prod.mk.injEq,ih]
  constructor
  ·rintro ⟨⟨a,b⟩,e⟩
   refine ⟨a,fun x hx=>?_⟩
   by_cases hxd:x = d
   ·rw [hxd]; exact e
   ·exact b x (by omega)
  ·rintro ⟨a,b⟩
   exact ⟨⟨a,fun x hx=>b x (by omega)⟩,b d (by omega)⟩
theorem fin_ref {m:Mac} {c:List Int} (hb:1≤m.base):m.fin_ c m.base = m.ref c∧m.fmany c m.base = m.cnt c:=by
 obtain ⟨b,e⟩:∃ b,m.base = b + 1:=⟨m.base - 1,by omega⟩
 rw [e]
 unfold fin_ fmany ref cnt
 have h:=num_pairs (zs:=(List.range m.out.length).map fun s=>(((m.fin_ c b).getD s 0,c.getD (m.nx s b) 0),m.key c s)) (fun x hx y hy=>by
  obtain ⟨s,hs,rfl⟩:=List.mem_map.1 hx
  obtain ⟨t,ht,rfl⟩:=List.mem_map.1 hy
  dsimp only
  rw [Prod.mk.injEq,fin_pat (List.mem_range.1 hs) (List.mem_range.1 ht),key_eq,e]
  constructor
  ·rintro ⟨⟨a,a2⟩,q⟩
   refine ⟨a,fun x hx=>?_⟩
   by_cases hxd:x = b
   ·rw [hxd]; exact q
   ·exact a2 x (by omega)
  ·rintro ⟨a,a2⟩
   exact ⟨⟨a,fun x hx=>a2 x (by omega)⟩,a2 _ (by omega)⟩)
 rw [List.map_map,List.map_map] at h
 exact h
end Mac
def part_ {κ:Type} [DecidableEq κ] (ks:List κ) (F:List Int) (k:Nat):List Int:=(num ks).take k ++ F.drop k
theorem part_len {κ:Type} [DecidableEq κ] {ks:List κ} {F:List Int} (h:ks.length = F.length) (k:Nat):(part_ ks F k).length = F.length:=by
 unfold part_
 rw [List.length_append,List.length_take,List.length_drop,num_len]
 omega
theorem part_gl {κ:Type} [DecidableEq κ] {ks:List κ} {F:List Int} (h:ks.length = F.length) {k:Nat} (hk:k < F.length):gl (part_ ks F k) k = gl F k:=by
 unfold part_ gl
 rw [List.getD_eq_getElem?_getD,List.getD_eq_getElem?_getD,List.getElem?_append_right (by rw [List.length_take,num_len]; omega),List.length_take,num_len,List.getElem?_drop]
 congr 2
 omega
theorem part_set {κ:Type} [DecidableEq κ] {ks:List κ} {F:List Int} (h:ks.length = F.length) {k:Nat} (hk:k < F.length):(part_ ks F k).set k (gl (num ks) k) = part_ ks F (k + 1):=by
 unfold part_
 have hl:((num ks).take k).length = k:=by rw [List.length_take,num_len]; omega
 have hn:k < (num ks).length:=by rw [num_len]; omega
 rw [List.set_append_right _ _ (by omega),hl,Nat.sub_self,List.take_succ_eq_append_getElem hn,List.drop_eq_getElem_cons hk,gl_at hn,List.append_assoc]
 rfl
theorem part_zero {κ:Type} [DecidableEq κ] (ks:List κ) (F:List Int):part_ ks F 0 = F:=by unfold part_; simp
theorem part_full {κ:Type} [DecidableEq κ] {ks:List κ} {F:List Int} (h:ks.length = F.length):part_ ks F F.length = num ks:=by
 unfold part_
 rw [List.drop_length,List.append_nil,List.take_of_length_le (by rw [num_len]; omega)]
theorem notes_idx {κ:Type} [DecidableEq κ] {ks:List κ} {k:Nat} {x:κ} (h:ks[k]? = some x):(notes [] (ks.take (k + 1))).idxOf x = (notes [] ks).idxOf x:=by
 obtain ⟨hk,e⟩:=List.getElem?_eq_some_iff.1 h
 have e2:ks = ks.take (k + 1) ++ ks.drop (k + 1):=(List.take_append_drop _ _).symm
 have hm:x ∈ notes [] (ks.take (k + 1)):=notes_mem (List.mem_iff_getElem?.2 ⟨k,by rw [List.getElem?_take_of_lt (by omega)]; exact h⟩)
 conv=>rhs; rw [e2,notes_append]
 obtain ⟨r,e3⟩:=notes_pre (ks.drop (k + 1)) (notes [] (ks.take (k + 1)))
 rw [e3,idxOf_app hm]
theorem take_snoc {κ:Type} {ks:List κ} {k:Nat} {x:κ} (h:ks[k]? = some x):ks.take (k + 1) = ks.take k ++ [x]:=by
 obtain ⟨hk,e⟩:=List.getElem?_eq_some_iff.1 h
 rw [List.take_succ_eq_append_getElem hk,e]
def ixOf {κ:Type} [DecidableEq κ] (L:List κ) (x:κ):Nat:=L.idxOf x
theorem num_ix {κ:Type} [DecidableEq κ] {ks:List κ} {k:Nat} {x:κ} (h:ks[k]? = some x):gl (num ks) k = (ixOf (notes [] (ks.take (k + 1))) x:Nat):=by
 unfold ixOf
 rw [notes_idx h]
 exact Mac.num_gl h
end Go.Proofs.Ytedneplaibmppaa
namespace Go.Proofs.Ytedneplaibmppaa
open Go.Rx Go.RowKit
theorem sameV_agg2 (a b:Int):sameV 4 (.agg ⟨[int a,int b]⟩) (.agg ⟨[int a,int b]⟩) = true:=sameV_agg [a,b]
attribute [local irreducible] E idxN cellAt cellsAt storeAt callable helems hmoved lookIn findKey keyOk hentries Hp.at Hp.set Hp.lay arBits hupdated setAt CallP YieldP BoolOf IsWrap Rnd LoopP AppP CutP Int.tmod Int.tdiv Int.fdiv
section
variable [Unknowns]
attribute [local irreducible] sameAt
theorem refined_spec (v w:Value) (m:Mac) (c:List Int) (h:Hp) (hv:MV h v m.i) (hw:View h w c) (hm:m.Ok) (hc:c.length = m.out.length) (hl:m.out.length≤100000) (hbl:m.base≤1000):CallP E 105 [v,w] h (fun r h'=>(∃ u,r = .tuple ⟨[u,int (m.cnt c:Nat)]⟩∧Built h h' 3 u (m.ref c))∧Grows h h'):=by
 obtain ⟨bx,rfl,hbx⟩:=hv.box
 obtain ⟨ao,an,co,cn,hcx⟩:=hbx.cx
 obtain ⟨aw,cw,rfl⟩:=hw.known
 obtain ⟨i3,t3,-,z3⟩:=ty3
 obtain ⟨i140,t140,d140⟩:=ty140
 have hn1:=hm.n1
 have hil:=hm.ilen
 refine enter105 (by simp) ?_
 conv=>whnf
 refine SeqP.cut (α:=Hp) (fun _=>[(5,int 0),(4,nilS),(2,ptr h.next 0),(1,.slice aw c.length cw)]) (fun x H=>x = H∧Grows h H∧H.at h.next = some (.row 25 true bx)) ?_ ?_
 ·conv=>whnf
  exact ⟨_,⟨rfl,rfl,rfl,rfl,trivial⟩,⟨rfl,Grows.lay _ _,Hp.at_lay_self _ _⟩,rfl⟩
 rintro H φ1 _ ⟨rfl,gH,aX⟩
 conv=>whnf
 refine SeqP.cut (α:=Nat×Bool×Hp) (fun s=>[(5,int 0),(4,slc s.1 0 m.out.length m.out.length),(2,ptr h.next 0),(1,.slice aw c.length cw)]) (fun s H2=>s.2.2 = H2∧Grows h s.2.2∧s.2.2.at h.next = some (.row 25 true bx)∧h.next < s.1∧s.2.2.at s.1 = some (.row 3 s.2.1 (c.map int))) ?_ ?_
 ·conv=>whnf
  refine AppP.ints (h0:=H) (.inl ⟨rfl,rfl⟩) (.refl _) (hw.ext gH).elems (by simp; omega) ?_
  intro u H2 hb hg _
  rw [List.nil_append] at hb
  have hlt:=Hp.lt_of_at aX
  rcases hb with ⟨_,e⟩ | ⟨r,rfl,hr,x,hat⟩
  ·rw [e] at hc; simp at hc; omega
  conv=>whnf
  exact ⟨(r,x,H2),⟨rfl,congrArg (fun k=>slc r 0 k k) hc,rfl,rfl,trivial⟩,⟨rfl,gH.trans hg,hg.at_ _ _ aX,by show h.next < r; omega,hat⟩,rfl⟩
 rintro ⟨W,x,H2⟩ φ2 _ ⟨rfl,g2,aX2,hW,aW⟩
 dsimp only at g2 aX2 hW aW ⊢
 conv=>whnf
 refine SeqP.cut (α:=Hp) (fun _=>[(5,int (m.cnt c:Nat)),(4,slc W 0 m.out.length m.out.length)]) (fun s H3=>s = H3∧Grows h s∧s.at W = some (.row 3 x ((m.ref c).map int))) ?_ ?_
 rotate_left
 ·rintro H3 φ3 _ ⟨rfl,g3,aW3⟩
  conv=>whnf
  repeat (refine SeqP.go ?_; conv=>whnf)
  refine ⟨⟨_,rfl,.inr ⟨W,?_,by omega,x,aW3⟩⟩,g3⟩
  rw [Mac.ref_len]
  rfl
 have c0:=(hcx H2 h.next 25 g2 aX2).c0
 conv=>whnf
 refine SeqP.go ?_
 conv=>whnf
 refine ⟨_,c0,?_⟩
 conv=>whnf
 refine loop_inv (α:=Nat×Hp) (fun s=>[(17,int s.1),(16,int m.base),(5,int (m.fmany c s.1:Nat)),(4,slc W 0 m.out.length m.out.length),(2,ptr h.next 0),(1,.slice aw c.length cw)]) (fun s=>s.2) (fun s=>s.1≤m.base∧Grows h s.2∧s.2.at h.next = some (.row 25 true bx)∧s.2.at W = some (.row 3 x ((m.fin_ c s.1).map int))) (fun s=>m.base - s.1) (0,H2) ⟨Nat.zero_le _,g2,aX2,aW⟩ ⟨rfl,rfl,rfl,rfl,rfl,rfl,trivial⟩ (Hp.Le.refl _) ?_
 rintro ⟨d,H3⟩ φ3 ⟨hd,g3,aX3,aW3⟩
 dsimp only at hd g3 aX3 aW3 ⊢
 conv=>whnf
 repeat (refine SeqP.go ?_; conv=>whnf)
 refine cmpB (fun q1=>?_) (fun q1=>?_)
 rotate_left
 ·have:d = m.base:=by omega
  subst this
  have hfr:=Mac.fin_ref (m:=m) (c:=c) hm.b1
  rw [hfr.1] at aW3
  rw [hfr.2]
  conv=>whnf
  exact ⟨H3,⟨rfl,rfl,trivial⟩,⟨rfl,g3,aW3⟩,rfl⟩
 have hdb:d < m.base:=by omega
 have hexF:∃ F,m.fin_ c d = F:=⟨_,rfl⟩
 obtain ⟨F,eF⟩:=hexF
 have hFl:F.length = m.out.length:=by rw [← eF]; exact Mac.fin_len hc d
 rw [eF] at aW3
 have hexK:∃ ks,m.fkeys c F d = ks:=⟨_,rfl⟩
 obtain ⟨ks,eks⟩:=hexK
 have hkl:ks.length = m.out.length:=by rw [← eks]; exact Mac.fkeys_len _ _ _ _
 have hkF:ks.length = F.length:=by omega
 have enext:m.fin_ c (d + 1) = num ks:=by
  show num (m.fkeys c (m.fin_ c d) d) = _
  rw [eF,eks]
 have emany:m.fmany c (d + 1) = (notes [] ks).length:=by
  show many (m.fkeys c (m.fin_ c d) d) = _
  rw [eF,eks]; rfl
 conv=>whnf
 refine SeqP.go ?_
 conv=>whnf
 refine SeqP.cut (α:=Hp) (fun s=>[(17,int d),(16,int m.base),(5,int (m.fmany c (d + 1):Nat)),(4,slc W 0 m.out.length m.out.length),(2,ptr h.next 0),(1,.slice aw c.length cw)]) (fun s H4=>s = H4∧Grows h s∧s.at h.next = some (.row 25 true bx)∧s.at W = some (.row 3 x ((m.fin_ c (d + 1)).map int))) ?_ ?_
 rotate_left
 ·rintro H4 φ4 _ ⟨rfl,g4,aX4,aW4⟩
  conv=>whnf
  refine ⟨((d + 1:Nat):Int),wie (by omega) (by omega),?_⟩
  conv=>whnf
  exact Rnd.mk (d + 1,H4) ⟨by show d + 1≤m.base; omega,g4,aX4,aW4⟩ (by show m.base - (d + 1) < m.base - d; omega) ⟨rfl,rfl,rfl,rfl,rfl,rfl,trivial⟩ (Hp.Le.refl _) rfl
 rw [enext,emany]
 conv=>whnf
 refine SeqP.go ?_
 conv=>whnf
 have hltW:=Hp.lt_of_at aW3
 refine SeqP.cut (α:=Hp) (fun s=>[(7,mapAt H3.next),(6,int d),(17,int d),(16,int m.base),(4,slc W 0 m.out.length m.out.length),(2,ptr h.next 0),(1,.slice aw c.length cw)]) (fun s H4=>s = H4∧Grows H3 s∧Nums s H3.next encP ([]:List (Int×Int))) ?_ ?_
 ·conv=>whnf
  exact ⟨_,⟨rfl,rfl,rfl,rfl,rfl,rfl,rfl,trivial⟩,⟨rfl,Grows.lay _ _,Nums.nil _⟩,rfl⟩
 rintro H4 φ4 _ ⟨rfl,g4,hM4⟩
 have aX4:=g4.at_ _ _ aX3
 have aW4:=g4.at_ _ _ aW3
 have g4':=g3.trans g4
 have hexM:∃ M,H3.next = M:=⟨_,rfl⟩
 obtain ⟨M,eM⟩:=hexM
 rw [eM] at hM4 ⊢
 conv=>whnf
 refine SeqP.cut (α:=Hp) (fun s=>[(7,mapAt M),(6,int d),(17,int d),(16,int m.base),(4,slc W 0 m.out.length m.out.length),(2,ptr h.next 0),(1,.slice aw c.length cw)]) (fun s H5=>s = H5∧Grows h s∧s.at h.next = some (.row 25 true bx)∧s.at W = some (.row 3 x ((num ks).map int))∧Nums s M encP (notes [] ks)) ?_ ?_
 rotate_left
 ·rintro H5 φ5 _ ⟨rfl,g5,aX5,aW5,hM5⟩
  conv=>whnf
  refine raw_lenmap t140 d140 rfl hM5 ?_
  conv=>whnf
  exact ⟨H5,⟨rfl,rfl,rfl,rfl,rfl,rfl,trivial⟩,⟨rfl,g5,aX5,aW5⟩,rfl⟩
 conv=>whnf
 refine SeqP.go ?_
 conv=>whnf
 refine loop_inv (α:=Nat×Hp) (fun s=>[(23,int s.1),(22,int m.out.length),(7,mapAt M),(6,int d),(17,int d),(16,int m.base),(4,slc W 0 m.out.length m.out.length),(2,ptr h.next 0),(1,.slice aw c.length cw)]) (fun s=>s.2) (fun s=>s.1≤m.out.length∧Grows h s.2∧s.2.at h.next = some (.row 25 true bx)∧s.2.at W = some (.row 3 x ((part_ ks F s.1).map int))∧Nums s.2 M encP (notes [] (ks.take s.1))) (fun s=>m.out.length - s.1) (0,H4) ⟨Nat.zero_le _,g4',aX4,by rw [part_zero]; exact aW4,hM4⟩ ⟨rfl,rfl,rfl,rfl,rfl,rfl,rfl,rfl,rfl,trivial⟩ (Hp.Le.refl _) ?_
 rintro ⟨k,H5⟩ φ5 ⟨hk,g5,aX5,aW5,hM5⟩
 dsimp only at hk g5 aX5 aW5 hM5 ⊢
 conv=>whnf
 repeat (refine SeqP.go ?_; conv=>whnf)
 refine cmpB (fun q2=>?_) (fun q2=>?_)
 rotate_left
 ·have:k = m.out.length:=by omega
  subst this
  rw [show m.out.length = F.length by omega,part_full hkF] at aW5
  rw [List.take_of_length_le (by omega)] at hM5
  conv=>whnf
  exact ⟨H5,⟨rfl,rfl,rfl,rfl,rfl,rfl,rfl,trivial⟩,⟨rfl,g5,aX5,aW5,hM5⟩,rfl⟩
 have hkn:k < m.out.length:=by omega
 have hnl:=hm.lt k d hkn hdb
 have hks:ks[k]? = some (gl F k,gl c (m.nx k d)):=by rw [← eks]; exact Mac.fkeys_get hkn
 have kx5:=hcx H5 h.next 25 g5 aX5
 have e2:=kx5.c2
 have hnx:=kx5.nextAt hm hkn hdb
 obtain ⟨r,o,sp,r',o',sp',c',rfl,hsp,hc1,hsp',hc2⟩:=hnx
 have hcl:=View.cellg (hw.ext g5) (i:=m.nx k d) (by omega)
 obtain ⟨r2,o2,sp2,rfl,hsp2,-,hc3⟩:=hcl
 have hpl:=part_len hkF k
 have hcW:cellAt H5 W (offAt 0 k 1) = some (int (gl F k)):=cell_row aW5 (by rw [List.getElem?_map,List.getElem?_eq_getElem (by omega),← gl_at (by omega),part_gl hkF (by omega)]; rfl)
 have hvs:voidSp none = false:=rfl
 conv=>whnf
 refine SeqP.go ?_
 conv=>whnf
 refine SeqP.cut (α:=Hp) (fun s=>[(23,int k),(22,int m.out.length),(7,mapAt M),(6,int d),(17,int d),(16,int m.base),(4,slc W 0 m.out.length m.out.length),(2,ptr h.next 0),(1,.slice (some ⟨r2,o2,sp2⟩) c.length cw)]) (fun s H6=>s = H6∧Grows h s∧s.at h.next = some (.row 25 true bx)∧s.at W = some (.row 3 x ((part_ ks F (k + 1)).map int))∧Nums s M encP (notes [] (ks.take (k + 1)))) ?_ ?_
 rotate_left
 ·rintro H6 φ6 _ ⟨rfl,g6,aX6,aW6,hM6⟩
  conv=>whnf
  refine ⟨((k + 1:Nat):Int),wie (by omega) (by omega),?_⟩
  conv=>whnf
  exact Rnd.mk (k + 1,H6) ⟨by show k + 1≤_; omega,g6,aX6,aW6,hM6⟩ (by show _ - (k + 1) < _ - k; omega) ⟨rfl,rfl,rfl,rfl,rfl,rfl,rfl,rfl,rfl,trivial⟩ (Hp.Le.refl _) rfl
 have gl1:Grows H5 (H5.lay (.row 106 true [int 0,int 0])):=Grows.lay _ _
 have gl2:Grows H5 (H5.lay (.row 106 true [int (gl F k),int (gl c (m.nx k d))])):=Grows.lay _ _
 have f1:=gl1.cell hcW
 have f2:=gl1.cell e2
 have f3:=gl1.cell hc1
 have f4:=gl1.cell hc2
 have f5:=gl1.cell hc3
 have s1:=gl2.cell hcW
 have s2:=gl2.cell e2
 have s3:=gl2.cell hc1
 have s4:=gl2.cell hc2
 have s5:=gl2.cell hc3
 conv=>whnf
 refine SeqP.go ?_
 conv=>whnf
 refine SeqP.cut (α:=Hp) (fun s=>[(9,ptr H5.next 0),(8,int k),(23,int k),(22,int m.out.length),(7,mapAt M),(6,int d),(17,int d),(16,int m.base),(4,slc W 0 m.out.length m.out.length),(2,ptr h.next 0),(1,.slice (some ⟨r2,o2,sp2⟩) c.length cw)]) (fun s H6=>s = H6∧Grows H5 s∧s.at H5.next = some (.row 106 true [int (gl F k),int (gl c (m.nx k d))])) ?_ ?_
 ·conv=>whnf
  refine ⟨hvs,⟨by omega,by omega⟩,?_⟩
  conv=>whnf
  refine ⟨_,hcW,?_⟩
  conv=>whnf
  refine ⟨_,e2,?_⟩
  conv=>whnf
  refine ⟨hsp,⟨by omega,by omega⟩,?_⟩
  conv=>whnf
  refine ⟨_,hc1,?_⟩
  conv=>whnf
  refine ⟨hsp',⟨by omega,by omega⟩,?_⟩
  conv=>whnf
  refine ⟨_,hc2,?_⟩
  conv=>whnf
  refine ⟨hsp2,⟨by omega,by omega⟩,?_⟩
  conv=>whnf
  refine ⟨_,hc3,?_⟩
  conv=>whnf
  refine ⟨rfl,_,storeAt_all (vs:=[int (gl F k),int (gl c (m.nx k d))]) rfl rfl rfl,?_⟩
  conv=>whnf
  refine ⟨?_,?_⟩
  ·repeat' (first | exact True.intro | (refine And.intro ?_ ?_ <;> (conv=>whnf)))
   all_goals first
    | exact sameAt_val (h2:=_) rfl (sameV_int _)
    | exact sameAt_val (h2:=_) rfl (sameV_ptr _ _)
    | exact sameAt_val (h2:=_) rfl (sameV_slice _ _ _)
    | exact sameAt_val (h2:=_) rfl (sameV_agg2 _ _)
    | exact sameAt_val (h2:=_) (congrArg (hval _) hcW) (sameV_int _)
    | exact sameAt_val (h2:=_) (congrArg (hval _) hcW) (sameV_slice _ _ _)
    | exact sameAt_val (h2:=_) (congrArg (hval _) e2) (sameV_int _)
    | exact sameAt_val (h2:=_) (congrArg (hval _) e2) (sameV_slice _ _ _)
    | exact sameAt_val (h2:=_) (congrArg (hval _) hc1) (sameV_int _)
    | exact sameAt_val (h2:=_) (congrArg (hval _) hc1) (sameV_slice _ _ _)
    | exact sameAt_val (h2:=_) (congrArg (hval _) hc2) (sameV_int _)
    | exact sameAt_val (h2:=_) (congrArg (hval _) hc2) (sameV_slice _ _ _)
    | exact sameAt_val (h2:=_) (congrArg (hval _) hc3) (sameV_int _)
    | exact sameAt_val (h2:=_) (congrArg (hval _) hc3) (sameV_slice _ _ _)
    | exact sameAt_val (h2:=_) (congrArg (hval _) f1) (sameV_int _)
    | exact sameAt_val (h2:=_) (congrArg (hval _) f1) (sameV_slice _ _ _)
    | exact sameAt_val (h2:=_) (congrArg (hval _) f2) (sameV_int _)
    | exact sameAt_val (h2:=_) (congrArg (hval _) f2) (sameV_slice _ _ _)
    | exact sameAt_val (h2:=_) (congrArg (hval _) f3) (sameV_int _)
    | exact sameAt_val (h2:=_) (congrArg (hval _) f3) (sameV_slice _ _ _)
    | exact sameAt_val (h2:=_) (congrArg (hval _) f4) (sameV_int _)
    | exact sameAt_val (h2:=_) (congrArg (hval _) f4) (sameV_slice _ _ _)
    | exact sameAt_val (h2:=_) (congrArg (hval _) f5) (sameV_int _)
    | exact sameAt_val (h2:=_) (congrArg (hval _) f5) (sameV_slice _ _ _)
    | exact sameAt_val (h2:=_) (congrArg (hval _) s1) (sameV_int _)
    | exact sameAt_val (h2:=_) (congrArg (hval _) s1) (sameV_slice _ _ _)
    | exact sameAt_val (h2:=_) (congrArg (hval _) s2) (sameV_int _)
    | exact sameAt_val (h2:=_) (congrArg (hval _) s2) (sameV_slice _ _ _)
    | exact sameAt_val (h2:=_) (congrArg (hval _) s3) (sameV_int _)
    | exact sameAt_val (h2:=_) (congrArg (hval _) s3) (sameV_slice _ _ _)
    | exact sameAt_val (h2:=_) (congrArg (hval _) s4) (sameV_int _)
    | exact sameAt_val (h2:=_) (congrArg (hval _) s4) (sameV_slice _ _ _)
    | exact sameAt_val (h2:=_) (congrArg (hval _) s5) (sameV_int _)
    | exact sameAt_val (h2:=_) (congrArg (hval _) s5) (sameV_slice _ _ _)
    | exact sameAt_val (h2:=_) (show hval _ (idxSV 1 (.slice (some ⟨_,_,_⟩) _ _) (int _)) = _ from idxS_val' hvs ⟨by omega,by omega⟩) (sameV_ptr _ _)
    | exact sameAt_val (h2:=_) (show hval _ (idxSV 1 (.slice (some ⟨_,_,_⟩) _ _) (int _)) = _ from idxS_val' hsp ⟨by omega,by omega⟩) (sameV_ptr _ _)
    | exact sameAt_val (h2:=_) (show hval _ (idxSV 1 (.slice (some ⟨_,_,_⟩) _ _) (int _)) = _ from idxS_val' hsp' ⟨by omega,by omega⟩) (sameV_ptr _ _)
    | exact sameAt_val (h2:=_) (show hval _ (idxSV 1 (.slice (some ⟨_,_,_⟩) _ _) (int _)) = _ from idxS_val' hsp2 ⟨by omega,by omega⟩) (sameV_ptr _ _)
    | exact ⟨_,rfl,Hp.at_lay_self _ _,rfl⟩
  exact ⟨_,⟨rfl,rfl,rfl,rfl,rfl,rfl,rfl,rfl,rfl,rfl,rfl,trivial⟩,⟨rfl,Grows.lay _ _,Hp.at_lay_self _ _⟩,rfl⟩
 rintro H6 φ6 _ ⟨rfl,g6,aK⟩
 have g6':=g5.trans g6
 have aX6:=g6.at_ _ _ aX5
 have aW6:=g6.at_ _ _ aW5
 have hM6:=hM5.ext g6
 have hexKk:∃ K,H5.next = K:=⟨_,rfl⟩
 obtain ⟨Kk,eK⟩:=hexKk
 rw [eK] at aK ⊢
 have hltM:M < Kk:=by
  obtain ⟨_,_,h1,_⟩:=hM5
  have:=Hp.lt_of_at h1
  omega
 have hltW5:=Hp.lt_of_at aW5
 have hMW:M≠W:=by omega
 have hexk:∃ kk:Int×Int,(gl F k,gl c (m.nx k d)) = kk:=⟨_,rfl⟩
 obtain ⟨kk,ekk⟩:=hexk
 have eenc:Value.agg ⟨[int (gl F k),int (gl c (m.nx k d))]⟩ = encP kk:=by rw [← ekk]; rfl
 have hks':ks[k]? = some kk:=by rw [hks,ekk]
 have htk:notes [] (ks.take (k + 1)) = note (notes [] (ks.take k)) kk:=by rw [take_snoc hks',notes_snoc]
 have hgn:=num_ix hks'
 have hexL:∃ L,notes [] (ks.take k) = L:=⟨_,rfl⟩
 obtain ⟨L,eL⟩:=hexL
 rw [eL] at hM6 htk
 clear hM5
 have hLlen:L.length≤100000:=by
  rw [← eL]
  have:=nodup_sub (l:=notes [] (ks.take k)) (r:=ks.take k) (notes_nodup List.nodup_nil) (fun y hy=>by
   rcases notes_inv hy with h | h
   ·simp at h
   ·exact h)
  rw [List.length_take] at this
  omega
 conv=>whnf
 refine SeqP.cut (α:=Hp) (fun s=>[(9,ptr Kk 0),(8,int k),(23,int k),(22,int m.out.length),(7,mapAt M),(6,int d),(17,int d),(16,int m.base),(4,slc W 0 m.out.length m.out.length),(2,ptr h.next 0),(1,.slice (some ⟨r2,o2,sp2⟩) c.length cw)]) (fun s H7=>s = H7∧Grows h s∧s.at h.next = some (.row 25 true bx)∧s.at W = some (.row 3 x ((part_ ks F k).map int))∧s.at Kk = some (.row 106 true [int (gl F k),int (gl c (m.nx k d))])∧Nums s M encP (note L kk)) ?_ ?_
 ·by_cases hin:kk ∈ L
  ·have hnote:note L kk = L:=by unfold note; rw [if_pos hin]
   rw [hnote]
   conv=>whnf
   refine SeqP.go ?_
   conv=>whnf
   refine ⟨_,all_cells aK rfl,?_⟩
   conv=>whnf
   refine raw_look2_some t140 d140 t3 z3 key106 (k:=kk) rfl (by exact eenc) hM6 (fN_some hin) ?_
   conv=>whnf
   repeat (refine SeqP.go ?_; conv=>whnf)
   exact ⟨H6,⟨rfl,rfl,rfl,rfl,rfl,rfl,rfl,rfl,rfl,rfl,rfl,trivial⟩,⟨rfl,g6',aX6,aW6,aK,hM6⟩,rfl⟩
  ·have hnote:note L kk = L ++ [kk]:=by unfold note; rw [if_neg hin]
   rw [hnote]
   conv=>whnf
   refine SeqP.go ?_
   conv=>whnf
   refine ⟨_,all_cells aK rfl,?_⟩
   conv=>whnf
   refine raw_look2_none t140 d140 t3 z3 key106 (k:=kk) rfl (by exact eenc) hM6 (fN_none hin) ?_
   conv=>whnf
   repeat (refine SeqP.go ?_; conv=>whnf)
   refine ⟨_,all_cells aK rfl,?_⟩
   conv=>whnf
   refine raw_lenmap t140 d140 rfl hM6 ?_
   conv=>whnf
   refine raw_update t140 d140 key106 (k:=kk) (v:=int L.length) rfl (by exact eenc) rfl hM6 ?_
   intro H7 hM7 y7
   conv=>whnf
   exact ⟨H7,⟨rfl,rfl,rfl,rfl,rfl,rfl,rfl,rfl,rfl,rfl,rfl,trivial⟩,⟨rfl,y7.grows g6' (by have:=g3.next; omega),y7.at_ _ _ (by have:=g3.next; omega) aX6,y7.at_ _ _ (fun e=>hMW e.symm) aW6,y7.at_ _ _ (by omega) aK,Nums.add hin hM7⟩,rfl⟩
 rintro H7 φ7 _ ⟨rfl,g7,aX7,aW7,aK7,hM7⟩
 have hkin:kk ∈ note L kk:=note_mem L kk
 conv=>whnf
 refine ⟨_,all_cells aK7 rfl,?_⟩
 conv=>whnf
 refine raw_look1_some t140 d140 t3 z3 key106 (k:=kk) rfl (by exact eenc) hM7 (fN_some hkin) ?_
 conv=>whnf
 refine ⟨rfl,⟨by omega,by omega⟩,?_⟩
 conv=>whnf
 refine ⟨rfl,_,storeAt_off aW7 (by rw [List.length_map]; omega) rfl,?_⟩
 conv=>whnf
 refine ⟨_,⟨rfl,rfl,rfl,rfl,rfl,rfl,rfl,rfl,rfl,trivial⟩,⟨rfl,g7.then_set _ (by omega),by rw [Hp.at_set_ne _ (by omega)]; exact aX7,?_,?_⟩,rfl⟩
 ·rw [Hp.at_set_self _ (Hp.lt_of_at aW7),← part_set hkF (by omega),hgn,htk,List.map_set]
  rfl
 ·rw [htk]
  exact MapAt.of_at (fun ob hob=>by rw [Hp.at_set_ne _ hMW]; exact hob) hM7
end
end Go.Proofs.Ytedneplaibmppaa
namespace Go.Proofs.Ytedneplaibmppaa
open Go.Rx Go.RowKit
section
variable {h H H':Hp} {tz Z:Nat} {ov nv:Value} {O:List Int} {us:List Value} {N:List (List Int)} {cs rs:List Value}
theorem MZ.c_app {e s bytes:Nat} {b:Bool} {i n:Nat} {v:Value} {cl new:List Value} {K:Value→Hp→Prop} (k:MZ h H tz Z ov nv O us N cs rs) (hi:rs[i]? = some v) (hb:BuiltC h H e s v n cl) (hx:new.length = s) (h1:new.all oneCell = true) (hs:(n + 1) * bytes≤1073741824) (hn:n + 1≤1073741824)
  (q:∀ v' H',(∃ a n,v' = .slice a n n)→BuiltC h H' e s v' (n + 1) (cl ++ new)→MZ h H' tz Z ov nv O us N cs (rs.set i v')→KV (rs.set i nilS ++ us) H H'→Kx (ad v) H H'→K v' H'):AppP E (H.lay (.row e b new)) e s bytes v (slc H.next 0 1 1) K:=by
 have k1:=k.ext (Grows.lay H (.row e b new))
 have hb1:=hb.ext (Grows.lay H (.row e b new))
 have hel:ElemsC (H.lay (.row e b new)) s (slc H.next 0 1 1) 1 new:=by
  refine ⟨rfl,?_,by rw [Nat.one_mul]; exact hx,h1⟩
  show cellsAt (H.lay (.row e b new)) H.next 0 (1 * s) = _
  rw [cellsAt_row (Hp.at_lay_self _ _) (by omega),List.drop_zero,List.take_of_length_le (by omega)]
 refine AppP.cellsF hb1 k1.gr hel (by omega) hs hn ?_
 intro v' H' hb' hg' hkeep ⟨r',er,hr'⟩
 have x:=Kx.builtC hb1 hkeep
 have hv:∀ r,ad v' = some r→(H.lay (.row e b new)).next≤r∧r < H'.next:=fun r e2=>⟨by rw [er] at e2; cases e2; exact hr',(hb'.ad_lt r e2).2⟩
 have hnx:(H.lay (.row e b new)).next≤H'.next:=by have:=hv r' (by rw [er]; rfl); omega
 obtain ⟨k2,kv⟩:=k1.touch hi x hg' hnx
 have sep2:Rx.Sep H' (pl Z :: ov :: nv :: rs.set i v') us:=k1.sep.move hnx (i + 3) hv
 exact q _ _ ⟨_,_,er⟩ hb' { k2 with sep:=sep2 } ((KV.grows (Grows.lay _ _)).trans kv) ((Kx.grows (Grows.lay _ _)).trans x)
end
def fl2:List (Int×Int)→List Value
 | []=>[]
 | p :: l=>int p.1 :: int p.2 :: fl2 l
theorem fl2_app:∀ (l r:List (Int×Int)),fl2 (l ++ r) = fl2 l ++ fl2 r
 | [],r=>rfl
 | p :: l,r=>by show int p.1 :: int p.2 :: fl2 (l ++ r) = _; rw [fl2_app l r]; rfl
theorem fl2_len:∀ l:List (Int×Int),(fl2 l).length = l.length * 2
 | []=>rfl
 | p :: l=>by show (fl2 l).length + 1 + 1 = (l.length + 1) * 2; rw [fl2_len l]; omega
theorem fl2_drop:∀ (l:List (Int×Int)) (k:Nat) (x:Int×Int),l[k]? = some x→((fl2 l).drop (k * 2)).take 2 = [int x.1,int x.2]
 | p :: l,0,x,h=>by cases h; simp [fl2]
 | p :: l,k + 1,x,h=>by
  have:=fl2_drop l k x (by simpa using h)
  rw [show (k + 1) * 2 = k * 2 + 1 + 1 by omega]
  simpa [fl2] using this
theorem fl2_cell {h0 H:Hp} {e:Nat} {v:Value} {L:List (Int×Int)} (k:BuiltC h0 H e 2 v L.length (fl2 L)) {i:Nat} {x:Int×Int} (hi:L[i]? = some x):∃ r,v = slc r 0 L.length L.length∧cellsAt H r (offAt 0 i 2) 2 = some [int x.1,int x.2]:=by
 have hl:=(List.getElem?_eq_some_iff.1 hi).1
 obtain ⟨hlen,⟨_,e1⟩ | ⟨r,er,_,y,hr⟩⟩:=k
 ·omega
 ·refine ⟨r,er,?_⟩
  rw [offAt_eq,Nat.zero_add,cellsAt_row hr (by rw [fl2_len]; omega),fl2_drop L i x hi]
theorem in_cell {h0 H:Hp} {e:Nat} {v:Value} {L:List Int} (k:BuiltC h0 H e 1 v L.length (L.map int)) {i:Nat} {x:Int} (hi:L[i]? = some x):∃ r,v = slc r 0 L.length L.length∧cellAt H r (offAt 0 i 1) = some (int x):=by
 have hl:=(List.getElem?_eq_some_iff.1 hi).1
 obtain ⟨hlen,⟨_,e1⟩ | ⟨r,er,_,y,hr⟩⟩:=k
 ·omega
 ·refine ⟨r,er,cell_row hr ?_⟩
  rw [List.getElem?_map,hi]; rfl
section
variable {S:Type} [DecidableEq S]
def rowOf (next:S→Nat→S) (b:Nat) (L:List S) (s:S):List Int:=(List.range b).map fun d=>((ixOf L (next s d):Nat):Int)
def rowsOf (next:S→Nat→S) (b:Nat) (L:List S) (k:Nat):List (List Int):=(L.take k).map (rowOf next b L)
def partRow (next:S→Nat→S) (b:Nat) (L:List S) (s:S) (d:Nat):List Value:=rowV b fun j=>if j < d then int (ixOf L (next s j):Nat) else int 0
theorem partRow_step {next:S→Nat→S} {b d:Nat} {L L':List S} {s:S} (hL:∀ j,j < d→next s j ∈ L) {r:List S} (e:L' = L ++ r):(partRow next b L s d).set d (int (ixOf L' (next s d):Nat)) = partRow next b L' s (d + 1):=by
 unfold partRow
 rw [rowV_set]
 refine rowV_congr fun j hj=>?_
 by_cases h:j = d
 ·subst h; rw [if_pos rfl,if_pos (by omega)]
 ·rw [if_neg h]
  by_cases h2:j < d
  ·rw [if_pos h2,if_pos (by omega)]
   unfold ixOf
   rw [e,idxOf_app (hL j h2)]
  ·rw [if_neg h2,if_neg (by omega)]
theorem partRow_full (next:S→Nat→S) (b:Nat) (L:List S) (s:S):partRow next b L s b = (rowOf next b L s).map int:=by
 unfold partRow rowOf rowV
 rw [List.map_map]
 refine List.map_congr_left fun j hj=>?_
 rw [if_pos (List.mem_range.1 hj)]; rfl
theorem partRow_zero (next:S→Nat→S) (b:Nat) (L:List S) (s:S):partRow next b L s 0 = times [int 0] b:=by
 unfold partRow
 rw [times_one]
 rfl
theorem rowsOf_ext {next:S→Nat→S} {b:Nat} {L L':List S} {k:Nat} (m:Met next b L k) (hk:k≤L.length) {r:List S} (e:L' = L ++ r):rowsOf next b L' k = rowsOf next b L k:=by
 unfold rowsOf
 rw [e,List.take_append_of_le_length hk]
 refine List.map_congr_left fun s hs=>?_
 unfold rowOf
 refine List.map_congr_left fun d hd=>?_
 obtain ⟨i,hi⟩:=List.getElem?_of_mem hs
 have hi2:=(List.getElem?_eq_some_iff.1 hi).1
 rw [List.length_take] at hi2
 rw [List.getElem?_take_of_lt (by omega)] at hi
 have:=m.cl i s (by omega) hi d (List.mem_range.1 hd)
 unfold ixOf
 rw [idxOf_app this]
theorem built_i {next:S→Nat→S} {b:Nat} {s:S} {out:S→Int} {L:List S} (h:bfs next b s = L):(built b s out next).i = ⟨b,L.map out,rowsOf next b L L.length⟩:=by
 unfold built
 rw [h]
 unfold Mac.i mach rowsOf
 dsimp only
 rw [List.take_length,List.map_map]
 congr 1
 refine List.map_congr_left fun s hs=>?_
 show List.map _ (List.map _ _) = _
 rw [List.map_map]
 rfl
structure Bq (next:S→Nat→S) (b:Nat) (s0:S) (U L:List S) (a:Nat):Prop where
 met:Met next b L a
 sub:∀ s ∈ L,s ∈ U
 le:a≤L.length
 run:BfsR next b L a (bfs next b s0)
theorem Bq.few {next:S→Nat→S} {b:Nat} {s0:S} {U L:List S} {a:Nat} (k:Bq next b s0 U L a):L.length≤U.length:=nodup_sub k.met.nodup k.sub
theorem Bq.start {next:S→Nat→S} {b:Nat} {s0:S} {U:List S} (hU:Fin_ next b U) (hs:s0 ∈ U):Bq next b s0 U [s0] 0:=⟨Met.one,fun s h=>by rw [List.mem_singleton.1 h]; exact hs,Nat.zero_le _,bfs_ok hU hs⟩
theorem Bq.done {next:S→Nat→S} {b:Nat} {s0:S} {U L:List S} {a:Nat} (k:Bq next b s0 U L a) (h:L.length≤a):bfs next b s0 = L:=by
 have:=k.run
 cases this with
 | done _=>rfl
 | step hs _=>rw [List.getElem?_eq_none h] at hs; cases hs
theorem Bq.next {next:S→Nat→S} {b:Nat} {s0:S} {U L:List S} {a:Nat} (hU:Fin_ next b U) (k:Bq next b s0 U L a) {s:S} (hs:L[a]? = some s):Bq next b s0 U (notes L (outs next b s)) (a + 1):=by
 have hl:=(List.getElem?_eq_some_iff.1 hs).1
 obtain ⟨r,e⟩:=notes_pre (outs next b s) L
 refine ⟨k.met.step hs,fun x hx=>?_,by rw [e,List.length_append]; omega,?_⟩
 ·rcases notes_inv hx with h | h
  ·exact k.sub x h
  ·obtain ⟨d,hd,rfl⟩:=outs_mem.1 h
   exact hU.cl _ (k.sub s (List.mem_of_getElem? hs)) d hd
 ·have:=k.run
  cases this with
  | done h=>omega
  | step hs' h =>
   rw [hs] at hs'
   cases hs'
   exact h
def outsN (next:S→Nat→S) (s:S) (d:Nat):List S:=(List.range d).map (next s)
theorem outsN_succ (next:S→Nat→S) (s:S) (d:Nat):outsN next s (d + 1) = outsN next s d ++ [next s d]:=by
 unfold outsN
 rw [List.range_succ,List.map_append]; rfl
theorem outsN_mem {next:S→Nat→S} {s:S} {d j:Nat} (h:j < d):next s j ∈ outsN next s d:=List.mem_map.2 ⟨j,List.mem_range.2 h,rfl⟩
theorem notesN_few {next:S→Nat→S} {b:Nat} {s0 s:S} {U L:List S} {a d:Nat} (hU:Fin_ next b U) (k:Bq next b s0 U L a) (hs:s ∈ U) (hd:d≤b):(notes L (outsN next s d)).length≤U.length:=nodup_sub (notes_nodup k.met.nodup) fun x hx=>by
 rcases notes_inv hx with h | h
 ·exact k.sub x h
 ·obtain ⟨j,hj,rfl⟩:=List.mem_map.1 h
  exact hU.cl s hs j (by have:=List.mem_range.1 hj; omega)
end
theorem mem1 {a b:Value} {l us:List Value}:b ∈ (a :: b :: l) ++ us:=by simp
theorem mem2 {a b c:Value} {l us:List Value}:c ∈ (a :: b :: c :: l) ++ us:=by simp
def OutF (go:FuncId) (capo:List Value) {S:Type} (enc:S→Value) (out:S→Int) (U:List S) (h:Hp) [Unknowns]:Prop:=callable E go = true∧∀ s ∈ U,∀ H,Grows h H→CallP E go ([enc s] ++ capo) H (fun r H'=>r = int (out s)∧Grows H H')
def NextF (gn:FuncId) (capn:List Value) {S:Type} (enc:S→Value) (next:S→Nat→S) (b:Nat) (U:List S) (h:Hp) [Unknowns]:Prop:=callable E gn = true∧∀ s ∈ U,∀ d,d < b→∀ H,Grows h H→CallP E gn ([enc s,int d] ++ capn) H (fun r H'=>r = enc (next s d)∧Grows H H')
abbrev fl1 (L:List Int):List Value:=L.map int
theorem fl1_app (l r:List Int):fl1 (l ++ r) = fl1 l ++ fl1 r:=List.map_append
end Go.Proofs.Ytedneplaibmppaa
namespace Go.Proofs.Ytedneplaibmppaa
open Go.Rx Go.RowKit
attribute [local irreducible] E idxN cellAt cellsAt storeAt callable helems hmoved lookIn findKey keyOk hentries Hp.at Hp.set Hp.lay arBits hupdated setAt CallP YieldP BoolOf IsWrap Rnd LoopP AppP CutP Int.tmod Int.tdiv Int.fdiv
section
variable [Unknowns]
attribute [local irreducible] sameAt finP
theorem built97_spec (b:Nat) (s0:Int×Int) (out:Int×Int→Int) (next:(Int×Int)→Nat→(Int×Int)) (U:List (Int×Int)) (go gn:FuncId) (capo capn:List Value) (h:Hp) (hb:1≤b∧b≤1000) (hU:Fin_ next b U) (hs0:s0 ∈ U) (hUl:U.length≤100000) (ho:OutF go capo encP out U h) (hn:NextF gn capn encP next b U h):CallP E 97 [int b,encP s0,.func (.func go) ⟨[]⟩ ⟨capo⟩,.func (.func gn) ⟨[]⟩ ⟨capn⟩] h (fun r h'=>OwnM h h' r (built b s0 out next).i∧Grows h h'):=by
 obtain ⟨i3,t3,-,z3⟩:=ty3
 obtain ⟨iM,tM,dM⟩:=ty153
 have hexfo:∃ fo,Value.func (.func go) ⟨[]⟩ ⟨capo⟩ = fo:=⟨_,rfl⟩
 obtain ⟨fo,efo⟩:=hexfo
 have hexfn:∃ fn,Value.func (.func gn) ⟨[]⟩ ⟨capn⟩ = fn:=⟨_,rfl⟩
 obtain ⟨fn,efn⟩:=hexfn
 rw [efo,efn]
 refine enter97 (by simp) ?_
 conv=>whnf
 refine SeqP.cut (α:=Nat×Hp) (fun s=>[(8,ptr s.1 0),(5,ptr h.next 0),(0,int b),(2,fo),(3,fn)]) (fun s H=>s.2 = H∧Grows h s.2∧s.2.at s.1 = some (.row 25 true [int 0,nilS,nilS])∧h.next≤s.1∧s.1 < s.2.next∧s.2.at h.next = some (.row 136 true [int s0.1,int s0.2])) ?_ ?_
 ·unfold encP
  conv=>whnf
  have n1:(h.lay (.row 136 true [int s0.1,int s0.2])).next = h.next + 1:=Hp.next_lay _ _
  exact ⟨(h.next + 1,_),⟨congrArg (fun k=>ptr k 0) n1,rfl,rfl,rfl,rfl,trivial⟩,⟨rfl,(Grows.lay _ _).then_lay _,at_nx2 n1 (Hp.at_lay_self _ _),Nat.le_succ _,by dsimp only; rw [Hp.next_lay,n1]; omega,Hp.at_lay_old _ (Hp.at_lay_self _ _)⟩,rfl⟩
 rintro ⟨R,H⟩ φ1 _ ⟨rfl,gH,aR,hRh,hRn,aP⟩
 dsimp only at gH aR hRh hRn aP ⊢
 conv=>whnf
 refine SeqP.cut (α:=Hp) (fun _=>[(9,ptr H.next 0),(8,ptr R 0),(0,int b),(5,ptr h.next 0),(2,fo),(3,fn)]) (fun x H2=>x = H2∧MZ H H2 25 H.next nilS nilS [] [] [] [int b,nilS,nilS] []∧H2.at h.next = some (.row 136 true [int s0.1,int s0.2])) ?_ ?_
 ·conv=>whnf
  refine ⟨rfl,_,storeAt_all (vs:=[int b,nilS,nilS]) rfl rfl rfl,?_⟩
  conv=>whnf
  exact ⟨_,⟨rfl,rfl,rfl,rfl,rfl,rfl,trivial⟩,⟨rfl,MZ.start (.refl _),Hp.at_lay_old _ aP⟩,rfl⟩
 rintro H2 φ2 _ ⟨rfl,hz2,aP2⟩
 have hexZ:∃ Z,H.next = Z:=⟨_,rfl⟩
 obtain ⟨Z,eZ⟩:=hexZ
 rw [eZ] at hz2 ⊢
 conv=>whnf
 refine SeqP.cut (α:=Nat×Hp) (fun s=>[(10,mapAt s.1),(9,ptr Z 0),(8,ptr R 0),(0,int b),(5,ptr h.next 0),(2,fo),(3,fn)]) (fun s H3=>s.2 = H3∧MZ H s.2 25 Z nilS nilS [] [] [] [int b,nilS,nilS] [pl s.1]∧Nums s.2 s.1 encP [s0]∧H.next≤s.1∧s.2.at h.next = some (.row 136 true [int s0.1,int s0.2])) ?_ ?_
 ·conv=>whnf
  refine ⟨_,all_cells (Hp.at_lay_old _ aP2) rfl,?_⟩
  conv=>whnf
  refine raw_insert tM dM key136 (k:=s0) (v:=int 0) (n:=0) rfl rfl rfl (MapAt.new _) ?_
  intro H3 hM3 y3
  have gl3:Grows H2 (H2.lay (.map [] 0)):=Grows.lay _ _
  have gk3:Grows H2 H3:=⟨by rw [y3.next]; exact gl3.next,fun r o e=>y3.at_ r o (by have:=Hp.lt_of_at e; omega) (gl3.at_ r o e)⟩
  have hz3:=(hz2.more gk3 (v:=pl H2.next) fun r e=>by cases e; exact ⟨Nat.le_refl _,by rw [y3.next,Hp.next_lay]; omega⟩)
  conv=>whnf
  exact ⟨(H2.next,H3),⟨rfl,rfl,rfl,rfl,rfl,rfl,rfl,trivial⟩,⟨rfl,hz3,hM3.congr fun k=>by
   unfold fN
   by_cases e:k = s0
   ·rw [if_pos e,if_pos (by rw [e]; simp),e]; simp
   ·rw [if_neg e,if_neg (by simpa using e)],hz2.gr.next,gk3.at_ _ _ aP2⟩,rfl⟩
 rintro ⟨M,H3⟩ φ3 _ ⟨rfl,hz3,hM3,hMge,aP3⟩
 dsimp only at hz3 hM3 hMge aP3 ⊢
 conv=>whnf
 refine SeqP.cut (α:=Value×Hp) (fun s=>[(11,s.1),(10,mapAt M),(9,ptr Z 0),(8,ptr R 0),(0,int b),(2,fo),(3,fn)]) (fun s H4=>s.2 = H4∧MZ H s.2 25 Z nilS nilS [] [] [] [int b,nilS,nilS] [pl M,s.1,nilS]∧Nums s.2 M encP [s0]∧BuiltC H s.2 136 2 s.1 [s0].length (fl2 [s0])) ?_ ?_
 ·conv=>whnf
  refine ⟨_,all_cells aP3 rfl,?_⟩
  conv=>whnf
  have gl4:Grows H3 (H3.lay (.row 136 true (fl2 [s0]))):=Grows.lay _ _
  have hz4:=(hz3.more gl4 (v:=slc H3.next 0 1 1) fun r e=>by cases e; exact ⟨Nat.le_refl _,by rw [Hp.next_lay]; omega⟩).more (.refl _) (v:=nilS) fun r e=>by cases e
  exact ⟨(slc H3.next 0 1 1,_),⟨rfl,rfl,rfl,rfl,rfl,rfl,rfl,trivial⟩,⟨rfl,hz4,hM3.ext gl4,⟨rfl,.inr ⟨H3.next,rfl,hz3.gr.next,true,Hp.at_lay_self _ _⟩⟩⟩,rfl⟩
 rintro ⟨st,H4⟩ φ4 _ ⟨rfl,hz4,hM4,hst4⟩
 dsimp only at hz4 hM4 hst4 ⊢
 conv=>whnf
 refine SeqP.cut (α:=Value×Value×List Int×List Value×List (List Int)×Hp) (fun s=>[(9,ptr Z 0),(8,ptr R 0)]) (fun s H5=>s.2.2.2.2.2 = H5∧∃ rs,MZ H s.2.2.2.2.2 25 Z s.1 s.2.1 s.2.2.1 s.2.2.2.1 s.2.2.2.2.1 [int b,s.1,s.2.1] rs∧(built b s0 out next).i = ⟨b,s.2.2.1,s.2.2.2.2.1⟩) ?_ ?_
 rotate_left
 ·rintro ⟨ov,nv,O,us,N,H5⟩ φ5 _ ⟨rfl,rs,hz5,eb⟩
  dsimp only at hz5 eb ⊢
  have hov:=hz5.out_ok
  obtain ⟨ax,rfl⟩:=hov
  have hnv:=hz5.next_ok
  obtain ⟨ay,rfl⟩:=hnv
  have aR5:=hz5.gr.at_ _ _ aR
  conv=>whnf
  repeat (refine SeqP.go ?_; conv=>whnf)
  refine ⟨_,all_cells hz5.z rfl,?_⟩
  conv=>whnf
  refine ⟨rfl,_,storeAt_full (vs:=[int b,.slice ax O.length O.length,.slice ay N.length N.length]) aR5 rfl rfl rfl,?_⟩
  conv=>whnf
  repeat (refine SeqP.go ?_; conv=>whnf)
  obtain ⟨i25,t25,ag25,sz25⟩:=ty25
  refine leave_cell (r:=R) (o:=0) (cs:=[int b,.slice ax O.length O.length,.slice ay N.length N.length]) rfl t25 ag25 ?_ ?_
  ·rw [sz25]
   exact all_cells (Hp.at_set_self _ (Hp.lt_of_at aR5)) rfl
  ·rw [eb]
   exact hz5.leave (h:=h) (R:=R) hRn hRh gH b (.row 25 true [int b,.slice ax O.length O.length,.slice ay N.length N.length])
 conv=>whnf
 refine SeqP.go ?_
 conv=>whnf
 refine loop_inv (α:=Nat×List (Int×Int)×Value×Value×Value×List Value×Hp) (fun s=>[(12,int s.1),(11,s.2.2.1),(10,mapAt M),(9,ptr Z 0),(8,ptr R 0),(0,int b),(2,fo),(3,fn)]) (fun s=>s.2.2.2.2.2.2) (fun s=>Bq next b s0 U s.2.1 s.1∧MZ H s.2.2.2.2.2.2 25 Z s.2.2.2.1 s.2.2.2.2.1 ((s.2.1.take s.1).map out) s.2.2.2.2.2.1 (rowsOf next b s.2.1 s.1) [int b,s.2.2.2.1,s.2.2.2.2.1] [pl M,s.2.2.1,nilS]∧Nums s.2.2.2.2.2.2 M encP s.2.1∧BuiltC H s.2.2.2.2.2.2 136 2 s.2.2.1 s.2.1.length (fl2 s.2.1)) (fun s=>100000 - s.1) (0,[s0],st,nilS,nilS,[],H4) ⟨Bq.start hU hs0,hz4,hM4,hst4⟩ ⟨rfl,rfl,rfl,rfl,rfl,rfl,rfl,rfl,trivial⟩ (Hp.Le.refl _) ?_
 rintro ⟨a,L,st,ov,nv,us,H5⟩ φ5 ⟨hq,hz5,hM5,hst5⟩
 dsimp only at hq hz5 hM5 hst5 ⊢
 have hfew:=hq.few
 have hsk:=hst5.slice
 obtain ⟨as5,rfl,-⟩:=hsk
 have hql:=hq.le
 conv=>whnf
 repeat (refine SeqP.go ?_; conv=>whnf)
 refine cmpB (fun q1=>?_) (fun q1=>?_)
 rotate_left
 ·have hle:L.length≤a:=by omega
  have ea:a = L.length:=by omega
  have hbd:=hq.done hle
  subst ea
  rw [List.take_length] at hz5
  conv=>whnf
  exact ⟨(ov,nv,L.map out,us,rowsOf next b L L.length,H5),⟨rfl,rfl,trivial⟩,⟨rfl,_,hz5,built_i hbd⟩,rfl⟩
 have haL:a < L.length:=by omega
 have hexs:∃ s,L[a]? = some s:=⟨_,List.getElem?_eq_getElem haL⟩
 obtain ⟨s,hs⟩:=hexs
 have hsU:=hq.sub s (List.mem_of_getElem? hs)
 have hOl:((L.take a).map out).length = a:=by rw [List.length_map,List.length_take]; omega
 have hNl:(rowsOf next b L a).length = a:=by unfold rowsOf; rw [List.length_map,List.length_take]; omega
 have hq2:=hq.next hU hs
 conv=>whnf
 refine SeqP.cut (α:=List (Int×Int)×Value×Value×Value×List Value×Hp) (fun s=>[(12,int a),(11,s.2.1),(10,mapAt M),(9,ptr Z 0),(8,ptr R 0),(0,int b),(2,fo),(3,fn)]) (fun s H6=>s.2.2.2.2.2 = H6∧Bq next b s0 U s.1 (a + 1)∧MZ H s.2.2.2.2.2 25 Z s.2.2.1 s.2.2.2.1 ((s.1.take (a + 1)).map out) s.2.2.2.2.1 (rowsOf next b s.1 (a + 1)) [int b,s.2.2.1,s.2.2.2.1] [pl M,s.2.1,nilS]∧Nums s.2.2.2.2.2 M encP s.1∧BuiltC H s.2.2.2.2.2 136 2 s.2.1 s.1.length (fl2 s.1)) ?_ ?_
 rotate_left
 ·rintro ⟨L6,st6,ov6,nv6,us6,H6⟩ φ6 _ ⟨rfl,hq6,hz6,hM6,hst6⟩
  dsimp only at hq6 hz6 hM6 hst6 ⊢
  conv=>whnf
  refine ⟨((a + 1:Nat):Int),wie (by omega) (by omega),?_⟩
  conv=>whnf
  exact Rnd.mk (a + 1,L6,st6,ov6,nv6,us6,H6) ⟨hq6,hz6,hM6,hst6⟩ (by show 100000 - (a + 1) < 100000 - a; omega) ⟨rfl,rfl,rfl,rfl,rfl,rfl,rfl,rfl,trivial⟩ (Hp.Le.refl _) rfl
 have hsc:=fl2_cell hst5 hs
 obtain ⟨rst,erst,hsc⟩:=hsc
 cases erst
 have z1:cellAt H5 Z 1 = some ov:=cellAt_row hz5.z rfl
 conv=>whnf
 refine SeqP.cut (α:=Value×Hp) (fun x=>[(12,int a),(11,slc rst 0 L.length L.length),(10,mapAt M),(9,ptr Z 0),(8,ptr R 0),(0,int b),(2,fo),(3,fn)]) (fun x H6=>x.2 = H6∧MZ H x.2 25 Z x.1 nv ((L.take (a + 1)).map out) us (rowsOf next b L a) [int b,x.1,nv] [pl M,slc rst 0 L.length L.length,nilS]∧Nums x.2 M encP L∧BuiltC H x.2 136 2 (slc rst 0 L.length L.length) L.length (fl2 L)) ?_ ?_
 ·have hov:=hz5.out_ok
  obtain ⟨ax,eov⟩:=hov
  rw [hOl] at eov
  subst eov
  conv=>whnf
  refine ⟨_,z1,?_⟩
  conv=>whnf
  refine ⟨rfl,⟨by omega,by omega⟩,?_⟩
  conv=>whnf
  refine ⟨_,hsc,?_⟩
  rw [← efo]
  conv=>whnf
  refine ⟨ho.1,?_⟩
  refine CallP.mono (ho.2 s hsU H5 (gH.trans hz5.gr)) ?_
  rintro _ H6 ⟨rfl,g6⟩
  have hz6:=hz5.ext g6
  have f1:=g6.cell z1
  have f2:cellAt (H6.lay (.row 3 true [int (out s)])) Z 1 = some (.slice ax a a):=(Grows.lay _ _).cell f1
  conv=>whnf
  refine hz6.o_app (by omega) ?_
  intro ov7 H7 hov7 hz7 kv7
  obtain ⟨a7,n7,rfl⟩:=hov7
  have f3:cellAt H7 Z 1 = some (.slice ax a a):=cellAt_row hz7.z rfl
  conv=>whnf
  refine ⟨rfl,_,storeAt_row hz7.z (by simp) rfl,?_⟩
  conv=>whnf
  refine ⟨?_,?_⟩
  ·repeat' (first | exact True.intro | (refine And.intro ?_ ?_ <;> (conv=>whnf)))
   all_goals first
    | exact sameAt_val (h2:=_) rfl (sameV_int _)
    | exact sameAt_val (h2:=_) rfl (sameV_ptr _ _)
    | exact sameAt_val (h2:=_) rfl (sameV_slice _ _ _)
    | exact sameAt_val (h2:=_) rfl (sameV_agg2 _ _)
    | exact sameAt_val (h2:=_) (congrArg (hval _) z1) (sameV_int _)
    | exact sameAt_val (h2:=_) (congrArg (hval _) z1) (sameV_slice _ _ _)
    | exact sameAt_val (h2:=_) (congrArg (hval _) f1) (sameV_int _)
    | exact sameAt_val (h2:=_) (congrArg (hval _) f1) (sameV_slice _ _ _)
    | exact sameAt_val (h2:=_) (congrArg (hval _) f2) (sameV_int _)
    | exact sameAt_val (h2:=_) (congrArg (hval _) f2) (sameV_slice _ _ _)
    | exact sameAt_val (h2:=_) (congrArg (hval _) f3) (sameV_int _)
    | exact sameAt_val (h2:=_) (congrArg (hval _) f3) (sameV_slice _ _ _)
    | exact ⟨_,rfl,Hp.at_lay_self _ _,rfl⟩
  have hz8:=hz7.put [int b,.slice a7 n7 n7,nv]
  have eO:(L.take a).map out ++ [out s] = (L.take (a + 1)).map out:=by rw [take_snoc hs,List.map_append]; rfl
  have hz8a:=hz8.1
  rw [eO] at hz8a
  exact ⟨(_,_),⟨rfl,rfl,rfl,rfl,rfl,rfl,rfl,rfl,trivial⟩,⟨rfl,hz8a,hz8.2.map (by simp) (kv7.map (by simp) (hM5.ext g6)),hz8.2.builtC mem1 (kv7.builtC mem1 (hst5.ext g6))⟩,rfl⟩
 rintro ⟨ov,H6⟩ φ6 _ ⟨rfl,hz6,hM6,hst6⟩
 dsimp only at hz6 hM6 hst6 ⊢
 clear hz5 hM5 hst5 z1
 conv=>whnf
 refine SeqP.cut (α:=Hp) (fun _=>[(13,slc H6.next 0 b b),(12,int a),(11,slc rst 0 L.length L.length),(10,mapAt M),(9,ptr Z 0),(8,ptr R 0),(0,int b),(2,fo),(3,fn)]) (fun x H7=>x = H7∧MZ H x 25 Z ov nv ((L.take (a + 1)).map out) us (rowsOf next b L a) [int b,ov,nv] [pl M,slc rst 0 L.length L.length,slc H6.next 0 b b]∧Nums x M encP L∧BuiltC H x 136 2 (slc rst 0 L.length L.length) L.length (fl2 L)∧x.at H6.next = some (.row 3 true (partRow next b L s 0))) ?_ ?_
 ·conv=>whnf
  refine ⟨⟨by omega,by omega,by omega,by omega⟩,?_⟩
  conv=>whnf
  have gl7:Grows H6 (H6.lay (.row 3 true (times [int 0] (b:Int).toNat))):=Grows.lay _ _
  refine ⟨_,⟨rfl,rfl,rfl,rfl,rfl,rfl,rfl,rfl,rfl,trivial⟩,⟨rfl,hz6.add gl7 (i:=2) rfl fun r e=>by cases e; exact ⟨Nat.le_refl _,by rw [Hp.next_lay]; omega⟩,hM6.ext gl7,hst6.ext gl7,?_⟩,rfl⟩
  rw [partRow_zero]
  exact Hp.at_lay_self _ _
 rintro H7 φ7 _ ⟨rfl,hz7,hM7,hst7,aW7⟩
 have hnW:=hz6.gr.next
 have hexW:∃ W,H6.next = W:=⟨_,rfl⟩
 obtain ⟨W,eW⟩:=hexW
 rw [eW] at hz7 aW7 hnW ⊢
 conv=>whnf
 refine SeqP.cut (α:=Value×Hp) (fun x=>[(13,slc W 0 b b),(12,int a),(11,x.1),(10,mapAt M),(9,ptr Z 0),(8,ptr R 0),(0,int b),(2,fo),(3,fn)]) (fun x H8=>x.2 = H8∧MZ H x.2 25 Z ov nv ((L.take (a + 1)).map out) us (rowsOf next b L a) [int b,ov,nv] [pl M,x.1,slc W 0 b b]∧Nums x.2 M encP (notes L (outs next b s))∧BuiltC H x.2 136 2 x.1 (notes L (outs next b s)).length (fl2 (notes L (outs next b s)))∧x.2.at W = some (.row 3 true (partRow next b (notes L (outs next b s)) s b))) ?_ ?_
 rotate_left
 ·rintro ⟨st8,H8⟩ φ8 _ ⟨rfl,hz8,hM8,hst8,aW8⟩
  dsimp only at hz8 hM8 hst8 aW8 ⊢
  have hpre:=notes_pre (outs next b s) L
  obtain ⟨r8,e8⟩:=hpre
  have hexL:∃ L',notes L (outs next b s) = L':=⟨_,rfl⟩
  obtain ⟨L',eL'⟩:=hexL
  rw [eL'] at hM8 hst8 aW8 hq2 e8
  have hrows:=rowsOf_ext hq.met hq.le e8
  have hsL':L'[a]? = some s:=by rw [e8,List.getElem?_append_left haL]; exact hs
  have htk:L'.take (a + 1) = L.take (a + 1):=by rw [e8,List.take_append_of_le_length (by omega)]
  have hbu:Built H H8 3 (slc W 0 b b) (rowOf next b L' s):=by
   refine .inr ⟨W,?_,by omega,true,?_⟩
   ·rw [show (rowOf next b L' s).length = b from by unfold rowOf; rw [List.length_map,List.length_range]]
   ·rw [aW8,partRow_full]
  have hnv:=hz8.next_ok
  obtain ⟨ay,eny⟩:=hnv
  rw [hNl] at eny
  subst eny
  have hs8:=hst8.slice
  obtain ⟨as8,rfl,-⟩:=hs8
  have z2:cellAt H8 Z 2 = some (.slice ay a a):=cellAt_row hz8.z rfl
  conv=>whnf
  refine ⟨_,z2,?_⟩
  conv=>whnf
  refine hz8.n_app (i:=2) (by omega) rfl hbu ?_
  intro nv9 H9 hnv9 hz9 kv9
  obtain ⟨a9,n9,rfl⟩:=hnv9
  have hz10:=hz9.put [int b,ov,.slice a9 n9 n9]
  conv=>whnf
  refine ⟨rfl,_,storeAt_row hz9.z (by simp) rfl,?_⟩
  conv=>whnf
  have eN:rowsOf next b L a ++ [rowOf next b L' s] = rowsOf next b L' (a + 1):=by
   rw [← hrows]
   unfold rowsOf
   rw [take_snoc hsL',List.map_append]; rfl
  have hz10a:=hz10.1
  rw [eN,← htk] at hz10a
  exact ⟨(L',_,ov,_,_,_),⟨rfl,rfl,rfl,rfl,rfl,rfl,rfl,rfl,trivial⟩,⟨rfl,hq2,hz10a,hz10.2.map (by simp) (kv9.map (by simp) hM8),hz10.2.builtC mem1 (kv9.builtC mem1 hst8)⟩,rfl⟩
 conv=>whnf
 refine SeqP.go ?_
 conv=>whnf
 refine loop_inv (α:=Nat×Value×Hp) (fun x=>[(46,int x.1),(45,int b),(13,slc W 0 b b),(12,int a),(11,x.2.1),(10,mapAt M),(9,ptr Z 0),(8,ptr R 0),(0,int b),(2,fo),(3,fn)]) (fun x=>x.2.2) (fun x=>x.1≤b∧MZ H x.2.2 25 Z ov nv ((L.take (a + 1)).map out) us (rowsOf next b L a) [int b,ov,nv] [pl M,x.2.1,slc W 0 b b]∧Nums x.2.2 M encP (notes L (outsN next s x.1))∧BuiltC H x.2.2 136 2 x.2.1 (notes L (outsN next s x.1)).length (fl2 (notes L (outsN next s x.1)))∧x.2.2.at W = some (.row 3 true (partRow next b (notes L (outsN next s x.1)) s x.1))) (fun x=>b - x.1) (0,slc rst 0 L.length L.length,H7) ⟨Nat.zero_le _,hz7,hM7,hst7,aW7⟩ ⟨rfl,rfl,rfl,rfl,rfl,rfl,rfl,rfl,rfl,rfl,rfl,trivial⟩ (Hp.Le.refl _) ?_
 rintro ⟨d,st8,H8⟩ φ8 ⟨hd,hz8,hM8,hst8,aW8⟩
 dsimp only at hd hz8 hM8 hst8 aW8 ⊢
 clear hz7 hM7 hst7 aW7
 conv=>whnf
 repeat (refine SeqP.go ?_; conv=>whnf)
 refine cmpB (fun q2=>?_) (fun q2=>?_)
 rotate_left
 ·have:d = b:=by omega
  subst this
  conv=>whnf
  exact ⟨(st8,H8),⟨rfl,rfl,rfl,rfl,rfl,rfl,rfl,rfl,rfl,trivial⟩,⟨rfl,hz8,hM8,hst8,aW8⟩,rfl⟩
 have hdb:d < b:=by omega
 have hpre:=notes_pre (outsN next s d) L
 obtain ⟨r8,e8⟩:=hpre
 have hfew8:=notesN_few hU hq hsU hd
 have hfew9:=notesN_few hU hq hsU (d:=d + 1) (by omega)
 have hin8:∀ j,j < d→next s j ∈ notes L (outsN next s d):=fun j hj=>notes_mem (outsN_mem hj)
 rw [outsN_succ,notes_snoc] at hfew9
 have hsucc:notes L (outsN next s (d + 1)) = note (notes L (outsN next s d)) (next s d):=by rw [outsN_succ,notes_snoc]
 have hexL:∃ L',notes L (outsN next s d) = L':=⟨_,rfl⟩
 obtain ⟨L',eL'⟩:=hexL
 rw [eL'] at hM8 hst8 aW8 e8 hfew8 hfew9 hin8 hsucc
 have hsL':L'[a]? = some s:=by rw [e8,List.getElem?_append_left haL]; exact hs
 have hsk8:=hst8.slice
 obtain ⟨as8,rfl,-⟩:=hsk8
 have hsc8:=fl2_cell hst8 hsL'
 obtain ⟨rs8,ers8,hsc8⟩:=hsc8
 cases ers8
 have haL':a < L'.length:=by rw [e8,List.length_append]; omega
 conv=>whnf
 refine SeqP.go ?_
 conv=>whnf
 refine SeqP.cut (α:=Value×Hp) (fun x=>[(46,int d),(45,int b),(13,slc W 0 b b),(12,int a),(11,x.1),(10,mapAt M),(9,ptr Z 0),(8,ptr R 0),(0,int b),(2,fo),(3,fn)]) (fun x H9=>x.2 = H9∧MZ H x.2 25 Z ov nv ((L.take (a + 1)).map out) us (rowsOf next b L a) [int b,ov,nv] [pl M,x.1,slc W 0 b b]∧Nums x.2 M encP (note L' (next s d))∧BuiltC H x.2 136 2 x.1 (note L' (next s d)).length (fl2 (note L' (next s d)))∧x.2.at W = some (.row 3 true (partRow next b (note L' (next s d)) s (d + 1)))) ?_ ?_
 rotate_left
 ·rintro ⟨st9,H9⟩ φ9 _ ⟨rfl,hz9,hM9,hst9,aW9⟩
  dsimp only at hz9 hM9 hst9 aW9 ⊢
  rw [← hsucc] at hM9 hst9 aW9
  conv=>whnf
  refine ⟨((d + 1:Nat):Int),wie (by omega) (by omega),?_⟩
  conv=>whnf
  exact Rnd.mk (d + 1,st9,H9) ⟨by show d + 1≤b; omega,hz9,hM9,hst9,aW9⟩ (by show b - (d + 1) < b - d; omega) ⟨rfl,rfl,rfl,rfl,rfl,rfl,rfl,rfl,rfl,rfl,rfl,trivial⟩ (Hp.Le.refl _) rfl
 have hext:∃ t,next s d = t:=⟨_,rfl⟩
 obtain ⟨t,et⟩:=hext
 have hn2:=hn.2 s hsU d hdb H8 (gH.trans hz8.gr)
 rw [et] at hfew9 hn2 ⊢
 conv=>whnf
 refine SeqP.go ?_
 conv=>whnf
 refine SeqP.cut (α:=Nat×Hp) (fun x=>[(15,ptr x.1 0),(14,int d),(46,int d),(45,int b),(13,slc W 0 b b),(12,int a),(11,slc rs8 0 L'.length L'.length),(10,mapAt M),(9,ptr Z 0),(8,ptr R 0),(0,int b),(2,fo),(3,fn)]) (fun x H9=>x.2 = H9∧Grows H8 x.2∧x.2.at x.1 = some (.row 136 true [int t.1,int t.2])∧H8.next≤x.1) ?_ ?_
 ·conv=>whnf
  refine ⟨rfl,⟨by omega,by omega⟩,?_⟩
  conv=>whnf
  refine ⟨_,hsc8,?_⟩
  rw [← efn]
  conv=>whnf
  refine ⟨hn.1,?_⟩
  refine CallP.mono hn2 ?_
  rintro _ H9 ⟨rfl,g9⟩
  unfold encP
  conv=>whnf
  refine ⟨rfl,_,storeAt_all (vs:=[int t.1,int t.2]) rfl rfl rfl,?_⟩
  conv=>whnf
  exact ⟨(H9.next,_),⟨rfl,rfl,rfl,rfl,rfl,rfl,rfl,rfl,rfl,rfl,rfl,rfl,rfl,trivial⟩,⟨rfl,g9.then_lay _,Hp.at_lay_self _ _,g9.next⟩,rfl⟩
 rintro ⟨x15,H9⟩ φ9 _ ⟨rfl,g9,aK,hx15⟩
 dsimp only at g9 aK hx15 ⊢
 have hne15:ad (slc rs8 0 L'.length L'.length)≠some x15:=fun e=>by
  have h1:=(hst8.ad_lt rs8 rfl).2
  cases e
  omega
 have hz9:=hz8.ext g9
 have hM9:=hM8.ext g9
 have hst9:=hst8.ext g9
 have aW9:=g9.at_ _ _ aW8
 have hgW:=hz8.gr.next
 conv=>whnf
 refine SeqP.cut (α:=Value×Hp) (fun x=>[(15,ptr x15 0),(14,int d),(46,int d),(45,int b),(13,slc W 0 b b),(12,int a),(11,x.1),(10,mapAt M),(9,ptr Z 0),(8,ptr R 0),(0,int b),(2,fo),(3,fn)]) (fun x H10=>x.2 = H10∧MZ H x.2 25 Z ov nv ((L.take (a + 1)).map out) us (rowsOf next b L a) [int b,ov,nv] [pl M,x.1,slc W 0 b b]∧Nums x.2 M encP (note L' t)∧BuiltC H x.2 136 2 x.1 (note L' t).length (fl2 (note L' t))∧x.2.at W = some (.row 3 true (partRow next b L' s d))∧x.2.at x15 = some (.row 136 true [int t.1,int t.2])) ?_ ?_
 rotate_left
 ·rintro ⟨st10,H10⟩ φ10 _ ⟨rfl,hz10,hM10,hst10,aW10,aK10⟩
  dsimp only at hz10 hM10 hst10 aW10 aK10 ⊢
  have htin:t ∈ note L' t:=note_mem L' t
  have hpre2:=note_pre L' t
  obtain ⟨r10,e10⟩:=hpre2
  have hstep:=partRow_step (b:=b) (L':=note L' t) hin8 e10
  rw [et] at hstep
  have hsk10:=hst10.slice
  obtain ⟨as10,rfl,-⟩:=hsk10
  conv=>whnf
  refine ⟨_,all_cells aK10 rfl,?_⟩
  conv=>whnf
  refine raw_look1_some tM dM t3 z3 key136 (k:=t) rfl rfl hM10 (fN_some htin) ?_
  conv=>whnf
  refine ⟨rfl,⟨by omega,by omega⟩,?_⟩
  conv=>whnf
  refine ⟨rfl,_,storeAt_off aW10 (by unfold partRow; rw [rowV_length]; omega) rfl,?_⟩
  conv=>whnf
  have hx:Kx (ad (slc W 0 b b)) H10 (H10.set W (.row 3 true (partRow next b (note L' t) s (d + 1)))):=Kx.set _ _ _
  have htz:=hz10.touch (i:=2) rfl hx (hz10.gr.then_set _ (by omega)) (by rw [Hp.next_set]; exact Nat.le_refl _)
  rw [← hstep] at htz
  refine ⟨(_,H10.set W (.row 3 true ((partRow next b L' s d).set d (int (ixOf (note L' t) t:Nat))))),⟨rfl,rfl,rfl,rfl,rfl,rfl,rfl,rfl,rfl,rfl,rfl,trivial⟩,⟨rfl,htz.1,htz.2.map (by simp) hM10,htz.2.builtC mem1 hst10,?_⟩,rfl⟩
  show (H10.set W _).at W = _
  rw [Hp.at_set_self _ (Hp.lt_of_at aW10),hstep]
 by_cases hin:t ∈ L'
 ·have hnote:note L' t = L':=by unfold note; rw [if_pos hin]
  rw [hnote]
  conv=>whnf
  refine SeqP.go ?_
  conv=>whnf
  refine ⟨_,all_cells aK rfl,?_⟩
  conv=>whnf
  refine raw_look2_some tM dM t3 z3 key136 (k:=t) rfl rfl hM9 (fN_some hin) ?_
  conv=>whnf
  repeat (refine SeqP.go ?_; conv=>whnf)
  exact ⟨(_,H9),⟨rfl,rfl,rfl,rfl,rfl,rfl,rfl,rfl,rfl,rfl,rfl,rfl,rfl,trivial⟩,⟨rfl,hz9,hM9,hst9,aW9,aK⟩,rfl⟩
 ·have hnote:note L' t = L' ++ [t]:=by unfold note; rw [if_neg hin]
  have hnl:(L' ++ [t]).length = L'.length + 1:=by rw [List.length_append]; rfl
  rw [hnote] at hfew9 ⊢
  conv=>whnf
  refine SeqP.go ?_
  conv=>whnf
  refine ⟨_,all_cells aK rfl,?_⟩
  conv=>whnf
  refine raw_look2_none tM dM t3 z3 key136 (k:=t) rfl rfl hM9 (fN_none hin) ?_
  conv=>whnf
  repeat (refine SeqP.go ?_; conv=>whnf)
  refine ⟨_,all_cells aK rfl,?_⟩
  conv=>whnf
  refine raw_update tM dM key136 (k:=t) (v:=int L'.length) rfl rfl rfl hM9 ?_
  intro H10 hM10 y10
  have htz:=hz9.touch (i:=0) (v:=pl M) rfl (Kx.keeps y10) (y10.grows hz9.gr hMge) (by rw [y10.next]; exact Nat.le_refl _)
  have hM10':=Nums.add hin hM10
  have hst10:=htz.2.builtC (v:=slc rs8 0 L'.length L'.length) mem1 hst9
  have hMW:M≠W:=fun e=>by
   have:=hz9.sep.ap 3 5 (pl M) (slc W 0 b b) (by decide) rfl rfl M rfl
   exact this (by rw [e]; rfl)
  have aW10:=y10.at_ _ _ (fun e=>hMW e.symm) aW9
  have hzz:=htz.1
  have aK10:H10.at x15 = some (.row 136 true [int t.1,int t.2]):=y10.at_ _ _ (fun e=>by
   obtain ⟨_,_,h1,_⟩:=hM8
   have h2:=Hp.lt_of_at h1
   have h3:=hx15
   omega) aK
  conv=>whnf
  refine ⟨_,all_cells aK10 rfl,?_⟩
  conv=>whnf
  refine hzz.c_app (i:=1) (n:=L'.length) (cl:=fl2 L') (new:=[int t.1,int t.2]) rfl hst10 rfl rfl (by omega) (by omega) ?_
  intro st11 H11 hst11e hst11 hz11 kv11 kx11
  obtain ⟨a11,n11,rfl⟩:=hst11e
  have hM11:=kv11.map (M:=M) (by simp) hM10'
  have aW11:=kv11.at_ (v:=slc W 0 b b) mem2 rfl aW10
  conv=>whnf
  exact ⟨(_,H11),⟨rfl,rfl,rfl,rfl,rfl,rfl,rfl,rfl,rfl,rfl,rfl,rfl,rfl,trivial⟩,⟨rfl,hz11,hM11,by rw [fl2_app,hnl]; exact hst11,aW11,kx11.at_ aK10 hne15⟩,rfl⟩
end
end Go.Proofs.Ytedneplaibmppaa
