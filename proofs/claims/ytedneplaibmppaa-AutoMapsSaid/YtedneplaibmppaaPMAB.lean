/- Contracts of the functions that PMAH comes to. -/
import Derived.Test.YtedneplaibmppaaPMAA
import Derived.Test.YtedneplaibmppaaWx21
import Derived.KernelRfl
set_option maxRecDepth 100000
set_option maxHeartbeats 2000000
set_option linter.unusedVariables false
set_option linter.unusedSectionVars false
set_option linter.unusedSimpArgs false
namespace Go.Proofs.Ytedneplaibmppaa
open Go.Rx Go.RowKit
structure OkS (m:Mac):Prop where
 ok:m.Ok
 zer:m.Zer
 ck:OkI m.i
theorem OkS.b2 {m:Mac}(h:OkS m):2≤m.base:=by have:(2:Int)≤(m.base:Int):=h.ck.b2; omega
theorem OkS.b5 {m:Mac}(h:OkS m):m.base≤5:=by have:(m.base:Int)≤5:=h.ck.b5; omega
theorem OkS.n12 {m:Mac}(h:OkS m):m.out.length≤12:=h.ck.n12
theorem OkS.outs {m:Mac}(h:OkS m):∀ x ∈ m.out,0≤x∧x≤9:=h.ck.outs
theorem OkS.o {m:Mac}(h:OkS m){s:Nat}(hs:s < m.out.length):0≤m.o s∧m.o s≤9:=fC (P:=fun x=>0≤x∧x≤9) h.outs hs
theorem OkS.lens {m:Mac}(h:OkS m):m.i.out.length≤1000000∧m.i.next.length≤1000000∧∀ s,(rw_ m.i.next s).length≤1000000:=by
 have h1:=h.n12;have h2:=h.ok.vC;have h3:=h.b5;refine ⟨by show m.out.length≤_; omega,by omega,fun s=>?_⟩;by_cases hs:s < m.out.length
 ·rw [h.ok.Vb hs]; omega
 ·have:rw_ m.i.next s = []:=by
   unfold rw_; rw [List.getD_eq_getElem?_getD,List.getElem?_eq_none (by omega)]; rfl
  rw [this]; simp
theorem Ve {l:List Int}(h:∀ x ∈ l,0≤x):(l.map Int.toNat).map (fun n:Nat=>(n:Int)) = l:=by
 rw [List.map_map]
 conv=>rhs; rw [← List.map_id l]
 refine List.map_congr_left fun x hx=>?_;have:=h x hx;show ((x.toNat:Nat):Int) = x;omega
theorem aa7 {b:Nat}{O:List Int}{N:List (List Int)}(h:∀ l ∈ N,∀ x ∈ l,0≤x):(⟨b,O,N.map fun l=>l.map Int.toNat⟩:Mac).i = ⟨b,O,N⟩:=by
 unfold Mac.i;dsimp only;rw [List.map_map]
 congr 1
 conv=>rhs; rw [← List.map_id N]
 exact List.map_congr_left fun l hl=>Ve (h l hl)
theorem Zq {M:jh}(h:OkI M):∃ m:Mac,m.i = M∧OkS m∧(m.base:Int) = M.base∧m.out = M.out:=by
 obtain ⟨B,O,N⟩:=M;have hb2:=h.b2;dsimp only at hb2;obtain ⟨b,rfl⟩:∃ b:Nat,B = b:=⟨B.toNat,by omega⟩;have hnn:∀ l ∈ N,∀ x ∈ l,0≤x:=fun l hl x hx=>by
  obtain ⟨i,hi,rfl⟩:=List.getElem_of_mem hl;have:=(h.rows i (by rw [← h.len]; exact hi)).lt x (by rw [Av hi]; exact hx);exact this.1
 have e:=aa7 (b:=b) (O:=O) hnn;refine ⟨⟨b,O,N.map fun l=>l.map Int.toNat⟩,e,?_,rfl,rfl⟩;have hck:OkI (⟨b,O,N.map fun l=>l.map Int.toNat⟩:Mac).i:=by rw [e]; exact h
 have hrl:∀ s,s < O.length→((N.map fun l=>l.map Int.toNat).getD s []).length = b:=fun s hs=>by
  have h1:=(hck.rows s hs).len;rw [Mac.Ti,List.length_map] at h1;have h2:((⟨b,O,N.map fun l=>l.map Int.toNat⟩:Mac).i.base) = (b:Int):=rfl;rw [h2] at h1;dsimp only at h1;omega
 refine ⟨⟨by show 1≤b; omega,h.n1,by show (N.map _).length = O.length; rw [List.length_map]; exact h.len,hrl,fun s d hs hd=>?_⟩,fun s hs=>?_,hck⟩
 ·have h1:=(hck.rows s hs);have h2:d < (rw_ (⟨b,O,N.map fun l=>l.map Int.toNat⟩:Mac).i.next s).length:=by
   rw [Mac.Ti,List.length_map,hrl s hs]; exact hd
  have h3:=fC (P:=fun x=>0≤x∧x < (O.length:Int)) h1.lt h2;rw [Mac.XZ] at h3;show Mac.nx _ s d < O.length;omega
 ·have h1:=(hck.rows s hs).zer;rw [Mac.XZ,Int.toNat_natCast] at h1;exact h1
theorem aa8 {l:List Int}{x:Int}{j:Nat}(h:j < l.length):gl (l ++ [x]) j = gl l j:=by
 unfold gl;rw [List.getD_eq_getElem?_getD,List.getD_eq_getElem?_getD,List.getElem?_append_left h]
theorem aa9 {L:List (List Int)}{x:List Int}{j:Nat}(h:j < L.length):rw_ (L ++ [x]) j = rw_ L j:=by
 unfold rw_;rw [List.getD_eq_getElem?_getD,List.getD_eq_getElem?_getD,List.getElem?_append_left h]
theorem Zr (L:List (List Int))(x:List Int):rw_ (L ++ [x]) L.length = x:=by
 unfold rw_;rw [List.getD_eq_getElem?_getD,List.getElem?_append_right (Nat.le_refl _)];simp
theorem O8 {l:List Int}{x:Int}{P:Int→Prop}(h:∀ y ∈ l,P y)(hx:P x):∀ y ∈ l ++ [x],P y:=fun y hy=>by
 rcases List.mem_append.1 hy with hy | hy
 ·exact h y hy
 ·rw [List.mem_singleton.1 hy]; exact hx
def X0 (O:List Int)(b:Nat)(s:Nat)(row:List Int):Prop:=row.length = b∧(∀ x ∈ row,0≤x∧x < (O.length:Int))∧gl O (gl row 0).toNat = gl O s
def O9 (O:List Int)(r:Nat)(s:Nat)(row:List Int):Prop:=row.length = r∧(∀ x ∈ row,0≤x∧x < (O.length:Int))∧(0 < r→gl O (gl row 0).toNat = gl O s)
theorem O9.add {O:List Int}{r s:Nat}{row:List Int}(k:O9 O r s row){t:Int}(ht:0≤t∧t < (O.length:Int))(hz:r = 0→gl O t.toNat = gl O s):O9 O (r + 1) s (row ++ [t]):=by
 obtain ⟨h1,h2,h3⟩:=k;refine ⟨by rw [List.length_append,h1]; rfl,O8 (P:=fun x=>0≤x∧x < (O.length:Int)) h2 ht,fun _=>?_⟩;by_cases h:r = 0
 ·have:row = []:=List.eq_nil_of_length_eq_zero (by omega);rw [this];exact hz h
 ·rw [aa8 (by omega)];exact h3 (by omega)
theorem abb {b:Nat}{O:List Int}{N:List (List Int)}(hb:2≤b∧b≤5)(h1:1≤O.length)(h2:O.length≤12)(ho:∀ x ∈ O,0≤x∧x≤9)(hl:N.length = O.length)(hr:∀ s,s < N.length→X0 O b s (rw_ N s)):OkI ⟨b,O,N⟩ :=
 ⟨by show (2:Int)≤b; omega,by show (b:Int)≤5; omega,h1,h2,ho,hl,fun s hs=>by
  obtain ⟨a1,a2,a3⟩:=hr s (by rw [hl]; exact hs);exact ⟨by show ((rw_ N s).length:Int) = b; omega,a2,a3⟩⟩
structure Lens (M:jh):Prop where
 o:M.out.length < 9223372036854775808
 n:M.next.length < 9223372036854775808
 r:∀ s,(rw_ M.next s).length < 9223372036854775808
attribute [local irreducible] E iJ cellAt bJ storeAt callable dh dG dO findKey dZ bP Hp.at Hp.set Hp.lay dL cO setAt aJ dx bO dz Rnd gq fB gY Int.tmod Int.tdiv Int.fdiv
section
variable [bC]
attribute [local irreducible] kV sameAt j6
theorem Em (v:Value)(M:jh)(b most:Nat)(h:Hp)(hv:MV h v M)(hL:Lens M)(hb:2≤b∧b≤5)(hm:1≤most∧most≤12):aJ E 37 [v,int b,int most] h (fun r h'=>(∃ m:Mac,OkS m∧m.base = b∧m.out.length≤most∧jY h h' r m.i)∧aA h h'):=by
 obtain ⟨bx,rfl,hbx⟩:=hv.box;obtain ⟨ao,an,co,cn,hcx⟩:=hbx.cx;have hLo:=hL.o;have hLn:=hL.n;refine enter37 (by simp) ?_;conv=>whnf
 refine aC.cut (α:=Hp) (fun _=>[(3,ptr h.next 0),(6,ptr (h.next + 1) 0),(2,int most),(1,int b)]) (fun x H=>x = H∧aA h H∧H.at h.next = some (.row 25 true bx)∧H.at (h.next + 1) = some (.row 26 true [int 0,aN,aN])∧H.next = h.next + 2) ?_ ?_
 ·conv=>whnf
  have n1:(h.lay (.row 25 true bx)).next = h.next + 1:=Hp.bF _ _;exact ⟨_,⟨rfl,congrArg (fun k=>ptr k 0) n1,rfl,rfl,trivial⟩,⟨rfl,(aA.lay _ _).bH _,Hp.bg _ (Hp.ak _ _),eB n1 (Hp.ak _ _),by rw [Hp.bF,n1]⟩,rfl⟩
 rintro H φ1 _ ⟨rfl,gH,aX,aR,nH⟩;have c1:=(hcx H h.next 25 gH aX).c1;conv=>whnf
 refine aC.cut (α:=Nat) (fun n=>[(7,int n),(3,ptr h.next 0),(6,ptr (h.next + 1) 0),(2,int most),(1,int b)]) (fun n H2=>H = H2∧1≤n∧n≤most) ?_ ?_
 ·conv=>whnf
  refine ⟨_,c1,?_⟩;conv=>whnf
  refine pX (v:=int (min (M.out.length:Int) most)) (h:=H) (congrArg (fun v=>fV.val v H) (Zo _ _)) ?_;conv=>whnf
  refine pX (v:=int (max 1 (min (M.out.length:Int) most))) (h:=H) (congrArg (fun v=>fV.val v H) (FQ _ _)) ?_;conv=>whnf
  refine ⟨(max 1 (min (M.out.length:Int) most)).toNat,⟨?_,rfl,rfl,rfl,rfl,trivial⟩,⟨rfl,by omega,by omega⟩,rfl⟩;exact congrArg int (by omega)
 rintro n φ2 _ ⟨rfl,hn1,hn2⟩;conv=>whnf
 refine aC.cut (α:=Hp) (fun _=>[(8,ptr H.next 0),(7,int n),(3,ptr h.next 0),(6,ptr (h.next + 1) 0),(1,int b)]) (fun x H2=>x = H2∧MZ H H2 26 H.next aN aN [] [] [] [int b,aN,aN] []) ?_ ?_
 ·conv=>whnf
  refine ⟨rfl,_,bX (vs:=[int b,aN,aN]) rfl rfl rfl,?_⟩;conv=>whnf
  exact ⟨_,⟨rfl,rfl,rfl,rfl,rfl,trivial⟩,⟨rfl,MZ.start (.refl _)⟩,rfl⟩
 rintro H2 φ3 _ ⟨rfl,hz⟩;have uh:∃ Z,H.next = Z:=⟨_,rfl⟩;obtain ⟨Z,eZ⟩:=uh;rw [eZ] at hz ⊢;conv=>whnf
 refine aC.cut (α:=Value×List Int×Hp) (fun _=>[(8,ptr Z 0),(7,int n),(3,ptr h.next 0),(6,ptr (h.next + 1) 0),(1,int b)]) (fun s H3=>s.2.2 = H3∧MZ H s.2.2 26 Z s.1 aN s.2.1 [] [] [int b,s.1,aN] []∧s.2.1.length = n∧∀ x ∈ s.2.1,0≤x∧x≤9) ?_ ?_
 ·conv=>whnf
  repeat (refine aC.go ?_; conv=>whnf)
  refine bT (α:=Nat×Value×List Int×Hp) (fun s=>[(9,int s.1),(8,ptr Z 0),(7,int n),(3,ptr h.next 0),(6,ptr (h.next + 1) 0),(1,int b)]) (fun s=>s.2.2.2) (fun s=>s.1≤n∧MZ H s.2.2.2 26 Z s.2.1 aN s.2.2.1 [] [] [int b,s.2.1,aN] []∧s.2.2.1.length = s.1∧∀ x ∈ s.2.2.1,0≤x∧x≤9) (fun s=>n - s.1) (0,aN,[],H2) ⟨Nat.zero_le _,hz,rfl,by simp⟩ ⟨rfl,rfl,rfl,rfl,rfl,rfl,trivial⟩ (Hp.Le.refl _) ?_;rintro ⟨k,ov,O,H3⟩ φ4 ⟨hk,hz3,hOl,hO⟩;dsimp only at hk hz3 hOl hO ⊢;have g3:=gH.trans hz3.gr;have aX3:=hz3.gr.at_ _ _ aX;have k3:=hcx H3 h.next 25 g3 aX3;have d1:=k3.c1;conv=>whnf
  repeat (refine aC.go ?_; conv=>whnf)
  refine dJ (fun q1=>?_) (fun q1=>?_);rotate_left
  ·have:k = n:=by omega
   conv=>whnf
   exact ⟨(ov,O,H3),⟨rfl,rfl,rfl,rfl,rfl,trivial⟩,⟨rfl,hz3,by show O.length = n; omega,hO⟩,rfl⟩
  conv=>whnf
  refine aC.cut (α:=Value×List Int×Hp) (fun s=>[(9,int k),(8,ptr Z 0),(7,int n),(3,ptr h.next 0),(6,ptr (h.next + 1) 0),(1,int b)]) (fun s H4=>s.2.2 = H4∧MZ H s.2.2 26 Z s.1 aN s.2.1 [] [] [int b,s.1,aN] []∧s.2.1.length = k + 1∧∀ x ∈ s.2.1,0≤x∧x≤9) ?_ ?_;rotate_left
  ·rintro ⟨ov4,O4,H4⟩ φ5 _ ⟨rfl,hz4,acd,hO4⟩;dsimp only at hz4 acd hO4 ⊢;conv=>whnf
   refine ⟨((k + 1:Nat):Int),wie (by omega) (by omega),?_⟩;conv=>whnf
   exact Rnd.mk (k + 1,ov4,O4,H4) ⟨by show k + 1≤n; omega,hz4,acd,hO4⟩ (by show n - (k + 1) < n - k; omega) ⟨rfl,rfl,rfl,rfl,rfl,rfl,trivial⟩ (Hp.Le.refl _) rfl
  conv=>whnf
  refine aC.go ?_;conv=>whnf
  refine aC.cut (α:=Int) (fun z=>[(10,int z),(9,int k),(8,ptr Z 0),(7,int n),(3,ptr h.next 0),(6,ptr (h.next + 1) 0),(1,int b)]) (fun z H4=>H3 = H4∧0≤z∧z≤9) ?_ ?_
  ·conv=>whnf
   repeat (refine aC.go ?_; conv=>whnf)
   refine ⟨_,d1,?_⟩;conv=>whnf
   refine dJ (fun q2=>?_) (fun q2=>?_);rotate_left
   ·conv=>whnf
    exact ⟨0,⟨rfl,rfl,rfl,rfl,rfl,rfl,rfl,trivial⟩,⟨rfl,by omega,by omega⟩,rfl⟩
   have ho:=k3.Ki (i:=k) (by omega);obtain ⟨r,o,sp,rfl,hsp,hco⟩:=ho;have hux:=QU (gl M.out k);obtain ⟨u,u0,u1,hu⟩:=hux;have e1:=L9 u0 (show (0:Int) < 10 by omega);conv=>whnf
   refine ⟨_,d1,?_⟩;conv=>whnf
   refine ⟨hsp,⟨by omega,by omega⟩,?_⟩;conv=>whnf
   refine ⟨_,hco,?_⟩;conv=>whnf
   refine ⟨u,hu,?_⟩;conv=>whnf
   refine ⟨by omega,?_⟩;conv=>whnf
   refine ⟨u.tmod 10,wid (by omega),?_⟩;conv=>whnf
   exact ⟨u.tmod 10,⟨rfl,rfl,rfl,rfl,rfl,rfl,rfl,trivial⟩,⟨rfl,by omega,by omega⟩,rfl⟩
  rintro z φ5 _ ⟨rfl,hz0,hz9⟩;have z1:cellAt H3 Z 1 = some ov:=bA hz3.z rfl;conv=>whnf
  repeat (refine aC.go ?_; conv=>whnf)
  refine ⟨_,z1,?_⟩;conv=>whnf
  refine hz3.EW (by omega) ?_;intro ov' H4 adL hz4 kv4;obtain ⟨a4,n4,rfl⟩:=adL;conv=>whnf
  refine ⟨rfl,_,dQ hz4.z (by simp) rfl,?_⟩;conv=>whnf
  exact ⟨(_,O ++ [z],_),⟨rfl,rfl,rfl,rfl,rfl,rfl,trivial⟩,⟨rfl,(hz4.put _).1,by show (O ++ [z]).length = k + 1; rw [List.length_append,hOl]; rfl,O8 (P:=fun x=>0≤x∧x≤9) hO ⟨hz0,hz9⟩⟩,rfl⟩
 rintro ⟨ov,O,H3⟩ φ4 _ ⟨rfl,hz3,hOl,hO⟩;dsimp only at hz3 hOl hO ⊢;conv=>whnf
 refine aC.cut (α:=Value×List Value×List (List Int)×Hp) (fun _=>[(8,ptr Z 0),(6,ptr (h.next + 1) 0)]) (fun s H4=>s.2.2.2 = H4∧MZ H s.2.2.2 26 Z ov s.1 O s.2.1 s.2.2.1 [int b,ov,s.1] [aN]∧s.2.2.1.length = n∧∀ s',s' < s.2.2.1.length→X0 O b s' (rw_ s.2.2.1 s')) ?_ ?_;rotate_left
 ·rintro ⟨nv,us,N,H4⟩ φ5 _ ⟨rfl,hz4,hNl,hN⟩;dsimp only at hz4 hNl hN ⊢;have hok:=abb hb (by omega) (by omega) hO (by omega) hN;have hmm:=Zq hok;obtain ⟨m,em,hms,hmb,hmo⟩:=hmm;have hmb:(m.base:Int) = (b:Int):=hmb;have hov:=hz4.jE;obtain ⟨ax,rfl⟩:=hov;have hnv:=hz4.jO;obtain ⟨ay,rfl⟩:=hnv;have aR4:=hz4.gr.at_ _ _ aR;have hzz:=(hz4.own (b:=b)).mv;conv=>whnf
  repeat (refine aC.go ?_; conv=>whnf)
  refine ⟨_,aI hz4.z rfl,?_⟩;conv=>whnf
  refine ⟨rfl,_,bE (vs:=[int b,.slice ax O.length O.length,.slice ay N.length N.length]) aR4 rfl rfl rfl,?_⟩;conv=>whnf
  repeat (refine aC.go ?_; conv=>whnf)
  obtain ⟨i26,t26,adM,adN⟩:=U9;have hZ:=hz4.hZ;refine fu (r:=h.next + 1) (o:=0) (cs:=[int b,.slice ax O.length O.length,.slice ay N.length N.length]) rfl t26 adM ?_ ?_
  ·rw [adN];exact aI (Hp.bB _ (Hp.aU aR4)) rfl
  ·have aeP:m.out.length = O.length:=by rw [hmo]
   have hown:=hz4.own (b:=b);refine ⟨⟨m,hms,by omega,by omega,?_⟩,(gH.trans hz4.gr).bQ _ (by omega)⟩;rw [em];have hx:∀ (e:TypeId) (sz k:Nat) (w:Value) (cs:List Value) (o:Rx.Obj),bD H H4 e sz w k cs→bD H (H4.set (h.next + 1) o) e sz w k cs:=fun e sz k w cs o hb=>p8 hb fun r o2 hr ho=>by
    rw [Hp.cu _ (by have:=(hb.iU r hr).1; omega)]; exact ho
   refine jY.back gH.next ⟨_,_,us,rfl,hx _ _ _ _ _ _ hz4.o,?_,hz4.ul,fun j u l e1 e2=>?_⟩
   ·have:=hx _ _ _ _ _ (.row 26 true [int b,.slice ax O.length O.length,.slice ay N.length N.length]) hz4.n;exact this
   ·have hb2:=hz4.ue j u l e1 e2;exact oK hb2 fun r o2 hr ho=>by
     rw [Hp.cu _ (by have:=(hb2.iU r hr).1; omega)]; exact ho
 conv=>whnf
 repeat (refine aC.go ?_; conv=>whnf)
 have adO:MZ H H3 26 Z ov aN O [] [] [int b,ov,aN] [aN]:=hz3.more (.refl _) (v:=aN) fun r e=>by cases e
 refine bT (α:=Nat×Value×List Value×List (List Int)×Hp) (fun s=>[(12,int s.1),(8,ptr Z 0),(7,int n),(3,ptr h.next 0),(6,ptr (h.next + 1) 0),(1,int b)]) (fun s=>s.2.2.2.2) (fun s=>s.1≤n∧MZ H s.2.2.2.2 26 Z ov s.2.1 O s.2.2.1 s.2.2.2.1 [int b,ov,s.2.1] [aN]∧s.2.2.2.1.length = s.1∧∀ s',s' < s.2.2.2.1.length→X0 O b s' (rw_ s.2.2.2.1 s')) (fun s=>n - s.1) (0,aN,[],[],H3) ⟨Nat.zero_le _,adO,rfl,fun s' hs=>by simp at hs⟩ ⟨rfl,rfl,rfl,rfl,rfl,rfl,trivial⟩ (Hp.Le.refl _) ?_;rintro ⟨k,nv,us,N,H4⟩ φ5 ⟨hk,hz4,hNl,hN⟩;dsimp only at hk hz4 hNl hN ⊢;conv=>whnf
 repeat (refine aC.go ?_; conv=>whnf)
 refine dJ (fun q1=>?_) (fun q1=>?_);rotate_left
 ·have:k = n:=by omega
  conv=>whnf
  exact ⟨(nv,us,N,H4),⟨rfl,rfl,trivial⟩,⟨rfl,hz4,by show N.length = n; omega,hN⟩,rfl⟩
 conv=>whnf
 refine aC.cut (α:=Value×List Value×List (List Int)×Hp) (fun s=>[(12,int k),(8,ptr Z 0),(7,int n),(3,ptr h.next 0),(6,ptr (h.next + 1) 0),(1,int b)]) (fun s H5=>s.2.2.2 = H5∧MZ H s.2.2.2 26 Z ov s.1 O s.2.1 s.2.2.1 [int b,ov,s.1] [aN]∧s.2.2.1.length = k + 1∧∀ s',s' < s.2.2.1.length→X0 O b s' (rw_ s.2.2.1 s')) ?_ ?_;rotate_left
 ·rintro ⟨nv5,us5,N5,H5⟩ φ6 _ ⟨rfl,hz5,ace,hN5⟩;dsimp only at hz5 ace hN5 ⊢;conv=>whnf
  refine ⟨((k + 1:Nat):Int),wie (by omega) (by omega),?_⟩;conv=>whnf
  exact Rnd.mk (k + 1,nv5,us5,N5,H5) ⟨by show k + 1≤n; omega,hz5,ace,hN5⟩ (by show n - (k + 1) < n - k; omega) ⟨rfl,rfl,rfl,rfl,rfl,rfl,trivial⟩ (Hp.Le.refl _) rfl
 conv=>whnf
 refine aC.go ?_;conv=>whnf
 refine aC.cut (α:=Value×List Int×Hp) (fun s=>[(13,s.1),(12,int k),(8,ptr Z 0),(7,int n),(3,ptr h.next 0),(6,ptr (h.next + 1) 0),(1,int b)]) (fun s H5=>s.2.2 = H5∧MZ H s.2.2 26 Z ov nv O us N [int b,ov,nv] [s.1]∧bD H s.2.2 3 1 s.1 s.2.1.length (s.2.1.map int)∧X0 O b k s.2.1) ?_ ?_;rotate_left
 ·rintro ⟨w,row,H5⟩ φ6 _ ⟨rfl,hz5,hw,hrow⟩;dsimp only at hz5 hw hrow ⊢;have z2:cellAt H5 Z 2 = some nv:=bA hz5.z rfl;have hws:=hw.slice;obtain ⟨aw,rfl,-⟩:=hws;conv=>whnf
  repeat (refine aC.go ?_; conv=>whnf)
  refine ⟨_,z2,?_⟩;conv=>whnf
  refine hz5.yT (i:=0) (by omega) rfl hw.b ?_;intro nv' H6 Q8 hz6 kv6;obtain ⟨a6,n6,rfl⟩:=Q8;conv=>whnf
  refine ⟨rfl,_,dQ hz6.z (by simp) rfl,?_⟩;conv=>whnf
  refine ⟨(_,_,N ++ [row],_),⟨rfl,rfl,rfl,rfl,rfl,rfl,trivial⟩,⟨rfl,(hz6.put _).1,by show (N ++ [row]).length = k + 1; rw [List.length_append,hNl]; rfl,fun s' hs'=>?_⟩,rfl⟩;rw [List.length_append,List.length_singleton] at hs';by_cases e:s' < N.length
  ·rw [aa9 e]; exact hN s' e
  ·have:s' = N.length:=by omega
   subst this;rw [Zr,hNl];exact hrow
 conv=>whnf
 repeat (refine aC.go ?_; conv=>whnf)
 refine bT (α:=Nat×Value×List Int×Hp) (fun s=>[(14,int s.1),(13,s.2.1),(12,int k),(8,ptr Z 0),(7,int n),(3,ptr h.next 0),(6,ptr (h.next + 1) 0),(1,int b)]) (fun s=>s.2.2.2) (fun s=>s.1≤b∧MZ H s.2.2.2 26 Z ov nv O us N [int b,ov,nv] [s.2.1]∧bD H s.2.2.2 3 1 s.2.1 s.2.2.1.length (s.2.2.1.map int)∧O9 O s.1 k s.2.2.1) (fun s=>b - s.1) (0,aN,[],H4) ⟨Nat.zero_le _,hz4,bD.nil,rfl,by simp,fun x=>absurd x (Nat.lt_irrefl _)⟩ ⟨rfl,rfl,rfl,rfl,rfl,rfl,rfl,rfl,trivial⟩ (Hp.Le.refl _) ?_;rintro ⟨r,w,row,H5⟩ φ6 ⟨hr,hz5,hw,hrow⟩;dsimp only at hr hz5 hw hrow ⊢;have g5:=gH.trans hz5.gr;have aX5:=hz5.gr.at_ _ _ aX;have k5:=hcx H5 h.next 25 g5 aX5;have d2:=k5.c2;have z1:cellAt H5 Z 1 = some ov:=bA hz5.z rfl;conv=>whnf
 repeat (refine aC.go ?_; conv=>whnf)
 refine dJ (fun q2=>?_) (fun q2=>?_);rotate_left
 ·have:r = b:=by omega
  subst this;conv=>whnf
  exact ⟨(w,row,H5),⟨rfl,rfl,rfl,rfl,rfl,rfl,rfl,trivial⟩,⟨rfl,hz5,hw,hrow.1,hrow.2.1,hrow.2.2 (by omega)⟩,rfl⟩
 conv=>whnf
 refine aC.cut (α:=Value×List Int×Hp) (fun s=>[(14,int r),(13,s.1),(12,int k),(8,ptr Z 0),(7,int n),(3,ptr h.next 0),(6,ptr (h.next + 1) 0),(1,int b)]) (fun s H6=>s.2.2 = H6∧MZ H s.2.2 26 Z ov nv O us N [int b,ov,nv] [s.1]∧bD H s.2.2 3 1 s.1 s.2.1.length (s.2.1.map int)∧O9 O (r + 1) k s.2.1) ?_ ?_;rotate_left
 ·rintro ⟨w6,adP,H6⟩ φ7 _ ⟨rfl,hz6,hw6,aaq⟩;dsimp only at hz6 hw6 aaq ⊢;conv=>whnf
  refine ⟨((r + 1:Nat):Int),wie (by omega) (by omega),?_⟩;conv=>whnf
  exact Rnd.mk (r + 1,w6,adP,H6) ⟨by show r + 1≤b; omega,hz6,hw6,aaq⟩ (by show b - (r + 1) < b - r; omega) ⟨rfl,rfl,rfl,rfl,rfl,rfl,rfl,rfl,trivial⟩ (Hp.Le.refl _) rfl
 conv=>whnf
 refine aC.go ?_;conv=>whnf
 refine aC.cut (α:=Nat) (fun t=>[(15,int t),(14,int r),(13,w),(12,int k),(8,ptr Z 0),(7,int n),(3,ptr h.next 0),(6,ptr (h.next + 1) 0),(1,int b)]) (fun t H6=>H5 = H6∧t < n) ?_ ?_
 ·conv=>whnf
  repeat (refine aC.go ?_; conv=>whnf)
  refine ⟨_,d2,?_⟩;conv=>whnf
  refine dJ (fun q3=>?_) (fun q3=>?_);rotate_left
  ·conv=>whnf
   exact ⟨k,⟨rfl,rfl,rfl,rfl,rfl,rfl,rfl,rfl,rfl,trivial⟩,⟨rfl,by omega⟩,rfl⟩
  have hro:=k5.rowAt (i:=k) (by omega);obtain ⟨r1,o1,sp1,a1,c1',rfl,hsp1,hc1,hv1⟩:=hro;have hLr:=hL.r k;conv=>whnf
  refine ⟨_,d2,?_⟩;conv=>whnf
  refine ⟨hsp1,⟨by omega,by omega⟩,?_⟩;conv=>whnf
  refine ⟨_,hc1,?_⟩;conv=>whnf
  refine dJ (fun q4=>?_) (fun q4=>?_);rotate_left
  ·conv=>whnf
   exact ⟨k,⟨rfl,rfl,rfl,rfl,rfl,rfl,rfl,rfl,rfl,trivial⟩,⟨rfl,by omega⟩,rfl⟩
  have hre:=View.iI hv1 (i:=r) (by omega);obtain ⟨r2,o2,sp2,rfl,hsp2,-,hc2⟩:=hre;have hux:=QU (gl (rw_ M.next k) r);obtain ⟨u,u0,u1,hu⟩:=hux;have e1:=L9 u0 (show (0:Int) < (n:Int) by omega);have adQ:=aa2 (n:=(n:Int)) (by omega);conv=>whnf
  refine ⟨_,d2,?_⟩;conv=>whnf
  refine ⟨hsp1,⟨by omega,by omega⟩,?_⟩;conv=>whnf
  refine ⟨_,hc1,?_⟩;conv=>whnf
  refine ⟨hsp2,⟨by omega,by omega⟩,?_⟩;conv=>whnf
  refine ⟨_,hc2,?_⟩;conv=>whnf
  refine ⟨u,hu,?_⟩;conv=>whnf
  refine ⟨(n:Int),adQ,?_⟩;conv=>whnf
  refine ⟨by omega,?_⟩;conv=>whnf
  refine ⟨u.tmod n,wid (by omega),?_⟩;conv=>whnf
  refine ⟨(u.tmod n).toNat,⟨congrArg int (by omega),rfl,rfl,rfl,rfl,rfl,rfl,rfl,rfl,trivial⟩,⟨rfl,by omega⟩,rfl⟩
 rintro t φ7 _ ⟨rfl,ht⟩;have hov:=hz5.jE;obtain ⟨ax,rfl⟩:=hov;have hvo:=hz5.o.view;have hct:=View.iI hvo (i:=t) (by omega);obtain ⟨r3,o3,sp3,rfl,ug,-,hc3⟩:=hct;have hck:=View.iI hvo (i:=k) (by omega);obtain ⟨r4,o4,sp4,e4,Fg,hc4⟩:=hck;cases e4
 obtain ⟨-,hc4⟩:=hc4;conv=>whnf
 refine aC.cut (α:=Nat) (fun t=>[(15,int t),(14,int r),(13,w),(12,int k),(8,ptr Z 0),(7,int n),(3,ptr h.next 0),(6,ptr (h.next + 1) 0),(1,int b)]) (fun t H6=>H5 = H6∧t < n∧(r = 0→gl O t = gl O k)) ?_ ?_
 ·conv=>whnf
  repeat (refine aC.go ?_; conv=>whnf)
  refine dJ (fun q3=>?_) (fun q3=>?_);rotate_left
  ·conv=>whnf
   exact ⟨t,⟨rfl,rfl,rfl,rfl,rfl,rfl,rfl,rfl,rfl,trivial⟩,⟨rfl,ht,fun e=>absurd (by omega) q3⟩,rfl⟩
  conv=>whnf
  refine ⟨_,z1,?_⟩;conv=>whnf
  refine ⟨ug,⟨by omega,by omega⟩,?_⟩;conv=>whnf
  refine ⟨_,hc3,?_⟩;conv=>whnf
  refine ⟨_,z1,?_⟩;conv=>whnf
  refine ⟨ug,⟨by omega,by omega⟩,?_⟩;conv=>whnf
  refine ⟨_,hc4,?_⟩;conv=>whnf
  refine dJ (fun q4=>?_) (fun q4=>?_)
  ·conv=>whnf
   exact ⟨k,⟨rfl,rfl,rfl,rfl,rfl,rfl,rfl,rfl,rfl,trivial⟩,⟨rfl,by omega,fun _=>rfl⟩,rfl⟩
  ·conv=>whnf
   exact ⟨t,⟨rfl,rfl,rfl,rfl,rfl,rfl,rfl,rfl,rfl,trivial⟩,⟨rfl,ht,fun _=>Classical.byContradiction q4⟩,rfl⟩
 rintro t2 φ8 _ ⟨rfl,ht2,hz2⟩;conv=>whnf
 repeat (refine aC.go ?_; conv=>whnf)
 refine hz5.Kh (i:=0) rfl hw (by have:=hrow.1; omega) ?_;intro w' H6 hw' hb6 hz6 kv6;obtain ⟨a6,n6,rfl⟩:=hw';conv=>whnf
 exact ⟨(_,row ++ [(t2:Int)],H6),⟨rfl,rfl,rfl,rfl,rfl,rfl,rfl,rfl,trivial⟩,⟨rfl,hz6,hb6,hrow.add ⟨by omega,by omega⟩ fun e=>by rw [Int.toNat_natCast]; exact hz2 e⟩,rfl⟩
end
end Go.Proofs.Ytedneplaibmppaa
namespace Go.Proofs.Ytedneplaibmppaa
open Go.Rx Go.RowKit
def Q9 (M:jh):jh:=⟨M.base,M.out.take 13,(M.next.take 13).map fun l=>l.take 26⟩
theorem Zt {M:jh}(h1:M.out.length≤13)(h2:M.next.length≤13)(h3:∀ l ∈ M.next,l.length≤26):Q9 M = M:=by
 obtain ⟨b,o,n⟩:=M;unfold Q9;dsimp only at h1 h2 h3 ⊢;rw [List.take_of_length_le h1,List.take_of_length_le h2]
 congr 1
 conv=>rhs; rw [← List.map_id n]
 exact List.map_congr_left fun l hl=>List.take_of_length_le (h3 l hl)
theorem MZ.X3 {h H hb:Hp}{tz Z:Nat}{ov:Value}{O:List Int}{cs:List Value}(g:aA h H)(hz:H.at Z = some (.row tz true cs))(hZ:h.next≤Z)(hb1:Z < hb.next)(hbn:h.next≤hb.next)(ho:bD hb H 3 1 ov O.length (O.map int)):MZ h H tz Z ov aN O [] [] cs [] :=
 ⟨g,hz,ho.back hbn,bD.nil,rfl,fun k u l e=>by simp at e,hZ,by
  have hlt:=Hp.aU hz;refine ⟨fun v hv r e=>?_,fun u hu=>by simp at hu,fun i j v u hij hi hj=>?_,fun v hv u hu=>by simp at hu⟩
  ·simp at hv;rcases hv with rfl | rfl | rfl
   ·cases e; exact hlt
   ·exact (ho.iU r e).2
   ·cases e
  ·match i,j,hi,hj with
   | 0,0,_,_=>exact absurd rfl hij
   | 1,1,_,_=>exact absurd rfl hij
   | 0,1,hi,hj=>cases hi; cases hj; intro r e1 e2; cases e1; have:=(ho.iU _ e2).1; omega
   | 1,0,hi,hj=>cases hi; cases hj; intro r e1 e2; cases e2; have:=(ho.iU _ e1).1; omega
   | 0,2,hi,hj=>cases hj; exact (Ap.nil _).symm
   | 1,2,hi,hj=>cases hj; exact (Ap.nil _).symm
   | 0,j + 3,hi,hj=>simp at hj
   | 1,j + 3,hi,hj=>simp at hj
   | 2,_,hi,hj=>cases hi; exact Ap.nil _
   | i + 3,_,hi,_=>simp at hi⟩
theorem MZ.leave {h hb H:Hp}{tz Z R:Nat}{ov nv:Value}{O:List Int}{us:List Value}{N:List (List Int)}{cs rs:List Value}(k:MZ hb H tz Z ov nv O us N cs rs)(hR:R < hb.next)(hR2:h.next≤R)(g:aA h hb)(b:Int)(o:Rx.Obj):jY h (H.set R o) (.agg ⟨[int b,ov,nv]⟩) ⟨b,O,N⟩∧aA h (H.set R o):=by
 have hx:∀ (e:TypeId) (sz j:Nat) (w:Value) (cs:List Value),bD hb H e sz w j cs→bD hb (H.set R o) e sz w j cs:=fun e sz j w cs hc=>p8 hc fun r o2 hr ho=>by
  rw [Hp.cu _ (by have:=(hc.iU r hr).1; omega)]; exact ho
 refine ⟨jY.back g.next ⟨_,_,us,rfl,hx _ _ _ _ _ k.o,hx _ _ _ _ _ k.n,k.ul,fun j u l e1 e2=>?_⟩,(g.trans k.gr).bQ _ hR2⟩;have hb2:=k.ue j u l e1 e2;exact oK hb2 fun r o2 hr ho=>by
  rw [Hp.cu _ (by have:=(hb2.iU r hr).1; omega)]; exact ho
theorem wT {L:List (List Int)}{k:Nat}(h:k < L.length):L.take (k + 1) = L.take k ++ [rw_ L k]:=by
 rw [List.take_succ_eq_append_getElem h,Av h]
attribute [local irreducible] E iJ cellAt bJ storeAt callable dh dG dO findKey dZ bP Hp.at Hp.set Hp.lay dL cO setAt aJ dx bO dz Rnd gq fB gY Int.tmod Int.tdiv Int.fdiv
section
variable [bC]
attribute [local irreducible] kV sameAt j6
theorem Da (v:Value)(M:jh)(h:Hp)(hv:MV h v M)(hL:Lens M):aJ E 17 [v] h (fun r h'=>jY h h' r (Q9 M)∧aA h h'):=by
 obtain ⟨bx,rfl,hbx⟩:=hv.box;obtain ⟨ao,an,co,cn,hcx⟩:=hbx.cx;have hLo:=hL.o;have hLn:=hL.n;refine enter17 (by simp) ?_;conv=>whnf
 refine aC.cut (α:=Hp) (fun _=>[(1,ptr h.next 0),(2,ptr (h.next + 1) 0)]) (fun x H=>x = H∧aA h H∧H.at h.next = some (.row 25 true bx)∧H.at (h.next + 1) = some (.row 26 true [int 0,aN,aN])∧H.next = h.next + 2) ?_ ?_
 ·conv=>whnf
  have n1:(h.lay (.row 25 true bx)).next = h.next + 1:=Hp.bF _ _;exact ⟨_,⟨rfl,congrArg (fun k=>ptr k 0) n1,trivial⟩,⟨rfl,(aA.lay _ _).bH _,Hp.bg _ (Hp.ak _ _),eB n1 (Hp.ak _ _),by rw [Hp.bF,n1]⟩,rfl⟩
 rintro H φ1 _ ⟨rfl,gH,aX,aR,nH⟩;have gL:aA H (H.lay (.row 26 true [int 0,aN,aN])):=aA.lay _ _;have kL:=hcx _ h.next 25 (gH.trans gL) (gL.at_ _ _ aX);have c0:=kL.c0;have c1:=kL.c1;have aZ:(H.lay (.row 26 true [int 0,aN,aN])).at H.next = some (.row 26 true [int 0,aN,aN]):=Hp.ak _ _;have nL:(H.lay (.row 26 true [int 0,aN,aN])).next = H.next + 1:=Hp.bF _ _;conv=>whnf
 refine aC.cut (α:=Value×Hp) (fun s=>[(3,ptr H.next 0),(1,ptr h.next 0),(2,ptr (h.next + 1) 0)]) (fun s H2=>s.2 = H2∧MZ H s.2 26 H.next s.1 aN (M.out.take 13) [] [] [int M.base,s.1,aN] []) ?_ ?_
 ·conv=>whnf
  refine ⟨_,c0,?_⟩;conv=>whnf
  refine ⟨_,c1,?_⟩;conv=>whnf
  refine aJ.mono (C9 _ M.out _ kL.o hLo 13 (by omega)) ?_;rintro r H2 ⟨hb2,g2⟩;have hz2:MZ H H2 26 H.next r aN (M.out.take 13) [] [] [int 0,aN,aN] []:=MZ.X3 (hb:=H.lay (.row 26 true [int 0,aN,aN])) (gL.trans g2) (g2.at_ _ _ aZ) (Nat.le_refl _) (by rw [nL]; omega) (by rw [nL]; omega) hb2.c;have hzo:=hz2.jE;obtain ⟨ax,rfl⟩:=hzo;have c0':=g2.cell c0;have c1':=g2.cell c1;conv=>whnf
  refine ⟨rfl,_,bE (vs:=[int M.base,.slice ax (M.out.take 13).length (M.out.take 13).length,aN]) hz2.z rfl rfl rfl,?_⟩;conv=>whnf
  refine ⟨?_,?_⟩
  ·repeat' (first | exact True.intro | (refine And.intro ?_ ?_ <;> (conv=>whnf)))
   all_goals first
    | exact aj (h2:=_) rfl (bS _ _)
    | exact aj (h2:=_) rfl (aD _ _ _)
    | exact aj (h2:=_) (congrArg (hval _) c0) (aM _)
    | exact aj (h2:=_) (congrArg (hval _) c0') (aM _)
    | exact aj (h2:=_) (congrArg (hval _) c1) (aD _ _ _)
    | exact aj (h2:=_) (congrArg (hval _) c1') (aD _ _ _)
    | exact ⟨_,rfl,Hp.ak _ _,rfl⟩
    | exact ⟨H.next,rfl,g2.at_ _ _ aZ,rfl⟩
    | exact ⟨H.next,rfl,aZ,rfl⟩
    | trace_state
  exact ⟨(_,_),⟨rfl,rfl,rfl,trivial⟩,⟨rfl,(hz2.put _).1⟩,rfl⟩
 rintro ⟨ov,H2⟩ φ2 _ ⟨rfl,hz2⟩;dsimp only at hz2 ⊢;have uh:∃ Z,H.next = Z:=⟨_,rfl⟩;obtain ⟨Z,eZ⟩:=uh;rw [eZ] at hz2 ⊢;conv=>whnf
 refine aC.cut (α:=Value×List Value×List (List Int)×Hp) (fun _=>[(3,ptr Z 0),(2,ptr (h.next + 1) 0)]) (fun s H4=>s.2.2.2 = H4∧MZ H s.2.2.2 26 Z ov s.1 (M.out.take 13) s.2.1 s.2.2.1 [int M.base,ov,s.1] [aN]∧s.2.2.1 = (M.next.take 13).map fun l=>l.take 26) ?_ ?_;rotate_left
 ·rintro ⟨nv,us,N,H4⟩ φ5 _ ⟨rfl,hz4,hN⟩;dsimp only at hz4 hN ⊢;have hov:=hz4.jE;obtain ⟨ax,rfl⟩:=hov;have hnv:=hz4.jO;obtain ⟨ay,rfl⟩:=hnv;have aR4:=hz4.gr.at_ _ _ aR;conv=>whnf
  repeat (refine aC.go ?_; conv=>whnf)
  refine ⟨_,aI hz4.z rfl,?_⟩;conv=>whnf
  refine ⟨rfl,_,bE (vs:=[int M.base,.slice ax (M.out.take 13).length (M.out.take 13).length,.slice ay N.length N.length]) aR4 rfl rfl rfl,?_⟩;conv=>whnf
  repeat (refine aC.go ?_; conv=>whnf)
  obtain ⟨iR,tR,agR,szR⟩:=U9;refine fu (r:=h.next + 1) (o:=0) (cs:=[int M.base,.slice ax (M.out.take 13).length (M.out.take 13).length,.slice ay N.length N.length]) rfl tR agR ?_ ?_
  ·rw [szR];exact aI (Hp.bB _ (Hp.aU aR4)) rfl
  ·have:=hz4.leave (h:=h) (R:=h.next + 1) (by omega) (by omega) gH M.base (.row 26 true [int M.base,.slice ax (M.out.take 13).length (M.out.take 13).length,.slice ay N.length N.length]);rw [hN] at this ⊢;exact this
 conv=>whnf
 repeat (refine aC.go ?_; conv=>whnf)
 have hz2':MZ H H2 26 Z ov aN (M.out.take 13) [] [] [int M.base,ov,aN] [aN]:=hz2.more (.refl _) (v:=aN) fun r e=>by cases e
 refine bT (α:=Nat×Value×List Value×List (List Int)×Hp) (fun s=>[(4,int s.1),(3,ptr Z 0),(1,ptr h.next 0),(2,ptr (h.next + 1) 0)]) (fun s=>s.2.2.2.2) (fun s=>s.1≤M.next.length∧s.1≤13∧MZ H s.2.2.2.2 26 Z ov s.2.1 (M.out.take 13) s.2.2.1 s.2.2.2.1 [int M.base,ov,s.2.1] [aN]∧s.2.2.2.1 = (M.next.take s.1).map fun l=>l.take 26) (fun s=>13 - s.1) (0,aN,[],[],H2) ⟨Nat.zero_le _,Nat.zero_le _,hz2',rfl⟩ ⟨rfl,rfl,rfl,rfl,trivial⟩ (Hp.Le.refl _) ?_;rintro ⟨k,nv,us,N,H4⟩ φ5 ⟨hk,abd,hz4,hN⟩;dsimp only at hk abd hz4 hN ⊢;have g4:=gH.trans hz4.gr;have k4:=hcx H4 h.next 25 g4 (hz4.gr.at_ _ _ aX);have d2:=k4.c2;conv=>whnf
 repeat (refine aC.go ?_; conv=>whnf)
 refine ⟨_,d2,?_⟩;conv=>whnf
 refine dJ (fun q1=>?_) (fun q1=>?_);rotate_left
 ·have:k = M.next.length:=by omega
  conv=>whnf
  refine ⟨(nv,us,N,H4),⟨rfl,rfl,trivial⟩,⟨rfl,hz4,?_⟩,rfl⟩;show N = _;rw [hN,this,List.take_of_length_le (Nat.le_refl _),List.take_of_length_le (by omega)]
 conv=>whnf
 refine dJ (fun q2=>?_) (fun q2=>?_);rotate_left
 ·have:k = 13:=by omega
  conv=>whnf
  refine ⟨(nv,us,N,H4),⟨rfl,rfl,trivial⟩,⟨rfl,hz4,?_⟩,rfl⟩;show N = _;rw [hN,this]
 have hro:=k4.rowAt (i:=k) (by omega);obtain ⟨r1,o1,sp1,a1,c1',rfl,hsp1,hc1,hv1⟩:=hro;have hLr:=hL.r k;have z2:cellAt H4 Z 2 = some nv:=bA hz4.z rfl;conv=>whnf
 repeat (refine aC.go ?_; conv=>whnf)
 refine ⟨_,z2,?_⟩;conv=>whnf
 repeat (refine aC.go ?_; conv=>whnf)
 refine ⟨_,d2,?_⟩;conv=>whnf
 refine ⟨hsp1,⟨by omega,by omega⟩,?_⟩;conv=>whnf
 refine ⟨_,hc1,?_⟩;conv=>whnf
 refine aJ.mono (C9 _ (rw_ M.next k) _ hv1 hLr 26 (by omega)) ?_;rintro u H5 ⟨hb5,g5⟩;have hz5:MZ H H5 26 Z ov nv (M.out.take 13) us N [int M.base,ov,nv] [u]:=hz4.add g5 (i:=0) rfl fun r e=>hb5.iU r e;have hws:=hb5.c.slice;obtain ⟨aw,rfl,-⟩:=hws;have hNl:N.length≤13:=by rw [hN,List.length_map,List.length_take]; omega
 conv=>whnf
 refine hz5.yT (i:=0) (by omega) rfl (hb5.back hz4.gr.next) ?_;intro nv' H6 Q8 hz6 kv6;obtain ⟨a6,n6,rfl⟩:=Q8;conv=>whnf
 refine ⟨rfl,_,dQ hz6.z (by simp) rfl,?_⟩;conv=>whnf
 repeat (refine aC.go ?_; conv=>whnf)
 refine ⟨((k + 1:Nat):Int),wie (by omega) (by omega),?_⟩;conv=>whnf
 refine Rnd.mk (k + 1,_,_,N ++ [(rw_ M.next k).take 26],_) ⟨by show k + 1≤_; omega,by show k + 1≤13; omega,(hz6.put _).1,?_⟩ (by show 13 - (k + 1) < 13 - k; omega) ⟨rfl,rfl,rfl,rfl,trivial⟩ (Hp.Le.refl _) rfl;show N ++ [(rw_ M.next k).take 26] = _;rw [hN,wT (by omega),List.map_append];rfl
theorem gT (v:Value)(M:jh)(h:Hp)(hv:MV h v M)(hL:Lens M):aJ E 18 [v] h (fun r h'=>jY h h' r (Q9 M)∧aA h h'):=by
 obtain ⟨bx,rfl,hbx⟩:=hv.box;obtain ⟨ao,an,co,cn,hcx⟩:=hbx.cx;have hLo:=hL.o;have hLn:=hL.n;refine enter18 (by simp) ?_;conv=>whnf
 refine aC.cut (α:=Hp) (fun _=>[(1,ptr h.next 0),(2,ptr (h.next + 1) 0)]) (fun x H=>x = H∧aA h H∧H.at h.next = some (.row 26 true bx)∧H.at (h.next + 1) = some (.row 25 true [int 0,aN,aN])∧H.next = h.next + 2) ?_ ?_
 ·conv=>whnf
  have n1:(h.lay (.row 26 true bx)).next = h.next + 1:=Hp.bF _ _;exact ⟨_,⟨rfl,congrArg (fun k=>ptr k 0) n1,trivial⟩,⟨rfl,(aA.lay _ _).bH _,Hp.bg _ (Hp.ak _ _),eB n1 (Hp.ak _ _),by rw [Hp.bF,n1]⟩,rfl⟩
 rintro H φ1 _ ⟨rfl,gH,aX,aR,nH⟩;have gL:aA H (H.lay (.row 25 true [int 0,aN,aN])):=aA.lay _ _;have kL:=hcx _ h.next 26 (gH.trans gL) (gL.at_ _ _ aX);have c0:=kL.c0;have c1:=kL.c1;have aZ:(H.lay (.row 25 true [int 0,aN,aN])).at H.next = some (.row 25 true [int 0,aN,aN]):=Hp.ak _ _;have nL:(H.lay (.row 25 true [int 0,aN,aN])).next = H.next + 1:=Hp.bF _ _;conv=>whnf
 refine aC.cut (α:=Value×Hp) (fun s=>[(3,ptr H.next 0),(1,ptr h.next 0),(2,ptr (h.next + 1) 0)]) (fun s H2=>s.2 = H2∧MZ H s.2 25 H.next s.1 aN (M.out.take 13) [] [] [int M.base,s.1,aN] []) ?_ ?_
 ·conv=>whnf
  refine ⟨_,c0,?_⟩;conv=>whnf
  refine ⟨_,c1,?_⟩;conv=>whnf
  refine aJ.mono (C9 _ M.out _ kL.o hLo 13 (by omega)) ?_;rintro r H2 ⟨hb2,g2⟩;have hz2:MZ H H2 25 H.next r aN (M.out.take 13) [] [] [int 0,aN,aN] []:=MZ.X3 (hb:=H.lay (.row 25 true [int 0,aN,aN])) (gL.trans g2) (g2.at_ _ _ aZ) (Nat.le_refl _) (by rw [nL]; omega) (by rw [nL]; omega) hb2.c;have hzo:=hz2.jE;obtain ⟨ax,rfl⟩:=hzo;have c0':=g2.cell c0;have c1':=g2.cell c1;conv=>whnf
  refine ⟨rfl,_,bE (vs:=[int M.base,.slice ax (M.out.take 13).length (M.out.take 13).length,aN]) hz2.z rfl rfl rfl,?_⟩;conv=>whnf
  refine ⟨?_,?_⟩
  ·repeat' (first | exact True.intro | (refine And.intro ?_ ?_ <;> (conv=>whnf)))
   all_goals first
    | exact aj (h2:=_) rfl (bS _ _)
    | exact aj (h2:=_) rfl (aD _ _ _)
    | exact aj (h2:=_) (congrArg (hval _) c0) (aM _)
    | exact aj (h2:=_) (congrArg (hval _) c0') (aM _)
    | exact aj (h2:=_) (congrArg (hval _) c1) (aD _ _ _)
    | exact aj (h2:=_) (congrArg (hval _) c1') (aD _ _ _)
    | exact ⟨_,rfl,Hp.ak _ _,rfl⟩
    | exact ⟨H.next,rfl,g2.at_ _ _ aZ,rfl⟩
    | exact ⟨H.next,rfl,aZ,rfl⟩
    | trace_state
  exact ⟨(_,_),⟨rfl,rfl,rfl,trivial⟩,⟨rfl,(hz2.put _).1⟩,rfl⟩
 rintro ⟨ov,H2⟩ φ2 _ ⟨rfl,hz2⟩;dsimp only at hz2 ⊢;have uh:∃ Z,H.next = Z:=⟨_,rfl⟩;obtain ⟨Z,eZ⟩:=uh;rw [eZ] at hz2 ⊢;conv=>whnf
 refine aC.cut (α:=Value×List Value×List (List Int)×Hp) (fun _=>[(3,ptr Z 0),(2,ptr (h.next + 1) 0)]) (fun s H4=>s.2.2.2 = H4∧MZ H s.2.2.2 25 Z ov s.1 (M.out.take 13) s.2.1 s.2.2.1 [int M.base,ov,s.1] [aN]∧s.2.2.1 = (M.next.take 13).map fun l=>l.take 26) ?_ ?_;rotate_left
 ·rintro ⟨nv,us,N,H4⟩ φ5 _ ⟨rfl,hz4,hN⟩;dsimp only at hz4 hN ⊢;have hov:=hz4.jE;obtain ⟨ax,rfl⟩:=hov;have hnv:=hz4.jO;obtain ⟨ay,rfl⟩:=hnv;have aR4:=hz4.gr.at_ _ _ aR;conv=>whnf
  repeat (refine aC.go ?_; conv=>whnf)
  refine ⟨_,aI hz4.z rfl,?_⟩;conv=>whnf
  refine ⟨rfl,_,bE (vs:=[int M.base,.slice ax (M.out.take 13).length (M.out.take 13).length,.slice ay N.length N.length]) aR4 rfl rfl rfl,?_⟩;conv=>whnf
  repeat (refine aC.go ?_; conv=>whnf)
  obtain ⟨iR,tR,agR,szR⟩:=C8;refine fu (r:=h.next + 1) (o:=0) (cs:=[int M.base,.slice ax (M.out.take 13).length (M.out.take 13).length,.slice ay N.length N.length]) rfl tR agR ?_ ?_
  ·rw [szR];exact aI (Hp.bB _ (Hp.aU aR4)) rfl
  ·have:=hz4.leave (h:=h) (R:=h.next + 1) (by omega) (by omega) gH M.base (.row 25 true [int M.base,.slice ax (M.out.take 13).length (M.out.take 13).length,.slice ay N.length N.length]);rw [hN] at this ⊢;exact this
 conv=>whnf
 repeat (refine aC.go ?_; conv=>whnf)
 have hz2':MZ H H2 25 Z ov aN (M.out.take 13) [] [] [int M.base,ov,aN] [aN]:=hz2.more (.refl _) (v:=aN) fun r e=>by cases e
 refine bT (α:=Nat×Value×List Value×List (List Int)×Hp) (fun s=>[(4,int s.1),(3,ptr Z 0),(1,ptr h.next 0),(2,ptr (h.next + 1) 0)]) (fun s=>s.2.2.2.2) (fun s=>s.1≤M.next.length∧s.1≤13∧MZ H s.2.2.2.2 25 Z ov s.2.1 (M.out.take 13) s.2.2.1 s.2.2.2.1 [int M.base,ov,s.2.1] [aN]∧s.2.2.2.1 = (M.next.take s.1).map fun l=>l.take 26) (fun s=>13 - s.1) (0,aN,[],[],H2) ⟨Nat.zero_le _,Nat.zero_le _,hz2',rfl⟩ ⟨rfl,rfl,rfl,rfl,trivial⟩ (Hp.Le.refl _) ?_;rintro ⟨k,nv,us,N,H4⟩ φ5 ⟨hk,abd,hz4,hN⟩;dsimp only at hk abd hz4 hN ⊢;have g4:=gH.trans hz4.gr;have k4:=hcx H4 h.next 26 g4 (hz4.gr.at_ _ _ aX);have d2:=k4.c2;conv=>whnf
 repeat (refine aC.go ?_; conv=>whnf)
 refine ⟨_,d2,?_⟩;conv=>whnf
 refine dJ (fun q1=>?_) (fun q1=>?_);rotate_left
 ·have:k = M.next.length:=by omega
  conv=>whnf
  refine ⟨(nv,us,N,H4),⟨rfl,rfl,trivial⟩,⟨rfl,hz4,?_⟩,rfl⟩;show N = _;rw [hN,this,List.take_of_length_le (Nat.le_refl _),List.take_of_length_le (by omega)]
 conv=>whnf
 refine dJ (fun q2=>?_) (fun q2=>?_);rotate_left
 ·have:k = 13:=by omega
  conv=>whnf
  refine ⟨(nv,us,N,H4),⟨rfl,rfl,trivial⟩,⟨rfl,hz4,?_⟩,rfl⟩;show N = _;rw [hN,this]
 have hro:=k4.rowAt (i:=k) (by omega);obtain ⟨r1,o1,sp1,a1,c1',rfl,hsp1,hc1,hv1⟩:=hro;have hLr:=hL.r k;have z2:cellAt H4 Z 2 = some nv:=bA hz4.z rfl;conv=>whnf
 repeat (refine aC.go ?_; conv=>whnf)
 refine ⟨_,z2,?_⟩;conv=>whnf
 repeat (refine aC.go ?_; conv=>whnf)
 refine ⟨_,d2,?_⟩;conv=>whnf
 refine ⟨hsp1,⟨by omega,by omega⟩,?_⟩;conv=>whnf
 refine ⟨_,hc1,?_⟩;conv=>whnf
 refine aJ.mono (C9 _ (rw_ M.next k) _ hv1 hLr 26 (by omega)) ?_;rintro u H5 ⟨hb5,g5⟩;have hz5:MZ H H5 25 Z ov nv (M.out.take 13) us N [int M.base,ov,nv] [u]:=hz4.add g5 (i:=0) rfl fun r e=>hb5.iU r e;have hws:=hb5.c.slice;obtain ⟨aw,rfl,-⟩:=hws;have hNl:N.length≤13:=by rw [hN,List.length_map,List.length_take]; omega
 conv=>whnf
 refine hz5.yT (i:=0) (by omega) rfl (hb5.back hz4.gr.next) ?_;intro nv' H6 Q8 hz6 kv6;obtain ⟨a6,n6,rfl⟩:=Q8;conv=>whnf
 refine ⟨rfl,_,dQ hz6.z (by simp) rfl,?_⟩;conv=>whnf
 repeat (refine aC.go ?_; conv=>whnf)
 refine ⟨((k + 1:Nat):Int),wie (by omega) (by omega),?_⟩;conv=>whnf
 refine Rnd.mk (k + 1,_,_,N ++ [(rw_ M.next k).take 26],_) ⟨by show k + 1≤_; omega,by show k + 1≤13; omega,(hz6.put _).1,?_⟩ (by show 13 - (k + 1) < 13 - k; omega) ⟨rfl,rfl,rfl,rfl,trivial⟩ (Hp.Le.refl _) rfl;show N ++ [(rw_ M.next k).take 26] = _;rw [hN,wT (by omega),List.map_append];rfl
end
end Go.Proofs.Ytedneplaibmppaa
namespace Go.Proofs.Ytedneplaibmppaa
open Go.Rx Go.RowKit
def Ra (m:Mac)(k:Nat):List Int:=(List.range k).map fun i=>m.at_ 0 i
theorem X4 (m:Mac)(k:Nat):(Ra m k).length = k:=by unfold Ra; rw [List.length_map,List.length_range]
def wU (m:Mac)(n k:Nat):List Value:=Bh n fun j=>if j < k then int (m.at_ 0 j) else int 0
theorem Pb (m:Mac)(n k:Nat):(wU m n k).set k (int (m.at_ 0 k)) = wU m n (k + 1):=by
 unfold wU;rw [OH];refine Ib fun j hj=>?_;by_cases h:j = k
 ·subst h; rw [if_pos rfl,if_pos (by omega)]
 ·rw [if_neg h];by_cases h2:j < k
  ·rw [if_pos h2,if_pos (by omega)]
  ·rw [if_neg h2,if_neg (by omega)]
theorem Pf (m:Mac)(n:Nat):wU m n n = (Ra m n).map int:=by
 unfold wU Ra Bh;rw [List.map_map];refine List.map_congr_left fun j hj=>?_;rw [if_pos (List.mem_range.1 hj)]; rfl
theorem OkS.b25 {m:Mac}(h:OkS m):2≤m.base∧m.base≤25:=⟨h.b2,by have:=h.b5; omega⟩
theorem OkS.n1 {m:Mac}(h:OkS m):0 < m.out.length:=h.ok.n1
attribute [local irreducible] E iJ cellAt bJ storeAt callable dh dG dO findKey dZ bP Hp.at Hp.set Hp.lay dL cO setAt aJ dx bO dz Rnd gq fB gY Int.tmod Int.tdiv Int.fdiv
section
variable [bC]
theorem Rb (v:Value)(m:Mac)(n:Int)(h:Hp)(hv:MV h v m.i)(hm:OkS m):aJ E 24 [v,int n] h (fun r h'=>((n < 0∨1000 < n→r = .tuple ⟨[aN,int 1]⟩)∧(0≤n→n≤1000→∃ w,r = .tuple ⟨[w,int 0]⟩∧Built h h' 3 w (Ra m n.toNat)))∧aA h h'):=by
 obtain ⟨bx,rfl,hbx⟩:=hv.box;have hL:=hm.lens;refine enter24 (by simp) ?_;conv=>whnf
 refine aC.cut (α:=Hp) (fun _=>[(2,ptr h.next 0),(1,int n)]) (fun x H=>x = H∧aA h H∧H.at h.next = some (.row 25 true bx)) ?_ ?_
 ·conv=>whnf
  exact ⟨_,⟨rfl,rfl,trivial⟩,⟨rfl,aA.lay _ _,Hp.ak _ _⟩,rfl⟩
 rintro H φ1 _ ⟨rfl,gH,aX⟩;conv=>whnf
 refine aC.cut (α:=Hp) (fun _=>[(2,ptr h.next 0),(1,int n)]) (fun x H2=>x = H2∧aA H H2) ?_ ?_
 ·conv=>whnf
  refine ⟨_,aI aX hbx.len,?_⟩;conv=>whnf
  refine aJ.mono (lg _ m.i _ (Bx.mv (hbx.ext gH)) hL.1 hL.2.1 hL.2.2) ?_;rintro r H2 ⟨⟨e,rfl,he,-⟩,g2⟩;have he:=he hm.ck;subst he;conv=>whnf
  repeat (refine aC.go ?_; conv=>whnf)
  refine Ag (by omega) ?_;conv=>whnf
  exact ⟨_,⟨rfl,rfl,trivial⟩,⟨rfl,g2⟩,rfl⟩
 rintro H2 φ2 _ ⟨rfl,g2⟩;have aX2:=g2.at_ _ _ aX;have gh2:=gH.trans g2;conv=>whnf
 refine aC.cut (α:=Unit) (fun _=>[(2,ptr h.next 0),(1,int n)]) (fun _ H3=>H2 = H3∧0≤n∧n≤1000) ?_ ?_
 ·conv=>whnf
  repeat (refine aC.go ?_; conv=>whnf)
  refine dJ (fun q1=>?_) (fun q1=>?_)
  ·conv=>whnf
   repeat (refine aC.go ?_; conv=>whnf)
   exact ⟨⟨fun _=>rfl,fun k=>absurd k (by omega)⟩,gh2⟩
  ·conv=>whnf
   refine dJ (fun q2=>?_) (fun q2=>?_)
   ·conv=>whnf
    repeat (refine aC.go ?_; conv=>whnf)
    exact ⟨⟨fun _=>rfl,fun _ k=>absurd k (by omega)⟩,gh2⟩
   ·conv=>whnf
    exact ⟨(),⟨rfl,rfl,trivial⟩,⟨rfl,by omega,by omega⟩,rfl⟩
 rintro _ φ3 _ ⟨rfl,hn0,hn1⟩;have Rc:∃ k:Nat,n = k:=⟨n.toNat,by omega⟩;obtain ⟨k,rfl⟩:=Rc;conv=>whnf
 refine aC.cut (α:=Hp) (fun _=>[(7,slc H2.next 0 k k),(2,ptr h.next 0)]) (fun x H3=>x = H3∧aA H2 H3∧H3.at H2.next = some (.row 3 true (wU m k 0))) ?_ ?_
 ·conv=>whnf
  refine ⟨⟨by omega,by omega,by omega,by omega⟩,?_⟩;conv=>whnf
  refine ⟨_,⟨rfl,rfl,trivial⟩,⟨rfl,aA.lay _ _,?_⟩,rfl⟩;rw [Hp.ak,Int.toNat_natCast];show some (Rx.Obj.row 3 true (times [int 0] k)) = _;rw [J7];rfl
 rintro H3 φ4 _ ⟨rfl,g3,aW⟩;conv=>whnf
 refine aC.cut (α:=Hp) (fun _=>[(7,slc H2.next 0 k k)]) (fun x H4=>x = H4∧aA H2 H4∧H4.at H2.next = some (.row 3 true (wU m k k))) ?_ ?_;rotate_left
 ·rintro H4 φ5 _ ⟨rfl,g4,aW4⟩;conv=>whnf
  repeat (refine aC.go ?_; conv=>whnf)
  refine ⟨⟨fun q=>absurd q (by omega),fun _ _=>⟨_,rfl,?_⟩⟩,gh2.trans g4⟩;rw [Int.toNat_natCast];rw [Pf] at aW4;refine .inr ⟨H2.next,?_,gh2.next,true,aW4⟩;rw [X4];rfl
 conv=>whnf
 repeat (refine aC.go ?_; conv=>whnf)
 have hlt:=Hp.aU aX2;refine bT (α:=Nat×Hp) (fun s=>[(24,int s.1),(23,int k),(7,slc H2.next 0 k k),(2,ptr h.next 0)]) (fun s=>s.2) (fun s=>s.1≤k∧aA H2 s.2∧s.2.at H2.next = some (.row 3 true (wU m k s.1))) (fun s=>k - s.1) (0,H3) ⟨Nat.zero_le _,g3,aW⟩ ⟨rfl,rfl,rfl,rfl,trivial⟩ (Hp.Le.refl _) ?_;rintro ⟨j,H4⟩ φ5 ⟨hj,g4,aW4⟩;dsimp only at hj g4 aW4 ⊢;have aX4:=g4.at_ _ _ aX2;conv=>whnf
 repeat (refine aC.go ?_; conv=>whnf)
 refine dJ (fun q1=>?_) (fun q1=>?_);rotate_left
 ·have:j = k:=by omega
  subst this;conv=>whnf
  exact ⟨H4,⟨rfl,trivial⟩,⟨rfl,g4,aW4⟩,rfl⟩
 conv=>whnf
 repeat (refine aC.go ?_; conv=>whnf)
 refine ⟨_,aI aX4 hbx.len,?_⟩;conv=>whnf
 refine aJ.mono (FT _ m 0 j _ (Bx.mv (hbx.ext (gh2.trans g4))) hm.ok hm.b25 hm.n1 (by have:=hm.n12; omega) (by omega)) ?_;rintro r H5 ⟨rfl,g5⟩;have aW5:=g5.at_ _ _ aW4;conv=>whnf
 refine ⟨rfl,⟨by omega,by omega⟩,?_⟩;conv=>whnf
 refine ⟨rfl,_,jd aW5 (by unfold wU; rw [jJ]; omega) rfl,?_⟩;conv=>whnf
 refine ⟨((j + 1:Nat):Int),wie (by omega) (by omega),?_⟩;conv=>whnf
 refine Rnd.mk (j + 1,_) ⟨by show j + 1≤k; omega,(g4.trans g5).bQ _ (Nat.le_refl _),?_⟩ (by show k - (j + 1) < k - j; omega) ⟨rfl,rfl,rfl,rfl,trivial⟩ (Hp.Le.refl _) rfl;show (H5.set _ _).at _ = _;rw [Hp.bB _ (Hp.aU aW5),Int.toNat_natCast];exact congrArg (fun l=>some (Rx.Obj.row 3 true l)) (Pb m k j)
end
end Go.Proofs.Ytedneplaibmppaa
namespace Go.Proofs.Ytedneplaibmppaa
open Go.Rx Go.RowKit
abbrev encI:Int→Value:=fun n:Int=>int n
def dB (p:Int×Int):Value:=.agg ⟨[int p.1,int p.2]⟩
theorem Vf (k:Int×Int):dZ E 64 (dB k) = true:=by kernel_rfl
theorem Rf (k:Int×Int):dZ E 106 (dB k) = true:=by kernel_rfl
theorem Rh (k:Int×Int):dZ E 136 (dB k) = true:=by kernel_rfl
theorem Ri (k:Int×Int):dZ E 147 (dB k) = true:=by kernel_rfl
theorem z8 (k:Int×Int):Instr.sameBits 10000 (dB k) (dB k) = true:=by
 obtain ⟨a,b⟩:=k;unfold dB;simp [Instr.sameBits]
theorem iT {α β:Type}{P:Program}:∀ (x:Sem α) (f:α→Sem β),bR P (x >>= f) = match bR P x with | some v=>bR P (f v) | none=>none:=by
 intro x f;show bR P (x.bind f) = _
 induction x with
 | pure a=>rfl
 | program k ih=>exact ih P
 | _=>rfl
theorem mF {α:Type}{P:Program}(a:α):bR P (pure a) = some a:=rfl
theorem mg {P:Program}{t:TypeId}{D:TypeDesc}(hu:P.underlying t = some D):bR P (underlying t) = some D:=by
 have:=mM hu (fun D=>(pure D:Sem TypeDesc));rw [iT] at this
 cases h:bR P (underlying t) with
 | none=>rw [h] at this; cases this
 | some D'=>rw [h] at this; cases this; rfl
theorem eq_int (d:Nat)(a c:Int):bR Try.prog (Op.equalIn (d + 1) 3 (int a) (int c)) = some (a == c):=by
 unfold Op.equalIn;rw [iT,mg Try.underlying3];rfl
theorem Vg (d:Nat)(a c:ByteArray):bR Try.prog (Op.equalIn (d + 1) 9 (.string a) (.string c)) = some (a == c):=by
 unfold Op.equalIn;rw [iT,mg Try.underlying9];rfl
theorem Ml (a b c d:Int):bR Try.prog (Op.equal 106 (.agg ⟨[int a,int b]⟩) (.agg ⟨[int c,int d]⟩)) = some (bif (a == c) then (b == d) else false):=by
 have p0:∀ x y:Int,bR Try.prog (part 3 ⟨[int x,int y]⟩ 0) = some (int x):=fun x y=>by kernel_rfl
 have p1:∀ x y:Int,bR Try.prog (part 3 ⟨[int x,int y]⟩ 1) = some (int y):=fun x y=>by kernel_rfl
 have hs:Try.prog.stoodInHeld 106 = false:=by kernel_rfl
 have e1:∀ x y:Int,bR Try.prog (Op.equalIn 9999 3 (int x) (int y)) = some (x == y):=eq_int 9998;unfold Op.equal Op.maxDepth Op.equalIn;rw [iT,mg Try.underlying106];dsimp only;rw [iT,show bR Try.prog program = some Try.prog from rfl];dsimp only;rw [hs];simp only [Bool.false_eq_true,if_false,ne_eq,String.reduceEq,not_false_eq_true,if_true,iT,mF,p0,p1,e1,List.forIn_toArray,List.forIn_cons,List.forIn_nil];generalize (a == c) = p;cases p
 ·simp only [Bool.not_false,Bool.not_true,if_true,Bool.false_eq_true,if_false,mF,cond_false,cond_true]
 ·simp only [Bool.not_false,Bool.not_true,if_true,Bool.false_eq_true,if_false,mF,cond_false,cond_true,iT,p1,e1];generalize (b == d) = q;cases q <;> simp only [Bool.not_false,Bool.not_true,if_true,Bool.false_eq_true,if_false,mF,cond_false,cond_true,iT]
theorem Rj (k k':Int×Int):Ah Try.prog 106 (dB k) (dB k') = some (decide (k = k')):=by
 obtain ⟨a,b⟩:=k;obtain ⟨a',b'⟩:=k';have e1:decide ((a,b) = (a',b')) = (bif (a == a') then (b == b') else false):=by
  rw [Bool.eq_iff_iff];cases h:(a == a') <;> simp_all
 rw [e1];exact Ml a b a' b'
theorem Mq (a b c d:Int):bR Try.prog (Op.equal 136 (.agg ⟨[int a,int b]⟩) (.agg ⟨[int c,int d]⟩)) = some (bif (a == c) then (b == d) else false):=by
 have p0:∀ x y:Int,bR Try.prog (part 3 ⟨[int x,int y]⟩ 0) = some (int x):=fun x y=>by kernel_rfl
 have p1:∀ x y:Int,bR Try.prog (part 3 ⟨[int x,int y]⟩ 1) = some (int y):=fun x y=>by kernel_rfl
 have hs:Try.prog.stoodInHeld 136 = false:=by kernel_rfl
 have e1:∀ x y:Int,bR Try.prog (Op.equalIn 9999 3 (int x) (int y)) = some (x == y):=eq_int 9998;unfold Op.equal Op.maxDepth Op.equalIn;rw [iT,mg Try.underlying136];dsimp only;rw [iT,show bR Try.prog program = some Try.prog from rfl];dsimp only;rw [hs];simp only [Bool.false_eq_true,if_false,ne_eq,String.reduceEq,not_false_eq_true,if_true,iT,mF,p0,p1,e1,List.forIn_toArray,List.forIn_cons,List.forIn_nil];generalize (a == c) = p;cases p
 ·simp only [Bool.not_false,Bool.not_true,if_true,Bool.false_eq_true,if_false,mF,cond_false,cond_true]
 ·simp only [Bool.not_false,Bool.not_true,if_true,Bool.false_eq_true,if_false,mF,cond_false,cond_true,iT,p1,e1];generalize (b == d) = q;cases q <;> simp only [Bool.not_false,Bool.not_true,if_true,Bool.false_eq_true,if_false,mF,cond_false,cond_true,iT]
theorem Rl (k k':Int×Int):Ah Try.prog 136 (dB k) (dB k') = some (decide (k = k')):=by
 obtain ⟨a,b⟩:=k;obtain ⟨a',b'⟩:=k';have e1:decide ((a,b) = (a',b')) = (bif (a == a') then (b == b') else false):=by
  rw [Bool.eq_iff_iff];cases h:(a == a') <;> simp_all
 rw [e1];exact Mq a b a' b'
theorem Mr (a b c d:Int):bR Try.prog (Op.equal 147 (.agg ⟨[int a,int b]⟩) (.agg ⟨[int c,int d]⟩)) = some (bif (a == c) then (b == d) else false):=by
 have p0:∀ x y:Int,bR Try.prog (part 3 ⟨[int x,int y]⟩ 0) = some (int x):=fun x y=>by kernel_rfl
 have p1:∀ x y:Int,bR Try.prog (part 3 ⟨[int x,int y]⟩ 1) = some (int y):=fun x y=>by kernel_rfl
 have hs:Try.prog.stoodInHeld 147 = false:=by kernel_rfl
 have e1:∀ x y:Int,bR Try.prog (Op.equalIn 9999 3 (int x) (int y)) = some (x == y):=eq_int 9998;unfold Op.equal Op.maxDepth Op.equalIn;rw [iT,mg Try.underlying147];dsimp only;rw [iT,show bR Try.prog program = some Try.prog from rfl];dsimp only;rw [hs];simp only [Bool.false_eq_true,if_false,ne_eq,String.reduceEq,not_false_eq_true,if_true,iT,mF,p0,p1,e1,List.forIn_toArray,List.forIn_cons,List.forIn_nil];generalize (a == c) = p;cases p
 ·simp only [Bool.not_false,Bool.not_true,if_true,Bool.false_eq_true,if_false,mF,cond_false,cond_true]
 ·simp only [Bool.not_false,Bool.not_true,if_true,Bool.false_eq_true,if_false,mF,cond_false,cond_true,iT,p1,e1];generalize (b == d) = q;cases q <;> simp only [Bool.not_false,Bool.not_true,if_true,Bool.false_eq_true,if_false,mF,cond_false,cond_true,iT]
theorem Rm (k k':Int×Int):Ah Try.prog 147 (dB k) (dB k') = some (decide (k = k')):=by
 obtain ⟨a,b⟩:=k;obtain ⟨a',b'⟩:=k';have e1:decide ((a,b) = (a',b')) = (bif (a == a') then (b == b') else false):=by
  rw [Bool.eq_iff_iff];cases h:(a == a') <;> simp_all
 rw [e1];exact Mr a b a' b'
theorem Vh (k k':Int×Int):Ah Try.prog 64 (dB k) (dB k') = some (decide (k = k')):=by
 obtain ⟨a,b⟩:=k;obtain ⟨a',b'⟩:=k';have e1:decide ((a,b) = (a',b')) = (decide (a = a') && decide (b = b')):=by
  rw [Bool.eq_iff_iff];simp
 rw [e1];unfold dB;have st:∀ (k:Program→Sem Bool),bR Try.prog (.program k) = bR Try.prog (k Try.prog):=fun k=>rfl;show _ = some ((a == a') && (b == b'))
 conv=>lhs; whnf
 conv=>lhs; arg 2; whnf
 conv=>lhs; arg 2; arg 1; rw [Std.Legacy.Range.forIn_eq_forIn_range']
 conv=>lhs; arg 2; whnf
 repeat (rw [st]; conv=>lhs; arg 2; whnf)
 conv=>lhs; arg 2; arg 1; whnf
 conv=>lhs; arg 2; arg 1; arg 1; whnf
 dsimp only;cases h1:(a == a')
 ·rfl
 conv=>lhs; arg 2; whnf
 repeat (rw [st]; conv=>lhs; arg 2; whnf)
 conv=>lhs; arg 2; arg 1; whnf
 conv=>lhs; arg 2; arg 1; arg 1; whnf
 dsimp only;cases h2:(b == b')
 ·rfl
 ·rfl
theorem Tj:KeyTy E 64 dB where
 ok:=Vf
 eq:=Vh
 bits:=z8
theorem oL:KeyTy E 106 dB where
 ok:=Rf
 eq:=Rj
 bits:=z8
theorem Iq:KeyTy E 136 dB where
 ok:=Rh
 eq:=Rl
 bits:=z8
theorem Ir:KeyTy E 147 dB where
 ok:=Ri
 eq:=Rm
 bits:=z8
def encS (l:List UInt8):Value:=.string ⟨⟨l⟩⟩
theorem X5 (k k':List UInt8):((⟨⟨k⟩⟩:ByteArray) == ⟨⟨k'⟩⟩) = (k == k'):=by
 show ByteArray.beq _ _ = _;simp [ByteArray.beq]
theorem Zu:KeyTy E 9 encS where
 ok:=fun k=>by unfold encS; kernel_rfl
 eq:=fun k k'=>by
  have h:Ah Try.prog 9 (encS k) (encS k') = some ((⟨⟨k⟩⟩:ByteArray) == ⟨⟨k'⟩⟩):=Vg 9999 _ _;refine h.trans (congrArg some ?_);rw [X5,Bool.eq_iff_iff];simp
 bits:=fun k=>by
  unfold encS Instr.sameBits;show ((⟨⟨k⟩⟩:ByteArray) == ⟨⟨k⟩⟩) = true;rw [X5]; simp
theorem ty3:∃ i,E.ty 3 = some i∧M7 i.desc = true∧i.zero = some (int 0):=by
 have hs:(jL Try.prog 3).isSome = true:=by kernel_rfl
 refine ⟨(jL Try.prog 3).get hs,mP (by kernel_rfl) (Option.some_get hs).symm,?_,?_⟩ <;> kernel_rfl
theorem ty4:∃ i,E.ty 4 = some i∧i.zero = some (.bool false):=by
 have hs:(jL Try.prog 4).isSome = true:=by kernel_rfl
 refine ⟨(jL Try.prog 4).get hs,mP (by kernel_rfl) (Option.some_get hs).symm,?_⟩
 kernel_rfl
theorem Bn:KeyTy E 3 encI:=by
 obtain ⟨i,hi,hd,_⟩:=ty3;exact aa4 hi hd
theorem Pg:∃ i,E.ty 114 = some i∧i.desc = .map 3 3:=by
 have hs:(jL Try.prog 114).isSome = true:=by kernel_rfl
 refine ⟨(jL Try.prog 114).get hs,mP (by kernel_rfl) (Option.some_get hs).symm,?_⟩
 kernel_rfl
theorem aar:∃ i,E.ty 117 = some i∧i.desc = .map 64 3:=by
 have hs:(jL Try.prog 117).isSome = true:=by kernel_rfl
 refine ⟨(jL Try.prog 117).get hs,mP (by kernel_rfl) (Option.some_get hs).symm,?_⟩
 kernel_rfl
theorem acf:∃ i,E.ty 131 = some i∧i.desc = .map 106 4:=by
 have hs:(jL Try.prog 131).isSome = true:=by kernel_rfl
 refine ⟨(jL Try.prog 131).get hs,mP (by kernel_rfl) (Option.some_get hs).symm,?_⟩
 kernel_rfl
theorem aas:∃ i,E.ty 140 = some i∧i.desc = .map 106 3:=by
 have hs:(jL Try.prog 140).isSome = true:=by kernel_rfl
 refine ⟨(jL Try.prog 140).get hs,mP (by kernel_rfl) (Option.some_get hs).symm,?_⟩
 kernel_rfl
theorem acg:∃ i,E.ty 144 = some i∧i.desc = .map 9 3:=by
 have hs:(jL Try.prog 144).isSome = true:=by kernel_rfl
 refine ⟨(jL Try.prog 144).get hs,mP (by kernel_rfl) (Option.some_get hs).symm,?_⟩
 kernel_rfl
theorem ach:∃ i,E.ty 153 = some i∧i.desc = .map 136 3:=by
 have hs:(jL Try.prog 153).isSome = true:=by kernel_rfl
 refine ⟨(jL Try.prog 153).get hs,mP (by kernel_rfl) (Option.some_get hs).symm,?_⟩
 kernel_rfl
theorem aci:∃ i,E.ty 156 = some i∧i.desc = .map 147 3:=by
 have hs:(jL Try.prog 156).isSome = true:=by kernel_rfl
 refine ⟨(jL Try.prog 156).get hs,mP (by kernel_rfl) (Option.some_get hs).symm,?_⟩
 kernel_rfl
section
variable {κ:Type} [DecidableEq κ] {enc:κ→Value}
theorem mQ {t kt et:TypeId}{ti:TI}(ht:E.ty t = some ti)(hd:ti.desc = .map kt et)(K:KeyTy E kt enc){φ:Rx.Frame}{h:Hp}{ty:TypeId}{x j y:Operand}{r:Nat}{k:κ}{v:Value}{f:κ→Option Value}{n:Nat}
  (hx:bI φ x = bL r)(hj:bI φ j = enc k)(hy:bI φ y = v)(hm:MapAt h r enc f n){Q:Value→Hp→Prop}
  (q:∀ h',MapAt h' r enc (fun k'=>if k' = k then some v else f k') (if (f k).isSome then n else n + 1)→Keeps r h h'→Q undef h'):Bf E (.raw (.insert t x j y) ty) φ h Q:=by
 have:=iO (ty:=ty) ht hd K hx hj hy hm q;exact ⟨this.1⟩
theorem fM {t kt et:TypeId}{ti ei:TI}(ht:E.ty t = some ti)(hd:ti.desc = .map kt et)(he:E.ty et = some ei){z:Value}(hz:ei.zero = some z)(K:KeyTy E kt enc){φ:Rx.Frame}{h:Hp}{ty:TypeId}{x j:Operand}{r:Nat}{k:κ}{v:Value}{f:κ→Option Value}{n:Nat}
  (hx:bI φ x = bL r)(hj:bI φ j = enc k)(hm:MapAt h r enc f n)(hf:f k = some v){Q:Value→Hp→Prop}(q:Q v h):Bf E (.raw (.lookup t x j false) ty) φ h Q :=
 EU ht hd he hz K hx hj hm (by rw [hf]; exact q)
theorem Iu {t kt et:TypeId}{ti ei:TI}(ht:E.ty t = some ti)(hd:ti.desc = .map kt et)(he:E.ty et = some ei){z:Value}(hz:ei.zero = some z)(K:KeyTy E kt enc){φ:Rx.Frame}{h:Hp}{ty:TypeId}{x j:Operand}{r:Nat}{k:κ}{f:κ→Option Value}{n:Nat}
  (hx:bI φ x = bL r)(hj:bI φ j = enc k)(hm:MapAt h r enc f n)(hf:f k = none){Q:Value→Hp→Prop}(q:Q z h):Bf E (.raw (.lookup t x j false) ty) φ h Q :=
 EU ht hd he hz K hx hj hm (by rw [hf]; exact q)
def fN (L:List κ)(k:κ):Option Value:=if k ∈ L then some (int (L.idxOf k:Nat)) else none
theorem jP {L:List κ}{k:κ}(h:k ∈ L):fN L k = some (int (L.idxOf k:Nat)):=if_pos h
theorem pz {L:List κ}{k:κ}(h:k ∉ L):fN L k = none:=if_neg h
theorem abe {L:List κ}{k:κ}(h:k ∉ L)(k':κ):(if k' = k then some (int (L.length:Nat)) else fN L k') = fN (L ++ [k]) k':=by
 unfold fN;by_cases e:k' = k
 ·subst e;rw [if_pos rfl,if_pos (by simp),Ef h]
 ·rw [if_neg e];by_cases hm:k' ∈ L
  ·rw [if_pos hm,if_pos (List.mem_append_left _ hm),ng hm]
  ·rw [if_neg hm,if_neg (fun x=>by
    rcases List.mem_append.1 x with x | x
    ·exact hm x
    ·exact e (List.mem_singleton.1 x))]
def dS (h:Hp)(r:Nat)(enc:κ→Value)(L:List κ):Prop:=MapAt h r enc (fN L) L.length
theorem dS.ext {h h':Hp}{r:Nat}{L:List κ}(g:aA h h')(k:dS h r enc L):dS h' r enc L:=MapAt.ext g k
theorem dS.add {h':Hp}{r:Nat}{L:List κ}{k:κ}(hn:k ∉ L)(m:MapAt h' r enc (fun k'=>if k' = k then some (int (L.length:Nat)) else fN L k') (if (fN L k).isSome then L.length else L.length + 1)):dS h' r enc (L ++ [k]):=by
 rw [pz hn] at m;have:=m.congr (abe hn);unfold dS;rw [List.length_append];exact this
theorem dS.nil (h:Hp):dS (h.lay (.map [] 0)) h.next enc ([]:List κ):=(MapAt.new h).congr fun k=>(pz (by simp)).symm
end
end Go.Proofs.Ytedneplaibmppaa
namespace Go.Proofs.Ytedneplaibmppaa
open Go.Rx
namespace Mac
def vD (m:Mac)(c F:List Int)(d:Nat):List (Int×Int):=(List.range m.out.length).map fun s=>(F.getD s 0,c.getD (m.nx s d) 0)
def rX (m:Mac)(c:List Int):Nat→List Int
 | 0=>c
 | d + 1=>num (m.vD c (rX m c d) d)
def Ph (m:Mac)(c:List Int):Nat→Nat
 | 0=>0
 | d + 1=>many (m.vD c (m.rX c d) d)
theorem Kj (m:Mac)(c F:List Int)(d:Nat):(m.vD c F d).length = m.out.length:=by unfold vD; rw [List.length_map,List.length_range]
theorem vE {m:Mac}{c F:List Int}{d s:Nat}(h:s < m.out.length):(m.vD c F d)[s]? = some (F.getD s 0,c.getD (m.nx s d) 0):=by
 unfold vD; rw [List.getElem?_map,List.getElem?_range h]; rfl
theorem Zv {m:Mac}{c:List Int}(hc:c.length = m.out.length):∀ d,(m.rX c d).length = m.out.length
 | 0=>hc
 | d + 1=>by unfold rX; rw [qC,Kj]
theorem abf {κ:Type}[DecidableEq κ]{ks:List κ}{s:Nat}{k:κ}(h:ks[s]? = some k):(num ks).getD s 0 = ((notes [] ks).idxOf k:Nat):=by
 rw [List.getD_eq_getElem?_getD,wQ h]; rfl
theorem Tk {m:Mac}{c:List Int}{s t:Nat}(hs:s < m.out.length)(ht:t < m.out.length):∀ d,(m.rX c d).getD s 0 = (m.rX c d).getD t 0↔c.getD s 0 = c.getD t 0∧∀ e,e < d→c.getD (m.nx s e) 0 = c.getD (m.nx t e) 0
 | 0=>⟨fun h=>⟨h,fun e he=>absurd he (Nat.not_lt_zero _)⟩,fun h=>h.1⟩
 | d + 1=>by
  have ih:=Tk (c:=c) hs ht d;have h:=XQ (vE (c:=c) (F:=m.rX c d) (d:=d) hs) (vE (c:=c) (F:=m.rX c d) (d:=d) ht);unfold rX;have h2:(num (m.vD c (m.rX c d) d)).getD s 0 = (num (m.vD c (m.rX c d) d)).getD t 0↔(num (m.vD c (m.rX c d) d))[s]? = (num (m.vD c (m.rX c d) d))[t]?:=by
   rw [List.getD_eq_getElem?_getD,List.getD_eq_getElem?_getD,wQ (vE hs),wQ (vE ht)];simp
  rw [h2,h,Prod.mk.injEq,ih];constructor
  ·rintro ⟨⟨a,b⟩,e⟩;refine ⟨a,fun x hx=>?_⟩;by_cases hxd:x = d
   ·rw [hxd]; exact e
   ·exact b x (by omega)
  ·rintro ⟨a,b⟩;exact ⟨⟨a,fun x hx=>b x (by omega)⟩,b d (by omega)⟩
theorem Zw {m:Mac}{c:List Int}(hb:1≤m.base):m.rX c m.base = m.ref c∧m.Ph c m.base = m.cnt c:=by
 obtain ⟨b,e⟩:∃ b,m.base = b + 1:=⟨m.base - 1,by omega⟩;rw [e];unfold rX Ph ref cnt;have h:=Eh (zs:=(List.range m.out.length).map fun s=>(((m.rX c b).getD s 0,c.getD (m.nx s b) 0),m.key c s)) (fun x hx y hy=>by
  obtain ⟨s,hs,rfl⟩:=List.mem_map.1 hx;obtain ⟨t,ht,rfl⟩:=List.mem_map.1 hy;dsimp only;rw [Prod.mk.injEq,Tk (List.mem_range.1 hs) (List.mem_range.1 ht),key_eq,e];constructor
  ·rintro ⟨⟨a,a2⟩,q⟩;refine ⟨a,fun x hx=>?_⟩;by_cases hxd:x = b
   ·rw [hxd]; exact q
   ·exact a2 x (by omega)
  ·rintro ⟨a,a2⟩;exact ⟨⟨a,fun x hx=>a2 x (by omega)⟩,a2 _ (by omega)⟩)
 rw [List.map_map,List.map_map] at h;exact h
end Mac
def tC {κ:Type}[DecidableEq κ](ks:List κ)(F:List Int)(k:Nat):List Int:=(num ks).take k ++ F.drop k
theorem X6 {κ:Type}[DecidableEq κ]{ks:List κ}{F:List Int}(h:ks.length = F.length)(k:Nat):(tC ks F k).length = F.length:=by
 unfold tC;rw [List.length_append,List.length_take,List.length_drop,qC];omega
theorem Zx {κ:Type}[DecidableEq κ]{ks:List κ}{F:List Int}(h:ks.length = F.length){k:Nat}(hk:k < F.length):gl (tC ks F k) k = gl F k:=by
 unfold tC gl;rw [List.getD_eq_getElem?_getD,List.getD_eq_getElem?_getD,List.getElem?_append_right (by rw [List.length_take,qC]; omega),List.length_take,qC,List.getElem?_drop]
 congr 2
 omega
theorem X7 {κ:Type}[DecidableEq κ]{ks:List κ}{F:List Int}(h:ks.length = F.length){k:Nat}(hk:k < F.length):(tC ks F k).set k (gl (num ks) k) = tC ks F (k + 1):=by
 unfold tC;have hl:((num ks).take k).length = k:=by rw [List.length_take,qC]; omega
 have hn:k < (num ks).length:=by rw [qC]; omega
 rw [List.set_append_right _ _ (by omega),hl,Nat.sub_self,List.take_succ_eq_append_getElem hn,List.drop_eq_getElem_cons hk,l9 hn,List.append_assoc];rfl
theorem Vi {κ:Type}[DecidableEq κ](ks:List κ)(F:List Int):tC ks F 0 = F:=by unfold tC; simp
theorem Vj {κ:Type}[DecidableEq κ]{ks:List κ}{F:List Int}(h:ks.length = F.length):tC ks F F.length = num ks:=by
 unfold tC;rw [List.drop_length,List.append_nil,List.take_of_length_le (by rw [qC]; omega)]
theorem Vk {κ:Type}[DecidableEq κ]{ks:List κ}{k:Nat}{x:κ}(h:ks[k]? = some x):(notes [] (ks.take (k + 1))).idxOf x = (notes [] ks).idxOf x:=by
 obtain ⟨hk,e⟩:=List.getElem?_eq_some_iff.1 h;have e2:ks = ks.take (k + 1) ++ ks.drop (k + 1):=(List.take_append_drop _ _).symm;have hm:x ∈ notes [] (ks.take (k + 1)):=fZ (List.mem_iff_getElem?.2 ⟨k,by rw [List.getElem?_take_of_lt (by omega)]; exact h⟩)
 conv=>rhs; rw [e2,wP]
 obtain ⟨r,e3⟩:=gJ (ks.drop (k + 1)) (notes [] (ks.take (k + 1)));rw [e3,ng hm]
theorem gK {κ:Type}{ks:List κ}{k:Nat}{x:κ}(h:ks[k]? = some x):ks.take (k + 1) = ks.take k ++ [x]:=by
 obtain ⟨hk,e⟩:=List.getElem?_eq_some_iff.1 h;rw [List.take_succ_eq_append_getElem hk,e]
def nT {κ:Type}[DecidableEq κ](L:List κ)(x:κ):Nat:=L.idxOf x
theorem X8 {κ:Type}[DecidableEq κ]{ks:List κ}{k:Nat}{x:κ}(h:ks[k]? = some x):gl (num ks) k = (nT (notes [] (ks.take (k + 1))) x:Nat):=by
 unfold nT;rw [Vk h];exact Mac.abf h
end Go.Proofs.Ytedneplaibmppaa
namespace Go.Proofs.Ytedneplaibmppaa
open Go.Rx Go.RowKit
theorem ji (a b:Int):fD 4 (.agg ⟨[int a,int b]⟩) (.agg ⟨[int a,int b]⟩) = true:=U1 [a,b]
attribute [local irreducible] E iJ cellAt bJ storeAt callable dh dG dO findKey dZ bP Hp.at Hp.set Hp.lay dL cO setAt aJ dx bO dz Rnd gq fB gY Int.tmod Int.tdiv Int.fdiv
section
variable [bC]
attribute [local irreducible] sameAt
theorem Db (v w:Value)(m:Mac)(c:List Int)(h:Hp)(hv:MV h v m.i)(hw:View h w c)(hm:m.Ok)(hc:c.length = m.out.length)(hl:m.out.length≤100000)(hbl:m.base≤1000):aJ E 105 [v,w] h (fun r h'=>(∃ u,r = .tuple ⟨[u,int (m.cnt c:Nat)]⟩∧Built h h' 3 u (m.ref c))∧aA h h'):=by
 obtain ⟨bx,rfl,hbx⟩:=hv.box;obtain ⟨ao,an,co,cn,hcx⟩:=hbx.cx;obtain ⟨aw,cw,rfl⟩:=hw.known;obtain ⟨i3,t3,-,z3⟩:=ty3;obtain ⟨aeQ,Vl,Vm⟩:=aas;have hn1:=hm.n1;have hil:=hm.vC;refine enter105 (by simp) ?_;conv=>whnf
 refine aC.cut (α:=Hp) (fun _=>[(5,int 0),(4,aN),(2,ptr h.next 0),(1,.slice aw c.length cw)]) (fun x H=>x = H∧aA h H∧H.at h.next = some (.row 25 true bx)) ?_ ?_
 ·conv=>whnf
  exact ⟨_,⟨rfl,rfl,rfl,rfl,trivial⟩,⟨rfl,aA.lay _ _,Hp.ak _ _⟩,rfl⟩
 rintro H φ1 _ ⟨rfl,gH,aX⟩;conv=>whnf
 refine aC.cut (α:=Nat×Bool×Hp) (fun s=>[(5,int 0),(4,slc s.1 0 m.out.length m.out.length),(2,ptr h.next 0),(1,.slice aw c.length cw)]) (fun s H2=>s.2.2 = H2∧aA h s.2.2∧s.2.2.at h.next = some (.row 25 true bx)∧h.next < s.1∧s.2.2.at s.1 = some (.row 3 s.2.1 (c.map int))) ?_ ?_
 ·conv=>whnf
  refine fB.ints (h0:=H) (.inl ⟨rfl,rfl⟩) (.refl _) (hw.ext gH).elems (by simp; omega) ?_;intro u H2 hb hg _;rw [List.nil_append] at hb;have hlt:=Hp.aU aX;rcases hb with ⟨_,e⟩ | ⟨r,rfl,hr,x,hat⟩
  ·rw [e] at hc; simp at hc; omega
  conv=>whnf
  exact ⟨(r,x,H2),⟨rfl,congrArg (fun k=>slc r 0 k k) hc,rfl,rfl,trivial⟩,⟨rfl,gH.trans hg,hg.at_ _ _ aX,by show h.next < r; omega,hat⟩,rfl⟩
 rintro ⟨W,x,H2⟩ φ2 _ ⟨rfl,g2,aX2,hW,aW⟩;dsimp only at g2 aX2 hW aW ⊢;conv=>whnf
 refine aC.cut (α:=Hp) (fun _=>[(5,int (m.cnt c:Nat)),(4,slc W 0 m.out.length m.out.length)]) (fun s H3=>s = H3∧aA h s∧s.at W = some (.row 3 x ((m.ref c).map int))) ?_ ?_;rotate_left
 ·rintro H3 φ3 _ ⟨rfl,g3,aW3⟩;conv=>whnf
  repeat (refine aC.go ?_; conv=>whnf)
  refine ⟨⟨_,rfl,.inr ⟨W,?_,by omega,x,aW3⟩⟩,g3⟩;rw [Mac.zY];rfl
 have c0:=(hcx H2 h.next 25 g2 aX2).c0;conv=>whnf
 refine aC.go ?_;conv=>whnf
 refine ⟨_,c0,?_⟩;conv=>whnf
 refine bT (α:=Nat×Hp) (fun s=>[(17,int s.1),(16,int m.base),(5,int (m.Ph c s.1:Nat)),(4,slc W 0 m.out.length m.out.length),(2,ptr h.next 0),(1,.slice aw c.length cw)]) (fun s=>s.2) (fun s=>s.1≤m.base∧aA h s.2∧s.2.at h.next = some (.row 25 true bx)∧s.2.at W = some (.row 3 x ((m.rX c s.1).map int))) (fun s=>m.base - s.1) (0,H2) ⟨Nat.zero_le _,g2,aX2,aW⟩ ⟨rfl,rfl,rfl,rfl,rfl,rfl,trivial⟩ (Hp.Le.refl _) ?_;rintro ⟨d,H3⟩ φ3 ⟨hd,g3,aX3,aW3⟩;dsimp only at hd g3 aX3 aW3 ⊢;conv=>whnf
 repeat (refine aC.go ?_; conv=>whnf)
 refine dJ (fun q1=>?_) (fun q1=>?_);rotate_left
 ·have:d = m.base:=by omega
  subst this;have hfr:=Mac.Zw (m:=m) (c:=c) hm.b1;rw [hfr.1] at aW3;rw [hfr.2];conv=>whnf
  exact ⟨H3,⟨rfl,rfl,trivial⟩,⟨rfl,g3,aW3⟩,rfl⟩
 have hdb:d < m.base:=by omega
 have abg:∃ F,m.rX c d = F:=⟨_,rfl⟩;obtain ⟨F,eF⟩:=abg;have hFl:F.length = m.out.length:=by rw [← eF]; exact Mac.Zv hc d
 rw [eF] at aW3;have Rn:∃ ks,m.vD c F d = ks:=⟨_,rfl⟩;obtain ⟨ks,eks⟩:=Rn;have hkl:ks.length = m.out.length:=by rw [← eks]; exact Mac.Kj _ _ _ _
 have hkF:ks.length = F.length:=by omega
 have Pj:m.rX c (d + 1) = num ks:=by
  show num (m.vD c (m.rX c d) d) = _;rw [eF,eks]
 have acj:m.Ph c (d + 1) = (notes [] ks).length:=by
  show many (m.vD c (m.rX c d) d) = _;rw [eF,eks]; rfl
 conv=>whnf
 refine aC.go ?_;conv=>whnf
 refine aC.cut (α:=Hp) (fun s=>[(17,int d),(16,int m.base),(5,int (m.Ph c (d + 1):Nat)),(4,slc W 0 m.out.length m.out.length),(2,ptr h.next 0),(1,.slice aw c.length cw)]) (fun s H4=>s = H4∧aA h s∧s.at h.next = some (.row 25 true bx)∧s.at W = some (.row 3 x ((m.rX c (d + 1)).map int))) ?_ ?_;rotate_left
 ·rintro H4 φ4 _ ⟨rfl,g4,aX4,aW4⟩;conv=>whnf
  refine ⟨((d + 1:Nat):Int),wie (by omega) (by omega),?_⟩;conv=>whnf
  exact Rnd.mk (d + 1,H4) ⟨by show d + 1≤m.base; omega,g4,aX4,aW4⟩ (by show m.base - (d + 1) < m.base - d; omega) ⟨rfl,rfl,rfl,rfl,rfl,rfl,trivial⟩ (Hp.Le.refl _) rfl
 rw [Pj,acj];conv=>whnf
 refine aC.go ?_;conv=>whnf
 have hltW:=Hp.aU aW3;refine aC.cut (α:=Hp) (fun s=>[(7,bL H3.next),(6,int d),(17,int d),(16,int m.base),(4,slc W 0 m.out.length m.out.length),(2,ptr h.next 0),(1,.slice aw c.length cw)]) (fun s H4=>s = H4∧aA H3 s∧dS s H3.next dB ([]:List (Int×Int))) ?_ ?_
 ·conv=>whnf
  exact ⟨_,⟨rfl,rfl,rfl,rfl,rfl,rfl,rfl,trivial⟩,⟨rfl,aA.lay _ _,dS.nil _⟩,rfl⟩
 rintro H4 φ4 _ ⟨rfl,g4,hM4⟩;have aX4:=g4.at_ _ _ aX3;have aW4:=g4.at_ _ _ aW3;have g4':=g3.trans g4;have X9:∃ M,H3.next = M:=⟨_,rfl⟩;obtain ⟨M,eM⟩:=X9;rw [eM] at hM4 ⊢;conv=>whnf
 refine aC.cut (α:=Hp) (fun s=>[(7,bL M),(6,int d),(17,int d),(16,int m.base),(4,slc W 0 m.out.length m.out.length),(2,ptr h.next 0),(1,.slice aw c.length cw)]) (fun s H5=>s = H5∧aA h s∧s.at h.next = some (.row 25 true bx)∧s.at W = some (.row 3 x ((num ks).map int))∧dS s M dB (notes [] ks)) ?_ ?_;rotate_left
 ·rintro H5 φ5 _ ⟨rfl,g5,aX5,aW5,hM5⟩;conv=>whnf
  refine Bl Vl Vm rfl hM5 ?_;conv=>whnf
  exact ⟨H5,⟨rfl,rfl,rfl,rfl,rfl,rfl,trivial⟩,⟨rfl,g5,aX5,aW5⟩,rfl⟩
 conv=>whnf
 refine aC.go ?_;conv=>whnf
 refine bT (α:=Nat×Hp) (fun s=>[(23,int s.1),(22,int m.out.length),(7,bL M),(6,int d),(17,int d),(16,int m.base),(4,slc W 0 m.out.length m.out.length),(2,ptr h.next 0),(1,.slice aw c.length cw)]) (fun s=>s.2) (fun s=>s.1≤m.out.length∧aA h s.2∧s.2.at h.next = some (.row 25 true bx)∧s.2.at W = some (.row 3 x ((tC ks F s.1).map int))∧dS s.2 M dB (notes [] (ks.take s.1))) (fun s=>m.out.length - s.1) (0,H4) ⟨Nat.zero_le _,g4',aX4,by rw [Vi]; exact aW4,hM4⟩ ⟨rfl,rfl,rfl,rfl,rfl,rfl,rfl,rfl,rfl,trivial⟩ (Hp.Le.refl _) ?_;rintro ⟨k,H5⟩ φ5 ⟨hk,g5,aX5,aW5,hM5⟩;dsimp only at hk g5 aX5 aW5 hM5 ⊢;conv=>whnf
 repeat (refine aC.go ?_; conv=>whnf)
 refine dJ (fun q2=>?_) (fun q2=>?_);rotate_left
 ·have:k = m.out.length:=by omega
  subst this;rw [show m.out.length = F.length by omega,Vj hkF] at aW5;rw [List.take_of_length_le (by omega)] at hM5;conv=>whnf
  exact ⟨H5,⟨rfl,rfl,rfl,rfl,rfl,rfl,rfl,trivial⟩,⟨rfl,g5,aX5,aW5,hM5⟩,rfl⟩
 have hkn:k < m.out.length:=by omega
 have hnl:=hm.lt k d hkn hdb;have hks:ks[k]? = some (gl F k,gl c (m.nx k d)):=by rw [← eks]; exact Mac.vE hkn
 have kx5:=hcx H5 h.next 25 g5 aX5;have e2:=kx5.c2;have hnx:=kx5.kR hm hkn hdb;obtain ⟨r,o,sp,r',o',sp',c',rfl,hsp,hc1,Vd,hc2⟩:=hnx;have hcl:=View.iI (hw.ext g5) (i:=m.nx k d) (by omega);obtain ⟨r2,o2,sp2,rfl,hsp2,-,hc3⟩:=hcl;have hpl:=X6 hkF k;have hcW:cellAt H5 W (gU 0 k 1) = some (int (gl F k)):=jX aW5 (by rw [List.getElem?_map,List.getElem?_eq_getElem (by omega),← l9 (by omega),Zx hkF (by omega)]; rfl);have hvs:fA none = false:=rfl;conv=>whnf
 refine aC.go ?_;conv=>whnf
 refine aC.cut (α:=Hp) (fun s=>[(23,int k),(22,int m.out.length),(7,bL M),(6,int d),(17,int d),(16,int m.base),(4,slc W 0 m.out.length m.out.length),(2,ptr h.next 0),(1,.slice (some ⟨r2,o2,sp2⟩) c.length cw)]) (fun s H6=>s = H6∧aA h s∧s.at h.next = some (.row 25 true bx)∧s.at W = some (.row 3 x ((tC ks F (k + 1)).map int))∧dS s M dB (notes [] (ks.take (k + 1)))) ?_ ?_;rotate_left
 ·rintro H6 φ6 _ ⟨rfl,g6,aX6,aW6,hM6⟩;conv=>whnf
  refine ⟨((k + 1:Nat):Int),wie (by omega) (by omega),?_⟩;conv=>whnf
  exact Rnd.mk (k + 1,H6) ⟨by show k + 1≤_; omega,g6,aX6,aW6,hM6⟩ (by show _ - (k + 1) < _ - k; omega) ⟨rfl,rfl,rfl,rfl,rfl,rfl,rfl,rfl,rfl,trivial⟩ (Hp.Le.refl _) rfl
 have gl1:aA H5 (H5.lay (.row 106 true [int 0,int 0])):=aA.lay _ _;have gl2:aA H5 (H5.lay (.row 106 true [int (gl F k),int (gl c (m.nx k d))])):=aA.lay _ _;have f1:=gl1.cell hcW;have f2:=gl1.cell e2;have f3:=gl1.cell hc1;have f4:=gl1.cell hc2;have f5:=gl1.cell hc3;have s1:=gl2.cell hcW;have s2:=gl2.cell e2;have s3:=gl2.cell hc1;have s4:=gl2.cell hc2;have s5:=gl2.cell hc3;conv=>whnf
 refine aC.go ?_;conv=>whnf
 refine aC.cut (α:=Hp) (fun s=>[(9,ptr H5.next 0),(8,int k),(23,int k),(22,int m.out.length),(7,bL M),(6,int d),(17,int d),(16,int m.base),(4,slc W 0 m.out.length m.out.length),(2,ptr h.next 0),(1,.slice (some ⟨r2,o2,sp2⟩) c.length cw)]) (fun s H6=>s = H6∧aA H5 s∧s.at H5.next = some (.row 106 true [int (gl F k),int (gl c (m.nx k d))])) ?_ ?_
 ·conv=>whnf
  refine ⟨hvs,⟨by omega,by omega⟩,?_⟩;conv=>whnf
  refine ⟨_,hcW,?_⟩;conv=>whnf
  refine ⟨_,e2,?_⟩;conv=>whnf
  refine ⟨hsp,⟨by omega,by omega⟩,?_⟩;conv=>whnf
  refine ⟨_,hc1,?_⟩;conv=>whnf
  refine ⟨Vd,⟨by omega,by omega⟩,?_⟩;conv=>whnf
  refine ⟨_,hc2,?_⟩;conv=>whnf
  refine ⟨hsp2,⟨by omega,by omega⟩,?_⟩;conv=>whnf
  refine ⟨_,hc3,?_⟩;conv=>whnf
  refine ⟨rfl,_,bX (vs:=[int (gl F k),int (gl c (m.nx k d))]) rfl rfl rfl,?_⟩;conv=>whnf
  refine ⟨?_,?_⟩
  ·repeat' (first | exact True.intro | (refine And.intro ?_ ?_ <;> (conv=>whnf)))
   all_goals first
    | exact aj (h2:=_) rfl (aM _)
    | exact aj (h2:=_) rfl (bS _ _)
    | exact aj (h2:=_) rfl (aD _ _ _)
    | exact aj (h2:=_) rfl (ji _ _)
    | exact aj (h2:=_) (congrArg (hval _) hcW) (aM _)
    | exact aj (h2:=_) (congrArg (hval _) hcW) (aD _ _ _)
    | exact aj (h2:=_) (congrArg (hval _) e2) (aM _)
    | exact aj (h2:=_) (congrArg (hval _) e2) (aD _ _ _)
    | exact aj (h2:=_) (congrArg (hval _) hc1) (aM _)
    | exact aj (h2:=_) (congrArg (hval _) hc1) (aD _ _ _)
    | exact aj (h2:=_) (congrArg (hval _) hc2) (aM _)
    | exact aj (h2:=_) (congrArg (hval _) hc2) (aD _ _ _)
    | exact aj (h2:=_) (congrArg (hval _) hc3) (aM _)
    | exact aj (h2:=_) (congrArg (hval _) hc3) (aD _ _ _)
    | exact aj (h2:=_) (congrArg (hval _) f1) (aM _)
    | exact aj (h2:=_) (congrArg (hval _) f1) (aD _ _ _)
    | exact aj (h2:=_) (congrArg (hval _) f2) (aM _)
    | exact aj (h2:=_) (congrArg (hval _) f2) (aD _ _ _)
    | exact aj (h2:=_) (congrArg (hval _) f3) (aM _)
    | exact aj (h2:=_) (congrArg (hval _) f3) (aD _ _ _)
    | exact aj (h2:=_) (congrArg (hval _) f4) (aM _)
    | exact aj (h2:=_) (congrArg (hval _) f4) (aD _ _ _)
    | exact aj (h2:=_) (congrArg (hval _) f5) (aM _)
    | exact aj (h2:=_) (congrArg (hval _) f5) (aD _ _ _)
    | exact aj (h2:=_) (congrArg (hval _) s1) (aM _)
    | exact aj (h2:=_) (congrArg (hval _) s1) (aD _ _ _)
    | exact aj (h2:=_) (congrArg (hval _) s2) (aM _)
    | exact aj (h2:=_) (congrArg (hval _) s2) (aD _ _ _)
    | exact aj (h2:=_) (congrArg (hval _) s3) (aM _)
    | exact aj (h2:=_) (congrArg (hval _) s3) (aD _ _ _)
    | exact aj (h2:=_) (congrArg (hval _) s4) (aM _)
    | exact aj (h2:=_) (congrArg (hval _) s4) (aD _ _ _)
    | exact aj (h2:=_) (congrArg (hval _) s5) (aM _)
    | exact aj (h2:=_) (congrArg (hval _) s5) (aD _ _ _)
    | exact aj (h2:=_) (show hval _ (kI 1 (.slice (some ⟨_,_,_⟩) _ _) (int _)) = _ from fH hvs ⟨by omega,by omega⟩) (bS _ _)
    | exact aj (h2:=_) (show hval _ (kI 1 (.slice (some ⟨_,_,_⟩) _ _) (int _)) = _ from fH hsp ⟨by omega,by omega⟩) (bS _ _)
    | exact aj (h2:=_) (show hval _ (kI 1 (.slice (some ⟨_,_,_⟩) _ _) (int _)) = _ from fH Vd ⟨by omega,by omega⟩) (bS _ _)
    | exact aj (h2:=_) (show hval _ (kI 1 (.slice (some ⟨_,_,_⟩) _ _) (int _)) = _ from fH hsp2 ⟨by omega,by omega⟩) (bS _ _)
    | exact ⟨_,rfl,Hp.ak _ _,rfl⟩
  exact ⟨_,⟨rfl,rfl,rfl,rfl,rfl,rfl,rfl,rfl,rfl,rfl,rfl,trivial⟩,⟨rfl,aA.lay _ _,Hp.ak _ _⟩,rfl⟩
 rintro H6 φ6 _ ⟨rfl,g6,aK⟩;have g6':=g5.trans g6;have aX6:=g6.at_ _ _ aX5;have aW6:=g6.at_ _ _ aW5;have hM6:=hM5.ext g6;have acn:∃ K,H5.next = K:=⟨_,rfl⟩;obtain ⟨Kk,eK⟩:=acn;rw [eK] at aK ⊢;have Vn:M < Kk:=by
  obtain ⟨_,_,h1,_⟩:=hM5;have:=Hp.aU h1;omega
 have aeH:=Hp.aU aW5;have hMW:M≠W:=by omega
 have Ro:∃ kk:Int×Int,(gl F k,gl c (m.nx k d)) = kk:=⟨_,rfl⟩;obtain ⟨kk,ekk⟩:=Ro;have Pk:Value.agg ⟨[int (gl F k),int (gl c (m.nx k d))]⟩ = dB kk:=by rw [← ekk]; rfl
 have aco:ks[k]? = some kk:=by rw [hks,ekk]
 have htk:notes [] (ks.take (k + 1)) = note (notes [] (ks.take k)) kk:=by rw [gK aco,iF]
 have hgn:=X8 aco;have rO:∃ L,notes [] (ks.take k) = L:=⟨_,rfl⟩;obtain ⟨L,eL⟩:=rO;rw [eL] at hM6 htk;clear hM5;have aeI:L.length≤100000:=by
  rw [← eL];have:=j4 (l:=notes [] (ks.take k)) (r:=ks.take k) (jc List.nodup_nil) (fun y hy=>by
   rcases j3 hy with h | h
   ·simp at h
   ·exact h)
  rw [List.length_take] at this;omega
 conv=>whnf
 refine aC.cut (α:=Hp) (fun s=>[(9,ptr Kk 0),(8,int k),(23,int k),(22,int m.out.length),(7,bL M),(6,int d),(17,int d),(16,int m.base),(4,slc W 0 m.out.length m.out.length),(2,ptr h.next 0),(1,.slice (some ⟨r2,o2,sp2⟩) c.length cw)]) (fun s H7=>s = H7∧aA h s∧s.at h.next = some (.row 25 true bx)∧s.at W = some (.row 3 x ((tC ks F k).map int))∧s.at Kk = some (.row 106 true [int (gl F k),int (gl c (m.nx k d))])∧dS s M dB (note L kk)) ?_ ?_
 ·by_cases hin:kk ∈ L
  ·have jF:note L kk = L:=by unfold note; rw [if_pos hin]
   rw [jF];conv=>whnf
   refine aC.go ?_;conv=>whnf
   refine ⟨_,aI aK rfl,?_⟩;conv=>whnf
   refine gy Vl Vm t3 z3 oL (k:=kk) rfl (by exact Pk) hM6 (jP hin) ?_;conv=>whnf
   repeat (refine aC.go ?_; conv=>whnf)
   exact ⟨H6,⟨rfl,rfl,rfl,rfl,rfl,rfl,rfl,rfl,rfl,rfl,rfl,trivial⟩,⟨rfl,g6',aX6,aW6,aK,hM6⟩,rfl⟩
  ·have jF:note L kk = L ++ [kk]:=by unfold note; rw [if_neg hin]
   rw [jF];conv=>whnf
   refine aC.go ?_;conv=>whnf
   refine ⟨_,aI aK rfl,?_⟩;conv=>whnf
   refine gI Vl Vm t3 z3 oL (k:=kk) rfl (by exact Pk) hM6 (pz hin) ?_;conv=>whnf
   repeat (refine aC.go ?_; conv=>whnf)
   refine ⟨_,aI aK rfl,?_⟩;conv=>whnf
   refine Bl Vl Vm rfl hM6 ?_;conv=>whnf
   refine iO Vl Vm oL (k:=kk) (v:=int L.length) rfl (by exact Pk) rfl hM6 ?_;intro H7 hM7 y7;conv=>whnf
   exact ⟨H7,⟨rfl,rfl,rfl,rfl,rfl,rfl,rfl,rfl,rfl,rfl,rfl,trivial⟩,⟨rfl,y7.grows g6' (by have:=g3.next; omega),y7.at_ _ _ (by have:=g3.next; omega) aX6,y7.at_ _ _ (fun e=>hMW e.symm) aW6,y7.at_ _ _ (by omega) aK,dS.add hin hM7⟩,rfl⟩
 rintro H7 φ7 _ ⟨rfl,g7,aX7,aW7,aK7,hM7⟩;have abh:kk ∈ note L kk:=nN L kk;conv=>whnf
 refine ⟨_,aI aK7 rfl,?_⟩;conv=>whnf
 refine fM Vl Vm t3 z3 oL (k:=kk) rfl (by exact Pk) hM7 (jP abh) ?_;conv=>whnf
 refine ⟨rfl,⟨by omega,by omega⟩,?_⟩;conv=>whnf
 refine ⟨rfl,_,jd aW7 (by rw [List.length_map]; omega) rfl,?_⟩;conv=>whnf
 refine ⟨_,⟨rfl,rfl,rfl,rfl,rfl,rfl,rfl,rfl,rfl,trivial⟩,⟨rfl,g7.bQ _ (by omega),by rw [Hp.cu _ (by omega)]; exact aX7,?_,?_⟩,rfl⟩
 ·rw [Hp.bB _ (Hp.aU aW7),← X7 hkF (by omega),hgn,htk,List.map_set];rfl
 ·rw [htk];exact MapAt.Tc (fun ob hob=>by rw [Hp.cu _ hMW]; exact hob) hM7
end
end Go.Proofs.Ytedneplaibmppaa
