/- Contracts of the functions that PMAH comes to. -/
import Derived.Test.YtedneplaibmppaaPMAG
set_option maxRecDepth 100000
set_option maxHeartbeats 2000000
set_option linter.unusedVariables false
set_option linter.unusedSectionVars false
set_option linter.unusedSimpArgs false
namespace Go.Proofs.Ytedneplaibmppaa
open Go.Rx Go.RowKit
theorem TN {h h':Hp}{r:Value}{P:Prop}{w:Mac}{N:Nat}(hN:N < h.next)(hN':N < h'.next)(hb:P→r = .tuple ⟨[noM,int 1]⟩)(hg:¬ P→ql h h' r w):∃ a b c e,r = .tuple ⟨[.agg ⟨[a,b,c]⟩,int e]⟩∧[a,b,c].all oneCell = true∧Ans (h'.set N (.row 25 true [a,b,c])) N e P w:=by
 by_cases p:P
 ·exact ⟨_,_,_,1,hb p,rfl,_,rfl,Hp.bB _ hN',vL _ _ _ _ _ _ _,fun _=>⟨rfl,rfl⟩,fun q=>absurd p q⟩
 ·obtain ⟨u,e,rfl,h1,h2⟩:=hg p;by_cases hl:w.form.out.length≤12
  ·obtain ⟨rfl,ho⟩:=h1 hl;obtain ⟨x,y,rfl⟩:=ho.known;exact ⟨_,_,_,0,rfl,rfl,_,rfl,Hp.bB _ hN',vL _ _ _ _ _ _ _,fun q=>absurd q p,fun _=>⟨fun _=>⟨rfl,(ho.put hN _).mv⟩,fun q=>by omega⟩⟩
  ·obtain ⟨rfl,rfl⟩:=h2 (by omega);exact ⟨_,_,_,8,rfl,rfl,_,rfl,Hp.bB _ hN',vL _ _ _ _ _ _ _,fun q=>absurd q p,fun _=>⟨fun q=>absurd q hl,fun _=>⟨rfl,rfl⟩⟩⟩
theorem ac4 {h:Hp}{r e:Nat}{x:Bool}{cs:List Value}(hr:h.at r = some (.row e x cs)):∃ sp,fA sp = false∧∀ h',aA h h'→lN h' 1 (slc r 0 10 10) none (some (int 9)) (some (int 9)) = .val (.slice (some ⟨r,0,sp⟩) 9 9) h':=by
 cases x with
 | true =>
  refine ⟨none,rfl,fun h' g=>?_⟩;have e1:=g.at_ _ _ hr;show nK h' 1 r 0 _ _ (h'.at r) = _;rw [e1];rfl
 | false =>
  refine ⟨some 1,rfl,fun h' g=>?_⟩;have e1:=g.at_ _ _ hr;show nK h' 1 r 0 _ _ (h'.at r) = _;rw [e1];rfl
theorem abP {h:Hp}{r e:Nat}{x:Bool}{cs:List Value}(hr:h.at r = some (.row e x cs)):lN h 1 (slc r 0 10 10) (some (int 1)) none none = .val (slc r 1 9 9) h:=by
 show nK h 1 r 0 _ _ (h.at r) = _;cases x <;> (rw [hr]; rfl)
theorem Bu {h:Hp}{r e:Nat}{x:Bool}{cs:List Value}(hr:h.at r = some (.row e x cs))(hl:cs.length = 10)(h1:cs.all oneCell = true):wO h 1 (slc r 1 9 9) 9 cs.tail:=by
 refine ⟨rfl,?_,by rw [List.length_tail]; omega,?_⟩
 ·show bJ h r 1 (9 * 1) = _;rw [iq hr (by omega),List.drop_one,List.take_of_length_le (by rw [List.length_tail]; omega)]
 ·match cs,h1 with
  | [],_=>rfl
  | c :: cs,h1=>simp only [List.all_cons,Bool.and_eq_true] at h1; exact h1.2
theorem VG {h:Hp}{r e:Nat}{x:Bool}{l:List Int}(hr:h.at r = some (.row e x (l.map int)))(hl:l.length = 10):S9 h (slc r 1 9 9) l.tail:=by
 have k:=Bu hr (by rw [List.length_map]; exact hl) (rF l);have hl9:l.tail.length = 9:=by rw [List.length_tail]; omega
 refine ⟨by rw [hl9]; rfl,?_⟩;rw [hl9,List.map_tail];exact k.2.1
theorem MW (x:List Int)(T:List (List Int))(i:Nat):rw_ (x :: T) (i + 1) = rw_ T i:=rfl
theorem MX (T:List (List Int))(i:Nat):rw_ T.tail i = rw_ T (i + 1):=by
 match T with
 | []=>rfl
 | _ :: _=>rfl
theorem aad (n:Nat):∃ k:Nat,((n:Nat):Int).tmod 2 = k∧k≤1:=⟨n % 2,rG n 2,by omega⟩
theorem abQ {H:Hp}{rt:Nat}{us:List Value}{T:List (List Int)}(k:TB H rt us T):us.all oneCell = true:=by
 rw [List.all_eq_true];intro u hu;obtain ⟨i,hi⟩:=List.getElem?_of_mem hu;have YK:=(List.getElem?_eq_some_iff.1 hi).1;rw [k.ul] at YK;obtain ⟨r,x,e,_⟩:=k.row i YK;rw [hi] at e;cases e
 rfl
attribute [local irreducible] E iJ cellAt bJ storeAt callable dh dG dO findKey dZ bP Hp.at Hp.set Hp.lay dL cO setAt aJ dx bO dz Rnd gq fB gY Int.tmod Int.tdiv Int.fdiv
section
variable [bC]
attribute [local irreducible] kV sameAt
theorem YL (ts0:List Tr)(hy0:TyT Try.prog 25 ts0)(ts1:List Tr)(hy1:TyT Try.prog 25 ts1)(t2:Tr)(hy2:TyT Try.prog 22 [t2]):∀ h vs,Jv h vs [.ag ts0,.ag ts1,t2]→aJ E 8 vs h (fun r _=>r = .bool true):=by
 intro h vs hvs
 match vs,hvs with
 | [v0,v1,v2],hvs =>
 obtain ⟨k0,k1,k2,-⟩:=hvs;obtain ⟨M,hMb,hML,hM⟩:=TH hy0;obtain ⟨O,hOb,hOL,hO⟩:=TH hy1;obtain ⟨l,el,hll,-⟩:=Me MN cells3 ML hy2;have hmax:maxLen < 9223372036854775808:=by decide
 rw [el] at k2;have hvl:=k2.view;have hM:=hM h v0 k0;have hO:=hO h v1 k1;obtain ⟨lv,lc,rfl⟩:=hvl.known;obtain ⟨bx,rfl,hbx⟩:=hM.box;obtain ⟨by_,rfl,hby⟩:=hO.box;refine enter8 (by simp) ?_;conv=>whnf
 refine aC.cut (α:=Hp) (fun _=>[(3,ptr h.next 0),(4,ptr (h.next + 1) 0),(2,.slice lv l.length lc)]) (fun s H=>s = H∧H.at h.next = some (.row 25 true bx)∧H.at (h.next + 1) = some (.row 25 true by_)∧aA h H∧H.next = h.next + 2) ?_ ?_
 ·conv=>whnf
  have n1:(h.lay (.row 25 true bx)).next = h.next + 1:=Hp.bF _ _;exact ⟨_,⟨rfl,congrArg (fun k=>ptr k 0) n1,rfl,trivial⟩,⟨rfl,Hp.bg _ (Hp.ak _ _),eB n1 (Hp.ak _ _),(aA.lay _ _).bH _,by rw [Hp.bF,n1]⟩,rfl⟩
 rintro H0 φ0 _ ⟨rfl,aX,aY,g0,n0⟩;have aex:∃ Y,h.next + 1 = Y:=⟨_,rfl⟩;obtain ⟨Y,eY⟩:=aex;rw [eY] at aY ⊢;have hrm:=aad l.length;obtain ⟨lk,elk,hlk⟩:=hrm;conv=>whnf
 refine aC.cut (α:=Nat×List Value×Mac×Nat×List Value×Mac×Hp) (fun s=>[(8,ptr s.2.2.2.1 0),(7,ptr s.1 0),(4,ptr Y 0),(2,.slice lv l.length lc)]) (fun s H=>s.2.2.2.2.2.2 = H∧(OkS s.2.2.1∧H.at s.1 = some (.row 26 true s.2.1)∧s.2.1.length = 3∧MV H (.agg ⟨s.2.1⟩) s.2.2.1.i)∧(OkS s.2.2.2.2.2.1∧H.at s.2.2.2.1 = some (.row 26 true s.2.2.2.2.1)∧s.2.2.2.2.1.length = 3∧MV H (.agg ⟨s.2.2.2.2.1⟩) s.2.2.2.2.2.1.i)∧aA H0 H∧s.2.2.1.base = 2 + lk∧s.2.2.2.2.2.1.base = 2 + lk) ?_ ?_
 ·conv=>whnf
  have n1:(H0.lay (.row 26 true [int 0,aN,aN])).next = H0.next + 1:=Hp.bF _ _;have gl1:aA H0 ((H0.lay (.row 26 true [int 0,aN,aN])).lay (.row 26 true [int 0,aN,aN])):=(aA.lay _ _).bH _;have aL:((H0.lay (.row 26 true [int 0,aN,aN])).lay (.row 26 true [int 0,aN,aN])).at H0.next = some (.row 26 true [int 0,aN,aN]):=Hp.bg _ (Hp.ak _ _);have aL8:((H0.lay (.row 26 true [int 0,aN,aN])).lay (.row 26 true [int 0,aN,aN])).at (H0.next + 1) = some (.row 26 true [int 0,aN,aN]):=eB n1 (Hp.ak _ _);have nG0:((H0.lay (.row 26 true [int 0,aN,aN])).lay (.row 26 true [int 0,aN,aN])).next = H0.next + 2:=by rw [Hp.bF,n1]
  have cX:=aI (gl1.at_ _ _ aX) hbx.len;have cY:=aI (gl1.at_ _ _ aY) hby.len;refine ⟨_,cX,?_⟩;conv=>whnf
  refine ⟨by omega,?_⟩;conv=>whnf
  rw [elk];refine ⟨((2 + lk:Nat):Int),wie (by omega) (by omega),?_⟩;conv=>whnf
  refine aJ.mono (Em _ M (2 + lk) 5 _ (Bx.mv (hbx.ext (g0.trans gl1))) hML (by omega) (by omega)) ?_;rintro r H1 ⟨⟨m,hm,hmb,hml,hw⟩,g1⟩;have hw:jY ((H0.lay (.row 26 true [int 0,aN,aN])).lay (.row 26 true [int 0,aN,aN])) H1 r m.i:=hw;have g1:aA ((H0.lay (.row 26 true [int 0,aN,aN])).lay (.row 26 true [int 0,aN,aN])) H1:=g1;have hk:=hw.known;obtain ⟨p,q,rfl⟩:=hk;have cX1:=g1.cells cX;have cY1:=g1.cells cY;conv=>whnf
  refine ⟨_,cY1,?_⟩;conv=>whnf
  refine ⟨by omega,?_⟩;conv=>whnf
  rw [elk];refine ⟨((2 + lk:Nat):Int),wie (by omega) (by omega),?_⟩;conv=>whnf
  refine aJ.mono (Em _ O (2 + lk) 5 _ (Bx.mv (hby.ext ((g0.trans gl1).trans g1))) hOL (by omega) (by omega)) ?_;rintro r H2 ⟨⟨m',hm',abR,hml',hw'⟩,g2⟩;have hk:=hw'.known;obtain ⟨p',q',rfl⟩:=hk;have aL2:=g2.at_ _ _ (g1.at_ _ _ aL);have abS:=g2.at_ _ _ (g1.at_ _ _ aL8);have hlt:=Hp.aU aL2;have ae5:=Hp.aU abS;have cX2:=g2.cells cX1;have cY2:=g2.cells cY1;have n12:=g1.next;have acP:=Hp.aU aX;have ae6:=Hp.aU aY;have g02:=(gl1.trans g1).trans g2;have hw2:=hw.ext g2;conv=>whnf
  refine ⟨rfl,_,bE (vs:=[int m.i.base,.slice p m.i.out.length m.i.out.length,.slice q m.i.next.length m.i.next.length]) aL2 rfl rfl rfl,?_⟩;have Rn:∃ v7,[int m.i.base,.slice p m.i.out.length m.i.out.length,.slice q m.i.next.length m.i.next.length] = v7:=⟨_,rfl⟩;obtain ⟨v7,e7⟩:=Rn;have Rn:∃ v8,[int m'.i.base,.slice p' m'.i.out.length m'.i.out.length,.slice q' m'.i.next.length m'.i.next.length] = v8:=⟨_,rfl⟩;obtain ⟨v8,e8⟩:=Rn;have l7:v7.length = 3:=by rw [← e7]; rfl
  have l8:v8.length = 3:=by rw [← e8]; rfl
  have hs7:=hw2.put (R:=H0.next) (by omega) (.row 26 true v7);have ac5:=hw'.put (R:=H0.next) (by omega) (.row 26 true v7);have aLs:(H2.set H0.next (.row 26 true v7)).at (H0.next + 1) = some (.row 26 true [int 0,aN,aN]):=by rw [Hp.cu _ (by omega)]; exact abS
  have ac6:(H2.set H0.next (.row 26 true v7)).at H0.next = some (.row 26 true v7):=Hp.bB _ hlt;have gs7:aA H0 (H2.set H0.next (.row 26 true v7)):=g02.bQ _ (Nat.le_refl _);have cX3:=aI (gs7.at_ _ _ aX) hbx.len;have cY3:=aI (gs7.at_ _ _ aY) hby.len;rw [e7] at hs7;rw [e8] at ac5;have gs8:aA H0 ((H2.set H0.next (.row 26 true v7)).set (H0.next + 1) (.row 26 true v8)):=gs7.bQ _ (by omega);have cX4:=aI (gs8.at_ _ _ aX) hbx.len;have cY4:=aI (gs8.at_ _ _ aY) hby.len;have hs8:=hs7.put (R:=H0.next + 1) (by omega) (.row 26 true v8);have aey:=ac5.put (R:=H0.next + 1) (by omega) (.row 26 true v8);have ac7:((H2.set H0.next (.row 26 true v7)).set (H0.next + 1) (.row 26 true v8)).at H0.next = some (.row 26 true v7):=by rw [Hp.cu _ (by omega)]; exact ac6
  have ac8:((H2.set H0.next (.row 26 true v7)).set (H0.next + 1) (.row 26 true v8)).at (H0.next + 1) = some (.row 26 true v8):=Hp.bB _ (Hp.aU aLs);conv=>whnf
  subst e7;subst e8;refine ⟨rfl,_,bE (vs:=[int m'.i.base,.slice p' m'.i.out.length m'.i.out.length,.slice q' m'.i.next.length m'.i.next.length]) aLs rfl rfl rfl,?_⟩;conv=>whnf
  refine ⟨?_,?_⟩
  ·repeat' (first | exact True.intro | (refine And.intro ?_ ?_ <;> (conv=>whnf)))
   all_goals first
    | exact aj (h2:=_) rfl (aM _)
    | exact aj (h2:=_) rfl (bS _ _)
    | exact aj (h2:=_) (congrArg (fun x=>hval _ (dw x)) cX) hbx.same
    | exact aj (h2:=_) (congrArg (fun x=>hval _ (dw x)) cY) hby.same
    | exact aj (h2:=_) (congrArg (fun x=>hval _ (dw x)) cX1) hbx.same
    | exact aj (h2:=_) (congrArg (fun x=>hval _ (dw x)) cY1) hby.same
    | exact aj (h2:=_) (congrArg (fun x=>hval _ (dw x)) cX2) hbx.same
    | exact aj (h2:=_) (congrArg (fun x=>hval _ (dw x)) cY2) hby.same
    | exact aj (h2:=_) (congrArg (fun x=>hval _ (dw x)) cX3) hbx.same
    | exact aj (h2:=_) (congrArg (fun x=>hval _ (dw x)) cY3) hby.same
    | exact aj (h2:=_) (congrArg (fun x=>hval _ (dw x)) cX4) hbx.same
    | exact aj (h2:=_) (congrArg (fun x=>hval _ (dw x)) cY4) hby.same
    | exact aj (h2:=_) rfl (aD _ _ _)
    | exact aj (h2:=_) (show hval _ (arK .i64 .rem _ _) = _ from YE (by omega) elk) (aM _)
    | exact aj (h2:=_) (show hval _ (arK .i64 .add _ _) = _ from Ad (by omega) (by omega)) (aM _)
    | exact ⟨_,rfl,aL,rfl⟩
    | exact ⟨_,rfl,aL8,rfl⟩
    | exact ⟨_,rfl,g1.at_ _ _ aL,rfl⟩
    | exact ⟨_,rfl,g1.at_ _ _ aL8,rfl⟩
    | exact ⟨_,rfl,aL2,rfl⟩
    | exact ⟨_,rfl,abS,rfl⟩
    | exact ⟨_,rfl,aLs,rfl⟩
    | exact ⟨_,rfl,ac6,rfl⟩
    | exact ⟨_,rfl,ac7,rfl⟩
    | exact ⟨_,rfl,ac8,rfl⟩
    | trace_state
  exact ⟨(H0.next,_,m,H0.next + 1,_,m',_),⟨rfl,rfl,rfl,rfl,trivial⟩,⟨rfl,⟨hm,ac7,rfl,hs8.mv⟩,⟨hm',ac8,rfl,aey.mv⟩,gs8,hmb,abR⟩,rfl⟩
 rintro ⟨N7,b7,m,N8,b8,m',H1⟩ φ1 _ ⟨rfl,⟨hm,a7,l7,v7⟩,⟨hm',a8,l8,v8⟩,g1,hmb,abR⟩;dsimp only at hm a7 l7 v7 hm' a8 l8 v8 g1 hmb abR ⊢;conv=>whnf
 refine aC.cut (α:=Nat×List Value×List (List Int)×Hp) (fun q=>[(9,slc q.1 0 10 10),(8,ptr N8 0),(7,ptr N7 0),(4,ptr Y 0)]) (fun q H=>q.2.2.2 = H∧aA H1 H∧TB H q.1 q.2.1 q.2.2.1) ?_ ?_
 ·conv=>whnf
  refine aJ.mono (Sc _ l _ (hvl.ext (g0.trans g1)) (by omega)) ?_;rintro r H2 ⟨⟨rt,us,T,rfl,tb⟩,g2⟩;conv=>whnf
  exact ⟨(rt,us,T,H2),⟨rfl,rfl,rfl,rfl,trivial⟩,⟨rfl,g2,tb⟩,rfl⟩
 rintro ⟨rt,us,T,H2⟩ φ2 _ ⟨rfl,g2,tb⟩;dsimp only at g2 tb ⊢;have a7:=g2.at_ _ _ a7;have v7:=v7.ext g2;have a8:=g2.at_ _ _ a8;have v8:=v8.ext g2;have aY:=g2.at_ _ _ (g1.at_ _ _ aY);have vO:=Bx.mv (hby.ext ((g0.trans g1).trans g2));have lY:=hby.len;have yO:=hby.same;clear aX g1 g2 hbx hby g0;have okT:=tb.ok;have hTl:=okT.len;have abT:=tb.mat;have hat:=tb.at_;obtain ⟨xt,aT⟩:=hat;have hr0:=tb.row 0 (by omega);obtain ⟨r0,x0,eu0,ar0⟩:=hr0;have hl0:=okT.row 0 (by omega);have t0:cellAt H2 rt (gU 0 0 1) = some (slc r0 0 10 10):=jX aT eu0;have hd0:∀ x ∈ rw_ T 0,0≤x∧x≤9:=((Dy hTl).1 okT 0 (by omega)).2;have hbb:m.base = m'.base:=by omega
 have ze:=hm.n12;have abO:=hm'.n12;have hb5:=hm.b5;have y7:=v7.TM;have y8:=v8.TM;have aez:fA (none:Option Nat) = false:=rfl;have M0:∀ i,(rw_ T i).length≤1000000:=fun i=>by
  by_cases hi:i < 10
  ·rw [okT.row i hi]; omega
  ·unfold rw_; rw [List.getD_eq_getElem?_getD,List.getElem?_eq_none (by omega)]; simp
 have aae:∀ i,(rw_ (T.take 9) i).length≤1000000:=fun i=>by
  by_cases hi:i < 9
  ·have e1:rw_ (T.take 9) i = rw_ T i:=by unfold rw_; rw [List.getD_eq_getElem?_getD,List.getD_eq_getElem?_getD,List.getElem?_take_of_lt hi]
   rw [e1]; exact M0 i
  ·unfold rw_; rw [List.getD_eq_getElem?_getD,List.getElem?_eq_none (by rw [List.length_take]; omega)]; simp
 have YM:∀ (x:List Int) i,x.length≤10→(rw_ (x :: T.tail) i).length≤1000000:=fun x i hx=>by
  match i with
  | 0=>show x.length≤1000000; omega
  | i + 1=>rw [MW,MX]; exact M0 _
 have abK:∃ R0,rw_ T 0 = R0:=⟨_,rfl⟩;obtain ⟨R0,eR0⟩:=abK;rw [eR0] at ar0 hl0 hd0;have gg:aA H2 H2:=.refl _;conv=>whnf
 refine aC.cut (α:=Nat×Int×Hp) (fun q=>[(10,ptr q.1 0),(11,int q.2.1),(9,slc rt 0 10 10),(8,ptr N8 0),(7,ptr N7 0),(4,ptr Y 0)]) (fun q H=>q.2.2 = H∧aA H2 H∧Ans H q.1 q.2.1 (MU R0) (mapM m R0)) ?_ ?_
 ·conv=>whnf
  have gl1:aA H2 (H2.lay (.row 25 true [int 0,aN,aN])):=aA.lay _ _;have aL:(H2.lay (.row 25 true [int 0,aN,aN])).at H2.next = some (.row 25 true [int 0,aN,aN]):=Hp.ak _ _;have gA:=gg.trans gl1;have t1:=gA.cell t0;refine ⟨_,aI (gA.at_ _ _ a7) l7,?_⟩;conv=>whnf
  refine aJ.mono (gT _ m.i _ (v7.ext gA) (je hm)) ?_;rintro r K1 ⟨hw,g1⟩;have g1:aA (H2.lay (.row 25 true [int 0,aN,aN])) K1:=g1;rw [hm.cut] at hw;have hk:=hw.known;obtain ⟨p_,q_,rfl⟩:=hk;have gB:=gA.trans g1;have t2:=g1.cell t1;conv=>whnf
  refine ⟨rfl,⟨by omega,by omega⟩,?_⟩;conv=>whnf
  refine ⟨_,t2,?_⟩;conv=>whnf
  refine aJ.mono (Jb _ _ m R0 _ hw.mv (View.g (ni (gB.at_ _ _ ar0) hl0)) hm (by omega)) ?_;rintro r K2 ⟨⟨hbad,hgood⟩,g2⟩;have aL2:=g2.at_ _ _ (g1.at_ _ _ aL);have hk:=TN (N:=H2.next) (by have:=Hp.aU (g1.at_ _ _ aL); omega) (Hp.aU aL2) hbad hgood;obtain ⟨x,y,z,e,rfl,ho,abU⟩:=hk;have t3:=g2.cell t2;conv=>whnf
  refine ⟨rfl,_,bE (vs:=[x,y,z]) aL2 rfl ho rfl,?_⟩;have gs:aA H2 (K2.set H2.next (.row 25 true [x,y,z])):=((gl1.trans g1).trans g2).bQ _ (Nat.le_refl _);have t4:=gs.cell t0;have aLs:(K2.set H2.next (.row 25 true [x,y,z])).at H2.next = some (.row 25 true [x,y,z]):=Hp.bB _ (Hp.aU aL2);conv=>whnf
  refine ⟨?_,?_⟩
  ·repeat' (first | exact True.intro | (refine And.intro ?_ ?_ <;> (conv=>whnf)))
   all_goals first
    | exact aj (h2:=_) rfl (aM _)
    | exact aj (h2:=_) rfl (bS _ _)
    | exact aj (h2:=_) rfl (aD _ _ _)
    | exact aj (h2:=_) rfl (mU _)
    | exact aj (h2:=_) (congrArg (hval _) t1) (aD _ _ _)
    | exact aj (h2:=_) (congrArg (hval _) t2) (aD _ _ _)
    | exact aj (h2:=_) (congrArg (hval _) t3) (aD _ _ _)
    | exact aj (h2:=_) (congrArg (hval _) t4) (aD _ _ _)
    | exact aj (h2:=_) (show hval _ (kI 1 (.slice (some ⟨_,_,_⟩) _ _) (int _)) = _ from fH aez ⟨by omega,by omega⟩) (bS _ _)
    | exact ⟨_,rfl,aL,rfl⟩
    | exact ⟨_,rfl,(g1.at_ _ _ aL),rfl⟩
    | exact ⟨_,rfl,aL2,rfl⟩
    | exact ⟨_,rfl,aLs,rfl⟩
    | trace_state
  exact ⟨(H2.next,e,_),⟨rfl,rfl,rfl,rfl,rfl,rfl,trivial⟩,⟨rfl,gs,abU⟩,rfl⟩
 rintro ⟨N10,e10,H3⟩ φ3 _ ⟨rfl,g3,s10⟩;dsimp only at g3 s10 ⊢;conv=>whnf
 refine aC.cut (α:=Nat×Int×Hp) (fun q=>[(12,ptr q.1 0),(13,int q.2.1),(10,ptr N10 0),(11,int e10),(9,slc rt 0 10 10),(8,ptr N8 0),(7,ptr N7 0),(4,ptr Y 0)]) (fun q H=>q.2.2 = H∧aA H3 H∧Ans H q.1 q.2.1 (R9 m m' T) (tJ m m' T)) ?_ ?_
 ·conv=>whnf
  have gl1:aA H3 (H3.lay (.row 25 true [int 0,aN,aN])):=aA.lay _ _;have aL:(H3.lay (.row 25 true [int 0,aN,aN])).at H3.next = some (.row 25 true [int 0,aN,aN]):=Hp.ak _ _;have gA:=g3.trans gl1;refine ⟨_,aI (gA.at_ _ _ a7) l7,?_⟩;conv=>whnf
  refine aJ.mono (gT _ m.i _ (v7.ext gA) (je hm)) ?_;rintro r K1 ⟨hw,g1⟩;have g1:aA (H3.lay (.row 25 true [int 0,aN,aN])) K1:=g1;rw [hm.cut] at hw;have hk:=hw.known;obtain ⟨p_,q_,rfl⟩:=hk;have gB:=gA.trans g1;have c8:=aI (gA.at_ _ _ a8) l8;have c8a:=g1.cells c8;conv=>whnf
  refine ⟨_,c8a,?_⟩;conv=>whnf
  refine aJ.mono (gT _ m'.i _ (v8.ext gB) (je hm')) ?_;rintro r K2 ⟨hw',g2⟩;rw [hm'.cut] at hw';have hk:=hw'.known;obtain ⟨p_,q_,rfl⟩:=hk;have gC:=gB.trans g2;have c8b:=g2.cells c8a;conv=>whnf
  refine aJ.mono (vN _ _ _ m m' T _ (hw.mv.ext g2) hw'.mv (Mat.g (abT.ext gC)) hm hm' (by omega) (fun i=>M0 i)) ?_;rintro r K4 ⟨⟨hbad,hgood⟩,g4⟩;have aL4:=g4.at_ _ _ (g2.at_ _ _ (g1.at_ _ _ aL));have hk:=TN (N:=H3.next) (by have:=Hp.aU (g2.at_ _ _ (g1.at_ _ _ aL)); omega) (Hp.aU aL4) hbad hgood;obtain ⟨x,y,z,e,rfl,ho,abU⟩:=hk;have c8c:=g4.cells c8b;conv=>whnf
  refine ⟨rfl,_,bE (vs:=[x,y,z]) aL4 rfl ho rfl,?_⟩;have gs:aA H3 (K4.set H3.next (.row 25 true [x,y,z])):=(((gl1.trans g1).trans g2).trans g4).bQ _ (Nat.le_refl _);have c8d:=(g3.trans gs).cells (aI a8 l8);have aLs:(K4.set H3.next (.row 25 true [x,y,z])).at H3.next = some (.row 25 true [x,y,z]):=Hp.bB _ (Hp.aU aL4);conv=>whnf
  refine ⟨?_,?_⟩
  ·repeat' (first | exact True.intro | (refine And.intro ?_ ?_ <;> (conv=>whnf)))
   all_goals first
    | exact aj (h2:=_) rfl (aM _)
    | exact aj (h2:=_) rfl (bS _ _)
    | exact aj (h2:=_) rfl (aD _ _ _)
    | exact aj (h2:=_) rfl (mU _)
    | exact aj (h2:=_) (congrArg (fun x=>hval _ (dw x)) c8) y8
    | exact aj (h2:=_) (congrArg (fun x=>hval _ (dw x)) c8a) y8
    | exact aj (h2:=_) (congrArg (fun x=>hval _ (dw x)) c8b) y8
    | exact aj (h2:=_) (congrArg (fun x=>hval _ (dw x)) c8c) y8
    | exact aj (h2:=_) (congrArg (fun x=>hval _ (dw x)) c8d) y8
    | exact ⟨_,rfl,aL,rfl⟩
    | exact ⟨_,rfl,(g1.at_ _ _ aL),rfl⟩
    | exact ⟨_,rfl,(g2.at_ _ _ (g1.at_ _ _ aL)),rfl⟩
    | exact ⟨_,rfl,aL4,rfl⟩
    | exact ⟨_,rfl,aLs,rfl⟩
    | trace_state
  exact ⟨(H3.next,e,_),⟨rfl,rfl,rfl,rfl,rfl,rfl,rfl,rfl,trivial⟩,⟨rfl,gs,abU⟩,rfl⟩
 rintro ⟨N12,e12,H4⟩ φ4 _ ⟨rfl,g4,s12⟩;dsimp only at g4 s12 ⊢;have s10:=s10.ext g4;have gg:=g3.trans g4;clear g3 g4;have ac9:OkB (mapM m R0):=⟨mapM_ok hm.ok,Ky hm.outs hl0 hd0,by show m.base≤100; omega,by rw [mapM_len]; omega⟩;have ada:(mapM m R0).form.out.length≤12→OkS (mapM m R0).form:=fun n12=>Mac.Yq (mapM_ok hm.ok) (YD hm.ok hm.zer) hm.b2 hm.b5 (Ky hm.outs hl0 hd0) n12;have hlab:m.out.length * m'.out.length≤12 * 12:=Nat.mul_le_mul ze abO;have hbo:=PL hm.ok hm'.ok hbb T;have hbs:=R4 hm.ok hm'.ok hbb okT hm.outs hm'.outs;have adb:OkB (tJ m m' T):=⟨hbo.1,hbs,by show m.base≤100; omega,by omega⟩;have ade:(tJ m m' T).form.out.length≤12→OkS (tJ m m' T).form:=fun n12=>Mac.Yq hbo.1 (VA hm.ok hm'.ok hbb T hm.zer hm'.zer) hm.b2 hm.b5 hbs n12;have hgA:¬ MU R0:=fun k=>k.elim (fun q=>q hl0) fun q=>q hd0;have hgB:¬ R9 m m' T:=fun k=>k.elim (fun q=>q hbb) fun q=>q okT;conv=>whnf
 refine aC.cut (α:=Hp) (fun q=>[(9,slc rt 0 10 10),(8,ptr N8 0),(7,ptr N7 0),(4,ptr Y 0)]) (fun q H=>q = H∧aA H4 H) ?_ ?_
 ·obtain ⟨bq,lq,tq,yq,-,hq⟩:=s10;have hq:=hq hgA;obtain ⟨bp,lp,tp,yp,-,hp⟩:=s12;have hp:=hp hgB;have cq:=aI tq lq;have cp:=aI tp lp;have t1:=gg.cell t0;conv=>whnf
  refine aC.go ?_;conv=>whnf
  refine ⟨_,cq,?_⟩;conv=>whnf
  refine ⟨_,aI (gg.at_ _ _ a7) l7,?_⟩;conv=>whnf
  refine ⟨rfl,⟨by omega,by omega⟩,?_⟩;conv=>whnf
  refine ⟨_,t1,?_⟩;conv=>whnf
  refine aJ.mono (VD _ _ m R0 _ (v7.ext gg) (ni (gg.at_ _ _ ar0) hl0) hm hl0) ?_;rintro r K1 ⟨hw,g1⟩;have hwk:=hw.box;obtain ⟨b1,rfl,hb1⟩:=hwk;have cqa:=g1.cells cq;have cpa:=g1.cells cp;conv=>whnf
  refine aJ.mono (I4 _ _ e10 _ _ hw ac9 (fun n12=>⟨((hq.1 n12).1),(hq.1 n12).2.ext g1,ada n12⟩) (fun n12=>⟨(hq.2 n12).1,congrArg (fun b:List Value=>Value.agg ⟨b⟩) (hq.2 n12).2⟩)) ?_;rintro r K2 ⟨rfl,g2⟩;have g12:=g1.trans g2;have gB:=gg.trans g12;have cqb:=g2.cells cqa;have cpb:=g2.cells cpa;conv=>whnf
  refine ⟨_,cpb,?_⟩;conv=>whnf
  refine ⟨_,aI (gB.at_ _ _ a7) l7,?_⟩;conv=>whnf
  refine ⟨_,aI (gB.at_ _ _ a8) l8,?_⟩;conv=>whnf
  refine aJ.mono (R6 _ _ _ m m' T _ (v7.ext gB) (v8.ext gB) (abT.ext gB) okT hm.ok hm'.ok hbb (by omega) hm.outs hm'.outs (by omega) (by omega) (by omega)) ?_;rintro r K3 ⟨hw3,g3⟩;have hwk:=hw3.known;obtain ⟨p3,q3,rfl⟩:=hwk;have cqc:=g3.cells cqb;have cpc:=g3.cells cpb;conv=>whnf
  refine aJ.mono (I4 _ _ e12 _ _ hw3.mv adb (fun n12=>⟨((hp.1 n12).1),(hp.1 n12).2.ext (g12.trans g3),ade n12⟩) (fun n12=>⟨(hp.2 n12).1,congrArg (fun b:List Value=>Value.agg ⟨b⟩) (hp.2 n12).2⟩)) ?_;rintro r K5 ⟨rfl,g5⟩;have cqd:=g5.cells cqc;have cpd:=g5.cells cpc;conv=>whnf
  refine ⟨?_,?_⟩
  ·repeat' (first | exact True.intro | (refine And.intro ?_ ?_ <;> (conv=>whnf)))
   all_goals first
    | exact aj (h2:=_) rfl (aM _)
    | exact aj (h2:=_) rfl (bS _ _)
    | exact aj (h2:=_) rfl (aD _ _ _)
    | exact aj (h2:=_) rfl (mU _)
    | exact aj (h2:=_) (congrArg (fun x=>hval _ (dw x)) cq) yq
    | exact aj (h2:=_) (congrArg (fun x=>hval _ (dw x)) cqa) yq
    | exact aj (h2:=_) (congrArg (fun x=>hval _ (dw x)) cqb) yq
    | exact aj (h2:=_) (congrArg (fun x=>hval _ (dw x)) cqc) yq
    | exact aj (h2:=_) (congrArg (fun x=>hval _ (dw x)) cqd) yq
    | exact aj (h2:=_) (congrArg (fun x=>hval _ (dw x)) cp) yp
    | exact aj (h2:=_) (congrArg (fun x=>hval _ (dw x)) cpa) yp
    | exact aj (h2:=_) (congrArg (fun x=>hval _ (dw x)) cpb) yp
    | exact aj (h2:=_) (congrArg (fun x=>hval _ (dw x)) cpc) yp
    | exact aj (h2:=_) (congrArg (fun x=>hval _ (dw x)) cpd) yp
    | trace_state
  conv=>whnf
  repeat (refine aC.go ?_; conv=>whnf)
  exact ⟨K5,⟨rfl,rfl,rfl,rfl,trivial⟩,⟨rfl,(g12.trans g3).trans g5⟩,rfl⟩
 rintro H5 φ5 _ ⟨rfl,g5⟩;have gg:=gg.trans g5;clear g5 s10 s12 ac9 ada adb ade hgA hgB hbo hbs;have t1:=gg.cell t0;have hc9:=ac4 (gg.at_ _ _ ar0);obtain ⟨sp9,ae7,hc9⟩:=hc9;conv=>whnf
 refine aC.cut (α:=Unit) (fun q=>[(14,.slice (some ⟨r0,0,sp9⟩) 9 9),(9,slc rt 0 10 10),(8,ptr N8 0),(7,ptr N7 0),(4,ptr Y 0)]) (fun q H=>H5 = H) ?_ ?_
 ·conv=>whnf
  refine ⟨rfl,⟨by omega,by omega⟩,?_⟩;conv=>whnf
  refine ⟨_,t1,?_⟩;conv=>whnf
  refine gY.val (hc9 H5 (.refl _)) ?_;conv=>whnf
  exact ⟨(),⟨rfl,rfl,rfl,rfl,rfl,trivial⟩,rfl,rfl⟩
 rintro _ φ6 _ rfl;clear hc9;have adf:∃ T9:List Int,T9.length = 9:=⟨R0.take 9,by rw [List.length_take]; omega⟩;obtain ⟨T9,hT9⟩:=adf;have adg:∃ Hi,[10] ++ R0.tail = Hi:=⟨_,rfl⟩;obtain ⟨Hi,eHi⟩:=adg;have hHi:Hi.length = 10:=by rw [← eHi]; simp; omega
 have adh:MU Hi:=.inr fun k=>by
  have:=k 10 (by rw [← eHi]; simp);omega
 conv=>whnf
 refine aC.cut (α:=Nat×Bool×Hp) (fun q=>[(15,slc q.1 0 10 10),(14,.slice (some ⟨r0,0,sp9⟩) 9 9),(9,slc rt 0 10 10),(8,ptr N8 0),(7,ptr N7 0),(4,ptr Y 0)]) (fun q H=>q.2.2 = H∧aA H5 H∧H.at q.1 = some (.row 3 q.2.1 (Hi.map int))) ?_ ?_
 ·have gl1:aA H5 (H5.lay (.row 3 true [int 10])):=aA.lay _ _;have gA:=gg.trans gl1;have t2:=gA.cell t0;conv=>whnf
  refine ⟨rfl,⟨by omega,by omega⟩,?_⟩;conv=>whnf
  refine ⟨_,t2,?_⟩;conv=>whnf
  refine gY.val (abP (gA.at_ _ _ ar0)) ?_;conv=>whnf
  refine fB.ints (h0:=H5) (l:=[10]) (new:=R0.tail) (.inr ⟨H5.next,rfl,Nat.le_refl _,true,Hp.ak _ _⟩) gl1 (VG (gA.at_ _ _ ar0) hl0) (by simp; omega) ?_;intro v' G2 hb2 hg2 _;rw [eHi] at hb2;have hsh:∃ r x,v' = slc r 0 10 10∧G2.at r = some (.row 3 x (Hi.map int)):=by
   rcases hb2 with ⟨_,e⟩ | ⟨r,e,_,x,hx⟩
   ·rw [e] at hHi; simp at hHi
   ·rw [hHi] at e;exact ⟨r,x,e,hx⟩
  obtain ⟨r,x,rfl,hx⟩:=hsh;conv=>whnf
  exact ⟨(r,x,G2),⟨rfl,rfl,rfl,rfl,rfl,rfl,trivial⟩,⟨rfl,hg2,hx⟩,rfl⟩
 rintro ⟨rh,xh,H6⟩ φ7 _ ⟨rfl,g6,aH⟩;dsimp only at g6 aH ⊢;have gg:=gg.trans g6;clear g6 t1;have hone:us.all oneCell = true:=abQ tb;conv=>whnf
 refine aC.cut (α:=Nat×Bool×Hp) (fun q=>[(16,slc q.1 0 10 10),(15,slc rh 0 10 10),(14,.slice (some ⟨r0,0,sp9⟩) 9 9),(9,slc rt 0 10 10),(8,ptr N8 0),(7,ptr N7 0),(4,ptr Y 0)]) (fun q H=>q.2.2 = H∧aA H6 H∧H.at q.1 = some (.row 22 q.2.1 ((Value.slice (some ⟨r0,0,sp9⟩) 9 9) :: us.tail))) ?_ ?_
 ·have gl1:aA H6 (H6.lay (.row 22 true [(Value.slice (some ⟨r0,0,sp9⟩) 9 9)])):=aA.lay _ _;have gA:=gg.trans gl1;conv=>whnf
  refine gY.val (abP (gA.at_ _ _ aT)) ?_;conv=>whnf
  have hb0:bD H6 (H6.lay (.row 22 true [(Value.slice (some ⟨r0,0,sp9⟩) 9 9)])) 22 1 (slc H6.next 0 1 1) 1 [(Value.slice (some ⟨r0,0,sp9⟩) 9 9)]:=⟨rfl,.inr ⟨H6.next,rfl,Nat.le_refl _,true,Hp.ak _ _⟩⟩;refine fB.uf hb0 gl1 (Bu (gA.at_ _ _ aT) tb.ul hone) (by omega) (by omega) (by omega) ?_;intro v' G2 hb2 hg2 hkeep abV;obtain ⟨r',er,hr'⟩:=abV;have hsh:∃ r x,v' = slc r 0 10 10∧G2.at r = some (.row 22 x ((Value.slice (some ⟨r0,0,sp9⟩) 9 9) :: us.tail)):=by
   obtain ⟨_,⟨_,e⟩ | ⟨r,e,_,x,hx⟩⟩:=hb2
   ·omega
   ·exact ⟨r,x,e,hx⟩
  obtain ⟨r,x,rfl,hx⟩:=hsh;conv=>whnf
  exact ⟨(r,x,G2),⟨rfl,rfl,rfl,rfl,rfl,rfl,rfl,trivial⟩,⟨rfl,hg2,hx⟩,rfl⟩
 rintro ⟨JC,ae8,H7⟩ φ8 _ ⟨rfl,g,Jf⟩;dsimp only at g Jf ⊢;have gg:=gg.trans g;have aH:=g.at_ _ _ aH;clear g;conv=>whnf
 refine aC.cut (α:=Nat×Bool×Hp) (fun q=>[(17,slc q.1 0 10 10),(16,slc JC 0 10 10),(15,slc rh 0 10 10),(14,.slice (some ⟨r0,0,sp9⟩) 9 9),(9,slc rt 0 10 10),(8,ptr N8 0),(7,ptr N7 0),(4,ptr Y 0)]) (fun q H=>q.2.2 = H∧aA H7 H∧H.at q.1 = some (.row 22 q.2.1 ((slc rh 0 10 10) :: us.tail))) ?_ ?_
 ·have gl1:aA H7 (H7.lay (.row 22 true [(slc rh 0 10 10)])):=aA.lay _ _;have gA:=gg.trans gl1;conv=>whnf
  refine gY.val (abP (gA.at_ _ _ aT)) ?_;conv=>whnf
  have hb0:bD H7 (H7.lay (.row 22 true [(slc rh 0 10 10)])) 22 1 (slc H7.next 0 1 1) 1 [(slc rh 0 10 10)]:=⟨rfl,.inr ⟨H7.next,rfl,Nat.le_refl _,true,Hp.ak _ _⟩⟩;refine fB.uf hb0 gl1 (Bu (gA.at_ _ _ aT) tb.ul hone) (by omega) (by omega) (by omega) ?_;intro v' G2 hb2 hg2 hkeep abV;obtain ⟨r',er,hr'⟩:=abV;have hsh:∃ r x,v' = slc r 0 10 10∧G2.at r = some (.row 22 x ((slc rh 0 10 10) :: us.tail)):=by
   obtain ⟨_,⟨_,e⟩ | ⟨r,e,_,x,hx⟩⟩:=hb2
   ·omega
   ·exact ⟨r,x,e,hx⟩
  obtain ⟨r,x,rfl,hx⟩:=hsh;conv=>whnf
  exact ⟨(r,x,G2),⟨rfl,rfl,rfl,rfl,rfl,rfl,rfl,rfl,trivial⟩,⟨rfl,hg2,hx⟩,rfl⟩
 rintro ⟨M4,ae9,H8⟩ φ8 _ ⟨rfl,g,Jg⟩;dsimp only at g Jg ⊢;have gg:=gg.trans g;have aH:=g.at_ _ _ aH;have Jf:=g.at_ _ _ Jf;clear g;conv=>whnf
 refine aC.cut (α:=Nat×Hp) (fun q=>[(18,ptr q.1 0),(19,int 1),(17,slc M4 0 10 10),(16,slc JC 0 10 10),(15,slc rh 0 10 10),(14,.slice (some ⟨r0,0,sp9⟩) 9 9),(9,slc rt 0 10 10),(8,ptr N8 0),(7,ptr N7 0),(4,ptr Y 0)]) (fun q H=>q.2 = H∧aA H8 H∧H.at q.1 = some (.row 25 true [int 0,aN,aN])) ?_ ?_
 ·conv=>whnf
  refine ⟨_,aI (gg.at_ _ _ a7) l7,?_⟩;conv=>whnf
  refine aJ.mono (gT _ m.i _ (v7.ext gg) (je hm)) ?_;rintro r K1 ⟨hw,g1⟩;rw [hm.cut] at hw;have hk:=hw.known;obtain ⟨p_,q_,rfl⟩:=hk;conv=>whnf
  refine aJ.mono (Jb _ _ m T9 _ hw.mv ⟨some ⟨r0,0,sp9⟩,9,by rw [hT9]; rfl,fun w=>by omega⟩ hm (by omega)) ?_;rintro r K2 ⟨⟨hbad,-⟩,g2⟩;have hr:=hbad (.inl (by omega));subst hr;conv=>whnf
  refine ⟨rfl,_,bX (vs:=[int 0,aN,aN]) rfl rfl rfl,?_⟩;conv=>whnf
  exact ⟨(K2.next,_),⟨rfl,rfl,rfl,rfl,rfl,rfl,rfl,rfl,rfl,rfl,trivial⟩,⟨rfl,(g1.trans g2).bH _,Hp.ak _ _⟩,rfl⟩
 rintro ⟨N18,H9⟩ φ9 _ ⟨rfl,g,s18⟩;dsimp only at g s18 ⊢;have gg:=gg.trans g;have aH:=g.at_ _ _ aH;have Jf:=g.at_ _ _ Jf;have Jg:=g.at_ _ _ Jg;clear g;conv=>whnf
 refine aC.cut (α:=Nat×Hp) (fun q=>[(20,ptr q.1 0),(21,int 1),(18,ptr N18 0),(19,int 1),(17,slc M4 0 10 10),(16,slc JC 0 10 10),(15,slc rh 0 10 10),(14,.slice (some ⟨r0,0,sp9⟩) 9 9),(9,slc rt 0 10 10),(8,ptr N8 0),(7,ptr N7 0),(4,ptr Y 0)]) (fun q H=>q.2 = H∧aA H9 H∧H.at q.1 = some (.row 25 true [int 0,aN,aN])) ?_ ?_
 ·conv=>whnf
  refine ⟨_,aI (gg.at_ _ _ a7) l7,?_⟩;conv=>whnf
  refine aJ.mono (gT _ m.i _ (v7.ext gg) (je hm)) ?_;rintro r K1 ⟨hw,g1⟩;rw [hm.cut] at hw;have hk:=hw.known;obtain ⟨p_,q_,rfl⟩:=hk;conv=>whnf
  refine aJ.mono (Jb _ _ m Hi _ hw.mv (View.g (ni (g1.at_ _ _ aH) hHi)) hm (by omega)) ?_;rintro r K2 ⟨⟨hbad,-⟩,g2⟩;have hr:=hbad adh;subst hr;conv=>whnf
  refine ⟨rfl,_,bX (vs:=[int 0,aN,aN]) rfl rfl rfl,?_⟩;conv=>whnf
  exact ⟨(K2.next,_),⟨rfl,rfl,rfl,rfl,rfl,rfl,rfl,rfl,rfl,rfl,rfl,rfl,trivial⟩,⟨rfl,(g1.trans g2).bH _,Hp.ak _ _⟩,rfl⟩
 rintro ⟨N20,H10⟩ φ9 _ ⟨rfl,g,s20⟩;dsimp only at g s20 ⊢;have gg:=gg.trans g;have s18:=g.at_ _ _ s18;have aH:=g.at_ _ _ aH;have Jf:=g.at_ _ _ Jf;have Jg:=g.at_ _ _ Jg;clear g;have Ew:=a8;have KA:=l8;have hct:=ac4 (gg.at_ _ _ aT);obtain ⟨spt,abM,hct⟩:=hct;have aeA:(T.take 9).length = 9:=by rw [List.length_take]; omega
 conv=>whnf
 refine aC.cut (α:=Nat×Hp) (fun q=>[(22,ptr q.1 0),(23,int 1),(20,ptr N20 0),(21,int 1),(18,ptr N18 0),(19,int 1),(17,slc M4 0 10 10),(16,slc JC 0 10 10),(15,slc rh 0 10 10),(14,.slice (some ⟨r0,0,sp9⟩) 9 9),(9,slc rt 0 10 10),(8,ptr N8 0),(7,ptr N7 0),(4,ptr Y 0)]) (fun q H=>q.2 = H∧aA H10 H∧H.at q.1 = some (.row 25 true [int 0,aN,aN])) ?_ ?_
 ·conv=>whnf
  have gl1:aA H10 (H10.lay (.row 25 true [int 0,aN,aN])):=aA.lay _ _;have aL:(H10.lay (.row 25 true [int 0,aN,aN])).at H10.next = some (.row 25 true [int 0,aN,aN]):=Hp.ak _ _;have gA:=gg.trans gl1;refine ⟨_,aI (gA.at_ _ _ a7) l7,?_⟩;conv=>whnf
  refine aJ.mono (gT _ m.i _ (v7.ext gA) (je hm)) ?_;rintro r K1 ⟨hw,g1⟩;have g1:aA (H10.lay (.row 25 true [int 0,aN,aN])) K1:=g1;rw [hm.cut] at hw;have hk:=hw.known;obtain ⟨p_,q_,rfl⟩:=hk;have gB:=gA.trans g1;have c8:=aI (gA.at_ _ _ a8) l8;have c8a:=g1.cells c8;conv=>whnf
  refine ⟨_,c8a,?_⟩;conv=>whnf
  refine aJ.mono (gT _ m'.i _ (v8.ext gB) (je hm')) ?_;rintro r K2 ⟨hw',g2⟩;rw [hm'.cut] at hw';have hk:=hw'.known;obtain ⟨p2_,q2_,rfl⟩:=hk;have gC:=gB.trans g2;have gK2:=gl1.trans (g1.trans g2);have c8b:=g2.cells c8a;conv=>whnf
  refine gY.val (hct K2 (gK2)) ?_;conv=>whnf
  refine aJ.mono (vN _ _ _ m m' (T.take 9) _ (hw.mv.ext g2) hw'.mv ⟨some ⟨rt,0,spt⟩,9,by rw [aeA]; rfl,fun i hi=>by
   have hi9:i < 9:=by omega
   have hr:=tb.row i (by omega);obtain ⟨ri,xi,ei,ai⟩:=hr;have e1:rw_ (T.take 9) i = rw_ T i:=by unfold rw_; rw [List.getD_eq_getElem?_getD,List.getD_eq_getElem?_getD,List.getElem?_take_of_lt hi9]
   rw [e1,okT.row i (by omega)];exact ⟨rt,0,spt,some ⟨ri,0,none⟩,10,rfl,abM,jX (gC.at_ _ _ aT) ei,fun _=>ni (gC.at_ _ _ ai) (okT.row i (by omega))⟩⟩ hm hm' (by omega) (fun i=>aae i)) ?_
  rintro r K4 ⟨⟨hbad,-⟩,g4⟩;have hr:=hbad (.inr fun k=>by have:=k.len; omega);subst hr;have aL4:=g4.at_ _ _ (g2.at_ _ _ (g1.at_ _ _ aL));conv=>whnf
  refine ⟨rfl,_,bE (vs:=[int 0,aN,aN]) aL4 rfl rfl rfl,?_⟩;have gs:aA H10 (K4.set H10.next (.row 25 true [int 0,aN,aN])):=(((gl1.trans g1).trans g2).trans g4).bQ _ (Nat.le_refl _);have gD:=gg.trans gs;have c8c:=g4.cells c8b;have c8d:=gD.cells (aI Ew KA);have aLs:(K4.set H10.next (.row 25 true [int 0,aN,aN])).at H10.next = some (.row 25 true [int 0,aN,aN]):=Hp.bB _ (Hp.aU aL4);conv=>whnf
  refine ⟨?_,?_⟩
  ·repeat' (first | exact True.intro | (refine And.intro ?_ ?_ <;> (conv=>whnf)))
   all_goals first
    | exact aj (h2:=_) rfl (aM _)
    | exact aj (h2:=_) rfl (bS _ _)
    | exact aj (h2:=_) rfl (aD _ _ _)
    | exact aj (h2:=_) rfl (mU _)
    | exact aj (h2:=_) (congrArg (fun x=>hval _ (dw x)) c8) y8
    | exact aj (h2:=_) (congrArg (fun x=>hval _ (dw x)) c8a) y8
    | exact aj (h2:=_) (congrArg (fun x=>hval _ (dw x)) c8b) y8
    | exact aj (h2:=_) (congrArg (fun x=>hval _ (dw x)) c8c) y8
    | exact aj (h2:=_) (congrArg (fun x=>hval _ (dw x)) c8d) y8
    | exact aj (h2:=_) (show lN _ 1 (slc rt 0 10 10) none (some (int 9)) (some (int 9)) = _ from hct _ gl1) (aD _ _ _)
    | exact aj (h2:=_) (show lN _ 1 (slc rt 0 10 10) none (some (int 9)) (some (int 9)) = _ from hct _ (gl1.trans g1)) (aD _ _ _)
    | exact aj (h2:=_) (show lN _ 1 (slc rt 0 10 10) none (some (int 9)) (some (int 9)) = _ from hct _ ((gl1.trans g1).trans g2)) (aD _ _ _)
    | exact aj (h2:=_) (show lN _ 1 (slc rt 0 10 10) none (some (int 9)) (some (int 9)) = _ from hct _ (((gl1.trans g1).trans g2).trans g4)) (aD _ _ _)
    | exact aj (h2:=_) (show lN _ 1 (slc rt 0 10 10) none (some (int 9)) (some (int 9)) = _ from hct _ gs) (aD _ _ _)
    | exact ⟨_,rfl,aL,rfl⟩
    | exact ⟨_,rfl,(g1.at_ _ _ aL),rfl⟩
    | exact ⟨_,rfl,(g2.at_ _ _ (g1.at_ _ _ aL)),rfl⟩
    | exact ⟨_,rfl,aL4,rfl⟩
    | exact ⟨_,rfl,aLs,rfl⟩
    | trace_state
  exact ⟨(H10.next,_),⟨rfl,rfl,rfl,rfl,rfl,rfl,rfl,rfl,rfl,rfl,rfl,rfl,rfl,rfl,trivial⟩,⟨rfl,gs,aLs⟩,rfl⟩
 rintro ⟨N22,H11⟩ φ9 _ ⟨rfl,g,s22⟩;dsimp only at g s22 ⊢;have gg:=gg.trans g;have s18:=g.at_ _ _ s18;have s20:=g.at_ _ _ s20;have aH:=g.at_ _ _ aH;have Jf:=g.at_ _ _ Jf;have Jg:=g.at_ _ _ Jg;clear g hct;conv=>whnf
 refine aC.cut (α:=Nat×Hp) (fun q=>[(24,ptr q.1 0),(25,int 1),(22,ptr N22 0),(23,int 1),(20,ptr N20 0),(21,int 1),(18,ptr N18 0),(19,int 1),(17,slc M4 0 10 10),(16,slc JC 0 10 10),(15,slc rh 0 10 10),(14,.slice (some ⟨r0,0,sp9⟩) 9 9),(9,slc rt 0 10 10),(8,ptr N8 0),(7,ptr N7 0),(4,ptr Y 0)]) (fun q H=>q.2 = H∧aA H11 H∧H.at q.1 = some (.row 25 true [int 0,aN,aN])) ?_ ?_
 ·conv=>whnf
  have gl1:aA H11 (H11.lay (.row 25 true [int 0,aN,aN])):=aA.lay _ _;have aL:(H11.lay (.row 25 true [int 0,aN,aN])).at H11.next = some (.row 25 true [int 0,aN,aN]):=Hp.ak _ _;have gA:=gg.trans gl1;refine ⟨_,aI (gA.at_ _ _ a7) l7,?_⟩;conv=>whnf
  refine aJ.mono (gT _ m.i _ (v7.ext gA) (je hm)) ?_;rintro r K1 ⟨hw,g1⟩;have g1:aA (H11.lay (.row 25 true [int 0,aN,aN])) K1:=g1;rw [hm.cut] at hw;have hk:=hw.known;obtain ⟨p_,q_,rfl⟩:=hk;have gB:=gA.trans g1;have c8:=aI (gA.at_ _ _ a8) l8;have c8a:=g1.cells c8;conv=>whnf
  refine ⟨_,c8a,?_⟩;conv=>whnf
  refine aJ.mono (gT _ m'.i _ (v8.ext gB) (je hm')) ?_;rintro r K2 ⟨hw',g2⟩;rw [hm'.cut] at hw';have hk:=hw'.known;obtain ⟨p2_,q2_,rfl⟩:=hk;have gC:=gB.trans g2;have gK2:=gl1.trans (g1.trans g2);have c8b:=g2.cells c8a;conv=>whnf
  refine aJ.mono (vN _ _ _ m m' (T9 :: T.tail) _ (hw.mv.ext g2) hw'.mv ⟨some ⟨JC,0,none⟩,10,by rw [List.length_cons,List.length_tail,hTl]; rfl,fun i hi=>by
   match i with
   | 0=>exact ⟨JC,0,none,some ⟨r0,0,sp9⟩,9,rfl,rfl,by rw [show rw_ (T9 :: T.tail) 0 = T9 from rfl,hT9]; exact jX (gK2.at_ _ _ Jf) rfl,fun w=>by rw [show rw_ (T9 :: T.tail) 0 = T9 from rfl] at w; omega⟩
   | i + 1 =>
    have hi9:i < 9:=by simp at hi; omega
    have hr:=tb.row (i + 1) (by omega);obtain ⟨ri,xi,ei,ai⟩:=hr;have e1:rw_ (T9 :: T.tail) (i + 1) = rw_ T (i + 1):=by rw [MW,MX]
    rw [e1,okT.row (i + 1) (by omega)];exact ⟨JC,0,none,some ⟨ri,0,none⟩,10,rfl,rfl,jX (gK2.at_ _ _ Jf) (by rw [List.getElem?_cons_succ,List.getElem?_tail]; exact ei),fun _=>ni (gC.at_ _ _ ai) (okT.row (i + 1) (by omega))⟩⟩ hm hm' (by rw [List.length_cons,List.length_tail]; omega) (fun i=>YM T9 i (by omega))) ?_
  rintro r K4 ⟨⟨hbad,-⟩,g4⟩;have hr:=hbad (.inr fun k=>by have:=k.row 0 (by omega); rw [show rw_ (T9 :: T.tail) 0 = T9 from rfl] at this; omega);subst hr;have aL4:=g4.at_ _ _ (g2.at_ _ _ (g1.at_ _ _ aL));conv=>whnf
  refine ⟨rfl,_,bE (vs:=[int 0,aN,aN]) aL4 rfl rfl rfl,?_⟩;have gs:aA H11 (K4.set H11.next (.row 25 true [int 0,aN,aN])):=(((gl1.trans g1).trans g2).trans g4).bQ _ (Nat.le_refl _);have gD:=gg.trans gs;have c8c:=g4.cells c8b;have c8d:=gD.cells (aI Ew KA);have aLs:(K4.set H11.next (.row 25 true [int 0,aN,aN])).at H11.next = some (.row 25 true [int 0,aN,aN]):=Hp.bB _ (Hp.aU aL4);conv=>whnf
  refine ⟨?_,?_⟩
  ·repeat' (first | exact True.intro | (refine And.intro ?_ ?_ <;> (conv=>whnf)))
   all_goals first
    | exact aj (h2:=_) rfl (aM _)
    | exact aj (h2:=_) rfl (bS _ _)
    | exact aj (h2:=_) rfl (aD _ _ _)
    | exact aj (h2:=_) rfl (mU _)
    | exact aj (h2:=_) (congrArg (fun x=>hval _ (dw x)) c8) y8
    | exact aj (h2:=_) (congrArg (fun x=>hval _ (dw x)) c8a) y8
    | exact aj (h2:=_) (congrArg (fun x=>hval _ (dw x)) c8b) y8
    | exact aj (h2:=_) (congrArg (fun x=>hval _ (dw x)) c8c) y8
    | exact aj (h2:=_) (congrArg (fun x=>hval _ (dw x)) c8d) y8
    | exact ⟨_,rfl,aL,rfl⟩
    | exact ⟨_,rfl,(g1.at_ _ _ aL),rfl⟩
    | exact ⟨_,rfl,(g2.at_ _ _ (g1.at_ _ _ aL)),rfl⟩
    | exact ⟨_,rfl,aL4,rfl⟩
    | exact ⟨_,rfl,aLs,rfl⟩
    | trace_state
  exact ⟨(H11.next,_),⟨rfl,rfl,rfl,rfl,rfl,rfl,rfl,rfl,rfl,rfl,rfl,rfl,rfl,rfl,rfl,rfl,trivial⟩,⟨rfl,gs,aLs⟩,rfl⟩
 rintro ⟨N24,H12⟩ φ9 _ ⟨rfl,g,s24⟩;dsimp only at g s24 ⊢;have gg:=gg.trans g;have s18:=g.at_ _ _ s18;have s20:=g.at_ _ _ s20;have s22:=g.at_ _ _ s22;have aH:=g.at_ _ _ aH;have Jg:=g.at_ _ _ Jg;clear g;conv=>whnf
 refine aC.cut (α:=Nat×Hp) (fun q=>[(26,ptr q.1 0),(27,int 1),(24,ptr N24 0),(25,int 1),(22,ptr N22 0),(23,int 1),(20,ptr N20 0),(21,int 1),(18,ptr N18 0),(19,int 1),(17,slc M4 0 10 10),(16,slc JC 0 10 10),(15,slc rh 0 10 10),(14,.slice (some ⟨r0,0,sp9⟩) 9 9),(9,slc rt 0 10 10),(8,ptr N8 0),(7,ptr N7 0),(4,ptr Y 0)]) (fun q H=>q.2 = H∧aA H12 H∧H.at q.1 = some (.row 25 true [int 0,aN,aN])) ?_ ?_
 ·conv=>whnf
  have gl1:aA H12 (H12.lay (.row 25 true [int 0,aN,aN])):=aA.lay _ _;have aL:(H12.lay (.row 25 true [int 0,aN,aN])).at H12.next = some (.row 25 true [int 0,aN,aN]):=Hp.ak _ _;have gA:=gg.trans gl1;refine ⟨_,aI (gA.at_ _ _ a7) l7,?_⟩;conv=>whnf
  refine aJ.mono (gT _ m.i _ (v7.ext gA) (je hm)) ?_;rintro r K1 ⟨hw,g1⟩;have g1:aA (H12.lay (.row 25 true [int 0,aN,aN])) K1:=g1;rw [hm.cut] at hw;have hk:=hw.known;obtain ⟨p_,q_,rfl⟩:=hk;have gB:=gA.trans g1;have c8:=aI (gA.at_ _ _ a8) l8;have c8a:=g1.cells c8;conv=>whnf
  refine ⟨_,c8a,?_⟩;conv=>whnf
  refine aJ.mono (gT _ m'.i _ (v8.ext gB) (je hm')) ?_;rintro r K2 ⟨hw',g2⟩;rw [hm'.cut] at hw';have hk:=hw'.known;obtain ⟨p2_,q2_,rfl⟩:=hk;have gC:=gB.trans g2;have gK2:=gl1.trans (g1.trans g2);have c8b:=g2.cells c8a;conv=>whnf
  refine aJ.mono (vN _ _ _ m m' (Hi :: T.tail) _ (hw.mv.ext g2) hw'.mv ⟨some ⟨M4,0,none⟩,10,by rw [List.length_cons,List.length_tail,hTl]; rfl,fun i hi=>by
   match i with
   | 0=>exact ⟨M4,0,none,some ⟨rh,0,none⟩,10,rfl,rfl,by rw [show rw_ (Hi :: T.tail) 0 = Hi from rfl,hHi]; exact jX (gK2.at_ _ _ Jg) rfl,fun w=>by rw [show rw_ (Hi :: T.tail) 0 = Hi from rfl,hHi]; exact ni (gK2.at_ _ _ aH) hHi⟩
   | i + 1 =>
    have hi9:i < 9:=by simp at hi; omega
    have hr:=tb.row (i + 1) (by omega);obtain ⟨ri,xi,ei,ai⟩:=hr;have e1:rw_ (Hi :: T.tail) (i + 1) = rw_ T (i + 1):=by rw [MW,MX]
    rw [e1,okT.row (i + 1) (by omega)];exact ⟨M4,0,none,some ⟨ri,0,none⟩,10,rfl,rfl,jX (gK2.at_ _ _ Jg) (by rw [List.getElem?_cons_succ,List.getElem?_tail]; exact ei),fun _=>ni (gC.at_ _ _ ai) (okT.row (i + 1) (by omega))⟩⟩ hm hm' (by rw [List.length_cons,List.length_tail]; omega) (fun i=>YM Hi i (by omega))) ?_
  rintro r K4 ⟨⟨hbad,-⟩,g4⟩;have hr:=hbad (.inr fun k=>adh.elim (fun q=>q hHi) fun q=>q fun x hx=>by
   have hk:=((Dy (T:=Hi :: T.tail) (by rw [List.length_cons,List.length_tail]; omega)).1 k 0 (by omega)).2;exact hk x hx)
  subst hr;have aL4:=g4.at_ _ _ (g2.at_ _ _ (g1.at_ _ _ aL));conv=>whnf
  refine ⟨rfl,_,bE (vs:=[int 0,aN,aN]) aL4 rfl rfl rfl,?_⟩;have gs:aA H12 (K4.set H12.next (.row 25 true [int 0,aN,aN])):=(((gl1.trans g1).trans g2).trans g4).bQ _ (Nat.le_refl _);have gD:=gg.trans gs;have c8c:=g4.cells c8b;have c8d:=gD.cells (aI Ew KA);have aLs:(K4.set H12.next (.row 25 true [int 0,aN,aN])).at H12.next = some (.row 25 true [int 0,aN,aN]):=Hp.bB _ (Hp.aU aL4);conv=>whnf
  refine ⟨?_,?_⟩
  ·repeat' (first | exact True.intro | (refine And.intro ?_ ?_ <;> (conv=>whnf)))
   all_goals first
    | exact aj (h2:=_) rfl (aM _)
    | exact aj (h2:=_) rfl (bS _ _)
    | exact aj (h2:=_) rfl (aD _ _ _)
    | exact aj (h2:=_) rfl (mU _)
    | exact aj (h2:=_) (congrArg (fun x=>hval _ (dw x)) c8) y8
    | exact aj (h2:=_) (congrArg (fun x=>hval _ (dw x)) c8a) y8
    | exact aj (h2:=_) (congrArg (fun x=>hval _ (dw x)) c8b) y8
    | exact aj (h2:=_) (congrArg (fun x=>hval _ (dw x)) c8c) y8
    | exact aj (h2:=_) (congrArg (fun x=>hval _ (dw x)) c8d) y8
    | exact ⟨_,rfl,aL,rfl⟩
    | exact ⟨_,rfl,(g1.at_ _ _ aL),rfl⟩
    | exact ⟨_,rfl,(g2.at_ _ _ (g1.at_ _ _ aL)),rfl⟩
    | exact ⟨_,rfl,aL4,rfl⟩
    | exact ⟨_,rfl,aLs,rfl⟩
    | trace_state
  exact ⟨(H12.next,_),⟨rfl,rfl,rfl,rfl,rfl,rfl,rfl,rfl,rfl,rfl,rfl,rfl,rfl,rfl,rfl,rfl,rfl,rfl,trivial⟩,⟨rfl,gs,aLs⟩,rfl⟩
 rintro ⟨N26,H13⟩ φ9 _ ⟨rfl,g,s26⟩;dsimp only at g s26 ⊢;have gg:=gg.trans g;have s18:=g.at_ _ _ s18;have s20:=g.at_ _ _ s20;have s22:=g.at_ _ _ s22;have s24:=g.at_ _ _ s24;clear g;have hxb:=v7.bx.cx;obtain ⟨xo,xn,xc,xd,hcx⟩:=hxb;have c70:cellAt H2 N7 0 = some (int (m.base:Int)):=(hcx H2 N7 26 (.refl _) a7).c0;clear Ew KA;have Ew:=aY;have KA:=lY;have hb2:=hm.b2;conv=>whnf
 refine aC.cut (α:=Nat×Hp) (fun q=>[(28,ptr q.1 0),(29,int 1),(26,ptr N26 0),(27,int 1),(24,ptr N24 0),(25,int 1),(22,ptr N22 0),(23,int 1),(20,ptr N20 0),(21,int 1),(18,ptr N18 0),(19,int 1),(17,slc M4 0 10 10),(16,slc JC 0 10 10),(15,slc rh 0 10 10),(14,.slice (some ⟨r0,0,sp9⟩) 9 9),(9,slc rt 0 10 10),(8,ptr N8 0),(7,ptr N7 0),(4,ptr Y 0)]) (fun q H=>q.2 = H∧aA H13 H∧H.at q.1 = some (.row 25 true [int 0,aN,aN])) ?_ ?_
 ·conv=>whnf
  have gl1:aA H13 (H13.lay (.row 25 true [int 0,aN,aN])):=aA.lay _ _;have aL:(H13.lay (.row 25 true [int 0,aN,aN])).at H13.next = some (.row 25 true [int 0,aN,aN]):=Hp.ak _ _;have gA:=gg.trans gl1;refine ⟨_,aI (gA.at_ _ _ a7) l7,?_⟩;conv=>whnf
  refine aJ.mono (gT _ m.i _ (v7.ext gA) (je hm)) ?_;rintro r K1 ⟨hw,g1⟩;have g1:aA (H13.lay (.row 25 true [int 0,aN,aN])) K1:=g1;rw [hm.cut] at hw;have hk:=hw.known;obtain ⟨p_,q_,rfl⟩:=hk;have gB:=gA.trans g1;have c8:=aI (gA.at_ _ _ aY) lY;have c8a:=g1.cells c8;have d0:=gA.cell c70;have d1:=g1.cell d0;conv=>whnf
  refine ⟨_,c8a,?_⟩;conv=>whnf
  refine ⟨_,d1,?_⟩;conv=>whnf
  refine ⟨((5 - m.base:Nat):Int),wie (by omega) (by omega),?_⟩;conv=>whnf
  refine aJ.mono (Em _ O (5 - m.base) 5 _ (vO.ext gB) hOL (by omega) (by omega)) ?_;rintro r K2a ⟨⟨mm,hmm,afa,afb,hwt⟩,g2a⟩;have hk:=hwt.known;obtain ⟨pt_,qt_,rfl⟩:=hk;conv=>whnf
  refine aJ.mono (gT _ mm.i _ hwt.mv (je hmm)) ?_;rintro r K2 ⟨hw',g2b⟩;rw [hmm.cut] at hw';have hk:=hw'.known;obtain ⟨p2_,q2_,rfl⟩:=hk;have g2:=g2a.trans g2b;have gC:=gB.trans g2;have gK2:=gl1.trans (g1.trans g2);have c8x:=g2a.cells c8a;have c8b:=g2b.cells c8x;have d2:=g2a.cell d1;have d3:=g2b.cell d2;conv=>whnf
  refine aJ.mono (vN _ _ _ m mm T _ (hw.mv.ext g2) hw'.mv (Mat.g (abT.ext gC)) hm hmm (by omega) (fun i=>M0 i)) ?_;rintro r K4 ⟨⟨hbad,-⟩,g4⟩;have hr:=hbad (.inl (by omega));subst hr;have aL4:=g4.at_ _ _ (g2.at_ _ _ (g1.at_ _ _ aL));conv=>whnf
  refine ⟨rfl,_,bE (vs:=[int 0,aN,aN]) aL4 rfl rfl rfl,?_⟩;have gs:aA H13 (K4.set H13.next (.row 25 true [int 0,aN,aN])):=(((gl1.trans g1).trans g2).trans g4).bQ _ (Nat.le_refl _);have gD:=gg.trans gs;have c8c:=g4.cells c8b;have d4:=g4.cell d3;have d5:=gD.cell c70;have c8d:=gD.cells (aI Ew KA);have aLs:(K4.set H13.next (.row 25 true [int 0,aN,aN])).at H13.next = some (.row 25 true [int 0,aN,aN]):=Hp.bB _ (Hp.aU aL4);conv=>whnf
  refine ⟨?_,?_⟩
  ·repeat' (first | exact True.intro | (refine And.intro ?_ ?_ <;> (conv=>whnf)))
   all_goals first
    | exact aj (h2:=_) rfl (aM _)
    | exact aj (h2:=_) rfl (bS _ _)
    | exact aj (h2:=_) rfl (aD _ _ _)
    | exact aj (h2:=_) rfl (mU _)
    | exact aj (h2:=_) (congrArg (fun x=>hval _ (dw x)) c8) yO
    | exact aj (h2:=_) (congrArg (fun x=>hval _ (dw x)) c8a) yO
    | exact aj (h2:=_) (congrArg (fun x=>hval _ (dw x)) c8b) yO
    | exact aj (h2:=_) (congrArg (fun x=>hval _ (dw x)) c8c) yO
    | exact aj (h2:=_) (congrArg (fun x=>hval _ (dw x)) c8d) yO
    | exact aj (h2:=_) (congrArg (fun x=>hval _ (dw x)) c8x) yO
    | exact aj (h2:=_) (congrArg (hval _) d0) (aM _)
    | exact aj (h2:=_) (congrArg (hval _) d1) (aM _)
    | exact aj (h2:=_) (congrArg (hval _) d2) (aM _)
    | exact aj (h2:=_) (congrArg (hval _) d3) (aM _)
    | exact aj (h2:=_) (congrArg (hval _) d4) (aM _)
    | exact aj (h2:=_) (congrArg (hval _) d5) (aM _)
    | exact aj (h2:=_) (show hval _ (arK .i64 .sub _ _) = _ from Du (by omega) (by omega)) (aM _)
    | exact ⟨_,rfl,(g2a.at_ _ _ (g1.at_ _ _ aL)),rfl⟩
    | exact ⟨_,rfl,aL,rfl⟩
    | exact ⟨_,rfl,(g1.at_ _ _ aL),rfl⟩
    | exact ⟨_,rfl,(g2.at_ _ _ (g1.at_ _ _ aL)),rfl⟩
    | exact ⟨_,rfl,aL4,rfl⟩
    | exact ⟨_,rfl,aLs,rfl⟩
    | trace_state
  exact ⟨(H13.next,_),⟨rfl,rfl,rfl,rfl,rfl,rfl,rfl,rfl,rfl,rfl,rfl,rfl,rfl,rfl,rfl,rfl,rfl,rfl,rfl,rfl,trivial⟩,⟨rfl,gs,aLs⟩,rfl⟩
 rintro ⟨N28,H14⟩ φ9 _ ⟨rfl,g,s28⟩;dsimp only at g s28 ⊢;have gg:=gg.trans g;have s18:=g.at_ _ _ s18;have s20:=g.at_ _ _ s20;have s22:=g.at_ _ _ s22;have s24:=g.at_ _ _ s24;have s26:=g.at_ _ _ s26;clear g;conv=>whnf
 repeat (refine aC.go ?_; conv=>whnf)
 refine mO rfl ?_;conv=>whnf
 refine mO rfl ?_;conv=>whnf
 refine mO rfl ?_;conv=>whnf
 refine mO rfl ?_;conv=>whnf
 refine mO rfl ?_;conv=>whnf
 refine mO rfl ?_;conv=>whnf
 refine ⟨_,aI s18 rfl,?_⟩;conv=>whnf
 refine aJ.mono (mR _ no0 _ (zk _)) ?_;rintro _ L0 ⟨⟨x0,rfl,hx0⟩,f0⟩;have fc1:=f0;have hx0:x0 = true:=by
  cases x0 with
  | true=>rfl
  | false=>exact absurd rfl hx0.f
 subst hx0;conv=>whnf
 refine ⟨_,aI (fc1.at_ _ _ s20) rfl,?_⟩;conv=>whnf
 refine aJ.mono (mR _ no0 _ (zk _)) ?_;rintro _ L1 ⟨⟨x1,rfl,hx1⟩,f1⟩;have fc2:=fc1.trans f1;have hx1:x1 = true:=by
  cases x1 with
  | true=>rfl
  | false=>exact absurd rfl hx1.f
 subst hx1;conv=>whnf
 refine ⟨_,aI (fc2.at_ _ _ s22) rfl,?_⟩;conv=>whnf
 refine aJ.mono (mR _ no0 _ (zk _)) ?_;rintro _ L2 ⟨⟨x2,rfl,hx2⟩,f2⟩;have fc3:=fc2.trans f2;have hx2:x2 = true:=by
  cases x2 with
  | true=>rfl
  | false=>exact absurd rfl hx2.f
 subst hx2;conv=>whnf
 refine ⟨_,aI (fc3.at_ _ _ s24) rfl,?_⟩;conv=>whnf
 refine aJ.mono (mR _ no0 _ (zk _)) ?_;rintro _ L3 ⟨⟨x3,rfl,hx3⟩,f3⟩;have fc4:=fc3.trans f3;have hx3:x3 = true:=by
  cases x3 with
  | true=>rfl
  | false=>exact absurd rfl hx3.f
 subst hx3;conv=>whnf
 refine ⟨_,aI (fc4.at_ _ _ s26) rfl,?_⟩;conv=>whnf
 refine aJ.mono (mR _ no0 _ (zk _)) ?_;rintro _ L4 ⟨⟨x4,rfl,hx4⟩,f4⟩;have fc5:=fc4.trans f4;have hx4:x4 = true:=by
  cases x4 with
  | true=>rfl
  | false=>exact absurd rfl hx4.f
 subst hx4;conv=>whnf
 refine ⟨_,aI (fc5.at_ _ _ s28) rfl,?_⟩;conv=>whnf
 refine aJ.mono (mR _ no0 _ (zk _)) ?_;rintro _ L5 ⟨⟨x5,rfl,hx5⟩,f5⟩;have fc6:=fc5.trans f5;have hx5:x5 = true:=by
  cases x5 with
  | true=>rfl
  | false=>exact absurd rfl hx5.f
 subst hx5;conv=>whnf
 refine aJ.mono (RQ _) ?_;rintro r G3 ⟨rfl,g3⟩;conv=>whnf
 repeat (refine aC.go ?_; conv=>whnf)
 rfl
end
end Go.Proofs.Ytedneplaibmppaa
